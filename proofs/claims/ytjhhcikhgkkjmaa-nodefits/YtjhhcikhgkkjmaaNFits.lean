/- A node is encoded just if it is in form and fits a page: the law cisternlaw11.NodeFits returns true at every input. No condition. -/
import Derived.Test.YtjhhcikhgkkjmaaNKnown
namespace Go.Proofs.Ytjhhcikhgkkjmaa.nodeFits
set_option maxRecDepth 20000
open Go.RowKit Go.ChangeShapes Go.WideShapes Go.ChangeAt

theorem own : ownKnob Try.prog.godebug = none := by kernel_rfl
set_option maxHeartbeats 3200000 in
theorem walk (v0 : Value) (z0 : Nd) (W : World) (w0 : NdArg W v0 z0) :
    Calls Try.prog 11 #[v0] W fun e w' => e = .returned (.bool true) ∧ Below W.heap.size W w' := by
  obtain ⟨h0, hok, -⟩ := w0
  have OF := Lib.hid (fun w (hb : Below W.heap.size W w) => of_in h0 hb)
  obtain ⟨pv, kv, iv, rfl, h1, h2, h3⟩ := h0
  obtain ⟨pa, pm, pc, rfl, -⟩ := h1.form
  obtain ⟨ka, km, kc, rfl, -⟩ := h2.form
  obtain ⟨ia, im, ic, rfl, -⟩ := h3.form
  clear h1 h2 h3
  generalize hlf : z0.leaf = lf at *
  clear hlf
  have RB := Lib.hid (fun w1 b => rbox_facts (W := W) (lf := lf) (pv := .slice pa pm pc) (kv := .slice ka km kc) (iv := .slice ia im ic) (w1 := w1) b)
  have b0 : Below (W.heap.size + 1) (W.alloc (rbO lf (.slice pa pm pc) (.slice ka km kc) (.slice ia im ic))) (W.alloc (rbO lf (.slice pa pm pc) (.slice ka km kc) (.slice ia im ic))) := Below.refl _ _
  have hz0 : W.heap.size + 1 ≤ (W.alloc (rbO lf (.slice pa pm pc) (.slice ka km kc) (.slice ia im ic))).heap.size := by simp
  have HZ0 := Lib.hid hz0
  clear hz0
  go_enter Try.func11, Try.ntmps11
  go_wp2_with fail
  refine Calls.mono (nknown_any _) ?_
  rintro e w1 ⟨rfl, c1⟩
  have b1 := Below.thenB b0 c1 HZ0.out
  obtain ⟨q, B1, s1⟩ := RB.out w1 b1
  obtain ⟨q0, q1, q2, q3⟩ := q
  clear c1 b0
  go_wp2_with fail
  refine Calls.mono (OF.out _ B1) ?_
  rintro e w2 ⟨v2, rfl, a2, c2⟩
  have b2 := Below.thenB b1 c2 s1
  obtain ⟨-, B2, s2⟩ := RB.out w2 b2
  have ec := encode_any a2
  clear b1 B1 s1 c2 a2 q0 q1 q2 q3
  go_wp2_with fail
  refine Calls.mono ec ?_
  rintro e w3 ⟨rfl, c3⟩
  have b3 := Below.thenB b2 c3 s2
  obtain ⟨q, B3, s3⟩ := RB.out w3 b3
  obtain ⟨q0, q1, q2, q3⟩ := q
  obtain ⟨E, hE⟩ : ∃ E, encE z0 = E := ⟨_, rfl⟩
  obtain ⟨T, hT⟩ : ∃ T, encS z0 = T := ⟨_, rfl⟩
  have HE := Lib.hid hE
  have HT := Lib.hid hT
  rw [hE, hT]
  clear b2 B2 s2 c3 ec hE hT
  go_wp2_with fail
  refine Calls.mono (OF.out _ B3) ?_
  rintro e w4 ⟨v4, rfl, a4, c4⟩
  have b4 := Below.thenB b3 c4 s3
  obtain ⟨-, B4, s4⟩ := RB.out w4 b4
  have ch := check_any a4
  clear b3 B3 s3 c4 a4 q0 q1 q2 q3
  cases hk : okN z0
  · rw [hk] at ch
    have e1 : E = 2 := by rw [← HE.out]; unfold encE; rw [hk]; rfl
    have e2 : T = ⟨#[]⟩ := by rw [← HT.out]; unfold encS; rw [hk]; rfl
    subst e1
    subst e2
    clear hk HE HT
    go_wp2_with fail
    refine Calls.mono ch ?_
    rintro e w5 ⟨rfl, c5⟩
    have b5 := Below.thenB b4 c5 s4
    obtain ⟨-, B5, -⟩ := RB.out w5 b5
    clear b4 B4 s4 c5 ch b5
    go_wp2
    go_ret
    exact ⟨rfl, B5⟩
  · rw [hk] at ch
    have SZ := Lib.hid (fun (w : World) (v : Value) (a : NdAt w.heap.size w v z0) => size_ok a hk)
    go_wp2_with fail
    refine Calls.mono ch ?_
    rintro e w5 ⟨rfl, c5⟩
    have b5 := Below.thenB b4 c5 s4
    obtain ⟨q, B5, s5⟩ := RB.out w5 b5
    obtain ⟨q0, q1, q2, q3⟩ := q
    clear b4 B4 s4 c5 ch
    go_wp2_with fail
    refine Calls.mono (OF.out _ B5) ?_
    rintro e w6 ⟨v6, rfl, a6, c6⟩
    have b6 := Below.thenB b5 c6 s5
    obtain ⟨-, B6, s6⟩ := RB.out w6 b6
    have sz := SZ.out _ _ a6
    clear b5 B5 s5 c6 a6 q0 q1 q2 q3
    obtain ⟨S, hS⟩ : ∃ S, sizN z0 = S := ⟨_, rfl⟩
    by_cases hb : 160 < S
    · have e1 : E = 14 := by rw [← HE.out]; unfold encE; rw [hk, if_pos rfl, hS, if_pos hb]
      have e2 : T = ⟨#[]⟩ := by rw [← HT.out]; unfold encS; rw [hk, if_pos rfl, hS, if_pos hb]
      subst e1
      subst e2
      rw [hS] at sz
      clear hk HE HT hS
      go_wp2_with fail
      refine Calls.mono sz ?_
      rintro e w7 ⟨rfl, c7⟩
      have b7 := Below.thenB b6 c7 s6
      obtain ⟨-, B7, -⟩ := RB.out w7 b7
      clear b6 B6 s6 c7 sz b7
      go_wp2
      go_ret
      exact ⟨rfl, B7⟩
    · have e1 : E = 0 := by rw [← HE.out]; unfold encE; rw [hk, if_pos rfl, hS, if_neg hb]
      have e2 : T.size = S := by rw [← HT.out]; unfold encS; rw [hk, if_pos rfl, hS, if_neg hb, strOf_size, encN_length, hS]
      subst e1
      have HS := Lib.hid hS
      have HE2 := Lib.hid e2
      have SZ2 : Hid (∀ (w : World) (v : Value), NdAt w.heap.size w v z0 → Calls Try.prog 20 #[v] w fun e w' => e = .returned (.int .i64 (S : Nat)) ∧ Below w.heap.size w w') := Lib.hid (fun w v a => by rw [← HS.out]; exact SZ.out w v a)
      rw [hS] at sz
      clear hk HE HT hS e2 SZ
      go_wp2_with fail
      refine Calls.mono sz ?_
      rintro e w7 ⟨rfl, c7⟩
      have b7 := Below.thenB b6 c7 s6
      obtain ⟨q, B7, s7⟩ := RB.out w7 b7
      obtain ⟨q0, q1, q2, q3⟩ := q
      clear b6 B6 s6 c7 sz
      go_wp2_with fail
      refine Calls.mono (OF.out _ B7) ?_
      rintro e w8 ⟨v8, rfl, a8, c8⟩
      have b8 := Below.thenB b7 c8 s7
      obtain ⟨-, B8, s8⟩ := RB.out w8 b8
      have sz := SZ2.out _ _ a8
      clear b7 B7 s7 c8 a8 q0 q1 q2 q3
      go_wp2_with fail
      refine Calls.mono sz ?_
      rintro e w9 ⟨rfl, c9⟩
      have b9 := Below.thenB b8 c9 s8
      obtain ⟨-, B9, -⟩ := RB.out w9 b9
      have he2 := HE2.out
      have hi : ((T.size : Int) == (S : Int)) = true := by rw [he2]; simp
      clear b8 B8 s8 c9 sz b9 he2
      go_wp2
      go_ret
      exact ⟨rfl, B9⟩

/-! ### the row -/
theorem laidOut : laidOutB Try.prog = true := by kernel_rfl
theorem bytesInt : Try.prog.bytesOf 3 = 8 := by kernel_rfl
set_option maxRecDepth 100000 in
theorem lifted (os : Os) (started : os.Started) (H : Type) (enc : TypeId × Value → H) :
    ReturnsInHanded {} Try.checked os 11 .any (Rows.nodeFitsSpec.pre6 enc Try.prog Try.f11 Rows.nodeFitsRow.domain false) (Rows.nodeFitsSpec.post enc Try.prog Try.f11 false true false false) := by
  refine returnsInHanded_of_change_sized (C := Try.checked) own started (by kernel_rfl) Try.func11
    (ChangeSpec.witness6 (enc := enc) (C := Try.checked) false ⟨#[], #[.agg #[.bool false, .slice none 0 0, .slice none 0 0, .slice none 0 0]], []⟩ 8 (by kernel_rfl) (by kernel_rfl) (by kernel_rfl) (by kernel_rfl)) ?_
  intro W base args ds gs before hval0 hW hcnd hsz0 _
  have hval : ∀ (j : Nat) t v, Try.f11.params[j]? = some t → args[j]? = some v → Value.okWide Try.prog W .any base t v := hval0
  have hW' := hW
  obtain ⟨p, q, hA0, hV, rfl, hfz, hnd⟩ := hW
  have hA : DataW.TrodAll enc Try.prog W 0 (fun _ => true) true Try.f11.params.toList args.toList ds p := hA0
  have hsz : (DataW.weightsEach Try.prog (Try.f11.params.toList ++ Rows.nodeFitsSpec.plain.varTypes Try.prog) (ds ++ gs)).all (· ≤ reachBytes) = true := hsz0
  rw [Try.params11] at hA hval hsz
  obtain ⟨v0, vs0, d0, ds0, p0, q0, hargs, rfl, rfl, h0, r0⟩ := trodAll_cons hA
  obtain ⟨rfl, rfl, rfl⟩ := trodAll_nil r0
  obtain rfl : args = #[v0] := by cases args; simp_all
  obtain ⟨rfl, rfl⟩ := trodVars_none hV
  have k0 := h0
  have lt0 := args_lt k0
  obtain ⟨z0, w0⟩ := nd_arg (hval 0 26 v0 rfl rfl) (fun k hk => of_decide_eq_true (List.all_eq_true.1 hsz _ (DataW.weights_mem_each (j := 0) (t := 26) (d := d0) rfl rfl k hk))) h0
  clear hA0 hval0 hsz0
  refine (walk v0 z0 W w0).mono fun e W' ⟨he, bel⟩ => ?_
  subst he
  exact ⟨_, rfl, _, _, _, [], _, [], hW', trodAll_mk1 (shut_bool Try.underlying4 _), (trodAll_cons_mk (Below.trod laidOut (by kernel_rfl) (of_decide_eq_true (by kernel_rfl)) k0 bel lt0) trodAll_mk0), rfl, bel.frame _, fun h => by cases h⟩

theorem over : Rows.nodeFitsRow.holds Try.pinned (OpenSpec.ofChange Rows.nodeFitsSpec) :=
  OpenClaim.holds_of_wide 11 Try.f11 rfl rfl rfl rfl rfl rfl rfl ⟨rfl, rfl, rfl, rfl, rfl⟩ rfl rfl rfl rfl rfl (by kernel_rfl) Try.func11 (by kernel_rfl)
    (of_decide_eq_true (by kernel_rfl)) (by unfold Func.isWrapper; first | (rw [if_pos (by decide +kernel)]; kernel_rfl) | (rw [if_neg (by decide +kernel)]; exact ⟨rfl, rfl⟩))
    (fun os started H enc _ => lifted os started H enc)
end Go.Proofs.Ytjhhcikhgkkjmaa.nodeFits

namespace Go.Proofs.Ytjhhcikhgkkjmaa
/-- The law returns true at every input. -/
theorem nodeFits_holds : Rows.NodeFitsSaid := nodeFits.over
end Go.Proofs.Ytjhhcikhgkkjmaa

