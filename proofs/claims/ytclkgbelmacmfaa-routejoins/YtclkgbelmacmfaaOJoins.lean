/- For all arguments Join and Under answer what the document says: the law cisternlaw13.RouteJoins returns true at every input. No condition. -/
import Derived.Test.YtclkgbelmacmfaaOKnown
import Derived.Test.YtclkgbelmacmfaaOArgs
namespace Go.Proofs.Ytclkgbelmacmfaa.routeJoins
set_option maxRecDepth 20000
open Go.RowKit Go.ChangeShapes Go.WideShapes Go.ChangeAt

theorem own : ownKnob Try.prog.godebug = none := by kernel_rfl
set_option maxHeartbeats 1600000 in
theorem walk (v0 : Value) (z0 : List ByteArray) (p : ByteArray) (hp : p.size ≤ maxLen) (a : ByteArray) (ha : a.size ≤ maxLen) (W : World) (w0 : StrlArg W v0 z0) :
    Calls Try.prog 4 #[v0, .string p, .string a] W fun e w' => e = .returned (.bool true) ∧ Below W.heap.size W w' := by
  have kn := known_any W
  have c3 := Lib.hid (fun w => docUnder_any p a hp ha w)
  have c4 := Lib.hid (fun w => under_any p a w)
  have c1 := Lib.hid (fun (w : World) (hb : Below W.heap.size W w) => docJoin_any (w0.1.below hb) hb.size)
  have c2 := Lib.hid (fun (w : World) (hb : Below W.heap.size W w) => join_any (w0.1.below hb) hb.size)
  obtain ⟨ao, am, ac, rfl, -⟩ := w0.1.form
  clear hp ha w0
  generalize joS z0 = S at *
  generalize joE z0 = E at *
  generalize unB p a = U at *
  generalize unE p a = G at *
  go_enter Try.func4, Try.ntmps4
  go_wp2_with fail
  refine Calls.mono kn ?_
  rintro e w1 ⟨rfl, hb⟩
  clear kn
  go_wp2_with fail
  refine Calls.mono (c1.out _ hb) ?_
  rintro e w2 ⟨rfl, b2⟩
  have hb := Below.then hb b2 (Nat.le_refl _)
  clear b2 c1
  go_wp2_with fail
  refine Calls.mono (c2.out _ hb) ?_
  rintro e w3 ⟨rfl, b3⟩
  have hb := Below.then hb b3 (Nat.le_refl _)
  clear b3 c2
  go_wp2_with fail
  refine Calls.mono (c3.out _) ?_
  rintro e w4 ⟨rfl, b4⟩
  have hb := Below.then hb b4 (Nat.le_refl _)
  clear b4 c3
  have hUU : (U == U) = true := by cases U <;> rfl
  have hEE : (E == E) = true := by simp
  have hGG : (G == G) = true := by simp
  have hSS : (S.toList == S.toList) = true := by simp
  go_wp2_with fail
  refine Calls.mono (c4.out _) ?_
  rintro e w5 ⟨rfl, b5⟩
  have hb := Below.then hb b5 (Nat.le_refl _)
  clear b5 c4
  go_wp2
  go_ret
  exact ⟨rfl, hb⟩

/-! ### the row -/
theorem laidOut : laidOutB Try.prog = true := by kernel_rfl
theorem bytesInt : Try.prog.bytesOf 3 = 8 := by kernel_rfl
set_option maxRecDepth 100000 in
theorem lifted (os : Os) (started : os.Started) (H : Type) (enc : TypeId × Value → H) :
    ReturnsInHanded {} Try.checked os 4 .any (Rows.routeJoinsSpec.pre6 enc Try.prog Try.f4 Rows.routeJoinsRow.domain false) (Rows.routeJoinsSpec.post enc Try.prog Try.f4 false true false false) := by
  refine returnsInHanded_of_change_sized (C := Try.checked) own started (by kernel_rfl) Try.func4
    (ChangeSpec.witness6 (enc := enc) (C := Try.checked) false ⟨#[], #[.slice none 0 0, .string ByteArray.empty, .string ByteArray.empty], []⟩ 8 (by kernel_rfl) (by kernel_rfl) (by kernel_rfl) (by kernel_rfl)) ?_
  intro W base args ds gs before hval0 hW hcnd hsz0 _
  have hval : ∀ (j : Nat) t v, Try.f4.params[j]? = some t → args[j]? = some v → Value.okWide Try.prog W .any base t v := hval0
  have hW' := hW
  obtain ⟨p, q, hA0, hV, rfl, hfz, hnd⟩ := hW
  have hA : DataW.TrodAll enc Try.prog W 0 (fun _ => true) true Try.f4.params.toList args.toList ds p := hA0
  have hsz : (DataW.weightsEach Try.prog (Try.f4.params.toList ++ Rows.routeJoinsSpec.plain.varTypes Try.prog) (ds ++ gs)).all (· ≤ reachBytes) = true := hsz0
  rw [Try.params4] at hA hval hsz
  obtain ⟨v0, vs0, d0, ds0, p0, q0, hargs, rfl, rfl, h0, r0⟩ := trodAll_cons hA
  obtain ⟨v1, vs1, d1, ds1, p1, q1, rfl, rfl, rfl, h1, r1⟩ := trodAll_cons r0
  obtain ⟨v2, vs2, d2, ds2, p2, q2, rfl, rfl, rfl, h2, r2⟩ := trodAll_cons r1
  obtain ⟨rfl, rfl, rfl⟩ := trodAll_nil r2
  obtain rfl : args = #[v0, v1, v2] := by cases args; simp_all
  obtain ⟨rfl, rfl⟩ := trodVars_none hV
  have k0 := h0
  have lt0 := args_lt k0
  obtain ⟨z0, w0⟩ := strl_arg (hval 0 23 v0 rfl rfl) (fun k hk => of_decide_eq_true (List.all_eq_true.1 hsz _ (DataW.weights_mem_each (j := 0) (t := 23) (d := d0) rfl rfl k hk))) h0
  obtain ⟨a1, rfl, rfl, rfl, w1⟩ := Go.ChangeMaps.open_string Try.underlying9 (hval 1 9 v1 rfl rfl) h1
  obtain ⟨a2, rfl, rfl, rfl, w2⟩ := Go.ChangeMaps.open_string Try.underlying9 (hval 2 9 v2 rfl rfl) h2
  clear hA0 hval0 hsz0
  refine (walk v0 z0 a1 w1 a2 w2 W w0).mono fun e W' ⟨he, bel⟩ => ?_
  subst he
  exact ⟨_, rfl, _, _, _, [], _, [], hW', trodAll_mk1 (shut_bool Try.underlying4 _), (trodAll_cons_mk (Below.trod laidOut (by kernel_rfl) (of_decide_eq_true (by kernel_rfl)) k0 bel lt0) (trodAll_cons_mk (Go.ChangeMaps.shut_string Try.underlying9 w1) (trodAll_cons_mk (Go.ChangeMaps.shut_string Try.underlying9 w2) trodAll_mk0))), rfl, bel.frame _, fun h => by cases h⟩

theorem over : Rows.routeJoinsRow.holds Try.pinned (OpenSpec.ofChange Rows.routeJoinsSpec) :=
  OpenClaim.holds_of_wide 4 Try.f4 rfl rfl rfl rfl rfl rfl rfl ⟨rfl, rfl, rfl, rfl, rfl⟩ rfl rfl rfl rfl rfl (by kernel_rfl) Try.func4 (by kernel_rfl)
    (of_decide_eq_true (by kernel_rfl)) (by unfold Func.isWrapper; first | (rw [if_pos (by decide +kernel)]; kernel_rfl) | (rw [if_neg (by decide +kernel)]; exact ⟨rfl, rfl⟩))
    (fun os started H enc _ => lifted os started H enc)
end Go.Proofs.Ytclkgbelmacmfaa.routeJoins

namespace Go.Proofs.Ytclkgbelmacmfaa
/-- The law returns true at every input. -/
theorem routeJoins_holds : Rows.RouteJoinsSaid := routeJoins.over
end Go.Proofs.Ytclkgbelmacmfaa

