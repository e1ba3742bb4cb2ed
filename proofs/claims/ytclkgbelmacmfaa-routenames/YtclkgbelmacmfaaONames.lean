/- A name alone makes a path, and what is no name makes none: the law cisternlaw13.RouteNames returns true at every input. No condition. -/
import Derived.Test.YtclkgbelmacmfaaOKnown
import Derived.Test.YtclkgbelmacmfaaOArgs
namespace Go.Proofs.Ytclkgbelmacmfaa.routeNames
set_option maxRecDepth 20000
open Go.RowKit Go.ChangeShapes Go.WideShapes Go.ChangeAt

theorem own : ownKnob Try.prog.godebug = none := by kernel_rfl
theorem okNs_one (s : ByteArray) : okNs [s] = nm s := by unfold okNs; simp
theorem path_one (s : ByteArray) : pathL [s] = 47 :: bl s := by show 47 :: (bl s ++ []) = _; rw [List.append_nil]
theorem parse_one {s : ByteArray} (h : nm s = true) : parse (47 :: bl s) = some [s] := by
  rw [← path_one]; exact parse_path (by rw [okNs_one]; exact h)
theorem parse_other {s : ByteArray} (h : nm s = false) : ¬ parse (47 :: bl s) = some [s] := fun e => by
  have := (parse_iff.1 e).1
  rw [okNs_one, h] at this
  cases this
theorem ns_other {s : ByteArray} (h : nm s = false) (h0 : erOf (txt (47 :: bl s)) = 0) : ¬ nsOf (txt (47 :: bl s)) = [s] := fun e => by
  rcases erOf_cases (txt (47 :: bl s)) with ⟨_, h1, _, _⟩ | ⟨h1, _, _⟩
  · rw [e] at h1; exact parse_other h h1
  · rw [h1] at h0; cases h0
theorem nez {E : Int} {b : Bool} (h : (E == 0) = b) : (E != 0) = !b := by rw [bne, h]
set_option maxHeartbeats 6400000 in
theorem walk (s : ByteArray) (hs : s.size ≤ 140737488351232) (W : World) :
    Calls Try.prog 9 #[.string s] W fun e w' => e = .returned (.bool true) ∧ Below W.heap.size W w' := by
  have kn := known_any W
  have nme := Lib.hid (fun w => name_any s w)
  have jo := Lib.hid (fun (w : World) => join_any (one_at w s) (Nat.le_of_eq (by simp)))
  have pq := Lib.hid (fun (w : World) => parse_any (txt (47 :: bl s)) w)
  have a1 := fun wx => add_run (a := ⟨#[47]⟩) (b := s) (A := [47]) (B := bl s) rfl rfl (by rw [bl_len]; simp; omega) wx
  rw [show ([47] ++ bl s : BL) = 47 :: bl s from rfl] at a1
  have K := Lib.hid (ok10 (nsOf_ok (txt (47 :: bl s))))
  cases hn : nm s
  · rw [hn] at nme
    have e1 : joE [s] = 6 := by unfold joE; rw [okNs_one, hn]; rfl
    have e2 : joS [s] = ⟨#[]⟩ := by unfold joS; rw [okNs_one, hn]; rfl
    rw [e1, e2] at jo
    have NO := Lib.hid (fun h => ns_other hn h)
    generalize txt (47 :: bl s) = q at *
    clear e1 e2 hn hs
    go_enter Try.func9, Try.ntmps9
    go_wp2_with fail
    refine Calls.mono kn ?_
    rintro e w1 ⟨rfl, hb⟩
    clear kn
    go_wp2_with fail
    refine Calls.mono (jo.out _) ?_
    rintro e w2 ⟨rfl, b2⟩
    have hb := hb.trans ((below_new w1 (.cells #[.string s] 9)).mono hb.size |>.trans (b2.mono (by have := hb.size; simp; omega)))
    clear b2 jo
    go_wp2_with fail
    refine Calls.mono (pq.out _) ?_
    rintro e w3 ⟨v, rfl, ho, b3⟩
    have hb := Below.then hb b3 (Nat.le_refl _)
    have s1 := own_sl ho K.out
    obtain ⟨ao, am, ac, rfl, -⟩ := s1.form
    have S1 := Lib.hid s1
    clear b3 pq ho s1 a1
    go_wp2_with fail
    refine Calls.mono (nme.out _) ?_
    rintro e w4 ⟨rfl, b4⟩
    have hb := Below.then hb b4 (Nat.le_refl _)
    have S1 := Lib.hid ((S1.out.below b4).more b4.size)
    clear b4 nme
    cases h0 : s.toList.isEmpty
    · cases hE : (erOf q == 0)
      · have y1 := nez hE
        generalize erOf q = E at *
        clear NO S1
        go_wp2
        go_ret
        exact ⟨rfl, hb⟩
      · have y1 := nez hE
        have hE' : erOf q = 0 := by simpa using hE
        have hd : decide (nsOf q = [s]) = false := decide_eq_false (NO.out hE')
        have sm := refSame_any (S1.out.below (below_new w4 (.cells #[.string s] 9))) (one_at w4 s) (by simp) (by simp)
        rw [hd] at sm
        generalize erOf q = E at *
        clear NO S1 hd hE'
        go_wp2_with fail
        refine Calls.mono sm ?_
        rintro e w5 ⟨rfl, b5⟩
        have hb := hb.trans ((below_new w4 (.cells #[.string s] 9)).mono hb.size |>.trans (b5.mono (by have := hb.size; simp; omega)))
        clear b5 sm
        go_wp2
        go_ret
        exact ⟨rfl, hb⟩
    · clear NO S1
      go_wp2
      go_ret
      exact ⟨rfl, hb⟩
  · rw [hn] at nme
    have e1 : joE [s] = 0 := by unfold joE; rw [okNs_one, hn]; rfl
    have e2 : joS [s] = txt (47 :: bl s) := by unfold joS; rw [okNs_one, hn, path_one]; rfl
    rw [e1, e2] at jo
    have e3 : erOf (txt (47 :: bl s)) = 0 := by unfold erOf; rw [bl_txt, parse_one hn]; rfl
    have e4 : nsOf (txt (47 :: bl s)) = [s] := by unfold nsOf; rw [bl_txt, parse_one hn]; rfl
    rw [e3, e4] at pq
    have h16 := (nmL_len (show nmL (bl s) = true from hn)).2.1
    rw [bl_len] at h16
    generalize txt (47 :: bl s) = q at *
    have hqq : (q.toList == q.toList) = true := by simp
    have d16 : decide ((s.size : Int) ≤ 16) = true := by rw [decide_eq_true_iff]; omega
    clear e1 e2 e3 e4 hn hs K h16
    go_enter Try.func9, Try.ntmps9
    go_wp2_with fail
    refine Calls.mono kn ?_
    rintro e w1 ⟨rfl, hb⟩
    clear kn
    go_wp2_with fail
    refine Calls.mono (jo.out _) ?_
    rintro e w2 ⟨rfl, b2⟩
    have hb := hb.trans ((below_new w1 (.cells #[.string s] 9)).mono hb.size |>.trans (b2.mono (by have := hb.size; simp; omega)))
    clear b2 jo
    go_wp2_with fail
    refine Calls.mono (pq.out _) ?_
    rintro e w3 ⟨v, rfl, ho, b3⟩
    have hb := Below.then hb b3 (Nat.le_refl _)
    have s1 := own_sl ho (by simp)
    obtain ⟨ao, am, ac, rfl, -⟩ := s1.form
    have S1 := Lib.hid s1
    clear b3 pq ho s1
    go_wp2_with fail
    refine Calls.mono (nme.out _) ?_
    rintro e w4 ⟨rfl, b4⟩
    have hb := Below.then hb b4 (Nat.le_refl _)
    have sm := refSame_any (((S1.out.below b4).more b4.size).below (below_new w4 (.cells #[.string s] 9))) (one_at w4 s) (by simp) (by simp)
    rw [decide_eq_true (rfl : [s] = [s])] at sm
    clear b4 nme S1
    go_wp2_with fail
    refine Calls.mono sm ?_
    rintro e w5 ⟨rfl, b5⟩
    have hb := hb.trans ((below_new w4 (.cells #[.string s] 9)).mono hb.size |>.trans (b5.mono (by have := hb.size; simp; omega)))
    clear b5 sm
    go_wp2
    go_ret
    exact ⟨rfl, hb⟩

/-! ### the row -/
theorem laidOut : laidOutB Try.prog = true := by kernel_rfl
theorem bytesInt : Try.prog.bytesOf 3 = 8 := by kernel_rfl
set_option maxRecDepth 100000 in
theorem lifted (os : Os) (started : os.Started) (H : Type) (enc : TypeId × Value → H) :
    ReturnsInHanded {} Try.checked os 9 .any (Rows.routeNamesSpec.pre6 enc Try.prog Try.f9 Rows.routeNamesRow.domain false) (Rows.routeNamesSpec.post enc Try.prog Try.f9 false true false false) := by
  refine returnsInHanded_of_change_sized (C := Try.checked) own started (by kernel_rfl) Try.func9
    (ChangeSpec.witness6 (enc := enc) (C := Try.checked) false ⟨#[], #[.string ByteArray.empty], []⟩ 8 (by kernel_rfl) (by kernel_rfl) (by kernel_rfl) (by kernel_rfl)) ?_
  intro W base args ds gs before hval0 hW hcnd hsz0 _
  have hval : ∀ (j : Nat) t v, Try.f9.params[j]? = some t → args[j]? = some v → Value.okWide Try.prog W .any base t v := hval0
  have hW' := hW
  obtain ⟨p, q, hA0, hV, rfl, hfz, hnd⟩ := hW
  have hA : DataW.TrodAll enc Try.prog W 0 (fun _ => true) true Try.f9.params.toList args.toList ds p := hA0
  have hsz : (DataW.weightsEach Try.prog (Try.f9.params.toList ++ Rows.routeNamesSpec.plain.varTypes Try.prog) (ds ++ gs)).all (· ≤ reachBytes) = true := hsz0
  rw [Try.params9] at hA hval hsz
  obtain ⟨v0, vs0, d0, ds0, p0, q0, hargs, rfl, rfl, h0, r0⟩ := trodAll_cons hA
  obtain ⟨rfl, rfl, rfl⟩ := trodAll_nil r0
  obtain rfl : args = #[v0] := by cases args; simp_all
  obtain ⟨rfl, rfl⟩ := trodVars_none hV
  obtain ⟨a0, rfl, rfl, rfl, w0⟩ := Go.ChangeMaps.open_string Try.underlying9 (hval 0 9 v0 rfl rfl) h0
  have sz0 := str_bound (fun k hk => of_decide_eq_true (List.all_eq_true.1 hsz _ (DataW.weights_mem_each (j := 0) (t := 9) rfl rfl k hk)))
  clear hA0 hval0 hsz0
  refine (walk a0 sz0 W ).mono fun e W' ⟨he, bel⟩ => ?_
  subst he
  exact ⟨_, rfl, _, _, _, [], _, [], hW', trodAll_mk1 (shut_bool Try.underlying4 _), (trodAll_cons_mk (Go.ChangeMaps.shut_string Try.underlying9 w0) trodAll_mk0), rfl, bel.frame _, fun h => by cases h⟩

theorem over : Rows.routeNamesRow.holds Try.pinned (OpenSpec.ofChange Rows.routeNamesSpec) :=
  OpenClaim.holds_of_wide 9 Try.f9 rfl rfl rfl rfl rfl rfl rfl ⟨rfl, rfl, rfl, rfl, rfl⟩ rfl rfl rfl rfl rfl (by kernel_rfl) Try.func9 (by kernel_rfl)
    (of_decide_eq_true (by kernel_rfl)) (by unfold Func.isWrapper; first | (rw [if_pos (by decide +kernel)]; kernel_rfl) | (rw [if_neg (by decide +kernel)]; exact ⟨rfl, rfl⟩))
    (fun os started H enc _ => lifted os started H enc)
end Go.Proofs.Ytclkgbelmacmfaa.routeNames

namespace Go.Proofs.Ytclkgbelmacmfaa
/-- The law returns true at every input. -/
theorem routeNames_holds : Rows.RouteNamesSaid := routeNames.over
end Go.Proofs.Ytclkgbelmacmfaa

