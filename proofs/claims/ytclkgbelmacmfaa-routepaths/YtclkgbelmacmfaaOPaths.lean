/- For all texts Name, Parse and Parent answer what the document says: the law cisternlaw13.RoutePaths returns true at every input. No condition. -/
import Derived.Test.YtclkgbelmacmfaaOKnown
import Derived.Test.YtclkgbelmacmfaaOArgs
namespace Go.Proofs.Ytclkgbelmacmfaa.routePaths
set_option maxRecDepth 20000
open Go.RowKit Go.ChangeShapes Go.WideShapes Go.ChangeAt

theorem own : ownKnob Try.prog.godebug = none := by kernel_rfl
set_option maxHeartbeats 1600000 in
theorem walk (p : ByteArray) (hp : p.size ≤ maxLen) (W : World) :
    Calls Try.prog 3 #[.string p] W fun e w' => e = .returned (.bool true) ∧ Below W.heap.size W w' := by
  have hp' : p.size ≤ 9223372036854775807 := hp
  have kn := known_any W
  have c1 := Lib.hid (fun w => refParse_any p hp' w)
  have c2 := Lib.hid (fun w => parse_any p w)
  have c3 := Lib.hid (fun w => docParent_any p hp' w)
  have c4 := Lib.hid (fun w => parent_any p w)
  have c5 := Lib.hid (fun w => name_any p w)
  have c6 := Lib.hid (fun w => refName_any p w)
  have K := Lib.hid (ok10 (nsOf_ok p))
  clear hp hp'
  generalize nsOf p = ns at *
  generalize erOf p = E at *
  generalize paUp p = U at *
  generalize paNm p = N at *
  generalize paE p = G at *
  generalize nm p = B at *
  go_enter Try.func3, Try.ntmps3
  go_wp2_with fail
  refine Calls.mono kn ?_
  rintro e w1 ⟨rfl, b1⟩
  clear kn
  go_wp2_with fail
  refine Calls.mono (c1.out _) ?_
  rintro e w2 ⟨v, rfl, ho, b2⟩
  have hb := Below.then b1 b2 (Nat.le_refl _)
  have s1 := own_sl ho K.out
  obtain ⟨ao, am, ac, rfl, -⟩ := s1.form
  have S1 := Lib.hid s1
  clear b1 b2 c1 ho s1
  go_wp2_with fail
  refine Calls.mono (c2.out _) ?_
  rintro e w3 ⟨v, rfl, ho, b3⟩
  have hb := Below.then hb b3 (Nat.le_refl _)
  have s2 := own_sl ho K.out
  obtain ⟨bo, bm, bc, rfl, -⟩ := s2.form
  have S1 := Lib.hid ((S1.out.below b3).more b3.size)
  have S2 := Lib.hid s2
  clear b3 c2 ho s2
  go_wp2_with fail
  refine Calls.mono (c3.out _) ?_
  rintro e w4 ⟨rfl, b4⟩
  have hb := Below.then hb b4 (Nat.le_refl _)
  have S1 := Lib.hid ((S1.out.below b4).more b4.size)
  have S2 := Lib.hid ((S2.out.below b4).more b4.size)
  clear b4 c3
  go_wp2_with fail
  refine Calls.mono (c4.out _) ?_
  rintro e w5 ⟨rfl, b5⟩
  have hb := Below.then hb b5 (Nat.le_refl _)
  have S1 := Lib.hid ((S1.out.below b5).more b5.size)
  have S2 := Lib.hid ((S2.out.below b5).more b5.size)
  clear b5 c4
  go_wp2_with fail
  refine Calls.mono (c5.out _) ?_
  rintro e w6 ⟨rfl, b6⟩
  have hb := Below.then hb b6 (Nat.le_refl _)
  have S1 := Lib.hid ((S1.out.below b6).more b6.size)
  have S2 := Lib.hid ((S2.out.below b6).more b6.size)
  clear b6 c5
  go_wp2_with fail
  refine Calls.mono (c6.out _) ?_
  rintro e w7 ⟨rfl, b7⟩
  have hb := Below.then hb b7 (Nat.le_refl _)
  have sm := refSame_any (S1.out.below b7) (S2.out.below b7) b7.size b7.size
  rw [decide_eq_true (rfl : ns = ns)] at sm
  clear b7 c6
  have hBB : (B == B) = true := by cases B <;> rfl
  have hEE : (E == E) = true := by simp
  have hGG : (G == G) = true := by simp
  have hUU : (U.toList == U.toList) = true := by simp
  have hNN : (N.toList == N.toList) = true := by simp
  go_wp2_with fail
  refine Calls.mono sm ?_
  rintro e w8 ⟨rfl, b8⟩
  have hb := Below.then hb b8 (Nat.le_refl _)
  clear b8 sm
  go_wp2
  go_ret
  exact ⟨rfl, hb⟩

/-! ### the row -/
theorem laidOut : laidOutB Try.prog = true := by kernel_rfl
theorem bytesInt : Try.prog.bytesOf 3 = 8 := by kernel_rfl
set_option maxRecDepth 100000 in
theorem lifted (os : Os) (started : os.Started) (H : Type) (enc : TypeId × Value → H) :
    ReturnsInHanded {} Try.checked os 3 .any (Rows.routePathsSpec.pre6 enc Try.prog Try.f3 Rows.routePathsRow.domain false) (Rows.routePathsSpec.post enc Try.prog Try.f3 false true false false) := by
  refine returnsInHanded_of_change_sized (C := Try.checked) own started (by kernel_rfl) Try.func3
    (ChangeSpec.witness6 (enc := enc) (C := Try.checked) false ⟨#[], #[.string ByteArray.empty], []⟩ 8 (by kernel_rfl) (by kernel_rfl) (by kernel_rfl) (by kernel_rfl)) ?_
  intro W base args ds gs before hval0 hW hcnd hsz0 _
  have hval : ∀ (j : Nat) t v, Try.f3.params[j]? = some t → args[j]? = some v → Value.okWide Try.prog W .any base t v := hval0
  have hW' := hW
  obtain ⟨p, q, hA0, hV, rfl, hfz, hnd⟩ := hW
  have hA : DataW.TrodAll enc Try.prog W 0 (fun _ => true) true Try.f3.params.toList args.toList ds p := hA0
  have hsz : (DataW.weightsEach Try.prog (Try.f3.params.toList ++ Rows.routePathsSpec.plain.varTypes Try.prog) (ds ++ gs)).all (· ≤ reachBytes) = true := hsz0
  rw [Try.params3] at hA hval hsz
  obtain ⟨v0, vs0, d0, ds0, p0, q0, hargs, rfl, rfl, h0, r0⟩ := trodAll_cons hA
  obtain ⟨rfl, rfl, rfl⟩ := trodAll_nil r0
  obtain rfl : args = #[v0] := by cases args; simp_all
  obtain ⟨rfl, rfl⟩ := trodVars_none hV
  obtain ⟨a0, rfl, rfl, rfl, w0⟩ := Go.ChangeMaps.open_string Try.underlying9 (hval 0 9 v0 rfl rfl) h0
  clear hA0 hval0 hsz0
  refine (walk a0 w0 W ).mono fun e W' ⟨he, bel⟩ => ?_
  subst he
  exact ⟨_, rfl, _, _, _, [], _, [], hW', trodAll_mk1 (shut_bool Try.underlying4 _), (trodAll_cons_mk (Go.ChangeMaps.shut_string Try.underlying9 w0) trodAll_mk0), rfl, bel.frame _, fun h => by cases h⟩

theorem over : Rows.routePathsRow.holds Try.pinned (OpenSpec.ofChange Rows.routePathsSpec) :=
  OpenClaim.holds_of_wide 3 Try.f3 rfl rfl rfl rfl rfl rfl rfl ⟨rfl, rfl, rfl, rfl, rfl⟩ rfl rfl rfl rfl rfl (by kernel_rfl) Try.func3 (by kernel_rfl)
    (of_decide_eq_true (by kernel_rfl)) (by unfold Func.isWrapper; first | (rw [if_pos (by decide +kernel)]; kernel_rfl) | (rw [if_neg (by decide +kernel)]; exact ⟨rfl, rfl⟩))
    (fun os started H enc _ => lifted os started H enc)
end Go.Proofs.Ytclkgbelmacmfaa.routePaths

namespace Go.Proofs.Ytclkgbelmacmfaa
/-- The law returns true at every input. -/
theorem routePaths_holds : Rows.RoutePathsSaid := routePaths.over
end Go.Proofs.Ytclkgbelmacmfaa

