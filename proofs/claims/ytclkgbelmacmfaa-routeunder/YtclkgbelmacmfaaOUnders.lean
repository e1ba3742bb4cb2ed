/- Lying below is an order: the law cisternlaw13.RouteUnder returns true at every input. No condition. -/
import Derived.Test.YtclkgbelmacmfaaOKnown
import Derived.Test.YtclkgbelmacmfaaOArgs
namespace Go.Proofs.Ytclkgbelmacmfaa.routeUnder
set_option maxRecDepth 20000
open Go.RowKit Go.ChangeShapes Go.WideShapes Go.ChangeAt

theorem own : ownKnob Try.prog.godebug = none := by kernel_rfl
theorem isUnder_iff {l m : List ByteArray} : isUnder l m = true ↔ m.length < l.length ∧ l.take m.length = m := by
  unfold isUnder; rw [Bool.and_eq_true, decide_eq_true_iff, decide_eq_true_iff]
theorem isUnder_irr (l : List ByteArray) : isUnder l l = false := by
  cases h : isUnder l l
  · rfl
  · exact absurd (isUnder_iff.1 h).1 (Nat.lt_irrefl _)
theorem isUnder_asym (l m : List ByteArray) : (isUnder l m && isUnder m l) = false := by
  cases h : isUnder l m
  · rfl
  · cases k : isUnder m l
    · rfl
    · have h1 := (isUnder_iff.1 h).1
      have h2 := (isUnder_iff.1 k).1
      omega
theorem isUnder_trans {a b c : List ByteArray} (h : isUnder a b = true) (k : isUnder b c = true) : isUnder a c = true := by
  obtain ⟨h1, h2⟩ := isUnder_iff.1 h
  obtain ⟨k1, k2⟩ := isUnder_iff.1 k
  refine isUnder_iff.2 ⟨by omega, ?_⟩
  have e : a.take c.length = (a.take b.length).take c.length := by rw [List.take_take, Nat.min_eq_left (by omega)]
  rw [e, h2, k2]
theorem unE_comm (p a : ByteArray) : unE p a = unE a p := by unfold unE; rw [Bool.and_comm]
theorem unE_zero {p a : ByteArray} (h : (unE p a == 0) = true) : unB p a = isUnder (nsOf p) (nsOf a) := by
  unfold unE at h
  unfold unB
  cases hq : (parse (bl p)).isSome && (parse (bl a)).isSome
  · rw [hq] at h; simp at h
  · rfl
theorem nez {E : Int} {b : Bool} (h : (E == 0) = b) : (E != 0) = !b := by rw [bne, h]
set_option maxHeartbeats 6400000 in
theorem walk (a : ByteArray) (_ : a.size ≤ maxLen) (b : ByteArray) (_ : b.size ≤ maxLen) (c : ByteArray) (_ : c.size ≤ maxLen) (W : World) :
    Calls Try.prog 6 #[.string a, .string b, .string c] W fun e w' => e = .returned (.bool true) ∧ Below W.heap.size W w' := by
  have kn := known_any W
  have c1 := Lib.hid (fun w => under_any a b w)
  have c2 := Lib.hid (fun w => under_any b a w)
  have c3 := Lib.hid (fun w => under_any b c w)
  have c4 := Lib.hid (fun w => under_any a c w)
  have c5 := Lib.hid (fun w => under_any a a w)
  rw [unE_comm b a] at c2
  have Z1 := Lib.hid (fun h : (unE a b == 0) = true => unE_zero h)
  have Z2 := Lib.hid (fun h : (unE a b == 0) = true => unE_zero (p := b) (a := a) (by rw [unE_comm]; exact h))
  have Z3 := Lib.hid (fun h : (unE b c == 0) = true => unE_zero h)
  have Z4 := Lib.hid (fun h : (unE a c == 0) = true => unE_zero h)
  have Z5 := Lib.hid (fun h : (unE a a == 0) = true => unE_zero h)
  generalize unE a b = E at *
  generalize unE b c = G at *
  generalize unE a c = H at *
  generalize unE a a = I at *
  generalize unB a b = ab at *
  generalize unB b a = ba at *
  generalize unB b c = bc at *
  generalize unB a c = ac at *
  generalize unB a a = aa at *
  have hEE : (E == E) = true := by simp
  go_enter Try.func6, Try.ntmps6
  go_wp2_with fail
  refine Calls.mono kn ?_
  rintro e w1 ⟨rfl, hb⟩
  clear kn
  go_wp2_with fail
  refine Calls.mono (c1.out _) ?_
  rintro e w2 ⟨rfl, b2⟩
  have hb := Below.then hb b2 (Nat.le_refl _)
  clear b2 c1
  go_wp2_with fail
  refine Calls.mono (c2.out _) ?_
  rintro e w3 ⟨rfl, b3⟩
  have hb := Below.then hb b3 (Nat.le_refl _)
  clear b3 c2
  go_wp2_with fail
  refine Calls.mono (c3.out _) ?_
  rintro e w4 ⟨rfl, b4⟩
  have hb := Below.then hb b4 (Nat.le_refl _)
  clear b4 c3
  go_wp2_with fail
  refine Calls.mono (c4.out _) ?_
  rintro e w5 ⟨rfl, b5⟩
  have hb := Below.then hb b5 (Nat.le_refl _)
  clear b5 c4
  go_wp2_with fail
  refine Calls.mono (c5.out _) ?_
  rintro e w6 ⟨rfl, b6⟩
  have hb := Below.then hb b6 (Nat.le_refl _)
  clear b6 c5
  cases hE : (E == 0)
  · have y1 := nez hE
    clear Z1 Z2 Z3 Z4 Z5
    go_wp2
    go_ret
    exact ⟨rfl, hb⟩
  · have y1 := nez hE
    have z1 := Z1.out hE
    have z2 := Z2.out hE
    clear Z1 Z2
    cases hG : (G == 0)
    · have y2 := nez hG
      clear Z3 Z4 Z5 z1 z2
      go_wp2
      go_ret
      exact ⟨rfl, hb⟩
    · have y2 := nez hG
      have z3 := Z3.out hG
      clear Z3
      cases hH : (H == 0)
      · have y3 := nez hH
        clear Z4 Z5 z1 z2 z3
        go_wp2
        go_ret
        exact ⟨rfl, hb⟩
      · have y3 := nez hH
        have z4 := Z4.out hH
        clear Z4
        cases hI : (I == 0)
        · have y4 := nez hI
          clear Z5 z1 z2 z3 z4
          go_wp2
          go_ret
          exact ⟨rfl, hb⟩
        · have y4 := nez hI
          have z5 := Z5.out hI
          have x1 : aa = false := by rw [z5]; exact isUnder_irr _
          have x2 : (ab && ba) = false := by rw [z1, z2]; exact isUnder_asym _ _
          have x3 : ab = true → bc = true → ac = true := by rw [z1, z3, z4]; exact isUnder_trans
          clear Z5 z1 z2 z3 z4 z5
          subst x1
          cases ab <;> cases ba <;> cases bc <;> cases ac <;> first | (exact absurd x2 (by decide)) | (exact absurd (x3 rfl rfl) (by decide)) | (clear x2 x3; go_wp2; go_ret; exact ⟨rfl, hb⟩)

/-! ### the row -/
theorem laidOut : laidOutB Try.prog = true := by kernel_rfl
theorem bytesInt : Try.prog.bytesOf 3 = 8 := by kernel_rfl
set_option maxRecDepth 100000 in
theorem lifted (os : Os) (started : os.Started) (H : Type) (enc : TypeId × Value → H) :
    ReturnsInHanded {} Try.checked os 6 .any (Rows.routeUnderSpec.pre6 enc Try.prog Try.f6 Rows.routeUnderRow.domain false) (Rows.routeUnderSpec.post enc Try.prog Try.f6 false true false false) := by
  refine returnsInHanded_of_change_sized (C := Try.checked) own started (by kernel_rfl) Try.func6
    (ChangeSpec.witness6 (enc := enc) (C := Try.checked) false ⟨#[], #[.string ByteArray.empty, .string ByteArray.empty, .string ByteArray.empty], []⟩ 8 (by kernel_rfl) (by kernel_rfl) (by kernel_rfl) (by kernel_rfl)) ?_
  intro W base args ds gs before hval0 hW hcnd hsz0 _
  have hval : ∀ (j : Nat) t v, Try.f6.params[j]? = some t → args[j]? = some v → Value.okWide Try.prog W .any base t v := hval0
  have hW' := hW
  obtain ⟨p, q, hA0, hV, rfl, hfz, hnd⟩ := hW
  have hA : DataW.TrodAll enc Try.prog W 0 (fun _ => true) true Try.f6.params.toList args.toList ds p := hA0
  have hsz : (DataW.weightsEach Try.prog (Try.f6.params.toList ++ Rows.routeUnderSpec.plain.varTypes Try.prog) (ds ++ gs)).all (· ≤ reachBytes) = true := hsz0
  rw [Try.params6] at hA hval hsz
  obtain ⟨v0, vs0, d0, ds0, p0, q0, hargs, rfl, rfl, h0, r0⟩ := trodAll_cons hA
  obtain ⟨v1, vs1, d1, ds1, p1, q1, rfl, rfl, rfl, h1, r1⟩ := trodAll_cons r0
  obtain ⟨v2, vs2, d2, ds2, p2, q2, rfl, rfl, rfl, h2, r2⟩ := trodAll_cons r1
  obtain ⟨rfl, rfl, rfl⟩ := trodAll_nil r2
  obtain rfl : args = #[v0, v1, v2] := by cases args; simp_all
  obtain ⟨rfl, rfl⟩ := trodVars_none hV
  obtain ⟨a0, rfl, rfl, rfl, w0⟩ := Go.ChangeMaps.open_string Try.underlying9 (hval 0 9 v0 rfl rfl) h0
  obtain ⟨a1, rfl, rfl, rfl, w1⟩ := Go.ChangeMaps.open_string Try.underlying9 (hval 1 9 v1 rfl rfl) h1
  obtain ⟨a2, rfl, rfl, rfl, w2⟩ := Go.ChangeMaps.open_string Try.underlying9 (hval 2 9 v2 rfl rfl) h2
  clear hA0 hval0 hsz0
  refine (walk a0 w0 a1 w1 a2 w2 W ).mono fun e W' ⟨he, bel⟩ => ?_
  subst he
  exact ⟨_, rfl, _, _, _, [], _, [], hW', trodAll_mk1 (shut_bool Try.underlying4 _), (trodAll_cons_mk (Go.ChangeMaps.shut_string Try.underlying9 w0) (trodAll_cons_mk (Go.ChangeMaps.shut_string Try.underlying9 w1) (trodAll_cons_mk (Go.ChangeMaps.shut_string Try.underlying9 w2) trodAll_mk0))), rfl, bel.frame _, fun h => by cases h⟩

theorem over : Rows.routeUnderRow.holds Try.pinned (OpenSpec.ofChange Rows.routeUnderSpec) :=
  OpenClaim.holds_of_wide 6 Try.f6 rfl rfl rfl rfl rfl rfl rfl ⟨rfl, rfl, rfl, rfl, rfl⟩ rfl rfl rfl rfl rfl (by kernel_rfl) Try.func6 (by kernel_rfl)
    (of_decide_eq_true (by kernel_rfl)) (by unfold Func.isWrapper; first | (rw [if_pos (by decide +kernel)]; kernel_rfl) | (rw [if_neg (by decide +kernel)]; exact ⟨rfl, rfl⟩))
    (fun os started H enc _ => lifted os started H enc)
end Go.Proofs.Ytclkgbelmacmfaa.routeUnder

namespace Go.Proofs.Ytclkgbelmacmfaa
/-- The law returns true at every input. -/
theorem routeUnder_holds : Rows.RouteUnderSaid := routeUnder.over
end Go.Proofs.Ytclkgbelmacmfaa

