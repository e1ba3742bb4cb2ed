/- What is sealed and framed is four and two bytes more, and comes back; a seal is the same each time: the law cisternlaw03.PackSealed returns true at every input. No condition. -/
import Derived.Test.YtifbfnfcjkpjfaaPArgs
import Derived.Test.YtifbfnfcjkpjfaaPSteps
namespace Go.Proofs.Ytifbfnfcjkpjfaa.packSealed
open Go.RowKit Go.ChangeShapes Go.WideShapes Go.ChangeAt

theorem own : ownKnob Try.prog.godebug = none := by kernel_rfl
theorem frame_ok {n S : Nat} (h : n + 2 ≤ S) (hS : S ≤ 60000) : frameE n (S : Int) = 0 := by unfold frameE; rw [if_neg (by omega), if_neg (by omega)]
theorem frame_big {n S : Nat} (h : S < n + 2) (h2 : 2 ≤ S) (hS : S ≤ 60000) : frameE n (S : Int) = 14 := by unfold frameE; rw [if_neg (by omega), if_pos (by omega)]
set_option maxRecDepth 20000 in
set_option maxHeartbeats 3200000 in
theorem walk (v : Value) (bs : List UInt8) (n : Int) (wn : (Lit.int .i64 n).wf = true) (W : World) (hv : BytesArg W v bs) :
    Calls Try.prog 11 #[v, .int .i64 n] W fun e w' => e = .returned (.bool true) ∧ Below W.heap.size W w' := by
  obtain ⟨hb, hcap, hlen⟩ := hv
  have _ := wn
  clear wn
  obtain ⟨ao, m, cap, hvf, hm⟩ : ∃ ao m cap, v = .slice ao m cap ∧ Hid (m = bs.length) := by
    obtain ⟨ao, cap, hv, _⟩ := hb
    exact ⟨ao, _, cap, hv, Lib.hid rfl⟩
  subst hvf
  have hmb : m ≤ 140737488351232 := by rw [hm.out]; exact hlen
  by_cases c1 : 50000 < m
  · go_enter Try.func11, Try.ntmps11
    go_wp2_with fail
    refine (known_any _).mono ?_
    rintro e w1 ⟨rfl, b1⟩
    go_wp2_with fail
    refine (known_any _).mono ?_
    rintro e w2 ⟨rfl, b2⟩
    go_wp2
    go_ret
    exact ⟨rfl, b1.trans (b2.mono b1.size)⟩
  · go_enter Try.func11, Try.ntmps11
    go_wp2_with fail
    refine (known_any _).mono ?_
    rintro e w1 ⟨rfl, b1⟩
    go_wp2_with fail
    refine (seal_any (hb.below b1) (by omega)).mono ?_
    rintro e w2 ⟨sv, rfl, h2, b2⟩
    have bb2 := b1.trans (b2.mono b1.size)
    obtain ⟨ao2, m2, cap2, hv2, hm2⟩ := h2.form'
    subst hv2
    have hm2' : m2 = m + 4 := by rw [hm2.out, sealed_length, hm.out]
    subst hm2'
    go_wp2_with fail
    have hS : ∃ S : Nat, wrap64 (2 + wrap64 ((IntKind.u64.wrap n).tmod 59000)) = (S : Int) ∧ 2 ≤ S ∧ S ≤ 60000 := by
      have h : 0 ≤ IntKind.u64.wrap n := by rw [IntKind.wrap_u64]; omega
      rw [Int.tmod_eq_emod_of_nonneg h]
      refine ⟨(2 + IntKind.u64.wrap n % 59000).toNat, by unfold wrap64; omega, by omega, by omega⟩
    obtain ⟨S, hSe, hS2, hS6⟩ := hS
    rw [hSe]
    clear hSe
    have hf := frame_any h2.at (S : Int)
    rw [sealed_length, ← hm.out] at hf
    by_cases c2 : S < m + 4 + 2
    · rw [frame_big c2 hS2 hS6, show frameR (sealed bs) (S : Int) = [] by unfold frameR; rw [sealed_length, ← hm.out, frame_big c2 hS2 hS6]; rfl] at hf
      refine hf.mono ?_
      rintro e w3 ⟨fv, rfl, h3, b3⟩
      have bb3 := bb2.trans (b3.mono bb2.size)
      obtain ⟨ao3, m3, cap3, hv3, hm3⟩ := h3.form'
      obtain rfl : m3 = 0 := hm3.out
      subst hv3
      clear hf h2 h3 b3 hb hcap b1 b2
      go_wp2
      go_ret
      exact ⟨rfl, bb3⟩
    · rw [frame_ok (by omega) hS6, show frameR (sealed bs) (S : Int) = frameB (sealed bs) (S : Int) by unfold frameR; rw [sealed_length, ← hm.out, frame_ok (by omega) hS6, if_pos rfl]] at hf
      have hun := unframe_frame (sealed bs) S (by rw [sealed_length, ← hm.out]; omega) hS6
      have hop := open_sealed bs
      have hfl := frameB_length (sealed bs) S (by rw [sealed_length, ← hm.out]; omega)
      refine hf.mono ?_
      rintro e w3 ⟨fv, rfl, h3, b3⟩
      have bb3 := bb2.trans (b3.mono bb2.size)
      obtain ⟨ao3, m3, cap3, hv3, hm3⟩ := h3.form'
      have hm3' : m3 = S := by rw [hm3.out, hfl]
      subst hm3'
      subst hv3
      have hu := unframe_any h3.at h3.cap
      rw [hun.1, hun.2] at hu
      clear hf hun hfl
      go_wp2_with fail
      refine hu.mono ?_
      rintro e w4 ⟨uv, rfl, h4, b4⟩
      have bb4 := bb3.trans (b4.mono bb3.size)
      have ho := open_any h4.at h4.cap (by rw [sealed_length, ← hm.out]; omega)
      rw [hop.1, hop.2] at ho
      obtain ⟨ao4, m4, cap4, hv4, hm4⟩ := h4.form'
      subst hv4
      clear hu hop
      go_wp2_with fail
      refine ho.mono ?_
      rintro e w5 ⟨cv, rfl, h5, b5⟩
      have bb5 := bb4.trans (b5.mono bb4.size)
      have bC := h5.at
      obtain ⟨ao5, m5, cap5, hv5, hm5⟩ := h5.form'
      subst hv5
      have bB : ByC w5 (.slice ao m cap) bs := hb.below bb5
      have bS : ByC w5 (.slice ao2 (m + 4) cap2) (sealed bs) := h2.at.below (b3.trans ((b4.trans (b5.mono b4.size)).mono b3.size))
      have sAll : ∀ w', Below w5.heap.size w5 w' → (Below w5.heap.size w5 w' ∧ (convert 23 9 (.slice ao5 m5 cap5)).run Try.prog w' = .ok (.string (strOf bs)) w' ∧ (convert 23 9 (.slice ao m cap)).run Try.prog w' = .ok (.string (strOf bs)) w' ∧ (convert 23 9 (.slice ao2 (m + 4) cap2)).run Try.prog w' = .ok (.string (strOf (sealed bs))) w') := fun w' hw => ⟨hw, run_string_c (bC.below hw), run_string_c (bB.below hw), run_string_c (bS.below hw)⟩
      clear h2 h3 h4 h5 b1 b2 b3 b4 b5 bC bS hb ho bb2 bb3 bb4
      go_wp2_with fail
      have hw1 : ((m + 4 : Nat) : Int) = IntKind.i64.wrap ((m : Int) + 4) := by rw [IntKind.wrap_i64]; omega
      have hS : Below w5.heap.size w5 w5.drew := (Below.refl _ _).drew
      refine wp_region_held_drew (S := fun w' => Below w5.heap.size w5 w') mixed hS (fun _ => ?_)
      show wpAnyH _ _ _ _ _ 40 (Array.replicate 40 false) _ _
      refine wpAnyH_take_d 0 (some 55) (.int .i64 0) rfl (by kernel_rfl) (by kernel_rfl) (by kernel_rfl) (by kernel_rfl) rfl (fun _ _ _ h => h) (fun _ _ => by kernel_rfl) (by exact hS) ?_
      simp only [Act.put, List.setIfInBounds_toArray, List.set_cons_succ, List.set_cons_zero]
      refine wpAnyH_take_d 1 (some 56) (.bool true) rfl (by kernel_rfl) (by kernel_rfl) (by kernel_rfl) (by kernel_rfl) rfl (fun _ _ _ h => h) (fun _ _ => by kernel_rfl) (by exact hS) ?_
      simp only [Act.put, List.setIfInBounds_toArray, List.set_cons_succ, List.set_cons_zero]
      refine wpAnyH_take_d 2 (some 57) (.bool true) rfl (by kernel_rfl) (by kernel_rfl) (by kernel_rfl) (by kernel_rfl) rfl (fun _ _ _ h => h) (fun _ _ => by kernel_rfl) (by exact hS) ?_
      simp only [Act.put, List.setIfInBounds_toArray, List.set_cons_succ, List.set_cons_zero]
      refine wpAnyH_take_d 3 (some 58) (.slice ao2 (m + 4) cap2) rfl (by kernel_rfl) (by kernel_rfl) (by kernel_rfl) (by kernel_rfl) rfl (fun _ _ _ h => h) (fun _ _ => by kernel_rfl) (by exact hS) ?_
      simp only [Act.put, List.setIfInBounds_toArray, List.set_cons_succ, List.set_cons_zero]
      refine wpAnyH_take_d 4 (some 59) (.int .i64 ((m + 4 : Nat) : Int)) rfl (by kernel_rfl) (by kernel_rfl) (by kernel_rfl) (by kernel_rfl) rfl (fun _ _ _ h => h) (fun _ _ => by kernel_rfl) (by exact hS) ?_
      simp only [Act.put, List.setIfInBounds_toArray, List.set_cons_succ, List.set_cons_zero]
      refine wpAnyH_take_d 5 (some 60) (.slice ao m cap) rfl (by kernel_rfl) (by kernel_rfl) (by kernel_rfl) (by kernel_rfl) rfl (fun _ _ _ h => h) (fun _ _ => by kernel_rfl) (by exact hS) ?_
      simp only [Act.put, List.setIfInBounds_toArray, List.set_cons_succ, List.set_cons_zero]
      refine wpAnyH_take_d 6 (some 61) (.int .i64 (m : Nat)) rfl (by kernel_rfl) (by kernel_rfl) (by kernel_rfl) (by kernel_rfl) rfl (fun _ _ _ h => h) (fun _ _ => by kernel_rfl) (by exact hS) ?_
      simp only [Act.put, List.setIfInBounds_toArray, List.set_cons_succ, List.set_cons_zero]
      refine wpAnyH_take_d 7 (some 62) (.int .i64 (IntKind.i64.wrap ((m : Int) + 4))) rfl (by kernel_rfl) (by kernel_rfl) (by kernel_rfl) (by kernel_rfl) rfl (fun _ _ _ h => h) (fun _ _ => by kernel_rfl) (by exact hS) ?_
      simp only [Act.put, List.setIfInBounds_toArray, List.set_cons_succ, List.set_cons_zero]
      refine wpAnyH_take_d 8 (some 63) (.bool true) rfl (by kernel_rfl) (by kernel_rfl) (by kernel_rfl) (by kernel_rfl) rfl (fun _ _ _ h => h) (fun w' h => exec_inteq rfl rfl rfl hw1) (by exact hS) ?_
      simp only [Act.put, List.setIfInBounds_toArray, List.set_cons_succ, List.set_cons_zero]
      refine wpAnyH_take_d 9 (some 64) (.bool true) rfl (by kernel_rfl) (by kernel_rfl) (by kernel_rfl) (by kernel_rfl) rfl (fun _ _ _ h => h) (fun _ _ => by kernel_rfl) (by exact hS) ?_
      simp only [Act.put, List.setIfInBounds_toArray, List.set_cons_succ, List.set_cons_zero]
      refine wpAnyH_take_d 10 (some 65) (.bool true) rfl (by kernel_rfl) (by kernel_rfl) (by kernel_rfl) (by kernel_rfl) rfl (fun _ _ _ h => h) (fun _ _ => by kernel_rfl) (by exact hS) ?_
      simp only [Act.put, List.setIfInBounds_toArray, List.set_cons_succ, List.set_cons_zero]
      refine wpAnyH_take_d 11 (some 66) (.slice ao3 m3 cap3) rfl (by kernel_rfl) (by kernel_rfl) (by kernel_rfl) (by kernel_rfl) rfl (fun _ _ _ h => h) (fun _ _ => by kernel_rfl) (by exact hS) ?_
      simp only [Act.put, List.setIfInBounds_toArray, List.set_cons_succ, List.set_cons_zero]
      refine wpAnyH_take_d 12 (some 67) (.int .i64 (m3 : Nat)) rfl (by kernel_rfl) (by kernel_rfl) (by kernel_rfl) (by kernel_rfl) rfl (fun _ _ _ h => h) (fun _ _ => by kernel_rfl) (by exact hS) ?_
      simp only [Act.put, List.setIfInBounds_toArray, List.set_cons_succ, List.set_cons_zero]
      refine wpAnyH_take_d 13 (some 68) (.int .i64 (m3 : Nat)) rfl (by kernel_rfl) (by kernel_rfl) (by kernel_rfl) (by kernel_rfl) rfl (fun _ _ _ h => h) (fun _ _ => by kernel_rfl) (by exact hS) ?_
      simp only [Act.put, List.setIfInBounds_toArray, List.set_cons_succ, List.set_cons_zero]
      refine wpAnyH_take_d 14 (some 69) (.bool true) rfl (by kernel_rfl) (by kernel_rfl) (by kernel_rfl) (by kernel_rfl) rfl (fun _ _ _ h => h) (fun w' h => exec_inteq rfl rfl rfl rfl) (by exact hS) ?_
      simp only [Act.put, List.setIfInBounds_toArray, List.set_cons_succ, List.set_cons_zero]
      refine wpAnyH_take_d 15 (some 70) (.bool true) rfl (by kernel_rfl) (by kernel_rfl) (by kernel_rfl) (by kernel_rfl) rfl (fun _ _ _ h => h) (fun _ _ => by kernel_rfl) (by exact hS) ?_
      simp only [Act.put, List.setIfInBounds_toArray, List.set_cons_succ, List.set_cons_zero]
      refine wpAnyH_take_d 16 (some 71) (.bool true) rfl (by kernel_rfl) (by kernel_rfl) (by kernel_rfl) (by kernel_rfl) rfl (fun _ _ _ h => h) (fun _ _ => by kernel_rfl) (by exact hS) ?_
      simp only [Act.put, List.setIfInBounds_toArray, List.set_cons_succ, List.set_cons_zero]
      refine wpAnyH_take_d 17 (some 72) (.int .i64 0) rfl (by kernel_rfl) (by kernel_rfl) (by kernel_rfl) (by kernel_rfl) rfl (fun _ _ _ h => h) (fun _ _ => by kernel_rfl) (by exact hS) ?_
      simp only [Act.put, List.setIfInBounds_toArray, List.set_cons_succ, List.set_cons_zero]
      refine wpAnyH_take_d 18 (some 73) (.bool true) rfl (by kernel_rfl) (by kernel_rfl) (by kernel_rfl) (by kernel_rfl) rfl (fun _ _ _ h => h) (fun _ _ => by kernel_rfl) (by exact hS) ?_
      simp only [Act.put, List.setIfInBounds_toArray, List.set_cons_succ, List.set_cons_zero]
      refine wpAnyH_take_d 19 (some 74) (.bool true) rfl (by kernel_rfl) (by kernel_rfl) (by kernel_rfl) (by kernel_rfl) rfl (fun _ _ _ h => h) (fun _ _ => by kernel_rfl) (by exact hS) ?_
      simp only [Act.put, List.setIfInBounds_toArray, List.set_cons_succ, List.set_cons_zero]
      refine wpAnyH_take_d 20 (some 75) (.bool true) rfl (by kernel_rfl) (by kernel_rfl) (by kernel_rfl) (by kernel_rfl) rfl (fun _ _ _ h => h) (fun _ _ => by kernel_rfl) (by exact hS) ?_
      simp only [Act.put, List.setIfInBounds_toArray, List.set_cons_succ, List.set_cons_zero]
      refine wpAnyH_take_d 21 (some 76) (.int .i64 0) rfl (by kernel_rfl) (by kernel_rfl) (by kernel_rfl) (by kernel_rfl) rfl (fun _ _ _ h => h) (fun _ _ => by kernel_rfl) (by exact hS) ?_
      simp only [Act.put, List.setIfInBounds_toArray, List.set_cons_succ, List.set_cons_zero]
      refine wpAnyH_take_d 22 (some 77) (.bool true) rfl (by kernel_rfl) (by kernel_rfl) (by kernel_rfl) (by kernel_rfl) rfl (fun _ _ _ h => h) (fun _ _ => by kernel_rfl) (by exact hS) ?_
      simp only [Act.put, List.setIfInBounds_toArray, List.set_cons_succ, List.set_cons_zero]
      refine wpAnyH_take_d 23 (some 78) (.bool true) rfl (by kernel_rfl) (by kernel_rfl) (by kernel_rfl) (by kernel_rfl) rfl (fun _ _ _ h => h) (fun _ _ => by kernel_rfl) (by exact hS) ?_
      simp only [Act.put, List.setIfInBounds_toArray, List.set_cons_succ, List.set_cons_zero]
      refine wpAnyH_take_d 24 (some 79) (.bool true) rfl (by kernel_rfl) (by kernel_rfl) (by kernel_rfl) (by kernel_rfl) rfl (fun _ _ _ h => h) (fun _ _ => by kernel_rfl) (by exact hS) ?_
      simp only [Act.put, List.setIfInBounds_toArray, List.set_cons_succ, List.set_cons_zero]
      refine wpAnyH_take_d 25 (some 80) (.slice ao5 m5 cap5) rfl (by kernel_rfl) (by kernel_rfl) (by kernel_rfl) (by kernel_rfl) rfl (fun _ _ _ h => h) (fun _ _ => by kernel_rfl) (by exact hS) ?_
      simp only [Act.put, List.setIfInBounds_toArray, List.set_cons_succ, List.set_cons_zero]
      refine wpAnyH_take_d 26 (some 81) (.string (strOf bs)) rfl (by kernel_rfl) (by kernel_rfl) (by kernel_rfl) (by kernel_rfl) rfl (fun _ _ _ h => h) (fun w' h => exec_convert rfl rfl (sAll w' h).2.1) (by exact hS) ?_
      simp only [Act.put, List.setIfInBounds_toArray, List.set_cons_succ, List.set_cons_zero]
      refine wpAnyH_take_d 27 (some 82) (.slice ao m cap) rfl (by kernel_rfl) (by kernel_rfl) (by kernel_rfl) (by kernel_rfl) rfl (fun _ _ _ h => h) (fun _ _ => by kernel_rfl) (by exact hS) ?_
      simp only [Act.put, List.setIfInBounds_toArray, List.set_cons_succ, List.set_cons_zero]
      refine wpAnyH_take_d 28 (some 83) (.string (strOf bs)) rfl (by kernel_rfl) (by kernel_rfl) (by kernel_rfl) (by kernel_rfl) rfl (fun _ _ _ h => h) (fun w' h => exec_convert rfl rfl (sAll w' h).2.2.1) (by exact hS) ?_
      simp only [Act.put, List.setIfInBounds_toArray, List.set_cons_succ, List.set_cons_zero]
      refine wpAnyH_take_d 29 (some 84) (.bool true) rfl (by kernel_rfl) (by kernel_rfl) (by kernel_rfl) (by kernel_rfl) rfl (fun _ _ _ h => h) (fun w' h => exec_streq rfl rfl rfl (by simp)) (by exact hS) ?_
      simp only [Act.put, List.setIfInBounds_toArray, List.set_cons_succ, List.set_cons_zero]
      refine wpAnyH_take_d 30 (some 85) (.bool true) rfl (by kernel_rfl) (by kernel_rfl) (by kernel_rfl) (by kernel_rfl) rfl (fun _ _ _ h => h) (fun _ _ => by kernel_rfl) (by exact hS) ?_
      simp only [Act.put, List.setIfInBounds_toArray, List.set_cons_succ, List.set_cons_zero]
      refine wpAnyH_take_d 31 (some 86) (.bool true) rfl (by kernel_rfl) (by kernel_rfl) (by kernel_rfl) (by kernel_rfl) rfl (fun _ _ _ h => h) (fun _ _ => by kernel_rfl) (by exact hS) ?_
      simp only [Act.put, List.setIfInBounds_toArray, List.set_cons_succ, List.set_cons_zero]
      refine wpAnyH_take_d 32 (some 87) (.slice ao m cap) rfl (by kernel_rfl) (by kernel_rfl) (by kernel_rfl) (by kernel_rfl) rfl (fun _ _ _ h => h) (fun _ _ => by kernel_rfl) (by exact hS) ?_
      simp only [Act.put, List.setIfInBounds_toArray, List.set_cons_succ, List.set_cons_zero]
      refine wpAnyH_take_d 35 (some 90) (.slice ao2 (m + 4) cap2) rfl (by kernel_rfl) (by kernel_rfl) (by kernel_rfl) (by kernel_rfl) rfl (fun _ _ _ h => h) (fun _ _ => by kernel_rfl) (by exact hS) ?_
      simp only [Act.put, List.setIfInBounds_toArray, List.set_cons_succ, List.set_cons_zero]
      refine wpAnyH_take_d 36 (some 91) (.string (strOf (sealed bs))) rfl (by kernel_rfl) (by kernel_rfl) (by kernel_rfl) (by kernel_rfl) rfl (fun _ _ _ h => h) (fun w' h => exec_convert rfl rfl (sAll w' h).2.2.2) (by exact hS) ?_
      simp only [Act.put, List.setIfInBounds_toArray, List.set_cons_succ, List.set_cons_zero]
      refine wpAnyH_call 33 (some 88) 20 #[.slice ao m cap] rfl (by kernel_rfl) (by kernel_rfl) rfl (by kernel_rfl) (seal_any (w := w5.drew) (bB.below hS) (by omega)) ?_
      rintro e w9 ⟨v9, rfl, h9, b9⟩
      have hS : Below w5.heap.size w5 w9 := ((Below.refl _ _).drew).trans b9
      have c9 := run_string h9
      obtain ⟨ao9, m9, cap9, hv9, hm9⟩ := h9.form'
      subst hv9
      refine ⟨_, rfl, hS, ?_⟩
      simp only [Act.put, List.setIfInBounds_toArray, List.set_cons_succ, List.set_cons_zero]
      refine wpAnyH_one 34 (some 89) (.string (strOf (sealed bs))) rfl (by kernel_rfl) (by kernel_rfl) rfl (exec_convert rfl rfl c9) (by exact hS) ?_
      simp only [Act.put, List.setIfInBounds_toArray, List.set_cons_succ, List.set_cons_zero]
      refine wpAnyH_take_d 37 (some 92) (.bool true) rfl (by kernel_rfl) (by kernel_rfl) (by kernel_rfl) (by kernel_rfl) rfl (fun _ _ _ h => h) (fun w' h => exec_streq rfl rfl rfl (by simp)) (by exact hS) ?_
      simp only [Act.put, List.setIfInBounds_toArray, List.set_cons_succ, List.set_cons_zero]
      refine wpAnyH_take_d 38 (some 93) (.bool true) rfl (by kernel_rfl) (by kernel_rfl) (by kernel_rfl) (by kernel_rfl) rfl (fun _ _ _ h => h) (fun _ _ => by kernel_rfl) (by exact hS) ?_
      simp only [Act.put, List.setIfInBounds_toArray, List.set_cons_succ, List.set_cons_zero]
      refine wpAnyH_take_d 39 (some 4) (.bool true) rfl (by kernel_rfl) (by kernel_rfl) (by kernel_rfl) (by kernel_rfl) rfl (fun _ _ _ h => h) (fun _ _ => by kernel_rfl) (by exact hS) ?_
      simp only [Act.put, List.setIfInBounds_toArray, List.set_cons_succ, List.set_cons_zero]
      refine wpAnyH_done (by kernel_rfl) ?_ _
      clear h9 b9 c9 sAll bB
      go_wp2
      go_ret
      exact ⟨rfl, bb5.trans (hS.mono bb5.size)⟩

/-! ### the row -/
theorem laidOut : laidOutB Try.prog = true := by kernel_rfl
theorem bytesInt : Try.prog.bytesOf 3 = 8 := by kernel_rfl
set_option maxRecDepth 100000 in
theorem lifted (os : Os) (started : os.Started) (H : Type) (enc : TypeId × Value → H) :
    ReturnsInHanded {} Try.checked os 11 .any (Rows.packSealedSpec.pre6 enc Try.prog Try.f11 Rows.packSealedRow.domain false) (Rows.packSealedSpec.post enc Try.prog Try.f11 false true false false) := by
  refine returnsInHanded_of_change_sized (C := Try.checked) own started (by kernel_rfl) Try.func11
    (ChangeSpec.witness6 (enc := enc) (C := Try.checked) false ⟨#[], #[.slice none 0 0, .int .i64 0], []⟩ 8 (by kernel_rfl) (by kernel_rfl) (by kernel_rfl) (by kernel_rfl)) ?_
  intro W base args ds gs before hval0 hW hcnd hsz0 _
  have hval : ∀ (j : Nat) t v, Try.f11.params[j]? = some t → args[j]? = some v → Value.okWide Try.prog W .any base t v := hval0
  have hW' := hW
  obtain ⟨p, q, hA0, hV, rfl, hfz, hnd⟩ := hW
  have hA : DataW.TrodAll enc Try.prog W 0 (fun _ => true) true Try.f11.params.toList args.toList ds p := hA0
  have hsz : (DataW.weightsEach Try.prog (Try.f11.params.toList ++ Rows.packSealedSpec.plain.varTypes Try.prog) (ds ++ gs)).all (· ≤ reachBytes) = true := hsz0
  rw [Try.params11] at hA hval hsz
  obtain ⟨v0, vs0, d0, ds0, p0, q0, hargs, rfl, rfl, h0, r0⟩ := trodAll_cons hA
  obtain ⟨v1, vs1, d1, ds1, p1, q1, rfl, rfl, rfl, h1, r1⟩ := trodAll_cons r0
  obtain ⟨rfl, rfl, rfl⟩ := trodAll_nil r1
  obtain rfl : args = #[v0, v1] := by cases args; simp_all
  obtain ⟨rfl, rfl⟩ := trodVars_none hV
  have k0 := h0
  have lt0 := args_lt k0
  obtain ⟨z0, w0⟩ := bytes_arg Try.underlying23 Try.underlying5 (by kernel_rfl) (hval 0 23 v0 rfl rfl) (fun el sp e => by subst e; have := sized_slice hsz (j := 0) (t := 23) (e := 5) rfl rfl Try.underlying23; rwa [bytesU8] at this) h0
  obtain ⟨a1, rfl, rfl, rfl, w1⟩ := open_int Try.underlying3 (hval 1 3 v1 rfl rfl) h1
  clear hA0 hval0 hsz0
  refine (walk v0 z0 a1 w1 W w0).mono fun e W' ⟨he, bel⟩ => ?_
  subst he
  exact ⟨_, rfl, _, _, _, [], _, [], hW', trodAll_mk1 (shut_bool Try.underlying4 _), (trodAll_cons_mk (Below.trod laidOut (by kernel_rfl) (of_decide_eq_true (by kernel_rfl)) k0 bel lt0) (trodAll_cons_mk (shut_int Try.underlying3 w1) trodAll_mk0)), rfl, bel.frame _, fun h => by cases h⟩

theorem over : Rows.packSealedRow.holds Try.pinned (OpenSpec.ofChange Rows.packSealedSpec) :=
  OpenClaim.holds_of_wide 11 Try.f11 rfl rfl rfl rfl rfl rfl rfl ⟨rfl, rfl, rfl, rfl, rfl⟩ rfl rfl rfl rfl rfl (by kernel_rfl) Try.func11 (by kernel_rfl)
    (of_decide_eq_true (by kernel_rfl)) (by unfold Func.isWrapper; first | (rw [if_pos (by decide +kernel)]; kernel_rfl) | (rw [if_neg (by decide +kernel)]; exact ⟨rfl, rfl⟩))
    (fun os started H enc _ => lifted os started H enc)
end Go.Proofs.Ytifbfnfcjkpjfaa.packSealed

namespace Go.Proofs.Ytifbfnfcjkpjfaa
/-- The law returns true at every input. -/
theorem packSealed_holds : Rows.PackSealedSaid := packSealed.over
end Go.Proofs.Ytifbfnfcjkpjfaa

