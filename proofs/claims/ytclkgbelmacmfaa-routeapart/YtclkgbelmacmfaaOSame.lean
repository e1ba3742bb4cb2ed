/- The contract of the document's Same. No statement of the seat is proved here. -/
import Derived.Test.YtclkgbelmacmfaaONameP
namespace Go.Proofs.Ytclkgbelmacmfaa
set_option maxRecDepth 20000
open Go.RowKit

theorem kAt_get {l : List ByteArray} {i : Nat} (h : i < l.length) : l[i] = kAt l i := by
  unfold kAt; rw [List.getD_eq_getElem?_getD, List.getElem?_eq_getElem h]; rfl
theorem same_true {a b : List ByteArray} (hl : a.length = b.length) (h : ∀ j, j < a.length → kAt a j = kAt b j) : a = b := by
  refine List.ext_getElem hl fun i h1 h2 => ?_
  rw [kAt_get h1, kAt_get h2]; exact h i h1
set_option maxHeartbeats 1600000 in
theorem refSame_any {w : World} {B C : Nat} {v x : Value} {a b : List ByteArray} (ha : SlAt elS B w v a) (hb : SlAt elS C w x b) (hB : B ≤ w.heap.size) (hC : C ≤ w.heap.size) : Calls Try.prog 17 #[v, x] w fun e w' => e = .returned (.bool (decide (a = b))) ∧ Below w.heap.size w w' := by
  have HA := Lib.hid (ha.more hB)
  have HB := Lib.hid (hb.more hC)
  obtain ⟨ao, am, ac, rfl, hm⟩ := ha.form
  obtain ⟨bo, bm, bc, rfl, hn⟩ := hb.form
  have l1 := ha.len okS
  have l2 := hb.len okS
  rw [← hm.out] at l1
  rw [← hn.out] at l2
  clear ha hb hB hC
  obtain ⟨R, hR⟩ : ∃ R, decide (a = b) = R := ⟨_, rfl⟩
  rw [hR]
  by_cases h0 : am = bm
  · have hl : a.length = b.length := by rw [← hm.out, ← hn.out]; exact h0
    subst h0
    have HL := Lib.hid hl
    have HR := Lib.hid hR
    clear hR hl
    go_enter Try.func17, Try.ntmps17
    go_wp2
    go_loopw [5] (fun iv wr => ∃ k : Nat, k ≤ am ∧ iv = .int .i64 k ∧ Hid (∀ j, j < k → kAt a j = kAt b j) ∧ Below w.heap.size w wr) (fun iv _ => am - (intOf iv).toNat)
    case atStart => exact ⟨0, Nat.zero_le _, rfl, Lib.hid (fun j hj => by omega), Below.refl _ _⟩
    case round =>
      obtain ⟨k, hk, rfl, hf, hb⟩ := hrel
      by_cases hlt : k < am
      · obtain ⟨b1, off1, cap1, hv1, hB1, c1⟩ := HA.out.getS (i := k) (by rw [← hm.out]; exact hlt)
        obtain ⟨b2, off2, cap2, hv2, hB2, c2⟩ := HB.out.getS (i := k) (by rw [← hn.out]; exact hlt)
        obtain ⟨rfl, -, rfl⟩ : ao = some ⟨b1, off1, none⟩ ∧ am = a.length ∧ ac = cap1 := by cases hv1; exact ⟨rfl, rfl, rfl⟩
        obtain ⟨rfl, -, rfl⟩ : bo = some ⟨b2, off2, none⟩ ∧ am = b.length ∧ bc = cap2 := by cases hv2; exact ⟨rfl, rfl, rfl⟩
        have D1 := Lib.hid (fun w' (h : Below w.heap.size w w') => (h.cell (p := ⟨b1, off1 + k, none⟩) hB1).trans c1)
        have D2 := Lib.hid (fun w' (h : Below w.heap.size w w') => (h.cell (p := ⟨b2, off2 + k, none⟩) hB2).trans c2)
        clear hv1 hv2 c1 c2
        obtain ⟨x, hx⟩ : ∃ x, kAt a k = x := ⟨_, rfl⟩
        obtain ⟨y, hy⟩ : ∃ y, kAt b k = y := ⟨_, rfl⟩
        rw [hx] at D1
        rw [hy] at D2
        have HX := Lib.hid hx
        have HY := Lib.hid hy
        clear hx hy
        cases hq : (x.toList == y.toList)
        · have HF := Lib.hid (show R = false by
            rw [← HR.out, decide_eq_false_iff_not]
            intro e; rw [e, HY.out] at HX
            rw [HX.out] at hq; simp at hq)
          have hq' : (!(x.toList == y.toList)) = true := by rw [hq]; rfl
          clear hq
          go_wp2_with fail
          have hS := hb.drew
          refine wp_region_held_drew (S := fun w' => Below w.heap.size w w') mixed hS (fun _ => ?_)
          show wpAnyH _ _ _ _ _ 9 (Array.replicate 9 false) _ _
          refine wpAnyH_take_d 0 (some 17) (.slice (some ⟨b1, off1, none⟩) am ac) rfl (by kernel_rfl) (by kernel_rfl) (by kernel_rfl) (by kernel_rfl) rfl (fun _ _ _ h => h) (fun _ _ => by kernel_rfl) (by exact hS) ?_
          simp only [Act.put, List.setIfInBounds_toArray, List.set_cons_succ, List.set_cons_zero]
          refine wpAnyH_take_d 1 (some 18) (.int .i64 k) rfl (by kernel_rfl) (by kernel_rfl) (by kernel_rfl) (by kernel_rfl) rfl (fun _ _ _ h => h) (fun _ _ => by kernel_rfl) (by exact hS) ?_
          simp only [Act.put, List.setIfInBounds_toArray, List.set_cons_succ, List.set_cons_zero]
          refine wpAnyH_take_d 2 (some 19) (.pointer (some ⟨b1, off1 + k, none⟩)) rfl (by kernel_rfl) (by kernel_rfl) (by kernel_rfl) (by kernel_rfl) rfl (fun _ _ _ h => h) (fun _ _ => ex_index1 rfl rfl rfl hlt Try.underlying23 (by kernel_rfl)) (by exact hS) ?_
          simp only [Act.put, List.setIfInBounds_toArray, List.set_cons_succ, List.set_cons_zero]
          refine wpAnyH_take_d 3 (some 20) (.string x) rfl (by kernel_rfl) (by kernel_rfl) (by kernel_rfl) (by kernel_rfl) rfl (fun _ _ _ h => h) (fun w' h => exec_load_cell rfl rfl (D1.out _ h) Try.underlying9 rfl) (by exact hS) ?_
          simp only [Act.put, List.setIfInBounds_toArray, List.set_cons_succ, List.set_cons_zero]
          refine wpAnyH_take_d 4 (some 21) (.slice (some ⟨b2, off2, none⟩) am bc) rfl (by kernel_rfl) (by kernel_rfl) (by kernel_rfl) (by kernel_rfl) rfl (fun _ _ _ h => h) (fun _ _ => by kernel_rfl) (by exact hS) ?_
          simp only [Act.put, List.setIfInBounds_toArray, List.set_cons_succ, List.set_cons_zero]
          refine wpAnyH_take_d 5 (some 22) (.int .i64 k) rfl (by kernel_rfl) (by kernel_rfl) (by kernel_rfl) (by kernel_rfl) rfl (fun _ _ _ h => h) (fun _ _ => by kernel_rfl) (by exact hS) ?_
          simp only [Act.put, List.setIfInBounds_toArray, List.set_cons_succ, List.set_cons_zero]
          refine wpAnyH_take_d 6 (some 23) (.pointer (some ⟨b2, off2 + k, none⟩)) rfl (by kernel_rfl) (by kernel_rfl) (by kernel_rfl) (by kernel_rfl) rfl (fun _ _ _ h => h) (fun _ _ => ex_index1 rfl rfl rfl hlt Try.underlying23 (by kernel_rfl)) (by exact hS) ?_
          simp only [Act.put, List.setIfInBounds_toArray, List.set_cons_succ, List.set_cons_zero]
          refine wpAnyH_take_d 7 (some 24) (.string y) rfl (by kernel_rfl) (by kernel_rfl) (by kernel_rfl) (by kernel_rfl) rfl (fun _ _ _ h => h) (fun w' h => exec_load_cell rfl rfl (D2.out _ h) Try.underlying9 rfl) (by exact hS) ?_
          simp only [Act.put, List.setIfInBounds_toArray, List.set_cons_succ, List.set_cons_zero]
          refine wpAnyH_take_d 8 (some 25) (.bool true) rfl (by kernel_rfl) (by kernel_rfl) (by kernel_rfl) (by kernel_rfl) rfl (fun _ _ _ h => h) (fun _ _ => exec_strneq rfl rfl rfl hq') (by exact hS) ?_
          simp only [Act.put, List.setIfInBounds_toArray, List.set_cons_succ, List.set_cons_zero]
          refine wpAnyH_done (by kernel_rfl) ?_ _
          have hb := hS
          clear hS D1 D2
          go_wp2
          go_ret
          exact ⟨by rw [HF.out]; rfl, hb⟩
        · have hxy : x = y := bl_inj (by rw [← toL, ← toL]; simpa using hq)
          have HF := Lib.hid (show ∀ j, j < k + 1 → kAt a j = kAt b j from fun j hj => by
            by_cases e : j = k
            · subst e; rw [HX.out, HY.out, hxy]
            · exact hf.out j (by omega))
          have hq' : (!(x.toList == y.toList)) = false := by rw [hq]; rfl
          clear hq hxy
          go_wp2_with fail
          have hS := hb.drew
          refine wp_region_held_drew (S := fun w' => Below w.heap.size w w') mixed hS (fun _ => ?_)
          show wpAnyH _ _ _ _ _ 9 (Array.replicate 9 false) _ _
          refine wpAnyH_take_d 0 (some 17) (.slice (some ⟨b1, off1, none⟩) am ac) rfl (by kernel_rfl) (by kernel_rfl) (by kernel_rfl) (by kernel_rfl) rfl (fun _ _ _ h => h) (fun _ _ => by kernel_rfl) (by exact hS) ?_
          simp only [Act.put, List.setIfInBounds_toArray, List.set_cons_succ, List.set_cons_zero]
          refine wpAnyH_take_d 1 (some 18) (.int .i64 k) rfl (by kernel_rfl) (by kernel_rfl) (by kernel_rfl) (by kernel_rfl) rfl (fun _ _ _ h => h) (fun _ _ => by kernel_rfl) (by exact hS) ?_
          simp only [Act.put, List.setIfInBounds_toArray, List.set_cons_succ, List.set_cons_zero]
          refine wpAnyH_take_d 2 (some 19) (.pointer (some ⟨b1, off1 + k, none⟩)) rfl (by kernel_rfl) (by kernel_rfl) (by kernel_rfl) (by kernel_rfl) rfl (fun _ _ _ h => h) (fun _ _ => ex_index1 rfl rfl rfl hlt Try.underlying23 (by kernel_rfl)) (by exact hS) ?_
          simp only [Act.put, List.setIfInBounds_toArray, List.set_cons_succ, List.set_cons_zero]
          refine wpAnyH_take_d 3 (some 20) (.string x) rfl (by kernel_rfl) (by kernel_rfl) (by kernel_rfl) (by kernel_rfl) rfl (fun _ _ _ h => h) (fun w' h => exec_load_cell rfl rfl (D1.out _ h) Try.underlying9 rfl) (by exact hS) ?_
          simp only [Act.put, List.setIfInBounds_toArray, List.set_cons_succ, List.set_cons_zero]
          refine wpAnyH_take_d 4 (some 21) (.slice (some ⟨b2, off2, none⟩) am bc) rfl (by kernel_rfl) (by kernel_rfl) (by kernel_rfl) (by kernel_rfl) rfl (fun _ _ _ h => h) (fun _ _ => by kernel_rfl) (by exact hS) ?_
          simp only [Act.put, List.setIfInBounds_toArray, List.set_cons_succ, List.set_cons_zero]
          refine wpAnyH_take_d 5 (some 22) (.int .i64 k) rfl (by kernel_rfl) (by kernel_rfl) (by kernel_rfl) (by kernel_rfl) rfl (fun _ _ _ h => h) (fun _ _ => by kernel_rfl) (by exact hS) ?_
          simp only [Act.put, List.setIfInBounds_toArray, List.set_cons_succ, List.set_cons_zero]
          refine wpAnyH_take_d 6 (some 23) (.pointer (some ⟨b2, off2 + k, none⟩)) rfl (by kernel_rfl) (by kernel_rfl) (by kernel_rfl) (by kernel_rfl) rfl (fun _ _ _ h => h) (fun _ _ => ex_index1 rfl rfl rfl hlt Try.underlying23 (by kernel_rfl)) (by exact hS) ?_
          simp only [Act.put, List.setIfInBounds_toArray, List.set_cons_succ, List.set_cons_zero]
          refine wpAnyH_take_d 7 (some 24) (.string y) rfl (by kernel_rfl) (by kernel_rfl) (by kernel_rfl) (by kernel_rfl) rfl (fun _ _ _ h => h) (fun w' h => exec_load_cell rfl rfl (D2.out _ h) Try.underlying9 rfl) (by exact hS) ?_
          simp only [Act.put, List.setIfInBounds_toArray, List.set_cons_succ, List.set_cons_zero]
          refine wpAnyH_take_d 8 (some 25) (.bool false) rfl (by kernel_rfl) (by kernel_rfl) (by kernel_rfl) (by kernel_rfl) rfl (fun _ _ _ h => h) (fun _ _ => exec_strneq rfl rfl rfl hq') (by exact hS) ?_
          simp only [Act.put, List.setIfInBounds_toArray, List.set_cons_succ, List.set_cons_zero]
          refine wpAnyH_done (by kernel_rfl) ?_ _
          have hb := hS
          clear hS D1 D2
          go_wp2
          go_roundw
          case rel => exact ⟨k + 1, by omega, by go_num, HF, hb⟩
          case measure => simp [intOf]; omega
      · have HF := Lib.hid (show R = true by
          rw [← HR.out, decide_eq_true_iff]
          exact same_true HL.out (fun j hj => hf.out j (by rw [← hm.out] at hj; omega)))
        go_wp2
        go_ret
        exact ⟨by rw [HF.out]; rfl, hb⟩
  · have hf : R = false := by
      rw [← hR, decide_eq_false_iff_not]
      intro e; exact h0 (by rw [hm.out, hn.out, e])
    have HF := Lib.hid hf
    clear hf hR
    have hq : (((am : Nat) : Int) == (bm : Int)) = false := by rw [beq_eq_false_iff_ne]; omega
    go_enter Try.func17, Try.ntmps17
    go_wp2
    go_ret
    exact ⟨by rw [HF.out]; rfl, Below.refl _ _⟩
end Go.Proofs.Ytclkgbelmacmfaa
