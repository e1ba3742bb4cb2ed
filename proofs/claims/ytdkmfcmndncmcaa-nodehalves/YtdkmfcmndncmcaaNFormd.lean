/- The contracts of ContainsFunc, formed, Check. No statement of the seat is proved here. -/
import Derived.Test.YtdkmfcmndncmcaaNRisP
namespace Go.Proofs.Ytdkmfcmndncmcaa
set_option maxRecDepth 20000
open Go.RowKit

theorem all_false {α : Type} {l : List α} {p : α → Bool} {x : α} (hx : x ∈ l) (h : p x = false) : l.all p = false := by
  rw [List.all_eq_false]; exact ⟨x, hx, by simpa using h⟩
theorem prAt_mem {l : List Pr} {i : Nat} (hi : i < l.length) : prAt l i ∈ l := by
  unfold prAt; rw [List.getD_eq_getElem?_getD, List.getElem?_eq_getElem hi]; exact List.getElem_mem hi
theorem mem_prAt {l : List Pr} {x : Pr} (h : x ∈ l) : ∃ i, i < l.length ∧ prAt l i = x := by
  obtain ⟨i, hi, rfl⟩ := List.mem_iff_getElem.1 h
  exact ⟨i, hi, by unfold prAt; rw [List.getD_eq_getElem?_getD, List.getElem?_eq_getElem hi]; rfl⟩
theorem getD_mem {l : List Int} {i : Nat} (hi : i < l.length) : l.getD i 0 ∈ l := by
  rw [List.getD_eq_getElem?_getD, List.getElem?_eq_getElem hi]; exact List.getElem_mem hi
theorem mem_getD {l : List Int} {x : Int} (h : x ∈ l) : ∃ i, i < l.length ∧ l.getD i 0 = x := by
  obtain ⟨i, hi, rfl⟩ := List.mem_iff_getElem.1 h
  exact ⟨i, hi, by rw [List.getD_eq_getElem?_getD, List.getElem?_eq_getElem hi]; rfl⟩
theorem okVs_false {l : List Pr} {i : Nat} (hi : i < l.length) (h : decide (48 < (prAt l i).v.size) = true) : okVs l = false :=
  all_false (prAt_mem hi) (by simp only [decide_eq_true_eq] at h; rw [decide_eq_false (by omega)])
theorem okVs_true {l : List Pr} (h : ∀ i, i < l.length → decide (48 < (prAt l i).v.size) = false) : okVs l = true := by
  unfold okVs
  rw [List.all_eq_true]
  intro x hx
  obtain ⟨i, hi, rfl⟩ := mem_prAt hx
  have := h i hi
  simp only [decide_eq_false_iff_not] at this
  rw [decide_eq_true (by omega)]
theorem badI_ok (z : Int) : (decide (1 ≤ z) && decide (z ≤ 65535)) = !(badI z) := by
  unfold badI
  by_cases h1 : z < 1
  · rw [decide_eq_true h1, decide_eq_false (by omega)]; rfl
  · rw [decide_eq_false h1, decide_eq_true (by omega : 1 ≤ z)]
    by_cases h2 : 65535 < z
    · rw [decide_eq_true h2, decide_eq_false (by omega)]; rfl
    · rw [decide_eq_false h2, decide_eq_true (by omega)]; rfl
theorem okIs_false {l : List Int} {i : Nat} (hi : i < l.length) (h : badI (l.getD i 0) = true) : okIs l = false :=
  all_false (getD_mem hi) (by rw [badI_ok, h]; rfl)
theorem okIs_true {l : List Int} (h : ∀ i, i < l.length → badI (l.getD i 0) = false) : okIs l = true := by
  unfold okIs
  rw [List.all_eq_true]
  intro x hx
  obtain ⟨i, hi, rfl⟩ := mem_getD hx
  rw [badI_ok, h i hi]; rfl
set_option maxHeartbeats 1600000 in
theorem indexP_any {w : World} {v : Value} {l : List Pr} (h : SlAt elP w.heap.size w v l) : Calls Try.prog 75 #[v, .func (.func 59) #[] #[]] w fun e w' => ∃ z : Int, e = .returned (.int .i64 z) ∧ decide (0 ≤ z) = !(okVs l) ∧ Below w.heap.size w w' := by
  obtain ⟨ao, m, cap, rfl, hm⟩ := h.form
  have H := Lib.hid h
  have hml := h.len okP
  rw [← hm.out] at hml
  clear h
  go_enter Try.func75, Try.ntmps75
  go_wp2
  go_loopw [8] (fun iv wr => ∃ k : Nat, k ≤ m ∧ iv = .int .i64 k ∧ Hid (∀ j, j < k → decide (48 < (prAt l j).v.size) = false) ∧ Below w.heap.size w wr) (fun iv _ => m - (intOf iv).toNat)
  case atStart => exact ⟨0, Nat.zero_le _, rfl, Lib.hid (fun j hj => by omega), Below.refl _ _⟩
  case round =>
    obtain ⟨k, hk, rfl, hf, hb⟩ := hrel
    by_cases hlt : k < m
    · have hlt' : k < l.length := by rw [← hm.out]; exact hlt
      obtain ⟨b, off, cap', hv, hB, hc1, hc2⟩ := H.out.getP hlt'
      obtain ⟨rfl, -, rfl⟩ : ao = some ⟨b, off, none⟩ ∧ m = l.length ∧ cap = cap' := by cases hv; exact ⟨rfl, rfl, rfl⟩
      have d1 := (hb.cell (p := ⟨b, off + k * 2, none⟩) hB).trans hc1
      have d2 := (hb.cell (p := ⟨b, off + k * 2 + 1, none⟩) hB).trans hc2
      clear hv hc1 hc2
      have T1 := Lib.hid (fun q => snoc_true (p := fun j => !(decide (48 < (prAt l j).v.size))) (k := k) (fun j hj => by rw [hf.out j hj]; rfl) q)
      have T2 := Lib.hid (fun q => okVs_false hlt' q)
      have lv := longValue_any (prAt l k) wr
      generalize prAt l k = x at *
      obtain ⟨xk, xv⟩ := x
      simp only at lv
      cases hL : decide (48 < xv.size)
      · rw [hL] at lv T1
        clear hL T2 hf
        go_wp2_with fail
        refine Calls.mono lv ?_
        rintro e w1 ⟨rfl, b1⟩
        have hb2 := Below.then hb b1 (Nat.le_refl _)
        clear b1 lv
        go_wp2
        go_roundw
        case rel => exact ⟨k + 1, by omega, by go_num, Lib.hid (fun j hj => by have := T1.out (by first | rfl | trivial) j hj; simpa using this), hb2⟩
        case measure => simp [intOf]; omega
      · rw [hL] at lv T2
        clear hL T1 hf
        go_wp2_with fail
        refine Calls.mono lv ?_
        rintro e w1 ⟨rfl, b1⟩
        have hb2 := Below.then hb b1 (Nat.le_refl _)
        clear b1 lv
        go_wp2
        go_ret
        exact ⟨k, rfl, by rw [T2.out (by first | rfl | trivial)]; simp, hb2⟩
    · have ht := Lib.hid (okVs_true (l := l) (fun i hi => hf.out i (by have := hm.out; omega)))
      clear hf
      go_wp2
      go_ret
      exact ⟨-1, rfl, by rw [ht.out]; rfl, hb⟩
set_option maxHeartbeats 1600000 in
theorem indexI_any {w : World} {v : Value} {l : List Int} (h : SlAt elI w.heap.size w v l) : Calls Try.prog 76 #[v, .func (.func 62) #[] #[]] w fun e w' => ∃ z : Int, e = .returned (.int .i64 z) ∧ decide (0 ≤ z) = !(okIs l) ∧ Below w.heap.size w w' := by
  obtain ⟨ao, m, cap, rfl, hm⟩ := h.form
  have H := Lib.hid h
  have hml := h.len okZ
  rw [← hm.out] at hml
  clear h
  go_enter Try.func76, Try.ntmps76
  go_wp2
  go_loopw [8] (fun iv wr => ∃ k : Nat, k ≤ m ∧ iv = .int .i64 k ∧ Hid (∀ j, j < k → badI (l.getD j 0) = false) ∧ Below w.heap.size w wr) (fun iv _ => m - (intOf iv).toNat)
  case atStart => exact ⟨0, Nat.zero_le _, rfl, Lib.hid (fun j hj => by omega), Below.refl _ _⟩
  case round =>
    obtain ⟨k, hk, rfl, hf, hb⟩ := hrel
    by_cases hlt : k < m
    · have hlt' : k < l.length := by rw [← hm.out]; exact hlt
      obtain ⟨b, off, cap', hv, hB, hc1⟩ := H.out.getI hlt'
      obtain ⟨rfl, -, rfl⟩ : ao = some ⟨b, off, none⟩ ∧ m = l.length ∧ cap = cap' := by cases hv; exact ⟨rfl, rfl, rfl⟩
      have d1 := (hb.cell (p := ⟨b, off + k, none⟩) hB).trans hc1
      clear hv hc1
      have T1 := Lib.hid (fun q => snoc_true (p := fun j => !(badI (l.getD j 0))) (k := k) (fun j hj => by rw [hf.out j hj]; rfl) q)
      have T2 := Lib.hid (fun q => okIs_false hlt' q)
      have lv := noKid_any (l.getD k 0) wr
      generalize l.getD k 0 = x at *
      cases hL : badI x
      · rw [hL] at lv T1
        clear hL T2 hf
        go_wp2_with fail
        refine Calls.mono lv ?_
        rintro e w1 ⟨rfl, rfl⟩
        clear lv
        go_wp2
        go_roundw
        case rel => exact ⟨k + 1, by omega, by go_num, Lib.hid (fun j hj => by have := T1.out (by first | rfl | trivial) j hj; simpa using this), hb⟩
        case measure => simp [intOf]; omega
      · rw [hL] at lv T2
        clear hL T1 hf
        go_wp2_with fail
        refine Calls.mono lv ?_
        rintro e w1 ⟨rfl, rfl⟩
        clear lv
        go_wp2
        go_ret
        exact ⟨k, rfl, by rw [T2.out (by first | rfl | trivial)]; simp, hb⟩
    · have ht := Lib.hid (okIs_true (l := l) (fun i hi => hf.out i (by have := hm.out; omega)))
      clear hf
      go_wp2
      go_ret
      exact ⟨-1, rfl, by rw [ht.out]; rfl, hb⟩
theorem containsP_any {w : World} {v : Value} {l : List Pr} (h : SlAt elP w.heap.size w v l) : Calls Try.prog 58 #[v, .func (.func 59) #[] #[]] w fun e w' => e = .returned (.bool (!(okVs l))) ∧ Below w.heap.size w w' := by
  have hc := indexP_any h
  obtain ⟨ao, m, cap, rfl, hm⟩ := h.form
  clear h
  go_enter Try.func58, Try.ntmps58
  go_wp2_with fail
  refine Calls.mono hc ?_
  rintro e w1 ⟨z, rfl, hz, b1⟩
  have HZ := Lib.hid hz
  clear hz hc
  go_wp2
  go_ret
  exact ⟨by rw [← HZ.out]; rfl, b1⟩
theorem containsI_any {w : World} {v : Value} {l : List Int} (h : SlAt elI w.heap.size w v l) : Calls Try.prog 61 #[v, .func (.func 62) #[] #[]] w fun e w' => e = .returned (.bool (!(okIs l))) ∧ Below w.heap.size w w' := by
  have hc := indexI_any h
  obtain ⟨ao, m, cap, rfl, hm⟩ := h.form
  clear h
  go_enter Try.func61, Try.ntmps61
  go_wp2_with fail
  refine Calls.mono hc ?_
  rintro e w1 ⟨z, rfl, hz, b1⟩
  have HZ := Lib.hid hz
  clear hz hc
  go_wp2
  go_ret
  exact ⟨by rw [← HZ.out]; rfl, b1⟩
end Go.Proofs.Ytdkmfcmndncmcaa
