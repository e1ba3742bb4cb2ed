/- The contracts of BinarySearchFunc and place at texts. No statement of the seat is proved here. -/
import Derived.Test.YtdkmfcmndncmcaaNPlace
namespace Go.Proofs.Ytdkmfcmndncmcaa
set_option maxRecDepth 20000
open Go.RowKit

set_option maxHeartbeats 1600000 in
theorem bsearchS_any {w : World} {v : Value} {l : List ByteArray} (h : SlAt elS w.heap.size w v l) (hr : risB l = true) (key : ByteArray) {cb : Nat} (hc : w.cell? ⟨cb, 0, none⟩ = some (.func (.func 44) #[] #[])) :
    Calls Try.prog 68 #[v, .string key, .func (.func 69) #[] #[.pointer (some ⟨cb, 0, none⟩)]] w fun e w' => ∃ i, e = .returned (.tuple #[.int .i64 (i : Nat), .bool (thereB l key i)]) ∧ PlaceAt l key i ∧ Below w.heap.size w w' := by
  obtain ⟨ao, m, cap, rfl, hm⟩ := h.form
  have H := Lib.hid h
  have HR := Lib.hid hr
  have hcb := World.block_lt_of_cell? w _ hc
  have hml := h.len okS
  rw [← hm.out] at hml
  clear h hr
  go_enter Try.func68, Try.ntmps68
  go_wp2
  go_loopw [9, 10] (fun iv jv wr => ∃ i j : Nat, i ≤ j ∧ j ≤ m ∧ iv = .int .i64 i ∧ jv = .int .i64 j ∧ Hid (∀ q, q < i → ltS (kAt l q) key = true) ∧ Hid (∀ q, j ≤ q → q < m → ltS (kAt l q) key = false) ∧ Below w.heap.size w wr) (fun iv jv _ => (intOf jv).toNat - (intOf iv).toNat)
  case atStart => exact ⟨0, m, Nat.zero_le _, Nat.le_refl _, rfl, rfl, Lib.hid (fun j hj => by omega), Lib.hid (fun q h1 h2 => by omega), Below.refl _ _⟩
  case round =>
    obtain ⟨i, j, hij, hjm, rfl, rfl, h1, h2, hb⟩ := hrel
    by_cases hlt : i < j
    · obtain ⟨f1, f2, f3, f4, f5, f6⟩ := mid_facts hlt (by omega)
      obtain ⟨g, hg⟩ : ∃ g, (i + j) / 2 = g := ⟨_, rfl⟩
      rw [hg] at f3 f4 f5 f6
      have hgl : g < l.length := by rw [← hm.out]; omega
      obtain ⟨b, off, cap', hv, hB, hc1⟩ := H.out.getS hgl
      obtain ⟨rfl, -, rfl⟩ : ao = some ⟨b, off, none⟩ ∧ m = l.length ∧ cap = cap' := by cases hv; exact ⟨rfl, rfl, rfl⟩
      have d1 := (hb.cell (p := ⟨b, off + g, none⟩) hB).trans hc1
      have dc := (hb.cell (p := ⟨cb, 0, none⟩) hcb).trans hc
      have hgm : g < m := by omega
      have T1 := Lib.hid (fun (q : ltS (kAt l g) key = true) (k : Nat) (hk : k < g + 1) => le_of_ris HR.out (Nat.le_of_lt_succ hk) (hgl) q)
      have T2 := Lib.hid (fun (q : ltS (kAt l g) key = false) (k : Nat) (hk : g ≤ k) (hk2 : k < m) => ge_of_ris HR.out hk (by rw [← hm.out]; exact hk2) q)
      have HG := Lib.hid hg
      clear hv hc1 hg
      have cl := closS_any (kAt l g) key dc
      have hlc := cmpS_lt (kAt l g) key
      generalize kAt l g = x at *
      cases hL : ltS x key
      · rw [hL] at hlc
        have n1 : ¬ cmpS x key < 0 := by simpa using hlc
        have HF := Lib.hid (T2.out hL)
        generalize cmpS x key = z at cl n1
        clear hlc hL T1 T2
        go_wp2_with fail
        refine Calls.mono cl ?_
        rintro e w1 ⟨rfl, b1⟩
        have hb2 := Below.then hb b1 (Nat.le_refl _)
        clear b1 cl d1 dc
        go_wp2
        go_roundw
        case rel => exact ⟨i, g, by omega, by omega, rfl, rfl, h1, HF, hb2⟩
        case measure => simp [intOf]; omega
      · rw [hL] at hlc
        have n1 : cmpS x key < 0 := by simpa using hlc
        have HF := Lib.hid (T1.out hL)
        generalize cmpS x key = z at cl n1
        clear hlc hL T1 T2
        go_wp2_with fail
        refine Calls.mono cl ?_
        rintro e w1 ⟨rfl, b1⟩
        have hb2 := Below.then hb b1 (Nat.le_refl _)
        clear b1 cl d1 dc
        go_wp2
        go_roundw
        case rel => exact ⟨g + 1, j, by omega, hjm, by go_num, rfl, HF, h2, hb2⟩
        case measure => simp [intOf]; omega
    · obtain rfl : i = j := by omega
      have hp : PlaceAt l key i := ⟨by rw [← hm.out]; exact hjm, h1.out, fun q a b => h2.out q a (by rw [← hm.out] at b; exact b)⟩
      have HP := Lib.hid hp
      clear h1 h2 hp
      by_cases hl : i < m
      · have hgl : i < l.length := by rw [← hm.out]; omega
        obtain ⟨b, off, cap', hv, hB, hc1⟩ := H.out.getS hgl
        obtain ⟨rfl, -, rfl⟩ : ao = some ⟨b, off, none⟩ ∧ m = l.length ∧ cap = cap' := by cases hv; exact ⟨rfl, rfl, rfl⟩
        have d1 := (hb.cell (p := ⟨b, off + i, none⟩) hB).trans hc1
        have dc := (hb.cell (p := ⟨cb, 0, none⟩) hcb).trans hc
        have ht : thereB l key i = eqS (kAt l i) key := by unfold thereB; rw [decide_eq_true hgl, Bool.true_and]
        have cl := closS_any (kAt l i) key dc
        rw [← cmpS_eq] at ht
        have HT := Lib.hid ht
        clear hv hc1 ht
        generalize kAt l i = x at *
        generalize cmpS x key = z at *
        go_wp2_with fail
        refine Calls.mono cl ?_
        rintro e w1 ⟨rfl, b1⟩
        have hb2 := Below.then hb b1 (Nat.le_refl _)
        clear b1 cl d1 dc
        go_wp2
        go_ret2
        refine ⟨i, ?_, HP.out, hb2⟩
        rw [HT.out]; rfl
      · have ht : thereB l key i = false := by unfold thereB; rw [← hm.out, decide_eq_false hl]; rfl
        have HT := Lib.hid ht
        clear ht
        go_wp2
        go_ret2
        refine ⟨i, ?_, HP.out, hb⟩
        rw [HT.out]; rfl
theorem placeS_any {w : World} {v : Value} {l : List ByteArray} (h : SlAt elS w.heap.size w v l) (hr : risB l = true) (key : ByteArray) :
    Calls Try.prog 43 #[v, .func (.func 44) #[] #[], .string key] w fun e w' => ∃ i, e = .returned (.tuple #[.int .i64 (i : Nat), .bool (thereB l key i)]) ∧ PlaceAt l key i ∧ Below w.heap.size w w' := by
  have hbn := below_new w (.cells #[.func (.func 44) #[] #[]] 81)
  have c0 : (w.alloc (.cells #[.func (.func 44) #[] #[]] 81)).cell? ⟨w.heap.size, 0, none⟩ = some (.func (.func 44) #[] #[]) := cell_new w _ _ 0 _ rfl
  have bs := bsearchS_any ((h.below hbn).more hbn.size) hr key c0
  obtain ⟨ao, m, cap, rfl, hm⟩ := h.form
  clear h hr
  go_enter Try.func43, Try.ntmps43
  go_wp2_with fail
  refine Calls.mono bs ?_
  rintro e w1 ⟨i, rfl, hp, b1⟩
  have HP := Lib.hid hp
  have hb2 := Below.then hbn b1 (Nat.le_refl _)
  clear b1 hp bs c0 hbn
  go_wp2
  go_ret2
  exact ⟨i, rfl, HP.out, hb2⟩
end Go.Proofs.Ytdkmfcmndncmcaa
