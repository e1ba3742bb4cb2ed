/- The contracts of strings.Compare, BinarySearchFunc and place. No statement of the seat is proved here. -/
import Derived.Test.YtdkmfcmndncmcaaNFormd
import Derived.Test.YtdkmfcmndncmcaaNMath2
import Derived.Laws.Externs
namespace Go.Proofs.Ytdkmfcmndncmcaa
set_option maxRecDepth 20000
open Go.RowKit

set_option maxHeartbeats 1600000 in
theorem cmpString_any (a b : ByteArray) (w : World) : Calls Try.prog 78 #[.string a, .string b] w fun e w' => e = .returned (.int .i64 (cmpS a b)) ∧ w' = w := by
  go_enter Try.func78, Try.ntmps78
  go_wp2_with fail
  rw [run_callFunc_extern Try.func80 (by kernel_rfl) (by kernel_rfl) (by kernel_rfl) (e := Extern.BytealgCompare.compare) (by kernel_rfl), Lib.run_compareString]
  simp only [Result.andThen]
  rw [Oper.upon_value]
  go_wp2
  go_ret
  exact ⟨rfl, rfl⟩
theorem compare_any (a b : ByteArray) (w : World) : Calls Try.prog 67 #[.string a, .string b] w fun e w' => e = .returned (.int .i64 (cmpS a b)) ∧ w' = w := by
  go_enter Try.func67, Try.ntmps67
  go_wp2_with fail
  refine Calls.mono (cmpString_any a b _) ?_
  rintro e _ ⟨rfl, rfl⟩
  go_wp2
  go_ret
  exact ⟨rfl, rfl⟩
theorem closP_any (x : Pr) (key : ByteArray) {w : World} {cb : Nat} (h : w.cell? ⟨cb, 0, none⟩ = some (.func (.func 42) #[] #[])) :
    Calls Try.prog 66 #[prV x, .string key, .pointer (some ⟨cb, 0, none⟩)] w fun e w' => e = .returned (.int .i64 (cmpS x.k key)) ∧ Below w.heap.size w w' := by
  have hcb := World.block_lt_of_cell? w _ h
  have hbn := below_new w (prO x)
  have h1 := (hbn.cell (p := ⟨cb, 0, none⟩) hcb).trans h
  have ofx := ofPair_any x (w.alloc (prO x))
  obtain ⟨xk, xv⟩ := x
  clear h
  go_enter Try.func66, Try.ntmps66
  go_wp2_with fail
  refine Calls.mono ofx ?_
  rintro e w1 ⟨rfl, b1⟩
  go_wp2_with fail
  refine Calls.mono (compare_any xk key _) ?_
  rintro e _ ⟨rfl, rfl⟩
  have hb2 := Below.then hbn b1 (Nat.le_refl _)
  clear ofx h1 b1 hbn
  go_wp2
  go_ret
  exact ⟨rfl, hb2⟩
theorem closS_any (x : ByteArray) (key : ByteArray) {w : World} {cb : Nat} (h : w.cell? ⟨cb, 0, none⟩ = some (.func (.func 44) #[] #[])) :
    Calls Try.prog 69 #[.string x, .string key, .pointer (some ⟨cb, 0, none⟩)] w fun e w' => e = .returned (.int .i64 (cmpS x key)) ∧ Below w.heap.size w w' := by
  have ofx := itself_any x w
  go_enter Try.func69, Try.ntmps69
  go_wp2_with fail
  refine Calls.mono ofx ?_
  rintro e _ ⟨rfl, rfl⟩
  go_wp2_with fail
  refine Calls.mono (compare_any x key _) ?_
  rintro e _ ⟨rfl, rfl⟩
  go_wp2
  go_ret
  exact ⟨rfl, Below.refl _ _⟩
theorem mid_facts {i j : Nat} (hij : i < j) (hj : j ≤ 17592186043904) : IntKind.i64.wrap ((i : Int) + (j : Int)) = (i : Int) + (j : Int) ∧ IntKind.u64.wrap ((i : Int) + (j : Int)) = (i : Int) + (j : Int) ∧ ((i : Int) + (j : Int)) / 2 = (((i + j) / 2 : Nat) : Int) ∧ IntKind.i64.wrap (((i + j) / 2 : Nat) : Int) = (((i + j) / 2 : Nat) : Int) ∧ i ≤ (i + j) / 2 ∧ (i + j) / 2 < j := by
  rw [IntKind.wrap_i64, IntKind.wrap_u64, IntKind.wrap_i64]; omega
set_option maxHeartbeats 1600000 in
theorem bsearchP_any {w : World} {v : Value} {l : List Pr} (h : SlAt elP w.heap.size w v l) (hr : risB (ksOf l) = true) (key : ByteArray) {cb : Nat} (hc : w.cell? ⟨cb, 0, none⟩ = some (.func (.func 42) #[] #[])) :
    Calls Try.prog 65 #[v, .string key, .func (.func 66) #[] #[.pointer (some ⟨cb, 0, none⟩)]] w fun e w' => ∃ i, e = .returned (.tuple #[.int .i64 (i : Nat), .bool (thereB (ksOf l) key i)]) ∧ PlaceAt (ksOf l) key i ∧ Below w.heap.size w w' := by
  obtain ⟨ao, m, cap, rfl, hm⟩ := h.form
  have H := Lib.hid h
  have HR := Lib.hid hr
  have hcb := World.block_lt_of_cell? w _ hc
  have hml := h.len okP
  rw [← hm.out] at hml
  clear h hr
  go_enter Try.func65, Try.ntmps65
  go_wp2
  go_loopw [9, 10] (fun iv jv wr => ∃ i j : Nat, i ≤ j ∧ j ≤ m ∧ iv = .int .i64 i ∧ jv = .int .i64 j ∧ Hid (∀ q, q < i → ltS (kAt (ksOf l) q) key = true) ∧ Hid (∀ q, j ≤ q → q < m → ltS (kAt (ksOf l) q) key = false) ∧ Below w.heap.size w wr) (fun iv jv _ => (intOf jv).toNat - (intOf iv).toNat)
  case atStart => exact ⟨0, m, Nat.zero_le _, Nat.le_refl _, rfl, rfl, Lib.hid (fun j hj => by omega), Lib.hid (fun q h1 h2 => by omega), Below.refl _ _⟩
  case round =>
    obtain ⟨i, j, hij, hjm, rfl, rfl, h1, h2, hb⟩ := hrel
    by_cases hlt : i < j
    · obtain ⟨f1, f2, f3, f4, f5, f6⟩ := mid_facts hlt (by omega)
      obtain ⟨g, hg⟩ : ∃ g, (i + j) / 2 = g := ⟨_, rfl⟩
      rw [hg] at f3 f4 f5 f6
      have hgl : g < l.length := by rw [← hm.out]; omega
      obtain ⟨b, off, cap', hv, hB, hc1, hc2⟩ := H.out.getP hgl
      obtain ⟨rfl, -, rfl⟩ : ao = some ⟨b, off, none⟩ ∧ m = l.length ∧ cap = cap' := by cases hv; exact ⟨rfl, rfl, rfl⟩
      have d1 := (hb.cell (p := ⟨b, off + g * 2, none⟩) hB).trans hc1
      have d2 := (hb.cell (p := ⟨b, off + g * 2 + 1, none⟩) hB).trans hc2
      have dc := (hb.cell (p := ⟨cb, 0, none⟩) hcb).trans hc
      have hgm : g < m := by omega
      have T1 := Lib.hid (fun (q : ltS (kAt (ksOf l) g) key = true) (k : Nat) (hk : k < g + 1) => le_of_ris HR.out (Nat.le_of_lt_succ hk) (by rw [ksOf_length]; exact hgl) q)
      have T2 := Lib.hid (fun (q : ltS (kAt (ksOf l) g) key = false) (k : Nat) (hk : g ≤ k) (hk2 : k < m) => ge_of_ris HR.out hk (by rw [ksOf_length, ← hm.out]; exact hk2) q)
      have HG := Lib.hid hg
      clear hv hc1 hc2 hg
      have cl := closP_any (prAt l g) key dc
      have hlc := cmpS_lt (prAt l g).k key
      rw [ksOf_at l hgl] at T1 T2
      generalize prAt l g = x at *
      obtain ⟨xk, xv⟩ := x
      simp only at hlc cl
      cases hL : ltS xk key
      · rw [hL] at hlc
        have n1 : ¬ cmpS xk key < 0 := by simpa using hlc
        have HF := Lib.hid (T2.out hL)
        generalize cmpS xk key = z at cl n1
        clear hlc hL T1 T2
        go_wp2_with fail
        refine Calls.mono cl ?_
        rintro e w1 ⟨rfl, b1⟩
        have hb2 := Below.then hb b1 (Nat.le_refl _)
        clear b1 cl d1 d2 dc
        go_wp2
        go_roundw
        case rel => exact ⟨i, g, by omega, by omega, rfl, rfl, h1, HF, hb2⟩
        case measure => simp [intOf]; omega
      · rw [hL] at hlc
        have n1 : cmpS xk key < 0 := by simpa using hlc
        have HF := Lib.hid (T1.out hL)
        generalize cmpS xk key = z at cl n1
        clear hlc hL T1 T2
        go_wp2_with fail
        refine Calls.mono cl ?_
        rintro e w1 ⟨rfl, b1⟩
        have hb2 := Below.then hb b1 (Nat.le_refl _)
        clear b1 cl d1 d2 dc
        go_wp2
        go_roundw
        case rel => exact ⟨g + 1, j, by omega, hjm, by go_num, rfl, HF, h2, hb2⟩
        case measure => simp [intOf]; omega
    · obtain rfl : i = j := by omega
      have hp : PlaceAt (ksOf l) key i := ⟨by rw [ksOf_length, ← hm.out]; exact hjm, h1.out, fun q a b => h2.out q a (by rw [ksOf_length, ← hm.out] at b; exact b)⟩
      have HP := Lib.hid hp
      clear h1 h2 hp
      by_cases hl : i < m
      · have hgl : i < l.length := by rw [← hm.out]; omega
        obtain ⟨b, off, cap', hv, hB, hc1, hc2⟩ := H.out.getP hgl
        obtain ⟨rfl, -, rfl⟩ : ao = some ⟨b, off, none⟩ ∧ m = l.length ∧ cap = cap' := by cases hv; exact ⟨rfl, rfl, rfl⟩
        have d1 := (hb.cell (p := ⟨b, off + i * 2, none⟩) hB).trans hc1
        have d2 := (hb.cell (p := ⟨b, off + i * 2 + 1, none⟩) hB).trans hc2
        have dc := (hb.cell (p := ⟨cb, 0, none⟩) hcb).trans hc
        have ht : thereB (ksOf l) key i = eqS (prAt l i).k key := by unfold thereB; rw [ksOf_length, decide_eq_true hgl, Bool.true_and, ksOf_at l hgl]
        have cl := closP_any (prAt l i) key dc
        rw [← cmpS_eq] at ht
        have HT := Lib.hid ht
        clear hv hc1 hc2 ht
        generalize prAt l i = x at *
        obtain ⟨xk, xv⟩ := x
        simp only at cl HT
        generalize cmpS xk key = z at *
        go_wp2_with fail
        refine Calls.mono cl ?_
        rintro e w1 ⟨rfl, b1⟩
        have hb2 := Below.then hb b1 (Nat.le_refl _)
        clear b1 cl d1 d2 dc
        go_wp2
        go_ret2
        refine ⟨i, ?_, HP.out, hb2⟩
        rw [HT.out]; rfl
      · have ht : thereB (ksOf l) key i = false := by unfold thereB; rw [ksOf_length, ← hm.out, decide_eq_false hl]; rfl
        have HT := Lib.hid ht
        clear ht
        go_wp2
        go_ret2
        refine ⟨i, ?_, HP.out, hb⟩
        rw [HT.out]; rfl
theorem placeP_any {w : World} {v : Value} {l : List Pr} (h : SlAt elP w.heap.size w v l) (hr : risB (ksOf l) = true) (key : ByteArray) :
    Calls Try.prog 41 #[v, .func (.func 42) #[] #[], .string key] w fun e w' => ∃ i, e = .returned (.tuple #[.int .i64 (i : Nat), .bool (thereB (ksOf l) key i)]) ∧ PlaceAt (ksOf l) key i ∧ Below w.heap.size w w' := by
  have hbn := below_new w (.cells #[.func (.func 42) #[] #[]] 79)
  have c0 : (w.alloc (.cells #[.func (.func 42) #[] #[]] 79)).cell? ⟨w.heap.size, 0, none⟩ = some (.func (.func 42) #[] #[]) := cell_new w _ _ 0 _ rfl
  have bs := bsearchP_any ((h.below hbn).more hbn.size) hr key c0
  obtain ⟨ao, m, cap, rfl, hm⟩ := h.form
  clear h hr
  go_enter Try.func41, Try.ntmps41
  go_wp2_with fail
  refine Calls.mono bs ?_
  rintro e w1 ⟨i, rfl, hp, b1⟩
  have HP := Lib.hid hp
  have hb2 := Below.then hbn b1 (Nat.le_refl _)
  clear b1 hp bs c0 hbn
  go_wp2
  go_ret2
  exact ⟨i, rfl, HP.out, hb2⟩
end Go.Proofs.Ytdkmfcmndncmcaa
