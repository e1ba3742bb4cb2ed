/- The contracts of superRec, logRec, homeRec and of the document's own DocEncode. No statement of the seat is proved here. -/
import Derived.Test.YtmkomhdlcbimoaaRRef2
namespace Go.Proofs.Ytmkomhdlcbimoaa
set_option maxRecDepth 20000
open Go.RowKit

def RecRet (w : World) (k : Int) (zs : List Int) (t : ByteArray) (e : Ending) (w' : World) : Prop := ∃ nv, e = .returned (recV k nv t) ∧ IntC w' nv zs ∧ Below w.heap.size w w'
theorem zeroRec (w : World) : (zeroValue 34).run Try.prog w = .ok (.agg #[.int .i64 0, .slice none 0 0, .string ⟨#[]⟩]) w := (zero_of_info (n := 3) (by kernel_rfl)).1 w
theorem intc_of_row {w : World} {g : Nat} {zs : List Int} (hz : zs.length ≤ 4000) (h : w.heap[g]? = some (.cells (zs.map (Value.int .i64)).toArray 3 (0, 0))) : IntC w (.slice (some ⟨g, 0, none⟩) zs.length zs.length) zs := by
  refine ⟨_, _, rfl, Nat.le_refl _, hz, fun _ => ⟨_, _, rfl, fun i hi => ?_⟩⟩
  rw [cell_of_row _ _ _ _ _ _ h]
  simp [List.getD_eq_getElem?_getD, List.getElem?_eq_getElem hi]


set_option maxRecDepth 20000 in
set_option maxHeartbeats 1600000 in
theorem superRec_any (g e t : Int) (w : World) : Calls Try.prog 12 #[superV g e t] w (RecRet w 1 [g, e, t] ByteArray.empty) := by
  have B0 := below_new w (.cells #[.int .i64 g, .int .i64 e, .int .i64 t] 23)
  have B1 := B0.alloc B0.size (.cells #[.int .i64 0, .slice none 0 0, .string ⟨#[]⟩] 34)
  have B2 := B1.alloc B1.size (.cells #[.int .i64 g, .int .i64 e, .int .i64 t] 3)
  have g1 := heap_alloc_new (w.alloc (.cells #[.int .i64 g, .int .i64 e, .int .i64 t] 23)) (.cells #[.int .i64 0, .slice none 0 0, .string ⟨#[]⟩] 34)
  rw [size_alloc] at g1
  have g2 := (Below.heap_alloc ((w.alloc (.cells #[.int .i64 g, .int .i64 e, .int .i64 t] 23)).alloc (.cells #[.int .i64 0, .slice none 0 0, .string ⟨#[]⟩] 34)) (.cells #[.int .i64 g, .int .i64 e, .int .i64 t] 3) (w.heap.size + 1) (by simp)).trans g1
  have g3 := heap_alloc_new ((w.alloc (.cells #[.int .i64 g, .int .i64 e, .int .i64 t] 23)).alloc (.cells #[.int .i64 0, .slice none 0 0, .string ⟨#[]⟩] 34)) (.cells #[.int .i64 g, .int .i64 e, .int .i64 t] 3)
  rw [size_alloc, size_alloc] at g3
  have hbd : ∀ w', (Instr.build 34 #[(0, .int .i64 1), (1, .slice (some ⟨w.heap.size + 1 + 1, 0, none⟩) 3 3)]).run Try.prog w' = .ok (.agg #[.int .i64 1, .slice (some ⟨w.heap.size + 1 + 1, 0, none⟩) 3 3, .string ⟨#[]⟩]) w' := fun w' => run_build w' 34 _ _ (by kernel_rfl)
  have K1 : StoreOk 34 #[.int .i64 0, .slice none 0 0, .string ⟨#[]⟩] #[.int .i64 1, .slice (some ⟨w.heap.size + 1 + 1, 0, none⟩) 3 3, .string ⟨#[]⟩] := ⟨by kernel_rfl, rfl, by simp [Value.oneCell']⟩
  go_enter Try.func12, Try.ntmps12
  go_wp2_with (with_reducible refine wpList_store_row2 rfl 34 (.tmp 2) (.tmp 10) rfl (w.heap.size + 1) #[.int .i64 1, .slice (some ⟨w.heap.size + 1 + 1, 0, none⟩) 3 3, .string ⟨#[]⟩] rfl rfl 34 #[.int .i64 0, .slice none 0 0, .string ⟨#[]⟩] g2 K1 ?_)
  generalize ((w.alloc (.cells #[.int .i64 g, .int .i64 e, .int .i64 t] 23)).alloc (.cells #[.int .i64 0, .slice none 0 0, .string ⟨#[]⟩] 34)).alloc (.cells #[.int .i64 g, .int .i64 e, .int .i64 t] 3) = w3 at g2 g3 B2 ⊢
  have gR : (w3.setRow (w.heap.size + 1) #[.int .i64 1, .slice (some ⟨w.heap.size + 1 + 1, 0, none⟩) 3 3, .string ⟨#[]⟩]).heap[w.heap.size + 1]? = some (.cells #[.int .i64 1, .slice (some ⟨w.heap.size + 1 + 1, 0, none⟩) 3 3, .string ⟨#[]⟩] 34 (0, 0)) := setRow_heap w3 _ _ _ _ _ g2
  have gI := (setRow_other w3 (w.heap.size + 1) (w.heap.size + 1 + 1) #[.int .i64 1, .slice (some ⟨w.heap.size + 1 + 1, 0, none⟩) 3 3, .string ⟨#[]⟩] (by omega)).trans g3
  have BR := below_setRow B2 (Nat.le_succ w.heap.size) #[.int .i64 1, .slice (some ⟨w.heap.size + 1 + 1, 0, none⟩) 3 3, .string ⟨#[]⟩]
  generalize w3.setRow (w.heap.size + 1) #[.int .i64 1, .slice (some ⟨w.heap.size + 1 + 1, 0, none⟩) 3 3, .string ⟨#[]⟩] = w4 at gR gI BR ⊢
  have s0 : w4.cell? ⟨w.heap.size + 1, 0, none⟩ = some (.int .i64 1) := cell_row gR 0 rfl
  have s1 : w4.cell? ⟨w.heap.size + 1, 1, none⟩ = some (.slice (some ⟨w.heap.size + 1 + 1, 0, none⟩) 3 3) := cell_row gR 1 rfl
  have s2 : w4.cell? ⟨w.heap.size + 1, 2, none⟩ = some (.string ⟨#[]⟩) := cell_row gR 2 rfl
  have hI := intc_of_row (zs := [g, e, t]) (by simp) gI
  clear g1 g2 g3 hbd K1 B0 B1 B2 gR gI
  go_wp2
  exact bodyPost_ret (v := .agg #[.int .i64 1, .slice (some ⟨w.heap.size + 1 + 1, 0, none⟩) 3 3, .string ⟨#[]⟩]) (by simp [results, Try.results12, go_sem, s0, s1, s2]) rfl ⟨_, rfl, hI, BR⟩


set_option maxRecDepth 20000 in
set_option maxHeartbeats 1600000 in
theorem homeRec_any (p : Int) (d : ByteArray) (w : World) : Calls Try.prog 16 #[homeV p d] w (RecRet w 3 [p] d) := by
  have B0 := below_new w (.cells #[.int .i64 p, .string d] 27)
  have B1 := B0.alloc B0.size (.cells #[.int .i64 0, .slice none 0 0, .string ⟨#[]⟩] 34)
  have B2 := B1.alloc B1.size (.cells #[.int .i64 p] 3)
  have g1 := heap_alloc_new (w.alloc (.cells #[.int .i64 p, .string d] 27)) (.cells #[.int .i64 0, .slice none 0 0, .string ⟨#[]⟩] 34)
  rw [size_alloc] at g1
  have g2 := (Below.heap_alloc ((w.alloc (.cells #[.int .i64 p, .string d] 27)).alloc (.cells #[.int .i64 0, .slice none 0 0, .string ⟨#[]⟩] 34)) (.cells #[.int .i64 p] 3) (w.heap.size + 1) (by simp)).trans g1
  have g3 := heap_alloc_new ((w.alloc (.cells #[.int .i64 p, .string d] 27)).alloc (.cells #[.int .i64 0, .slice none 0 0, .string ⟨#[]⟩] 34)) (.cells #[.int .i64 p] 3)
  rw [size_alloc, size_alloc] at g3
  have hbd : ∀ w', (Instr.build 34 #[(0, .int .i64 3), (1, .slice (some ⟨w.heap.size + 1 + 1, 0, none⟩) 1 1), (2, .string d)]).run Try.prog w' = .ok (.agg #[.int .i64 3, .slice (some ⟨w.heap.size + 1 + 1, 0, none⟩) 1 1, .string d]) w' := fun w' => run_build w' 34 _ _ (by kernel_rfl)
  have K1 : StoreOk 34 #[.int .i64 0, .slice none 0 0, .string ⟨#[]⟩] #[.int .i64 3, .slice (some ⟨w.heap.size + 1 + 1, 0, none⟩) 1 1, .string d] := ⟨by kernel_rfl, rfl, by simp [Value.oneCell']⟩
  go_enter Try.func16, Try.ntmps16
  go_wp2_with (with_reducible refine wpList_store_row2 rfl 34 (.tmp 2) (.tmp 8) rfl (w.heap.size + 1) #[.int .i64 3, .slice (some ⟨w.heap.size + 1 + 1, 0, none⟩) 1 1, .string d] rfl rfl 34 #[.int .i64 0, .slice none 0 0, .string ⟨#[]⟩] g2 K1 ?_)
  generalize ((w.alloc (.cells #[.int .i64 p, .string d] 27)).alloc (.cells #[.int .i64 0, .slice none 0 0, .string ⟨#[]⟩] 34)).alloc (.cells #[.int .i64 p] 3) = w3 at g2 g3 B2 ⊢
  have gR : (w3.setRow (w.heap.size + 1) #[.int .i64 3, .slice (some ⟨w.heap.size + 1 + 1, 0, none⟩) 1 1, .string d]).heap[w.heap.size + 1]? = some (.cells #[.int .i64 3, .slice (some ⟨w.heap.size + 1 + 1, 0, none⟩) 1 1, .string d] 34 (0, 0)) := setRow_heap w3 _ _ _ _ _ g2
  have gI := (setRow_other w3 (w.heap.size + 1) (w.heap.size + 1 + 1) #[.int .i64 3, .slice (some ⟨w.heap.size + 1 + 1, 0, none⟩) 1 1, .string d] (by omega)).trans g3
  have BR := below_setRow B2 (Nat.le_succ w.heap.size) #[.int .i64 3, .slice (some ⟨w.heap.size + 1 + 1, 0, none⟩) 1 1, .string d]
  generalize w3.setRow (w.heap.size + 1) #[.int .i64 3, .slice (some ⟨w.heap.size + 1 + 1, 0, none⟩) 1 1, .string d] = w4 at gR gI BR ⊢
  have s0 : w4.cell? ⟨w.heap.size + 1, 0, none⟩ = some (.int .i64 3) := cell_row gR 0 rfl
  have s1 : w4.cell? ⟨w.heap.size + 1, 1, none⟩ = some (.slice (some ⟨w.heap.size + 1 + 1, 0, none⟩) 1 1) := cell_row gR 1 rfl
  have s2 : w4.cell? ⟨w.heap.size + 1, 2, none⟩ = some (.string d) := cell_row gR 2 rfl
  have hI := intc_of_row (zs := [p]) (by simp) gI
  clear g1 g2 g3 hbd K1 B0 B1 B2 gR gI
  go_wp2
  exact bodyPost_ret (v := .agg #[.int .i64 3, .slice (some ⟨w.heap.size + 1 + 1, 0, none⟩) 1 1, .string d]) (by simp [results, Try.results16, go_sem, s0, s1, s2]) rfl ⟨_, rfl, hI, BR⟩


set_option maxRecDepth 20000 in
set_option maxHeartbeats 1600000 in
theorem logRec_any (a b c d e f g : Int) (s : ByteArray) (w : World) : Calls Try.prog 14 #[logVal ⟨a, b, c, d, e, f, g, s⟩] w (RecRet w 2 [a, b, c, d, e, f, g] s) := by
  have B0 := below_new w (.cells #[.int .i64 a, .int .i64 b, .int .i64 c, .int .i64 d, .int .i64 e, .int .i64 f, .int .i64 g, .string s] 25)
  have B1 := B0.alloc B0.size (.cells #[.int .i64 0, .slice none 0 0, .string ⟨#[]⟩] 34)
  have B2 := B1.alloc B1.size (.cells #[.int .i64 a, .int .i64 b, .int .i64 c, .int .i64 d, .int .i64 e, .int .i64 f, .int .i64 g] 3)
  have g1 := heap_alloc_new (w.alloc (.cells #[.int .i64 a, .int .i64 b, .int .i64 c, .int .i64 d, .int .i64 e, .int .i64 f, .int .i64 g, .string s] 25)) (.cells #[.int .i64 0, .slice none 0 0, .string ⟨#[]⟩] 34)
  rw [size_alloc] at g1
  have g2 := (Below.heap_alloc ((w.alloc (.cells #[.int .i64 a, .int .i64 b, .int .i64 c, .int .i64 d, .int .i64 e, .int .i64 f, .int .i64 g, .string s] 25)).alloc (.cells #[.int .i64 0, .slice none 0 0, .string ⟨#[]⟩] 34)) (.cells #[.int .i64 a, .int .i64 b, .int .i64 c, .int .i64 d, .int .i64 e, .int .i64 f, .int .i64 g] 3) (w.heap.size + 1) (by simp)).trans g1
  have g3 := heap_alloc_new ((w.alloc (.cells #[.int .i64 a, .int .i64 b, .int .i64 c, .int .i64 d, .int .i64 e, .int .i64 f, .int .i64 g, .string s] 25)).alloc (.cells #[.int .i64 0, .slice none 0 0, .string ⟨#[]⟩] 34)) (.cells #[.int .i64 a, .int .i64 b, .int .i64 c, .int .i64 d, .int .i64 e, .int .i64 f, .int .i64 g] 3)
  rw [size_alloc, size_alloc] at g3
  have hbd : ∀ w', (Instr.build 34 #[(0, .int .i64 2), (1, .slice (some ⟨w.heap.size + 1 + 1, 0, none⟩) 7 7), (2, .string s)]).run Try.prog w' = .ok (.agg #[.int .i64 2, .slice (some ⟨w.heap.size + 1 + 1, 0, none⟩) 7 7, .string s]) w' := fun w' => run_build w' 34 _ _ (by kernel_rfl)
  have K1 : StoreOk 34 #[.int .i64 0, .slice none 0 0, .string ⟨#[]⟩] #[.int .i64 2, .slice (some ⟨w.heap.size + 1 + 1, 0, none⟩) 7 7, .string s] := ⟨by kernel_rfl, rfl, by simp [Value.oneCell']⟩
  go_enter Try.func14, Try.ntmps14
  go_wp2_with (with_reducible refine wpList_store_row2 rfl 34 (.tmp 2) (.tmp 20) rfl (w.heap.size + 1) #[.int .i64 2, .slice (some ⟨w.heap.size + 1 + 1, 0, none⟩) 7 7, .string s] rfl rfl 34 #[.int .i64 0, .slice none 0 0, .string ⟨#[]⟩] g2 K1 ?_)
  generalize ((w.alloc (.cells #[.int .i64 a, .int .i64 b, .int .i64 c, .int .i64 d, .int .i64 e, .int .i64 f, .int .i64 g, .string s] 25)).alloc (.cells #[.int .i64 0, .slice none 0 0, .string ⟨#[]⟩] 34)).alloc (.cells #[.int .i64 a, .int .i64 b, .int .i64 c, .int .i64 d, .int .i64 e, .int .i64 f, .int .i64 g] 3) = w3 at g2 g3 B2 ⊢
  have gR : (w3.setRow (w.heap.size + 1) #[.int .i64 2, .slice (some ⟨w.heap.size + 1 + 1, 0, none⟩) 7 7, .string s]).heap[w.heap.size + 1]? = some (.cells #[.int .i64 2, .slice (some ⟨w.heap.size + 1 + 1, 0, none⟩) 7 7, .string s] 34 (0, 0)) := setRow_heap w3 _ _ _ _ _ g2
  have gI := (setRow_other w3 (w.heap.size + 1) (w.heap.size + 1 + 1) #[.int .i64 2, .slice (some ⟨w.heap.size + 1 + 1, 0, none⟩) 7 7, .string s] (by omega)).trans g3
  have BR := below_setRow B2 (Nat.le_succ w.heap.size) #[.int .i64 2, .slice (some ⟨w.heap.size + 1 + 1, 0, none⟩) 7 7, .string s]
  generalize w3.setRow (w.heap.size + 1) #[.int .i64 2, .slice (some ⟨w.heap.size + 1 + 1, 0, none⟩) 7 7, .string s] = w4 at gR gI BR ⊢
  have s0 : w4.cell? ⟨w.heap.size + 1, 0, none⟩ = some (.int .i64 2) := cell_row gR 0 rfl
  have s1 : w4.cell? ⟨w.heap.size + 1, 1, none⟩ = some (.slice (some ⟨w.heap.size + 1 + 1, 0, none⟩) 7 7) := cell_row gR 1 rfl
  have s2 : w4.cell? ⟨w.heap.size + 1, 2, none⟩ = some (.string s) := cell_row gR 2 rfl
  have hI := intc_of_row (zs := [a, b, c, d, e, f, g]) (by simp) gI
  clear g1 g2 g3 hbd K1 B0 B1 B2 gR gI
  go_wp2
  exact bodyPost_ret (v := .agg #[.int .i64 2, .slice (some ⟨w.heap.size + 1 + 1, 0, none⟩) 7 7, .string s]) (by simp [results, Try.results14, go_sem, s0, s1, s2]) rfl ⟨_, rfl, hI, BR⟩


def drE (k : Int) (zs : List Int) (t : ByteArray) : Int := if rightB k zs t then 0 else 2
def drR (k : Int) (zs : List Int) (t : ByteArray) : List UInt8 := if rightB k zs t then sectB (recI k zs t) else []
theorem right_facts {k : Int} {zs : List Int} {t : ByteArray} (h : rightB k zs t = true) : zs.length ≤ 7 ∧ t.size ≤ 160 := by
  unfold rightB at h
  simp only [Bool.and_eq_true, decide_eq_true_eq] at h
  have : cnt k ≤ 7 := by unfold cnt; split <;> (try split) <;> omega
  omega
set_option maxRecDepth 20000 in
set_option maxHeartbeats 1600000 in
theorem docRec_any {w : World} {nv : Value} {zs : List Int} (h : IntC w nv zs) (hz : ∀ z ∈ zs, inI z) (k : Int) (hk : k = 1 ∨ k = 2 ∨ k = 3) (t : ByteArray) (ht : t.size ≤ maxLen) : Calls Try.prog 11 #[recV k nv t] w (StrRetE w (strOf (drR k zs t)) (drE k zs t)) := by
  obtain ⟨ao, m, cap, hv, hm⟩ : ∃ ao m cap, nv = .slice ao m cap ∧ Hid (m = zs.length) := by
    obtain ⟨ao, cap, hv, _⟩ := h
    exact ⟨ao, _, cap, hv, Lib.hid rfl⟩
  subst hv
  have B0 := below_new w (.cells #[.int .i64 k, .slice ao m cap, .string t] 34)
  have g0 := heap_alloc_new w (.cells #[.int .i64 k, .slice ao m cap, .string t] 34)
  have hri := right_any (h.below B0) k hk t ht
  unfold drR drE
  cases hr : rightB k zs t
  · rw [hr] at hri
    clear hr
    go_enter Try.func11, Try.ntmps11
    go_wp2_with fail
    refine Calls.mono hri ?_
    rintro e w1 ⟨rfl, b1⟩
    clear hri
    go_wp2
    go_ret2
    exact ⟨rfl, B0.trans (b1.mono B0.size)⟩
  · rw [hr] at hri
    obtain ⟨h7, h16⟩ := right_facts hr
    have hik : inI k := by rcases hk with rfl | rfl | rfl <;> exact ⟨by decide, by decide⟩
    have hI := h.below B0
    clear hr h
    go_enter Try.func11, Try.ntmps11
    go_wp2_with fail
    refine Calls.mono hri ?_
    rintro e w1 ⟨rfl, b1⟩
    have B1 := B0.trans (b1.mono B0.size)
    have g1 := (b1.block w.heap.size (by simp)).trans g0
    have s0 : w1.cell? ⟨w.heap.size, 0, none⟩ = some (.int .i64 k) := cell_row g1 0 rfl
    have s1 : w1.cell? ⟨w.heap.size, 1, none⟩ = some (.slice ao m cap) := cell_row g1 1 rfl
    have s2 : w1.cell? ⟨w.heap.size, 2, none⟩ = some (.string t) := cell_row g1 2 rfl
    have hen := recEncode_any (hI.below b1) h7 hz k hik t h16
    clear hri g0 g1 hI b1 B0 hk
    go_wp2_with fail
    refine Calls.mono hen ?_
    rintro e w2 ⟨rfl, b2⟩
    clear hen
    go_wp2
    go_ret2
    exact ⟨rfl, B1.trans (b2.mono B1.size)⟩
theorem dr_super (g e t : Int) : rightB 1 [g, e, t] ByteArray.empty = superOk g e t := by
  have : ByteArray.empty.size = 0 := rfl
  simp only [rightB, cnt, allNat, superOk, this]
  simp
theorem dr_home (p : Int) (d : ByteArray) : rightB 3 [p] d = homeOk p d := by
  simp only [rightB, cnt, allNat, homeOk]
  simp [Bool.and_comm]
theorem dr_log (l : Lg) : rightB 2 [l.kind, l.epoch, l.seq, l.tx, l.index, l.count, l.page] l.data = logOk l := by
  unfold rightB cnt allNat logOk
  rw [Bool.eq_iff_iff]
  simp only [List.length_cons, List.length_nil, List.all_cons, List.all_nil, Bool.and_eq_true, decide_eq_true_eq, Bool.and_true]
  have e0 : [l.kind, l.epoch, l.seq, l.tx, l.index, l.count, l.page].getD 0 0 = l.kind := rfl
  have e6 : [l.kind, l.epoch, l.seq, l.tx, l.index, l.count, l.page].getD 6 0 = l.page := rfl
  rw [e0, e6]
  simp only [show ¬ (2 : Int) = 1 by decide, if_false, if_true, decide_eq_true_eq, true_and]
  generalize l.data.size = ds
  constructor
  · rintro ⟨⟨h1, h2⟩, h3⟩
    refine ⟨h2.2, ?_⟩
    omega
  · rintro ⟨h1, h2⟩
    refine ⟨⟨by omega, by omega, h1⟩, by omega⟩
end Go.Proofs.Ytmkomhdlcbimoaa
