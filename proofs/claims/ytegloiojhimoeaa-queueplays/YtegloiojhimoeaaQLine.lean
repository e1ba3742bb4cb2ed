/- The queue's line as it lies in memory ('LineAt'); its Less and Swap told by it. No statement of the seat is proved here. -/
import Derived.Test.YtegloiojhimoeaaQSwap
import Derived.Test.YtegloiojhimoeaaOwn
import Derived.Laws.OwnMore
namespace Go.Proofs.Ytegloiojhimoeaa
open Go.RowKit

def wtCells (x : Wt) (i : Nat) : Array Value := #[.int .i64 x.id, .float .f64 x.pr, .int .i64 x.turn, .int .i64 i]
/-- THE LINE L OF THE QUEUE AT BLOCK qb, all its blocks outside X; mv, pu: what else stands in the queue. -/
structure LineAt (X : Nat → Prop) (w : World) (qb : Nat) (mv : Value) (pu : Nat) (L : List Wt) : Prop where
  lt : ∀ k, X k → k < w.heap.size
  qo : ¬ X qb
  len : L.length ≤ 1000
  box : ∃ lv, w.heap[qb]? = some (.cells #[lv, mv, .int .i64 pu] 59 (0, 0)) ∧ w.ownsRow 0 66 1 lv L.length (L.map ptrW) ∧ ∀ k, lv.ownBlock = some k → ¬ X k
  wt : ∀ i, i < L.length → ¬ X (at' L i).blk ∧ w.heap[(at' L i).blk]? = some (.cells (wtCells (at' L i) i) 68 (0, 0))
  nd : ∀ i j, i < L.length → j < L.length → (at' L i).blk = (at' L j).blk → i = j
  ok : ∀ i, i < L.length → (at' L i).pr < 18446744073709551616 ∧ (at' L i).turn < 4611686018427387904

theorem LineAt.keep {X X' : Nat → Prop} {w w' : World} {qb : Nat} {mv : Value} {pu : Nat} {L : List Wt} (h : LineAt X w qb mv pu L) (hk : ∀ (k : Nat) o, ¬ X k → w.heap[k]? = some o → w'.heap[k]? = some o) (hX : ∀ k, k < w.heap.size → X' k → X k) (hl : ∀ k, X' k → k < w'.heap.size) : LineAt X' w' qb mv pu L := by
  obtain ⟨lt, qo, len, ⟨lv, h1, h2, h3⟩, wt, nd, ok⟩ := h
  refine ⟨hl, fun e => qo (hX _ (lt_of_heap h1) e), len, ⟨lv, hk _ _ qo h1, ?_, fun k hk' e => h3 k hk' (hX _ (World.ownsRow.lt h2 k hk').2 e)⟩, fun i hi => ?_, nd, ok⟩
  · refine ownsRow_keep h2 (fun k hk' => ?_)
    have hl := (World.ownsRow.lt h2 k hk').2
    have e : w.heap[k]? = some w.heap[k] := Array.getElem?_eq_getElem hl
    rw [hk k _ (h3 k hk') e, e]
  · obtain ⟨a, b⟩ := wt i hi
    exact ⟨fun e => a (hX _ (lt_of_heap b) e), hk _ _ a b⟩
theorem LineAt.below {X : Nat → Prop} {w w' : World} {qb : Nat} {mv : Value} {pu : Nat} {L : List Wt} (h : LineAt X w qb mv pu L) (hb : Below w.heap.size w w') : LineAt X w' qb mv pu L :=
  h.keep (fun k _ _ ho => (hb.block k (lt_of_heap ho)).trans ho) (fun _ _ e => e) (fun k e => Nat.lt_of_lt_of_le (h.lt k e) hb.size)
theorem LineAt.less {X X' : Nat → Prop} {w : World} {qb : Nat} {mv : Value} {pu : Nat} {L : List Wt} (h : LineAt X w qb mv pu L) (hX : ∀ k, X' k → X k) : LineAt X' w qb mv pu L :=
  h.keep (fun _ _ _ ho => ho) (fun k _ e => hX k e) (fun k e => h.lt k (hX k e))
theorem LineAt.drewN {X : Nat → Prop} {w : World} {qb : Nat} {mv : Value} {pu : Nat} {L : List Wt} (h : LineAt X w qb mv pu L) (n : Nat) : LineAt X (w.drewN n) qb mv pu L := ⟨h.lt, h.qo, h.len, h.box, h.wt, h.nd, h.ok⟩
theorem LineAt.wtIn {X : Nat → Prop} {w : World} {qb : Nat} {mv : Value} {pu : Nat} {L : List Wt} (h : LineAt X w qb mv pu L) {i : Nat} (hi : i < L.length) : WtIn w (at' L i) :=
  ⟨cell_row (h.wt i hi).2 1 rfl, cell_row (h.wt i hi).2 2 rfl⟩
theorem ptr_at {L : List Wt} {i : Nat} (hi : i < L.length) : (L.map ptrW)[i]? = some (ptrW (at' L i)) := by rw [List.getElem?_map, at_some hi]; rfl

/-- the slice's form, where there is one -/
theorem LineAt.row {X : Nat → Prop} {w : World} {qb : Nat} {mv : Value} {pu : Nat} {L : List Wt} (h : LineAt X w qb mv pu L) (h0 : 0 < L.length) : ∃ rb cap, w.heap[qb]? = some (.cells #[.slice (some ⟨rb, 0, none⟩) L.length cap, mv, .int .i64 pu] 59 (0, 0)) ∧
    w.ownsRow 0 66 1 (.slice (some ⟨rb, 0, none⟩) L.length cap) L.length (L.map ptrW) ∧ ¬ X rb := by
  obtain ⟨lv, h1, h2, h3⟩ := h.box
  obtain ⟨g, cap, hv, _, _⟩ := World.ownsRow.form h2 h0
  subst hv
  exact ⟨g, cap, h1, h2, h3 g rfl⟩
theorem row_obj {w : World} {rb n cap : Nat} {xs : List Value} (h : w.ownsRow 0 66 1 (.slice (some ⟨rb, 0, none⟩) n cap) n xs) : ∃ cur, w.heap[rb]? = some (.cells cur 66 (0, 0)) := by
  rcases h.2 with ⟨h', _⟩ | ⟨g', cap', cur, h', _, hg, _⟩
  · simp at h'
  · simp only [Value.slice.injEq, Option.some.injEq, Addr.mk.injEq, and_true, true_and] at h'
    obtain ⟨rfl, rfl⟩ := h'
    exact ⟨cur, hg⟩

theorem ne_of_obj {w : World} {a b : Nat} {cs cs' : Array Value} {t t' : TypeId} {f f' : Nat × Nat} (h : w.heap[a]? = some (.cells cs t f)) (h' : w.heap[b]? = some (.cells cs' t' f')) (ht : t ≠ t') : a ≠ b := by
  rintro rfl
  rw [h] at h'
  simp only [Option.some.injEq, Obj.cells.injEq] at h'
  exact ht h'.2.1

theorem lineLess_any {X : Nat → Prop} {w : World} {qb : Nat} {mv : Value} {pu : Nat} {L : List Wt} (h : LineAt X w qb mv pu L) {i j : Nat} (hi : i < L.length) (hj : j < L.length) {lv : Value} (hc : w.cell? ⟨qb, 0, none⟩ = some lv) :
    Calls Try.prog 89 #[lv, .int .i64 i, .int .i64 j] w fun e w' => e = .returned (.bool (decide (kf L i < kf L j))) ∧ Below w.heap.size w w' := by
  obtain ⟨rb, cap, hb, ho, hx⟩ := h.row (by omega)
  have e := (cell_row hb 0 rfl).symm.trans hc
  cases e
  exact less_raw rb L.length cap i j (at' L i) (at' L j) hi hj ((World.ownsRow.cellAt ho i (by omega)).trans (ptr_at hi)) ((World.ownsRow.cellAt ho j (by omega)).trans (ptr_at hj)) (h.wtIn hi) (h.wtIn hj) (h.ok i hi).1 (h.ok j hj).1 (h.ok i hi).2 (h.ok j hj).2

theorem map_swap (L : List Wt) (i j : Nat) : (swapL L i j).map ptrW = ((L.map ptrW).set i (ptrW (at' L j))).set j (ptrW (at' L i)) := by
  unfold swapL
  rw [List.map_set, List.map_set]
theorem wt_set (x : Wt) (i j : Nat) : (wtCells x i).setIfInBounds 3 (.int .i64 j) = wtCells x j := by simp [wtCells]

theorem nd_swap {L : List Wt} (h : ∀ i j, i < L.length → j < L.length → (at' L i).blk = (at' L j).blk → i = j) {i j : Nat} (hi : i < L.length) (hj : j < L.length) : ∀ k l, k < (swapL L i j).length → l < (swapL L i j).length → (at' (swapL L i j) k).blk = (at' (swapL L i j) l).blk → k = l := by
  intro k l hk hl
  rw [swapL_length] at hk hl
  rw [swapL_at hi hj, swapL_at hi hj]
  have n1 := h i l hi hl
  have n2 := h j l hj hl
  have n3 := h k i hk hi
  have n4 := h k j hk hj
  have n5 := h k l hk hl
  have n6 := h i j hi hj
  have n7 := h j i hj hi
  by_cases a1 : k = j
  · rw [if_pos a1]
    by_cases b1 : l = j
    · omega
    · rw [if_neg b1]
      by_cases b2 : l = i
      · rw [if_pos b2]; intro e; have := n6 e; omega
      · rw [if_neg b2]; intro e; have := n1 e; omega
  · rw [if_neg a1]
    by_cases a2 : k = i
    · rw [if_pos a2]
      by_cases b1 : l = j
      · rw [if_pos b1]; intro e; have := n7 e; omega
      · rw [if_neg b1]
        by_cases b2 : l = i
        · omega
        · rw [if_neg b2]; intro e; have := n2 e; omega
    · rw [if_neg a2]
      by_cases b1 : l = j
      · rw [if_pos b1]; intro e; have := n3 e; omega
      · rw [if_neg b1]
        by_cases b2 : l = i
        · rw [if_pos b2]; intro e; have := n4 e; omega
        · rw [if_neg b2]; exact n5

set_option maxHeartbeats 1600000 in
theorem lineSwap_any {X : Nat → Prop} {w : World} {qb : Nat} {mv : Value} {pu : Nat} {L : List Wt} (h : LineAt X w qb mv pu L) {i j : Nat} (hi : i < L.length) (hj : j < L.length) (hij : i ≠ j) {lv : Value} (hc : w.cell? ⟨qb, 0, none⟩ = some lv) :
    Calls Try.prog 90 #[lv, .int .i64 i, .int .i64 j] w fun e w' => e = .returned (.tuple #[]) ∧ LineAt X w' qb mv pu (swapL L i j) ∧ Kp X w w' ∧ w'.cell? ⟨qb, 0, none⟩ = some lv := by
  obtain ⟨rb, cap, hb, ho, hx⟩ := h.row (by omega)
  have e := (cell_row hb 0 rfl).symm.trans hc
  cases e
  obtain ⟨cur, hr⟩ := row_obj ho
  have wi := h.wt i hi
  have wj := h.wt j hj
  have hab : (at' L i).blk ≠ (at' L j).blk := fun e => hij (h.nd i j hi hj e)
  have har := ne_of_obj wi.2 hr (by decide)
  have hbr := ne_of_obj wj.2 hr (by decide)
  have haq := ne_of_obj wi.2 hb (by decide)
  have hbq := ne_of_obj wj.2 hb (by decide)
  have hrq := ne_of_obj hr hb (by decide)
  refine (swap_raw rb L.length cap i j (at' L i).blk (at' L j).blk (.int .i64 i) (.int .i64 j) hi hj hij ((World.ownsRow.cellAt ho i (by omega)).trans (ptr_at hi)) ((World.ownsRow.cellAt ho j (by omega)).trans (ptr_at hj)) (fun k => free_row hr k) (cell_row wi.2 3 rfl) (cell_row wj.2 3 rfl) (free_row wi.2 3) (free_row wj.2 3) hab har hbr).mono ?_
  rintro e w' ⟨rfl, rfl⟩
  obtain ⟨o1, -⟩ := World.ownsRow.stored ho i (ptrW (at' L j))
  obtain ⟨o2, -⟩ := World.ownsRow.stored o1 j (ptrW (at' L i))
  rw [← map_swap L i j] at o2
  -- each block behind the four stores
  have fr : ∀ k, k ≠ rb → k ≠ (at' L i).blk → k ≠ (at' L j).blk → ((((w.setCell ⟨rb, i, none⟩ (ptrW (at' L j))).setCell ⟨rb, j, none⟩ (ptrW (at' L i))).setCell ⟨(at' L j).blk, 3, none⟩ (.int .i64 i)).setCell ⟨(at' L i).blk, 3, none⟩ (.int .i64 j)).heap[k]? = w.heap[k]? := fun k k1 k2 k3 => by
    rw [Below.heap_setCell _ _ _ _ k2, Below.heap_setCell _ _ _ _ k3, Below.heap_setCell _ _ _ _ k1, Below.heap_setCell _ _ _ _ k1]
  have fa : ((((w.setCell ⟨rb, i, none⟩ (ptrW (at' L j))).setCell ⟨rb, j, none⟩ (ptrW (at' L i))).setCell ⟨(at' L j).blk, 3, none⟩ (.int .i64 i)).setCell ⟨(at' L i).blk, 3, none⟩ (.int .i64 j)).heap[(at' L i).blk]? = some (.cells (wtCells (at' L i) j) 68 (0, 0)) := by
    rw [← wt_set _ i j]
    refine heap_setCell_same _ _ _ _ _ _ ?_
    rw [Below.heap_setCell _ _ _ _ hab, Below.heap_setCell _ _ _ _ har, Below.heap_setCell _ _ _ _ har]; exact wi.2
  have fb : ((((w.setCell ⟨rb, i, none⟩ (ptrW (at' L j))).setCell ⟨rb, j, none⟩ (ptrW (at' L i))).setCell ⟨(at' L j).blk, 3, none⟩ (.int .i64 i)).setCell ⟨(at' L i).blk, 3, none⟩ (.int .i64 j)).heap[(at' L j).blk]? = some (.cells (wtCells (at' L j) i) 68 (0, 0)) := by
    rw [Below.heap_setCell _ _ _ _ (Ne.symm hab), ← wt_set _ j i]
    refine heap_setCell_same _ _ _ _ _ _ ?_
    rw [Below.heap_setCell _ _ _ _ hbr, Below.heap_setCell _ _ _ _ hbr]; exact wj.2
  have o4 := ownsRow_setCell_other (ownsRow_setCell_other o2 (a := ⟨(at' L j).blk, 3, none⟩) (by simp [Value.ownBlock]; omega) (.int .i64 i)) (a := ⟨(at' L i).blk, 3, none⟩) (by simp [Value.ownBlock]; omega) (.int .i64 j)
  have kp : Kp X w ((((w.setCell ⟨rb, i, none⟩ (ptrW (at' L j))).setCell ⟨rb, j, none⟩ (ptrW (at' L i))).setCell ⟨(at' L j).blk, 3, none⟩ (.int .i64 i)).setCell ⟨(at' L i).blk, 3, none⟩ (.int .i64 j)) := ((((Kp.refl X w).setCell hx _).setCell hx _).setCell wj.1 _).setCell wi.1 _
  have hq := (fr qb (Ne.symm hrq) (Ne.symm haq) (Ne.symm hbq)).trans hb
  refine ⟨rfl, LineAt.drewN ?_ 2, ⟨kp.os, kp.tape, kp.output, kp.size, kp.keep⟩, cell_row hq 0 rfl⟩
  refine ⟨fun k e => Nat.lt_of_lt_of_le (h.lt k e) kp.size, h.qo, by rw [swapL_length]; exact h.len, ⟨_, hq, ?_, fun k hk => by cases hk; exact hx⟩, fun k hk => ?_, nd_swap h.nd hi hj, fun k hk => ?_⟩
  · rw [swapL_length]; exact o4
  · rw [swapL_length] at hk
    rw [swapL_at hi hj]
    split
    · next e => subst e; exact ⟨wi.1, fa⟩
    · next e1 =>
      split
      · next e => subst e; exact ⟨wj.1, fb⟩
      · next e2 =>
        obtain ⟨a, b⟩ := h.wt k hk
        exact ⟨a, (fr _ (ne_of_obj b hr (by decide)) (fun e => e2 (h.nd k i hk hi e)) (fun e => e1 (h.nd k j hk hj e))).trans b⟩
  · rw [swapL_length] at hk
    rw [swapL_at hi hj]
    split
    · exact h.ok i hi
    · split
      · exact h.ok j hj
      · exact h.ok k hk
end Go.Proofs.Ytegloiojhimoeaa
