/- Rows of one-cell values that a law makes for itself. No statement of the seat is proved here. -/
import Derived.Test.YtkmaikmbjebjeaaDoorAList
namespace Go.Proofs.YtkmaikmbjebjeaaDoor
set_option maxRecDepth 20000
open Go.RowKit

def RowF (w : World) (g : Nat) (e : TypeId) (n : Nat) (f : Nat → Value) : Prop := ∃ cs, w.heap[g]? = some (.cells cs e (0, 0)) ∧ n ≤ cs.size ∧ ∀ j, j < n → cs[j]? = some (f j)
theorem RowF.lt {w : World} {g : Nat} {e : TypeId} {n : Nat} {f : Nat → Value} (h : RowF w g e n f) : g < w.heap.size := by obtain ⟨cs, h, _⟩ := h; exact lt_of_heap h
theorem RowF.keep {w w' : World} {g : Nat} {e : TypeId} {n : Nat} {f : Nat → Value} (h : RowF w g e n f) (hk : w'.heap[g]? = w.heap[g]?) : RowF w' g e n f := by obtain ⟨cs, h, r⟩ := h; exact ⟨cs, hk.trans h, r⟩
theorem RowF.below {w w' : World} {g B : Nat} {e : TypeId} {n : Nat} {f : Nat → Value} (h : RowF w g e n f) (hb : Below B w w') (hB : g < B) : RowF w' g e n f := h.keep (hb.block _ hB)
theorem RowF.only {w w' : World} {g b : Nat} {e : TypeId} {n : Nat} {f : Nat → Value} (h : RowF w g e n f) (ho : Only b w w') (hne : g ≠ b) : RowF w' g e n f := h.keep (ho.keep _ h.lt hne)
theorem RowF.cell {w : World} {g : Nat} {e : TypeId} {n : Nat} {f : Nat → Value} (h : RowF w g e n f) {j : Nat} (hj : j < n) : w.cell? ⟨g, j, none⟩ = some (f j) := by
  obtain ⟨cs, h, _, hc⟩ := h
  exact cell_row h j (hc j hj)
theorem RowF.free {w : World} {g : Nat} {e : TypeId} {n : Nat} {f : Nat → Value} (h : RowF w g e n f) (j : Nat) : w.frozen? ⟨g, j, none⟩ = false := by
  obtain ⟨cs, h, _⟩ := h; exact free_row h j
def updF (f : Nat → Value) (j : Nat) (v : Value) : Nat → Value := fun i => if i = j then v else f i
theorem RowF.set {w : World} {g : Nat} {e : TypeId} {n : Nat} {f : Nat → Value} (h : RowF w g e n f) {j : Nat} (hj : j < n) (v : Value) : RowF (w.setCell ⟨g, j, none⟩ v) g e n (updF f j v) := by
  obtain ⟨cs, h, hs, hc⟩ := h
  refine ⟨_, heap_setCell_same w g j cs e v h, by simpa using hs, fun i hi => ?_⟩
  unfold updF
  by_cases e1 : i = j
  · subst e1
    rw [if_pos rfl, Array.getElem?_setIfInBounds_self_of_lt (by omega)]
  · rw [if_neg e1, Array.getElem?_setIfInBounds_ne (by omega), hc i hi]
theorem made_rowF (w : World) (t e : TypeId) (i : TypeInfo) (z : Value) (ht : Tryd.prog.underlying t = some (.slice e)) (hi : Tryd.prog.info? e = some i) (hz : i.zero = some z) (hs : i.size = 1) (hzc : z.cells = #[z]) (n : Nat) (hb : i.bytes * n ≤ 1000000) (hn : n ≤ 4096) :
    ∃ w', (Instr.makeSlice t (.int .i64 (n : Nat)) (.int .i64 (n : Nat))).run Tryd.prog w = .ok (.slice (some ⟨w.heap.size, 0, none⟩) n n) w' ∧ RowF w' w.heap.size e n (fun _ => z) ∧ Below w.heap.size w w' := by
  obtain ⟨w', hr, ho, hg⟩ := run_make_full (P := Tryd.prog) w w.heap.size t e i z 1 ht hi hz hs .i64 .i64 n (by omega) (by unfold maxLen; omega) (Nat.le_refl _)
  refine ⟨w', hr, ?_, (Below.refl _ _).grown hg (Nat.le_refl _) (fun k e => by cases e)⟩
  rcases ho.2 with ⟨h1, _⟩ | ⟨g, cap, cur, hv, hb', hgr, hnc, hm, hsz, htake⟩
  · cases h1
  · have hgq : w.heap.size = g := by injection hv with e1 e2 e3; injection e1 with e1; injection e1
    rw [hgq]
    refine ⟨cur, hgr, by omega, fun j hj => ?_⟩
    have hl : (madeCells z.cells (n * 1)).toList[j]? = some z := by
      rw [hzc]
      simp [madeCells, hj, Nat.mod_one]
    rw [← htake, List.getElem?_take] at hl
    split at hl
    · simpa using hl
    · cases hl
theorem infoBool : (Tryd.prog.info? 4).map (fun i => (i.zero, i.size, i.bytes)) = some (some (.bool false), 1, 1) := by kernel_rfl
theorem infoBool' : ∃ i, Tryd.prog.info? 4 = some i ∧ i.zero = some (.bool false) ∧ i.size = 1 ∧ i.bytes = 1 := by
  have h := infoBool
  cases hq : Tryd.prog.info? 4 with
  | none => rw [hq] at h; simp at h
  | some i => rw [hq] at h; simp at h; exact ⟨i, rfl, h.1, h.2.1, h.2.2⟩
theorem OwnZ.reads {base : Nat} {w : World} {v : Value} {zs : List Int} (h : OwnZ base w v zs) (hl : zs.length ≤ 100000) : ReadZ w v zs := by
  obtain ⟨ao, cap, hv, _, _⟩ := ownsRow_form h
  subst hv
  refine ⟨ao, cap, rfl, by omega, fun i hi => ?_⟩
  obtain ⟨b, hb, hB, hc⟩ := ownsRow_cell h (j := i) (u := .int .i64 (zs.getD i 0)) (by
    rw [List.getElem?_map, List.getElem?_eq_getElem hi, Option.map_some, List.getD_eq_getElem?_getD, List.getElem?_eq_getElem hi]; rfl)
  exact ⟨b, 0, hb, World.block_lt_of_cell? w _ hc, by rw [Nat.zero_add]; exact hc⟩
theorem OwnZ.setCell {base : Nat} {w : World} {v : Value} {zs : List Int} (h : OwnZ base w v zs) {g : Nat} (hg : g < base) (i : Nat) (u : Value) : OwnZ base (w.setCell ⟨g, i, none⟩ u) v zs :=
  ownsRow_keep h fun k hk => by
    have := (World.ownsRow.lt h k hk).1
    exact Below.heap_setCell _ _ _ _ (by show k ≠ g; omega)
end Go.Proofs.YtkmaikmbjebjeaaDoor
