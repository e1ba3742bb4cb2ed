/- The contracts of the queue's find, Peek, Push. No statement of the seat is proved here. -/
import Derived.Test.YtegloiojhimoeaaQMap
namespace Go.Proofs.Ytegloiojhimoeaa
open Go.RowKit

theorem MapQ.form {X : Nat → Prop} {w : World} {mv : Value} {N : Nat} {f : Int → Option Wt} (h : MapQ X w mv N f) : ∃ r, mv = .map r := by
  rcases h with ⟨rfl, _⟩ | ⟨mb, D, rfl, _⟩
  · exact ⟨_, rfl⟩
  · exact ⟨_, rfl⟩
theorem run_neq_nil (w : World) (b : Nat) : (binOp .neq 66 (.pointer (some ⟨b, 0, none⟩)) (.pointer none)).run Try.prog w = .ok (.bool true) w := by kernel_rfl
theorem run_neq_nil0 (w : World) : (binOp .neq 66 (.pointer none) (.pointer none)).run Try.prog w = .ok (.bool false) w := by kernel_rfl
set_option maxRecDepth 20000 in
set_option maxHeartbeats 800000 in
theorem find_ok {X : Nat → Prop} {w : World} {qb : Nat} {S : List Wt} {pu N : Nat} (h : QAt X w qb S pu N) {id : Int} (hf : fits id) {x : Wt} (hx : fnd S id = some x) : Calls Try.prog 39 #[.pointer (some ⟨qb, 0, none⟩), .int .i64 id] w fun e w' => e = .returned (.tuple #[ptrW x, .int .i64 0]) ∧ w = w' := by
  obtain ⟨mv, L, h1, h2, -, -⟩ := h.ex
  obtain ⟨r, rfl⟩ := h2.form
  have c1 := h1.cells.1
  have hr0 := map_find h2 hf
  rw [hx] at hr0
  have hr : (Instr.lookup 57 (.map r) (.int .i64 id) false).run Try.prog w = .ok (.pointer (some ⟨x.blk, 0, none⟩)) w := hr0
  clear h h1 h2 hr0 hx
  go_enter Try.func39, Try.ntmps39
  go_wp2
  go_returns
  exact ⟨rfl, rfl⟩
set_option maxRecDepth 20000 in
set_option maxHeartbeats 800000 in
theorem find_none {X : Nat → Prop} {w : World} {qb : Nat} {S : List Wt} {pu N : Nat} (h : QAt X w qb S pu N) {id : Int} (hf : fits id) (hx : fnd S id = none) : Calls Try.prog 39 #[.pointer (some ⟨qb, 0, none⟩), .int .i64 id] w fun e w' => e = .returned (.tuple #[.pointer none, .int .i64 7]) ∧ w = w' := by
  obtain ⟨mv, L, h1, h2, -, -⟩ := h.ex
  obtain ⟨r, rfl⟩ := h2.form
  have c1 := h1.cells.1
  have hr0 := map_find h2 hf
  rw [hx] at hr0
  have hr : (Instr.lookup 57 (.map r) (.int .i64 id) false).run Try.prog w = .ok (.pointer none) w := hr0
  clear h h1 h2 hr0 hx
  go_enter Try.func39, Try.ntmps39
  go_wp2
  go_returns
  exact ⟨rfl, rfl⟩

theorem run_store1 {P : Program} {w : World} {p : Addr} {u v : Value} (hv : v.oneCell' = true) (hc : w.cell? p = some u) (hf : w.frozen? p = false) : (store p v).run P w = .ok () (w.setCell p v) := by simp [run_store _ _ _ _ _ hv, hc, hf]
/-! ### Peek -/
def IsMin (m : Wt) (S : List Wt) : Prop := m ∈ S ∧ ∀ x ∈ S, m.ky ≤ x.ky
abbrev entV (m : Wt) : Value := .agg #[.int .i64 m.id, .float .f64 m.pr]
theorem head_min {L S : List Wt} (hp : L.Perm S) (hh : HeapAll (kf L) L.length) (h0 : 0 < L.length) : IsMin (at' L 0) S := by
  refine ⟨hp.mem_iff.1 (at_mem h0), fun x hx => ?_⟩
  obtain ⟨i, hi, rfl⟩ := mem_at (hp.mem_iff.2 hx)
  exact heap_least hh i hi
def PeekPost (w : World) (S : List Wt) (e : Ending) (w' : World) : Prop := ∃ m, e = .returned (.tuple #[entV m, .int .i64 0]) ∧ IsMin m S ∧ Below w.heap.size w w'
set_option maxRecDepth 20000 in
set_option maxHeartbeats 1600000 in
theorem peek_ok {X : Nat → Prop} {w : World} {qb : Nat} {S : List Wt} {pu N : Nat} (h : QAt X w qb S pu N) (h0 : 0 < S.length) : Calls Try.prog 21 #[.pointer (some ⟨qb, 0, none⟩)] w (PeekPost w S) := by
  obtain ⟨mv, L, h1, h2, hp, hh⟩ := h.ex
  have hl : 0 < L.length := by rw [hp.length_eq]; exact h0
  obtain ⟨rb, cap, hb, ho, -⟩ := h1.row hl
  have c0 : w.cell? ⟨qb, 0, none⟩ = some (.slice (some ⟨rb, 0, none⟩) L.length cap) := cell_row hb 0 rfl
  have cr : w.cell? ⟨rb, 0, none⟩ = some (ptrW (at' L 0)) := (World.ownsRow.cellAt ho 0 (by omega)).trans (ptr_at hl)
  have hw := (h1.wt 0 hl).2
  have w0 : w.cell? ⟨(at' L 0).blk, 0, none⟩ = some (.int .i64 (at' L 0).id) := cell_row hw 0 rfl
  have w1 : w.cell? ⟨(at' L 0).blk, 1, none⟩ = some (.float .f64 (at' L 0).pr) := cell_row hw 1 rfl
  have M := Lib.hid (head_min hp hh hl)
  have hn0 : ¬ ((L.length : Int) = 0) := by omega
  unfold ptrW at cr
  generalize hm : at' L 0 = m at *
  clear h h1 h2 hp hh hb ho h0 hw hm
  generalize L.length = n at c0 hl hn0
  obtain ⟨mb, mi, mp, mt⟩ := m
  simp only at cr w0 w1
  go_enter Try.func21, Try.ntmps21
  go_wp2_with (with_reducible refine wpList_alloc_row rfl 43 rfl #[.int .i64 0, .float .f64 0] (by kernel_rfl) ?_)
  intro w2 hg2 hb2 hs2
  have c0' := (hb2.cell (p := ⟨qb, 0, none⟩) (World.block_lt_of_cell? _ _ c0)).trans c0
  have cr' := (hb2.cell (p := ⟨rb, 0, none⟩) (World.block_lt_of_cell? _ _ cr)).trans cr
  have w0' := (hb2.cell (p := ⟨mb, 0, none⟩) (World.block_lt_of_cell? _ _ w0)).trans w0
  have w1' := (hb2.cell (p := ⟨mb, 1, none⟩) (World.block_lt_of_cell? _ _ w1)).trans w1
  have HB := Lib.hid hb2
  clear c0 cr w0 w1 hb2
  have d0 : w2.cell? ⟨w.heap.size, 0, none⟩ = some (.int .i64 0) := cell_row hg2 0 rfl
  have g0 := free_row hg2 0
  have hc0 := heap_setCell_same w2 w.heap.size 0 _ _ (.int .i64 mi) hg2
  have d1 : (w2.setCell ⟨w.heap.size, 0, none⟩ (.int .i64 mi)).cell? ⟨w.heap.size, 1, none⟩ = some (.float .f64 0) := cell_row hc0 1 rfl
  have g1 := free_row hc0 1
  have hst := run_store1 (P := Try.prog) (v := .float .f64 mp) rfl d1 g1
  have hc1 := heap_setCell_same _ w.heap.size 1 _ _ (.float .f64 mp) hc0
  have HB3 : Hid (Below w.heap.size w ((w2.setCell ⟨w.heap.size, 0, none⟩ (.int .i64 mi)).setCell ⟨w.heap.size, 1, none⟩ (.float .f64 mp))) := (HB.out.setCell (Nat.le_refl _) _).setCell (Nat.le_refl _) _
  have HC1 := Lib.hid hc1
  clear HB hg2 hc0 hc1
  go_wp2
  have e0 := cell_row HC1.out 0 rfl
  have e1 := cell_row HC1.out 1 rfl
  clear HC1 hst g0 g1 d0 d1 c0' cr' w0' w1'
  generalize (w2.setCell ⟨w.heap.size, 0, none⟩ (.int .i64 mi)).setCell ⟨w.heap.size, 1, none⟩ (.float .f64 mp) = w3 at HB3 e0 e1 ⊢
  exact bodyPost_ret (v := .tuple #[.agg #[.int .i64 mi, .float .f64 mp], .int .i64 0]) (by simp [results, Try.results21, go_sem, e0, e1]) rfl ⟨⟨mb, mi, mp, mt⟩, rfl, M.out, HB3.out⟩
def MissPost (w : World) (e : Ending) (w' : World) : Prop := e = .returned (.tuple #[entV ⟨0, 0, 0, 0⟩, .int .i64 7]) ∧ Below w.heap.size w w'
set_option maxRecDepth 20000 in
set_option maxHeartbeats 1600000 in
theorem peek_none {X : Nat → Prop} {w : World} {qb : Nat} {pu N : Nat} (h : QAt X w qb [] pu N) : Calls Try.prog 21 #[.pointer (some ⟨qb, 0, none⟩)] w (MissPost w) := by
  obtain ⟨mv, L, h1, h2, hp, hh⟩ := h.ex
  obtain ⟨ao, cap, c0⟩ := h1.form
  have hl : L.length = 0 := by rw [hp.length_eq]; rfl
  rw [hl] at c0
  clear h h1 h2 hp hh
  go_enter Try.func21, Try.ntmps21
  go_wp2_with (with_reducible refine wpList_alloc_row rfl 43 rfl #[.int .i64 0, .float .f64 0] (by kernel_rfl) ?_)
  intro w2 hg2 hb2 hs2
  have c0' := (hb2.cell (p := ⟨qb, 0, none⟩) (World.block_lt_of_cell? _ _ c0)).trans c0
  have HB := Lib.hid hb2
  clear c0 hb2
  have d0 : w2.cell? ⟨w.heap.size, 0, none⟩ = some (.int .i64 0) := cell_row hg2 0 rfl
  have g0 := free_row hg2 0
  have hc0 := heap_setCell_same w2 w.heap.size 0 _ _ (.int .i64 0) hg2
  have d1 : (w2.setCell ⟨w.heap.size, 0, none⟩ (.int .i64 0)).cell? ⟨w.heap.size, 1, none⟩ = some (.float .f64 0) := cell_row hc0 1 rfl
  have g1 := free_row hc0 1
  have hst := run_store1 (P := Try.prog) (v := .float .f64 0) rfl d1 g1
  have hc1 := heap_setCell_same _ w.heap.size 1 _ _ (.float .f64 0) hc0
  have HB3 : Hid (Below w.heap.size w ((w2.setCell ⟨w.heap.size, 0, none⟩ (.int .i64 0)).setCell ⟨w.heap.size, 1, none⟩ (.float .f64 0))) := (HB.out.setCell (Nat.le_refl _) _).setCell (Nat.le_refl _) _
  have HC1 := Lib.hid hc1
  clear HB hg2 hc0 hc1
  go_wp2
  have e0 := cell_row HC1.out 0 rfl
  have e1 := cell_row HC1.out 1 rfl
  clear HC1 hst g0 g1 d0 d1 c0'
  generalize (w2.setCell ⟨w.heap.size, 0, none⟩ (.int .i64 0)).setCell ⟨w.heap.size, 1, none⟩ (.float .f64 0) = w3 at HB3 e0 e1 ⊢
  exact bodyPost_ret (v := .tuple #[.agg #[.int .i64 0, .float .f64 0], .int .i64 7]) (by simp [results, Try.results21, go_sem, e0, e1]) rfl ⟨rfl, HB3.out⟩
end Go.Proofs.Ytegloiojhimoeaa
