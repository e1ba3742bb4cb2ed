/- Rows that are written over, and what stays. No statement of the seat is proved here. -/
import Derived.Test.YtdkmfcmndncmcaaNWhole0
import Derived.Test.YtdkmfcmndncmcaaNSame
import Derived.Test.YtdkmfcmndncmcaaNBack
namespace Go.Proofs.Ytdkmfcmndncmcaa
set_option maxRecDepth 20000
open Go.RowKit

theorem heap_set_here {w : World} {b j : Nat} {u : Value} {c : Array Value} {t : TypeId} {fz : Nat × Nat} (h : w.heap[b]? = some (.cells c t fz)) : (w.setCell ⟨b, j, none⟩ u).heap[b]? = some (.cells (c.setIfInBounds j u) t fz) := by
  simp [World.setCell, Array.getElem?_modify, h]
/-- a row that may be written: its block lies from B on and below H -/
def WRow (k : Nat) (t : TypeId) (B H : Nat) (w : World) (v : Value) : Prop :=
  ∃ ao m cap, v = .slice ao m cap ∧ m ≤ maxLen ∧ (0 < m → ∃ b cur, ao = some ⟨b, 0, none⟩ ∧ B ≤ b ∧ b < H ∧ w.heap[b]? = some (.cells cur t (0, 0)) ∧ m * k ≤ cur.size)
theorem WRow.of {α : Type} {E : El α} {base B H : Nat} {w : World} {v : Value} {l : List α} (h : OwnR E base w v l) (hB : B ≤ base) (hH : w.heap.size ≤ H) : WRow E.k E.t B H w v := by
  rcases h.2 with ⟨hv, -⟩ | ⟨g, cap, cur, hv, hbg, hg, hc, hm, hz, -⟩
  · exact ⟨none, 0, 0, hv, Nat.zero_le _, fun h0 => absurd h0 (by omega)⟩
  · exact ⟨_, _, _, hv, Nat.le_trans hc hm, fun _ => ⟨g, cur, rfl, Nat.le_trans hB hbg, Nat.lt_of_lt_of_le (lt_of_heap hg) hH, hg, by rw [hz]; exact Nat.mul_le_mul_right _ hc⟩⟩
theorem WRow.set {k : Nat} {t : TypeId} {B H : Nat} {w : World} {v : Value} (h : WRow k t B H w v) (b j : Nat) (u : Value) : WRow k t B H (w.setCell ⟨b, j, none⟩ u) v := by
  obtain ⟨ao, m, cap, hv, hm, hr⟩ := h
  refine ⟨ao, m, cap, hv, hm, fun h0 => ?_⟩
  obtain ⟨c, cur, e, h1, h2, h3, h4⟩ := hr h0
  by_cases hc : c = b
  · subst hc
    exact ⟨c, _, e, h1, h2, heap_set_here h3, by simpa using h4⟩
  · exact ⟨c, cur, e, h1, h2, (Below.heap_setCell w _ _ c hc).trans h3, h4⟩
theorem WRow.below {k : Nat} {t : TypeId} {B H : Nat} {w w' : World} {v : Value} (h : WRow k t B H w v) (hb : Below H w w') : WRow k t B H w' v := by
  obtain ⟨ao, m, cap, hv, hm, hr⟩ := h
  refine ⟨ao, m, cap, hv, hm, fun h0 => ?_⟩
  obtain ⟨c, cur, e, h1, h2, h3, h4⟩ := hr h0
  exact ⟨c, cur, e, h1, h2, (hb.block c h2).trans h3, h4⟩
theorem WRow.at {k : Nat} {t : TypeId} {B H : Nat} {w : World} {ao : Option Addr} {m cap : Nat} (h : WRow k t B H w (.slice ao m cap)) (h0 : 0 < m) : ∃ b, ao = some ⟨b, 0, none⟩ ∧ B ≤ b ∧ b < H ∧ ∀ j, j < m * k → ∃ u, w.cell? ⟨b, j, none⟩ = some u ∧ w.frozen? ⟨b, j, none⟩ = false := by
  obtain ⟨ao', m', cap', hv, hm, hr⟩ := h
  cases hv
  obtain ⟨b, cur, e, h1, h2, h3, h4⟩ := hr h0
  refine ⟨b, e, h1, h2, fun j hj => ⟨cur[j]'(by omega), ?_, ?_⟩⟩
  · rw [cell_of_row _ _ _ _ _ _ h3]; exact Array.getElem?_eq_getElem (by omega)
  · simp [World.frozen?, h3]
/-- what the law's loops keep: all that is older than B, the five nodes in their row, their lists that may be written -/
structure Ap (B H g : Nat) (W0 : World) (P K I : Nat → Value) (wr : World) : Prop where
  b : Below B W0 wr
  c : ∀ i, i < 5 → wr.cell? ⟨g, i * 4 + 1, none⟩ = some (P i) ∧ wr.cell? ⟨g, i * 4 + 2, none⟩ = some (K i) ∧ wr.cell? ⟨g, i * 4 + 3, none⟩ = some (I i)
  p : ∀ i, i < 5 → WRow 2 50 B H wr (P i)
  k : ∀ i, i < 5 → WRow 1 9 B H wr (K i)
  i : ∀ i, i < 5 → WRow 1 3 B H wr (I i)
  hg : H ≤ g
section
variable {B H g : Nat} {W0 : World} {P K I : Nat → Value} {wr : World}
theorem Ap.set (h : Ap B H g W0 P K I wr) {b : Nat} (j : Nat) (u : Value) (hB : B ≤ b) (hH : b < H) : Ap B H g W0 P K I (wr.setCell ⟨b, j, none⟩ u) := by
  have hg := h.hg
  have ne : ∀ q : Nat, (⟨b, j, none⟩ : Addr) ≠ ⟨g, q, none⟩ := fun q e => by injection e; omega
  refine ⟨h.b.trans ⟨rfl, rfl, rfl, by simp [World.setCell], fun k hk => Below.heap_setCell wr _ _ k (by simp; omega)⟩, fun i hi => ?_, fun i hi => (h.p i hi).set b j u, fun i hi => (h.k i hi).set b j u, fun i hi => (h.i i hi).set b j u, hg⟩
  obtain ⟨c1, c2, c3⟩ := h.c i hi
  exact ⟨(World.cell?_setCell_other wr _ _ u (ne _)).trans c1, (World.cell?_setCell_other wr _ _ u (ne _)).trans c2, (World.cell?_setCell_other wr _ _ u (ne _)).trans c3⟩
theorem Ap.pair (h : Ap B H g W0 P K I wr) {i k : Nat} (hi : i < 5) {ao : Option Addr} {m cap : Nat} (hp : P i = .slice ao m cap) (hk : k < m) (x y : Value) : ∃ b u u', ao = some ⟨b, 0, none⟩ ∧ wr.cell? ⟨b, k * 2, none⟩ = some u ∧ wr.frozen? ⟨b, k * 2, none⟩ = false ∧
    (wr.setCell ⟨b, k * 2, none⟩ x).cell? ⟨b, k * 2 + 1, none⟩ = some u' ∧ (wr.setCell ⟨b, k * 2, none⟩ x).frozen? ⟨b, k * 2 + 1, none⟩ = false ∧ Ap B H g W0 P K I ((wr.setCell ⟨b, k * 2, none⟩ x).setCell ⟨b, k * 2 + 1, none⟩ y) := by
  have r := h.p i hi
  rw [hp] at r
  obtain ⟨b, e, hB, hH, hc⟩ := r.at (by omega)
  obtain ⟨u, c1, f1⟩ := hc (k * 2) (by omega)
  have h2 := h.set (k * 2) x hB hH
  have r2 := h2.p i hi
  rw [hp] at r2
  obtain ⟨b2, e2, -, -, hc2⟩ := r2.at (by omega)
  obtain rfl : b = b2 := by rw [e] at e2; injection e2 with e2; injection e2
  obtain ⟨u', c2, f2⟩ := hc2 (k * 2 + 1) (by omega)
  exact ⟨b, u, u', e, c1, f1, c2, f2, h2.set (k * 2 + 1) y hB hH⟩
theorem Ap.oneK (h : Ap B H g W0 P K I wr) {i k : Nat} (hi : i < 5) {ao : Option Addr} {m cap : Nat} (hp : K i = .slice ao m cap) (hk : k < m) (x : Value) : ∃ b u, ao = some ⟨b, 0, none⟩ ∧ wr.cell? ⟨b, k, none⟩ = some u ∧ wr.frozen? ⟨b, k, none⟩ = false ∧ Ap B H g W0 P K I (wr.setCell ⟨b, k, none⟩ x) := by
  have r := h.k i hi
  rw [hp] at r
  obtain ⟨b, e, hB, hH, hc⟩ := r.at (by omega)
  obtain ⟨u, c1, f1⟩ := hc k (by omega)
  exact ⟨b, u, e, c1, f1, h.set k x hB hH⟩
theorem Ap.oneI (h : Ap B H g W0 P K I wr) {i k : Nat} (hi : i < 5) {ao : Option Addr} {m cap : Nat} (hp : I i = .slice ao m cap) (hk : k < m) (x : Value) : ∃ b u, ao = some ⟨b, 0, none⟩ ∧ wr.cell? ⟨b, k, none⟩ = some u ∧ wr.frozen? ⟨b, k, none⟩ = false ∧ Ap B H g W0 P K I (wr.setCell ⟨b, k, none⟩ x) := by
  have r := h.i i hi
  rw [hp] at r
  obtain ⟨b, e, hB, hH, hc⟩ := r.at (by omega)
  obtain ⟨u, c1, f1⟩ := hc k (by omega)
  exact ⟨b, u, e, c1, f1, h.set k x hB hH⟩
theorem Ap.forms (h : Ap B H g W0 P K I wr) {i : Nat} (hi : i < 5) : ∃ pa pm pc ka km kc ia im ic, P i = .slice pa pm pc ∧ K i = .slice ka km kc ∧ I i = .slice ia im ic ∧ pm ≤ maxLen ∧ km ≤ maxLen ∧ im ≤ maxLen := by
  obtain ⟨pa, pm, pc, e1, m1, -⟩ := h.p i hi
  obtain ⟨ka, km, kc, e2, m2, -⟩ := h.k i hi
  obtain ⟨ia, im, ic, e3, m3, -⟩ := h.i i hi
  exact ⟨_, _, _, _, _, _, _, _, _, e1, e2, e3, m1, m2, m3⟩
end
/-- five nodes in a row -/
def rowN (l0 l1 l2 l3 l4 : Bool) (p0 k0 i0 p1 k1 i1 p2 k2 i2 p3 k3 i3 p4 k4 i4 : Value) : Array Value := #[.bool l0, p0, k0, i0, .bool l1, p1, k1, i1, .bool l2, p2, k2, i2, .bool l3, p3, k3, i3, .bool l4, p4, k4, i4]
theorem build_nd5 (l0 l1 l2 l3 l4 : Bool) {p0 k0 i0 p1 k1 i1 p2 k2 i2 p3 k3 i3 p4 k4 i4 : Value} (hp0 : SlV p0) (hk0 : SlV k0) (hi0 : SlV i0) (hp1 : SlV p1) (hk1 : SlV k1) (hi1 : SlV i1) (hp2 : SlV p2) (hk2 : SlV k2) (hi2 : SlV i2) (hp3 : SlV p3) (hk3 : SlV k3) (hi3 : SlV i3) (hp4 : SlV p4) (hk4 : SlV k4) (hi4 : SlV i4) (w : World) :
    (Instr.buildSlice 62 5 #[(0, .agg #[.bool l0, p0, k0, i0]), (1, .agg #[.bool l1, p1, k1, i1]), (2, .agg #[.bool l2, p2, k2, i2]), (3, .agg #[.bool l3, p3, k3, i3]), (4, .agg #[.bool l4, p4, k4, i4])]).run Try.prog w = .ok (.slice (some ⟨w.heap.size, 0, none⟩) 5 5) (w.alloc (.cells (rowN l0 l1 l2 l3 l4 p0 k0 i0 p1 k1 i1 p2 k2 i2 p3 k3 i3 p4 k4 i4) 32)) := by
  obtain ⟨_, _, _, rfl⟩ := hp0
  obtain ⟨_, _, _, rfl⟩ := hk0
  obtain ⟨_, _, _, rfl⟩ := hi0
  obtain ⟨_, _, _, rfl⟩ := hp1
  obtain ⟨_, _, _, rfl⟩ := hk1
  obtain ⟨_, _, _, rfl⟩ := hi1
  obtain ⟨_, _, _, rfl⟩ := hp2
  obtain ⟨_, _, _, rfl⟩ := hk2
  obtain ⟨_, _, _, rfl⟩ := hi2
  obtain ⟨_, _, _, rfl⟩ := hp3
  obtain ⟨_, _, _, rfl⟩ := hk3
  obtain ⟨_, _, _, rfl⟩ := hi3
  obtain ⟨_, _, _, rfl⟩ := hp4
  obtain ⟨_, _, _, rfl⟩ := hk4
  obtain ⟨_, _, _, rfl⟩ := hi4
  kernel_rfl
def five (a b c d e : Value) (i : Nat) : Value := [a, b, c, d, e].getD i (.slice none 0 0)
theorem five_all {Q : Value → Prop} {a b c d e : Value} (h0 : Q a) (h1 : Q b) (h2 : Q c) (h3 : Q d) (h4 : Q e) : ∀ i, i < 5 → Q (five a b c d e i) := by
  intro i hi
  match i, hi with
  | 0, _ => exact h0
  | 1, _ => exact h1
  | 2, _ => exact h2
  | 3, _ => exact h3
  | 4, _ => exact h4
theorem row_cells {w : World} {g : Nat} {l0 l1 l2 l3 l4 : Bool} {p0 k0 i0 p1 k1 i1 p2 k2 i2 p3 k3 i3 p4 k4 i4 : Value} (h : w.heap[g]? = some (.cells (rowN l0 l1 l2 l3 l4 p0 k0 i0 p1 k1 i1 p2 k2 i2 p3 k3 i3 p4 k4 i4) 32 (0, 0))) :
    ∀ i, i < 5 → w.cell? ⟨g, i * 4 + 1, none⟩ = some (five p0 p1 p2 p3 p4 i) ∧ w.cell? ⟨g, i * 4 + 2, none⟩ = some (five k0 k1 k2 k3 k4 i) ∧ w.cell? ⟨g, i * 4 + 3, none⟩ = some (five i0 i1 i2 i3 i4 i) := by
  intro i hi
  match i, hi with
  | 0, _ => exact ⟨by rw [cell_of_row _ _ _ _ _ _ h]; rfl, by rw [cell_of_row _ _ _ _ _ _ h]; rfl, by rw [cell_of_row _ _ _ _ _ _ h]; rfl⟩
  | 1, _ => exact ⟨by rw [cell_of_row _ _ _ _ _ _ h]; rfl, by rw [cell_of_row _ _ _ _ _ _ h]; rfl, by rw [cell_of_row _ _ _ _ _ _ h]; rfl⟩
  | 2, _ => exact ⟨by rw [cell_of_row _ _ _ _ _ _ h]; rfl, by rw [cell_of_row _ _ _ _ _ _ h]; rfl, by rw [cell_of_row _ _ _ _ _ _ h]; rfl⟩
  | 3, _ => exact ⟨by rw [cell_of_row _ _ _ _ _ _ h]; rfl, by rw [cell_of_row _ _ _ _ _ _ h]; rfl, by rw [cell_of_row _ _ _ _ _ _ h]; rfl⟩
  | 4, _ => exact ⟨by rw [cell_of_row _ _ _ _ _ _ h]; rfl, by rw [cell_of_row _ _ _ _ _ _ h]; rfl, by rw [cell_of_row _ _ _ _ _ _ h]; rfl⟩
end Go.Proofs.Ytdkmfcmndncmcaa
