/- A frame by kinds of blocks: what a call of an object's method may turn; plain lemmas on worlds. No statement of the seat is proved here. -/
import Derived.WalkKit
import Derived.WalkSpells
import Derived.Handy
import Derived.Lib.Hide
import Derived.WalkLawsBesides
import Derived.Maps.OwnSet
import Derived.Deep.AppendLies
namespace Go.Proofs.YtkmaikmbjebjeaaDoor
set_option maxRecDepth 20000
open Go.RowKit

/-- Below B, and of all blocks whose kind is not one of K's, w' is as w was. -/
structure Fr (K : Obj → Bool) (B : Nat) (w w' : World) : Prop where
  os : w'.os = w.os
  tape : w'.tape = w.tape
  output : w'.output = w.output
  size : w.heap.size ≤ w'.heap.size
  keep : ∀ (k : Nat) o, w.heap[k]? = some o → (k < B ∨ K o = false) → w'.heap[k]? = some o

theorem Fr.refl (K : Obj → Bool) (B : Nat) (w : World) : Fr K B w w := ⟨rfl, rfl, rfl, Nat.le_refl _, fun _ _ h _ => h⟩
theorem Fr.trans {K : Obj → Bool} {B : Nat} {a b c : World} (h : Fr K B a b) (k : Fr K B b c) : Fr K B a c :=
  ⟨k.os.trans h.os, k.tape.trans h.tape, k.output.trans h.output, Nat.le_trans h.size k.size, fun i o hi ho => k.keep i o (h.keep i o hi ho) ho⟩
theorem Fr.mono {K K' : Obj → Bool} {B B' : Nat} {w w' : World} (h : Fr K B w w') (hB : B' ≤ B) (hK : ∀ o, K' o = false → K o = false) : Fr K' B' w w' :=
  ⟨h.os, h.tape, h.output, h.size, fun i o hi ho => h.keep i o hi (ho.imp (fun x => Nat.lt_of_lt_of_le x hB) (hK o))⟩
theorem Fr.drew {K : Obj → Bool} {B : Nat} {a w : World} (h : Fr K B a w) : Fr K B a w.drew := ⟨h.os, h.tape, h.output, h.size, h.keep⟩
theorem Fr.drewN {K : Obj → Bool} {B : Nat} {a w : World} (h : Fr K B a w) (n : Nat) : Fr K B a (w.drewN n) := ⟨h.os, h.tape, h.output, h.size, h.keep⟩
theorem lt_of_heap {w : World} {k : Nat} {o : Obj} (h : w.heap[k]? = some o) : k < w.heap.size := (Array.getElem?_eq_some_iff.1 h).1
theorem Fr.alloc {K : Obj → Bool} {B : Nat} {a w : World} (h : Fr K B a w) (o : Obj) : Fr K B a (w.alloc o) :=
  h.trans ⟨rfl, rfl, rfl, by simp, fun k _ hk _ => (Below.heap_alloc w o k (lt_of_heap hk)).trans hk⟩
theorem Fr.of_below {K : Obj → Bool} {B : Nat} {w w' : World} (h : Below w.heap.size w w') : Fr K B w w' :=
  ⟨h.os, h.tape, h.output, h.size, fun k _ hk _ => (h.block k (lt_of_heap hk)).trans hk⟩
theorem Fr.below {K : Obj → Bool} {B : Nat} {w w' : World} (h : Fr K B w w') (hB : B ≤ w.heap.size) : Below B w w' :=
  ⟨h.os, h.tape, h.output, h.size, fun k hk => by
    have : k < w.heap.size := Nat.lt_of_lt_of_le hk hB
    have e : w.heap[k]? = some w.heap[k] := Array.getElem?_eq_getElem this
    rw [e]; exact h.keep k _ e (Or.inl hk)⟩
/-- A store into a block of K's kind, from B on. -/
theorem Fr.setCell {K : Obj → Bool} {B : Nat} {a w : World} (h : Fr K B a w) {p : Addr} {o : Obj} (ho : w.heap[p.block]? = some o) (hp : B ≤ p.block) (hK : K o = true) (u : Value) : Fr K B a (w.setCell p u) :=
  h.trans ⟨rfl, rfl, rfl, by simp [World.setCell], fun k o' hk hko => by
    have hne : k ≠ p.block := by
      rintro rfl
      rw [ho] at hk; cases hk
      rcases hko with hko | hko
      · omega
      · rw [hK] at hko; cases hko
    rw [Below.heap_setCell _ _ _ _ hne]; exact hk⟩
theorem Fr.grown {K : Obj → Bool} {B : Nat} {a w w' : World} {row : Option Nat} (h : Fr K B a w) (hg : w.grownBy w' row) (hr : ∀ k, row = some k → B ≤ k ∧ ∃ o, w.heap[k]? = some o ∧ K o = true) : Fr K B a w' :=
  h.trans ⟨hg.os, hg.tape, hg.output, hg.size, fun k o hk hko => by
    refine (hg.block k (lt_of_heap hk) (fun e => ?_)).trans hk
    obtain ⟨h1, o', h2, h3⟩ := hr k e.symm
    rw [hk] at h2; cases h2
    rcases hko with hko | hko
    · omega
    · rw [h3] at hko; cases hko⟩
/-- What is of another kind stays, with all that hangs on its block. -/
theorem Fr.row {K : Obj → Bool} {B : Nat} {w w' : World} (h : Fr K B w w') {g : Nat} {cs : Array Value} {t : TypeId} {fz : Nat × Nat} (hg : w.heap[g]? = some (.cells cs t fz)) (hK : K (.cells cs t fz) = false) : w'.heap[g]? = some (.cells cs t fz) :=
  h.keep g _ hg (Or.inr hK)
theorem Fr.ownsRow {K : Obj → Bool} {B : Nat} {w w' : World} (h : Fr K B w w') {base : Nat} {e : TypeId} {size : Nat} {v : Value} {n : Nat} {xs : List Value} (ho : w.ownsRow base e size v n xs) (hK : ∀ cs, K (.cells cs e (0, 0)) = false) : w'.ownsRow base e size v n xs := by
  refine ⟨ho.1, ?_⟩
  rcases ho.2 with h2 | ⟨g, cap, cur, hv, hg, hh, r⟩
  · exact Or.inl h2
  · exact Or.inr ⟨g, cap, cur, hv, hg, h.keep g _ hh (Or.inr (hK _)), r⟩
theorem ownsRow_base {w : World} {base base' : Nat} {e : TypeId} {size : Nat} {v : Value} {n : Nat} {xs : List Value} (ho : w.ownsRow base e size v n xs) (hb : ∀ k, v.ownBlock = some k → base' ≤ k) : w.ownsRow base' e size v n xs := by
  refine ⟨ho.1, ?_⟩
  rcases ho.2 with h2 | ⟨g, cap, cur, hv, hg, hh, r⟩
  · exact Or.inl h2
  · exact Or.inr ⟨g, cap, cur, hv, hb g (by rw [hv]; rfl), hh, r⟩

theorem cell_row {w : World} {g : Nat} {cs : Array Value} {t : TypeId} {fz : Nat × Nat} (h : w.heap[g]? = some (.cells cs t fz)) (i : Nat) {v : Value} (hv : cs[i]? = some v) : w.cell? ⟨g, i, none⟩ = some v := by
  rw [cell_of_row w g i cs t fz h]; exact hv
theorem free_row {w : World} {g : Nat} {cs : Array Value} {t : TypeId} (h : w.heap[g]? = some (.cells cs t (0, 0))) (i : Nat) : w.frozen? ⟨g, i, none⟩ = false := frozen_of_row w g i cs t h
theorem Fr.cell {K : Obj → Bool} {B : Nat} {w w' : World} (h : Fr K B w w') {p : Addr} {v : Value} (hc : w.cell? p = some v) (hp : p.block < B) : w'.cell? p = some v := by
  have hb := World.block_lt_of_cell? w p hc
  have e : w.heap[p.block]? = some w.heap[p.block] := Array.getElem?_eq_getElem hb
  have e' := h.keep p.block _ e (Or.inl hp)
  rw [World.cell?_of_block (e'.trans e.symm)]; exact hc

/-- The cells of bytes. -/
def byteV (x : UInt8) : Value := .int .u8 x.toNat
def cellsB (bs : List UInt8) : List Value := bs.map byteV
theorem cellsB_length (bs : List UInt8) : (cellsB bs).length = bs.length := by simp [cellsB]
theorem byteV_inj {x y : UInt8} (h : byteV x = byteV y) : x = y := by
  simp only [byteV, Value.int.injEq] at h
  exact UInt8.toNat_inj.1 (by omega)
theorem cellsB_inj : ∀ {a b : List UInt8}, cellsB a = cellsB b → a = b
  | [], [], _ => rfl
  | [], _ :: _, h => by simp [cellsB] at h
  | _ :: _, [], h => by simp [cellsB] at h
  | x :: a, y :: b, h => by
    simp only [cellsB, List.map_cons, List.cons.injEq] at h
    rw [byteV_inj h.1, cellsB_inj (a := a) (b := b) h.2]
theorem oneCell_cellsB (bs : List UInt8) : ∀ u ∈ cellsB bs, u.oneCell' = true := by
  intro u hu
  simp only [cellsB, List.mem_map] at hu
  obtain ⟨x, _, rfl⟩ := hu
  rfl

end Go.Proofs.YtkmaikmbjebjeaaDoor
