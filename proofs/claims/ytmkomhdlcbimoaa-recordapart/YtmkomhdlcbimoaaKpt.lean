/- A frame by a set of blocks that stay as they are. No statement of the seat is proved here. -/
import Derived.Test.YtmkomhdlcbimoaaJ1
namespace Go.Proofs.Ytmkomhdlcbimoaa
set_option maxRecDepth 20000
open Go.RowKit

/-- The blocks of X are in w' as they were in w. -/
structure Kp (X : Nat → Prop) (w w' : World) : Prop where
  os : w'.os = w.os
  tape : w'.tape = w.tape
  output : w'.output = w.output
  size : w.heap.size ≤ w'.heap.size
  keep : ∀ (k : Nat) o, X k → w.heap[k]? = some o → w'.heap[k]? = some o

theorem Kp.refl (X : Nat → Prop) (w : World) : Kp X w w := ⟨rfl, rfl, rfl, Nat.le_refl _, fun _ _ _ h => h⟩
theorem Kp.trans {X : Nat → Prop} {a b c : World} (h : Kp X a b) (k : Kp X b c) : Kp X a c :=
  ⟨k.os.trans h.os, k.tape.trans h.tape, k.output.trans h.output, Nat.le_trans h.size k.size, fun i o hi ho => k.keep i o hi (h.keep i o hi ho)⟩
theorem Kp.mono {X X' : Nat → Prop} {w w' : World} (h : Kp X w w') (hX : ∀ k, X' k → X k) : Kp X' w w' :=
  ⟨h.os, h.tape, h.output, h.size, fun i o hi ho => h.keep i o (hX i hi) ho⟩
theorem Kp.drew {X : Nat → Prop} {a w : World} (h : Kp X a w) : Kp X a w.drew := ⟨h.os, h.tape, h.output, h.size, h.keep⟩
theorem Kp.of_below {X : Nat → Prop} {w w' : World} (h : Below w.heap.size w w') : Kp X w w' :=
  ⟨h.os, h.tape, h.output, h.size, fun k _ _ hk => (h.block k (lt_of_heap hk)).trans hk⟩
theorem Kp.alloc {X : Nat → Prop} {a w : World} (h : Kp X a w) (o : Obj) : Kp X a (w.alloc o) :=
  h.trans ⟨rfl, rfl, rfl, by simp, fun k _ _ hk => (Below.heap_alloc w o k (lt_of_heap hk)).trans hk⟩
theorem Kp.below {X : Nat → Prop} {B : Nat} {w w' : World} (h : Kp X w w') (hB : B ≤ w.heap.size) (hX : ∀ k, k < B → X k) : Below B w w' :=
  ⟨h.os, h.tape, h.output, h.size, fun k hk => by
    have : k < w.heap.size := Nat.lt_of_lt_of_le hk hB
    have e : w.heap[k]? = some w.heap[k] := Array.getElem?_eq_getElem this
    rw [e]; exact h.keep k _ (hX k hk) e⟩
theorem Kp.setCell {X : Nat → Prop} {a w : World} (h : Kp X a w) {p : Addr} (hp : ¬ X p.block) (u : Value) : Kp X a (w.setCell p u) :=
  h.trans ⟨rfl, rfl, rfl, by simp [World.setCell], fun k o hk ho => by
    rw [Below.heap_setCell _ _ _ _ (by rintro rfl; exact hp hk)]; exact ho⟩
theorem Kp.grown {X : Nat → Prop} {a w w' : World} {row : Option Nat} (h : Kp X a w) (hg : w.grownBy w' row) (hr : ∀ k, row = some k → ¬ X k) : Kp X a w' :=
  h.trans ⟨hg.os, hg.tape, hg.output, hg.size, fun k o hk ho => (hg.block k (lt_of_heap ho) (fun e => hr k e.symm hk)).trans ho⟩
theorem Kp.cell {X : Nat → Prop} {w w' : World} (h : Kp X w w') {p : Addr} {v : Value} (hp : X p.block) (hc : w.cell? p = some v) : w'.cell? p = some v := by
  have hb := World.block_lt_of_cell? w p hc
  have e : w.heap[p.block]? = some w.heap[p.block] := Array.getElem?_eq_getElem hb
  have e' := h.keep p.block _ hp e
  rw [World.cell?_of_block (e'.trans e.symm)]; exact hc
end Go.Proofs.Ytmkomhdlcbimoaa
