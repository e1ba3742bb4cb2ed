/- A frame by a set of blocks that stay as they are, and bytes told by it. No statement of the seat is proved here. -/
import Derived.Test.YtifbfnfcjkpjfaaBytes
import Derived.Test.YtifbfnfcjkpjfaaHeld
import Derived.Test.YtifbfnfcjkpjfaaWide
namespace Go.Proofs.Ytifbfnfcjkpjfaa
open Go.RowKit

/-- The blocks of X are in w' as they were in w. -/
structure Kp (X : Nat → Prop) (w w' : World) : Prop where
  os : w'.os = w.os
  tape : w'.tape = w.tape
  output : w'.output = w.output
  size : w.heap.size ≤ w'.heap.size
  keep : ∀ (k : Nat) o, X k → w.heap[k]? = some o → w'.heap[k]? = some o

theorem Kp.refl (X : Nat → Prop) (w : World) : Kp X w w := ⟨rfl, rfl, rfl, Nat.le_refl _, fun _ _ _ h => h⟩
theorem Kp.trans {X : Nat → Prop} {a b c : World} (h : Kp X a b) (k : Kp X b c) : Kp X a c :=
  ⟨k.os.trans h.os, k.tape.trans h.tape, k.output.trans h.output, Nat.le_trans h.size k.size, fun i o hi ho => k.keep i o hi (h.keep i o hi ho)⟩
theorem Kp.mono {X X' : Nat → Prop} {w w' : World} (h : Kp X w w') (hX : ∀ k, X' k → X k) : Kp X' w w' :=
  ⟨h.os, h.tape, h.output, h.size, fun i o hi ho => h.keep i o (hX i hi) ho⟩
theorem Kp.drew {X : Nat → Prop} {a w : World} (h : Kp X a w) : Kp X a w.drew := ⟨h.os, h.tape, h.output, h.size, h.keep⟩
theorem Kp.of_below {X : Nat → Prop} {w w' : World} (h : Below w.heap.size w w') : Kp X w w' :=
  ⟨h.os, h.tape, h.output, h.size, fun k _ _ hk => (h.block k (lt_of_heap hk)).trans hk⟩
theorem Kp.alloc {X : Nat → Prop} {a w : World} (h : Kp X a w) (o : Obj) : Kp X a (w.alloc o) :=
  h.trans ⟨rfl, rfl, rfl, by simp, fun k _ _ hk => (Below.heap_alloc w o k (lt_of_heap hk)).trans hk⟩
theorem Kp.below {X : Nat → Prop} {B : Nat} {w w' : World} (h : Kp X w w') (hB : B ≤ w.heap.size) (hX : ∀ k, k < B → X k) : Below B w w' :=
  ⟨h.os, h.tape, h.output, h.size, fun k hk => by
    have : k < w.heap.size := Nat.lt_of_lt_of_le hk hB
    have e : w.heap[k]? = some w.heap[k] := Array.getElem?_eq_getElem this
    rw [e]; exact h.keep k _ (hX k hk) e⟩
theorem Kp.setCell {X : Nat → Prop} {a w : World} (h : Kp X a w) {p : Addr} (hp : ¬ X p.block) (u : Value) : Kp X a (w.setCell p u) :=
  h.trans ⟨rfl, rfl, rfl, by simp [World.setCell], fun k o hk ho => by
    rw [Below.heap_setCell _ _ _ _ (by rintro rfl; exact hp hk)]; exact ho⟩
theorem Kp.grown {X : Nat → Prop} {a w w' : World} {row : Option Nat} (h : Kp X a w) (hg : w.grownBy w' row) (hr : ∀ k, row = some k → ¬ X k) : Kp X a w' :=
  h.trans ⟨hg.os, hg.tape, hg.output, hg.size, fun k o hk ho => (hg.block k (lt_of_heap ho) (fun e => hr k e.symm hk)).trans ho⟩
theorem Kp.cell {X : Nat → Prop} {w w' : World} (h : Kp X w w') {p : Addr} {v : Value} (hp : X p.block) (hc : w.cell? p = some v) : w'.cell? p = some v := by
  have hb := World.block_lt_of_cell? w p hc
  have e : w.heap[p.block]? = some w.heap[p.block] := Array.getElem?_eq_getElem hb
  have e' := h.keep p.block _ hp e
  rw [World.cell?_of_block (e'.trans e.symm)]; exact hc

/-- A slice of bytes that reads as bs in w, its block in Y. -/
def BytesIn (Y : Nat → Prop) (w : World) (v : Value) (bs : List UInt8) : Prop :=
  ∃ ao cap, v = .slice ao bs.length cap ∧ bs.length ≤ maxLen ∧ (0 < bs.length → ∃ b off cs fz, ao = some ⟨b, off, none⟩ ∧ Y b ∧ w.heap[b]? = some (.cells cs 5 fz) ∧ ∀ i, i < bs.length → cs[off + i]? = some (byteV (bs.getD i 0)))
theorem BytesIn.at {Y : Nat → Prop} {w : World} {v : Value} {bs : List UInt8} (h : BytesIn Y w v bs) : BytesAt w v bs := by
  obtain ⟨ao, cap, hv, hl, hc⟩ := h
  refine ⟨ao, cap, hv, hl, fun h0 => ?_⟩
  obtain ⟨b, off, cs, fz, h1, _, h2, h3⟩ := hc h0
  exact ⟨b, off, cs, fz, h1, h2, h3⟩
theorem BytesIn.keep {Y : Nat → Prop} {w w' : World} {v : Value} {bs : List UInt8} (h : BytesIn Y w v bs) (hk : ∀ (k : Nat) o, Y k → w.heap[k]? = some o → w'.heap[k]? = some o) : BytesIn Y w' v bs := by
  obtain ⟨ao, cap, hv, hl, hc⟩ := h
  refine ⟨ao, cap, hv, hl, fun h0 => ?_⟩
  obtain ⟨b, off, cs, fz, h1, hy, h2, h3⟩ := hc h0
  exact ⟨b, off, cs, fz, h1, hy, hk _ _ hy h2, h3⟩
theorem BytesIn.mono {Y Y' : Nat → Prop} {w : World} {v : Value} {bs : List UInt8} (h : BytesIn Y w v bs) (hY : ∀ k, k < w.heap.size → Y k → Y' k) : BytesIn Y' w v bs := by
  obtain ⟨ao, cap, hv, hl, hc⟩ := h
  refine ⟨ao, cap, hv, hl, fun h0 => ?_⟩
  obtain ⟨b, off, cs, fz, h1, hy, h2, h3⟩ := hc h0
  exact ⟨b, off, cs, fz, h1, hY b (lt_of_heap h2) hy, h2, h3⟩
theorem OwnB.inn {base : Nat} {w : World} {v : Value} {bs : List UInt8} (h : OwnB base w v bs) (hl : bs.length ≤ maxLen) : BytesIn (fun k => base ≤ k) w v bs := by
  rcases h.2 with ⟨h1, h2⟩ | ⟨g, cap, cur, hv, hb, hg, _, _, _, htake⟩
  · exact ⟨none, 0, by rw [h1, h2], hl, fun h0 => by omega⟩
  · refine ⟨_, cap, hv, hl, fun h0 => ⟨g, 0, cur, (0, 0), rfl, hb, hg, fun i hi => ?_⟩⟩
    have : (cellsB bs)[i]? = some (byteV (bs.getD i 0)) := by
      simp only [cellsB, List.getElem?_map, List.getElem?_eq_getElem hi, Option.map_some, List.getD_eq_getElem?_getD, Option.getD_some]
    rw [← htake, List.getElem?_take] at this
    split at this
    · simpa using this
    · cases this
theorem run_string_at {w : World} {v : Value} {bs : List UInt8} (h : BytesAt w v bs) : (convert 23 9 v).run Try.prog w = .ok (.string (strOf bs)) w := by
  obtain ⟨ao, cap, rfl, hl, hc⟩ := h
  by_cases h0 : 0 < bs.length
  · obtain ⟨g, off, cs, fz, rfl, hg, hat⟩ := hc h0
    have := run_convert_bytes_arg (P := Try.prog) w 23 5 Try.underlying23 Try.underlying5 g off bs.length cap (bs.map fun x => (x.toNat : Int)) (by simp) (fun i hi => by
      rw [cell_of_row w g (off + i) cs _ _ hg, hat i hi]
      simp [byteV, List.getD_eq_getElem?_getD, List.getElem?_eq_getElem hi]) 9 Try.underlying9
    rw [this]
    congr 2
    simp [strOfNums, strOf, Function.comp_def]
  · have hb : bs = [] := List.eq_nil_of_length_eq_zero (by omega)
    subst hb
    cases ao with
    | none => exact run_convert_bytes_nil (P := Try.prog) w 23 5 Try.underlying23 Try.underlying5 _ _ 9 Try.underlying9
    | some a =>
      obtain ⟨g, off, sp⟩ := a
      simp [convert, Conv.bytesToString, loadCells, run_underlying Try.underlying23, run_underlying Try.underlying9, run_underlying Try.underlying5, Result.andThen, strOf]
      rfl
end Go.Proofs.Ytifbfnfcjkpjfaa
