/- Bytes told by a frame of blocks that stay. No statement of the seat is proved here. -/
import Derived.Test.YtmkomhdlcbimoaaJ1
import Derived.Test.YtmkomhdlcbimoaaKpt
namespace Go.Proofs.Ytmkomhdlcbimoaa
set_option maxRecDepth 20000
open Go.RowKit

/-- A slice of bytes that reads as bs in w, its block in Y. -/
def BytesIn (Y : Nat → Prop) (w : World) (v : Value) (bs : List UInt8) : Prop :=
  ∃ ao cap, v = .slice ao bs.length cap ∧ bs.length ≤ maxLen ∧ (0 < bs.length → ∃ b off cs fz, ao = some ⟨b, off, none⟩ ∧ Y b ∧ w.heap[b]? = some (.cells cs 5 fz) ∧ ∀ i, i < bs.length → cs[off + i]? = some (byteV (bs.getD i 0)))
theorem BytesIn.at {Y : Nat → Prop} {w : World} {v : Value} {bs : List UInt8} (h : BytesIn Y w v bs) : BytesAt w v bs := by
  obtain ⟨ao, cap, hv, hl, hc⟩ := h
  refine ⟨ao, cap, hv, hl, fun h0 => ?_⟩
  obtain ⟨b, off, cs, fz, h1, _, h2, h3⟩ := hc h0
  exact ⟨b, off, cs, fz, h1, h2, h3⟩
theorem BytesIn.keep {Y : Nat → Prop} {w w' : World} {v : Value} {bs : List UInt8} (h : BytesIn Y w v bs) (hk : ∀ (k : Nat) o, Y k → w.heap[k]? = some o → w'.heap[k]? = some o) : BytesIn Y w' v bs := by
  obtain ⟨ao, cap, hv, hl, hc⟩ := h
  refine ⟨ao, cap, hv, hl, fun h0 => ?_⟩
  obtain ⟨b, off, cs, fz, h1, hy, h2, h3⟩ := hc h0
  exact ⟨b, off, cs, fz, h1, hy, hk _ _ hy h2, h3⟩
theorem BytesIn.mono {Y Y' : Nat → Prop} {w : World} {v : Value} {bs : List UInt8} (h : BytesIn Y w v bs) (hY : ∀ k, k < w.heap.size → Y k → Y' k) : BytesIn Y' w v bs := by
  obtain ⟨ao, cap, hv, hl, hc⟩ := h
  refine ⟨ao, cap, hv, hl, fun h0 => ?_⟩
  obtain ⟨b, off, cs, fz, h1, hy, h2, h3⟩ := hc h0
  exact ⟨b, off, cs, fz, h1, hY b (lt_of_heap h2) hy, h2, h3⟩
theorem OwnB.inn {base : Nat} {w : World} {v : Value} {bs : List UInt8} (h : OwnB base w v bs) (hl : bs.length ≤ maxLen) : BytesIn (fun k => base ≤ k) w v bs := by
  rcases h.2 with ⟨h1, h2⟩ | ⟨g, cap, cur, hv, hb, hg, _, _, _, htake⟩
  · exact ⟨none, 0, by rw [h1, h2], hl, fun h0 => by omega⟩
  · refine ⟨_, cap, hv, hl, fun h0 => ⟨g, 0, cur, (0, 0), rfl, hb, hg, fun i hi => ?_⟩⟩
    have : (cellsB bs)[i]? = some (byteV (bs.getD i 0)) := by
      simp only [cellsB, List.getElem?_map, List.getElem?_eq_getElem hi, Option.map_some, List.getD_eq_getElem?_getD, Option.getD_some]
    rw [← htake, List.getElem?_take] at this
    split at this
    · simpa using this
    · cases this
set_option maxRecDepth 20000 in
theorem run_string_at {w : World} {v : Value} {bs : List UInt8} (h : BytesAt w v bs) : (convert 36 9 v).run Try.prog w = .ok (.string (strOf bs)) w := by
  obtain ⟨ao, cap, rfl, hl, hc⟩ := h
  by_cases h0 : 0 < bs.length
  · obtain ⟨g, off, cs, fz, rfl, hg, hat⟩ := hc h0
    have := run_convert_bytes_arg (P := Try.prog) w 36 5 Try.underlying36 Try.underlying5 g off bs.length cap (bs.map fun x => (x.toNat : Int)) (by simp) (fun i hi => by
      rw [cell_of_row w g (off + i) cs _ _ hg, hat i hi]
      simp [byteV, List.getD_eq_getElem?_getD, List.getElem?_eq_getElem hi]) 9 Try.underlying9
    rw [this]
    congr 2
    simp [strOfNums, strOf, Function.comp_def]
  · have hb : bs = [] := List.eq_nil_of_length_eq_zero (by omega)
    subst hb
    cases ao with
    | none => exact run_convert_bytes_nil (P := Try.prog) w 36 5 Try.underlying36 Try.underlying5 _ _ 9 Try.underlying9
    | some a =>
      obtain ⟨g, off, sp⟩ := a
      simp [convert, Conv.bytesToString, loadCells, run_underlying Try.underlying36, run_underlying Try.underlying9, run_underlying Try.underlying5, Result.andThen, strOf]
      rfl
end Go.Proofs.Ytmkomhdlcbimoaa
