/- Slices of bytes, as they came in and of one's own; texts of them. No statement of the seat is proved here. -/
import Derived.Test.YtdkmfcmndncmcaaRows
import Derived.Test.YtdkmfcmndncmcaaFill
namespace Go.Proofs.Ytdkmfcmndncmcaa
set_option maxRecDepth 20000
open Go.RowKit

theorem mixed : Try.prog.follows .mixedOrders = true := by kernel_rfl
/-- A slice of bytes that reads as bs in w. -/
def BytesAt (w : World) (v : Value) (bs : List UInt8) : Prop :=
  ∃ ao cap, v = .slice ao bs.length cap ∧ bs.length ≤ maxLen ∧ (0 < bs.length → ∃ b off cs fz, ao = some ⟨b, off, none⟩ ∧ w.heap[b]? = some (.cells cs 5 fz) ∧ ∀ i, i < bs.length → cs[off + i]? = some (byteV (bs.getD i 0)))
theorem BytesAt.fr {K : Obj → Bool} {B : Nat} {w w' : World} {v : Value} {bs : List UInt8} (h : BytesAt w v bs) (hf : Fr K B w w') (hK : ∀ cs fz, K (.cells cs 5 fz) = false) : BytesAt w' v bs := by
  obtain ⟨ao, cap, hv, hl, hc⟩ := h
  refine ⟨ao, cap, hv, hl, fun h0 => ?_⟩
  obtain ⟨b, off, cs, fz, h1, h2, h3⟩ := hc h0
  exact ⟨b, off, cs, fz, h1, hf.keep _ _ h2 (Or.inr (hK _ _)), h3⟩
theorem BytesAt.below {w w' : World} {v : Value} {bs : List UInt8} (h : BytesAt w v bs) (hb : Below w.heap.size w w') : BytesAt w' v bs :=
  h.fr (K := fun _ => false) (B := 0) (Fr.of_below hb) (fun _ _ => rfl)
theorem BytesAt.src {w : World} {ao : Option Addr} {n cap : Nat} {bs : List UInt8} (h : BytesAt w (.slice ao n cap) bs) (h0 : 0 < (cellsB bs).length) : ∃ ad, ao = some ad ∧ ∀ j v, (cellsB bs)[j]? = some v → w.cell? (ad.add j) = some v := by
  obtain ⟨ao', cap', hv, hl, hc⟩ := h
  rw [cellsB_length] at h0
  obtain ⟨b, off, cs, fz, h1, h2, h3⟩ := hc h0
  cases hv
  refine ⟨_, h1, fun j v hj => ?_⟩
  have hjl : j < bs.length := by have := (List.getElem?_eq_some_iff.1 hj).1; rwa [cellsB_length] at this
  rw [Addr.add_mid, cell_of_row w b (off + j) cs _ fz h2, h3 j hjl]
  simp only [cellsB, List.getElem?_map] at hj
  rw [← hj, List.getElem?_eq_getElem hjl, List.getD_eq_getElem?_getD, List.getElem?_eq_getElem hjl]; rfl
theorem sz5 : (Try.prog.info? 5).map (·.size) = some 1 := by kernel_rfl
theorem ownsRow_of_row {w w' : World} {base : Nat} {e : TypeId} {size : Nat} {v : Value} {n : Nat} {xs : List Value} (ho : w.ownsRow base e size v n xs) (hk : ∀ (k : Nat) cs, w.heap[k]? = some (.cells cs e (0, 0)) → w'.heap[k]? = some (.cells cs e (0, 0))) : w'.ownsRow base e size v n xs := by
  refine ⟨ho.1, ?_⟩
  rcases ho.2 with h2 | ⟨g, cap, cur, hv, hg, hh, r⟩
  · exact Or.inl h2
  · exact Or.inr ⟨g, cap, cur, hv, hg, hk _ _ hh, r⟩
theorem row_keep {K : Obj → Bool} {B B' : Nat} {w w' : World} {e : TypeId} {size : Nat} {v : Value} {n : Nat} {xs : List Value} (ho : w.ownsRow B e size v n xs) (hf : Fr K B' w w') (hK : ∀ cs, K (.cells cs e (0, 0)) = false) : w'.ownsRow B e size v n xs :=
  ownsRow_of_row ho (fun _ _ hh => hf.keep _ _ hh (Or.inr (hK _)))

/-- A slice of the call's own that holds bs. -/
def OwnB (base : Nat) (w : World) (v : Value) (bs : List UInt8) : Prop := w.ownsRow base 5 1 v bs.length (cellsB bs)
theorem OwnB.bytes {base : Nat} {w : World} {v : Value} {bs : List UInt8} (h : OwnB base w v bs) (hl : bs.length ≤ maxLen) : BytesAt w v bs := by
  rcases h.2 with ⟨h1, h2⟩ | ⟨g, cap, cur, hv, _, hg, _, _, _, htake⟩
  · exact ⟨none, 0, by rw [h1, h2], hl, fun h0 => by omega⟩
  · refine ⟨_, cap, hv, hl, fun h0 => ⟨g, 0, cur, (0, 0), rfl, hg, fun i hi => ?_⟩⟩
    have : (cellsB bs)[i]? = some (byteV (bs.getD i 0)) := by
      simp only [cellsB, List.getElem?_map, List.getElem?_eq_getElem hi, Option.map_some, List.getD_eq_getElem?_getD, Option.getD_some]
    rw [← htake, List.getElem?_take] at this
    split at this
    · simpa using this
    · cases this
theorem info5 : (Try.prog.info? 5).map (fun i => (i.zero, i.size, i.bytes)) = some (some (.int .u8 0), 1, 1) := by kernel_rfl

/-- Bytes of one's own are told as a text. -/
def strOf (bs : List UInt8) : ByteArray := ⟨bs.toArray⟩
set_option maxRecDepth 20000 in
theorem run_string {w : World} {base : Nat} {v : Value} {bs : List UInt8} (h : OwnB base w v bs) : (convert 67 9 v).run Try.prog w = .ok (.string (strOf bs)) w := by
  rcases h.2 with ⟨h1, h2⟩ | ⟨g, cap, cur, hv, _, hg, _, _, _, htake⟩
  · have hb : bs = [] := List.eq_nil_of_length_eq_zero h2
    subst hb
    rw [h1]
    exact run_convert_bytes_nil (P := Try.prog) w 67 5 Try.underlying67 Try.underlying5 0 0 9 Try.underlying9
  · rw [hv]
    have := run_convert_bytes_arg (P := Try.prog) w 67 5 Try.underlying67 Try.underlying5 g 0 bs.length cap (bs.map fun x => (x.toNat : Int)) (by simp) (fun i hi => by
      rw [cell_of_row w g (0 + i) cur _ _ hg, Nat.zero_add]
      have hc : (cellsB bs)[i]? = some (byteV (bs.getD i 0)) := by
        simp only [cellsB, List.getElem?_map, List.getElem?_eq_getElem hi, Option.map_some, List.getD_eq_getElem?_getD, Option.getD_some]
      rw [← htake, List.getElem?_take, Nat.mul_one, if_pos hi] at hc
      have hc' : cur[i]? = some (byteV (bs.getD i 0)) := by simpa using hc
      rw [hc']
      simp [byteV, List.getD_eq_getElem?_getD, List.getElem?_eq_getElem hi]) 9 Try.underlying9
    rw [this]
    congr 2
    simp [strOfNums, strOf, Function.comp_def]

end Go.Proofs.Ytdkmfcmndncmcaa
