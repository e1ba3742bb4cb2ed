/- The flash device as it lies in memory ('DevAt'), told by a plain structure ('Dev'); the contracts of its small methods. No statement of the seat is proved here. -/
import Derived.Test.YtfdabkcbefhdaaaRows
import Derived.Test.YtfdabkcbefhdaaaMem
namespace Go.Proofs.Ytfdabkcbefhdaaa
set_option maxRecDepth 20000
open Go.RowKit

/-! ### the device, plainly -/
structure Dev where
  size : Nat
  last : Int → List UInt8 × Bool
  waits : List (Int × List UInt8)
  off : Bool
  armed : Bool
  left : Nat

def zeros : List UInt8 := List.replicate 256 0
theorem zeros_length : zeros.length = 256 := List.length_replicate
def Dev.fresh (n : Nat) : Dev := { size := n, last := fun _ => (zeros, false), waits := [], off := false, armed := false, left := 0 }
def Dev.has (d : Dev) (i : Int) : Bool := decide (0 ≤ i) && decide (i < d.size)
def Dev.spend (d : Dev) : Bool × Dev :=
  if d.off then (false, d) else if !d.armed then (true, d) else if d.left = 0 then (false, { d with off := true }) else (true, { d with left := d.left - 1 })
def Dev.arm (d : Dev) (n : Int) : Dev := { d with armed := decide (0 ≤ n), left := n.toNat }

/-- What the device keeps to. -/
structure Dev.Ok (d : Dev) : Prop where
  size : d.size ≤ 4096
  left : d.left ≤ 9223372036854775807
  at_ : ∀ p ∈ d.waits, 0 ≤ p.1 ∧ p.1 < d.size
  len : ∀ p ∈ d.waits, p.2.length = 256
  last : ∀ k, (d.last k).1.length = 256

/-! ### its cells -/
def wrCells (p : Int × List UInt8) : List Value := .int .i64 p.1 :: cellsB p.2
def secCells (p : List UInt8 × Bool) : List Value := cellsB p.1 ++ [.bool p.2]
def secV (p : List UInt8 × Bool) : Value := .agg (secCells p).toArray
def secD (p : List UInt8 × Bool) : DataW Unit := .agg [.lit (.string p.1), .lit (.bool p.2)]
theorem secD_inj {p q : List UInt8 × Bool} (h : secD p = secD q) : p = q := by
  simp only [secD, DataW.agg.injEq, List.cons.injEq, DataW.lit.injEq, Lit.string.injEq, Lit.bool.injEq] at h
  exact Prod.ext h.1 h.2.1
theorem secV_inj {p q : List UInt8 × Bool} (h : secV p = secV q) : p = q := by
  simp only [secV, Value.agg.injEq, secCells] at h
  have h' : cellsB p.1 ++ [Value.bool p.2] = cellsB q.1 ++ [Value.bool q.2] := by simpa using h
  have h1 := List.append_inj' h' rfl
  have h2 : p.2 = q.2 := by simpa using h1.2
  exact Prod.ext (cellsB_inj h1.1) h2
/-- How an element of the map reads. -/
noncomputable def secR (v : Value) : Option (DataW Unit × List MemPlace) :=
  open Classical in if h : ∃ p, v = secV p then some (secD h.choose, []) else none
theorem secR_mk (p : List UInt8 × Bool) : secR (secV p) = some (secD p, []) := by
  have h : ∃ q, secV p = secV q := ⟨p, rfl⟩
  unfold secR
  rw [dif_pos h, secV_inj h.choose_spec.symm]
theorem secR_inv {v : Value} {p : List UInt8 × Bool} {ps : List MemPlace} (h : secR v = some (secD p, ps)) : v = secV p := by
  unfold secR at h
  split at h
  · rename_i hh
    simp only [Option.some.injEq, Prod.mk.injEq] at h
    rw [hh.choose_spec, secD_inj h.1]
  · cases h

/-- The kinds of blocks that a device is made of. -/
def FK : Obj → Bool
  | .map _ _ => true
  | .cells _ t _ => t == 61 || t == 65
  | _ => false

/-- The map of what lasts. -/
def LastIs (B : Nat) (w : World) (v : Value) (f : Int → List UInt8 × Bool) (N : Nat) : Prop :=
  (v = .map none ∧ ∀ k, f k = (zeros, false)) ∨
  ∃ mb D, v = .map (some mb) ∧ B ≤ mb ∧ w.ownsMap Try.prog 3 secR mb N D ∧ Maps.IsMap D ∧ ∀ k, D.atKey (.int .i64 k) (secD (zeros, false)) = secD (f k)

/-- THE DEVICE d AT BLOCK db OF w, all its blocks from B on; N: how often it was kept into its map, at most. -/
structure DevAt (B : Nat) (w : World) (db : Nat) (d : Dev) (N : Nat) : Prop where
  ok : d.Ok
  ge : B ≤ db
  box : ∃ mv sv, w.heap[db]? = some (.cells #[.int .i64 d.size, mv, sv, .bool d.off, .bool d.armed, .int .i64 d.left] 61 (0, 0)) ∧
    LastIs B w mv d.last N ∧ w.ownsRow B 65 257 sv d.waits.length (d.waits.flatMap wrCells)

/-! ### what is kept of it -/
theorem LastIs.of_map {B : Nat} {w w' : World} {v : Value} {f : Int → List UInt8 × Bool} {N : Nat} (h : LastIs B w v f N) (hk : ∀ (k : Nat) es c, w.heap[k]? = some (.map es c) → w'.heap[k]? = some (.map es c)) : LastIs B w' v f N := by
  rcases h with h | ⟨mb, D, hv, hB, ho, hm, hat⟩
  · exact Or.inl h
  · refine Or.inr ⟨mb, D, hv, hB, ?_, hm, hat⟩
    obtain ⟨es, clock, hb, F, hs, hD⟩ := ho
    exact ⟨es, clock, hk _ _ _ hb, F, hs, hD⟩
theorem ownsRow_of_row {w w' : World} {base : Nat} {e : TypeId} {size : Nat} {v : Value} {n : Nat} {xs : List Value} (ho : w.ownsRow base e size v n xs) (hk : ∀ (k : Nat) cs, w.heap[k]? = some (.cells cs e (0, 0)) → w'.heap[k]? = some (.cells cs e (0, 0))) : w'.ownsRow base e size v n xs := by
  refine ⟨ho.1, ?_⟩
  rcases ho.2 with h2 | ⟨g, cap, cur, hv, hg, hh, r⟩
  · exact Or.inl h2
  · exact Or.inr ⟨g, cap, cur, hv, hg, hk _ _ hh, r⟩
/-- A world in which all old blocks are as they were. -/
theorem DevAt.below {B : Nat} {w w' : World} {db : Nat} {d : Dev} {N : Nat} (h : DevAt B w db d N) (hb : Below w.heap.size w w') : DevAt B w' db d N := by
  obtain ⟨ok, ge, mv, sv, h1, h2, h3⟩ := h
  have hk : ∀ (k : Nat) o, w.heap[k]? = some o → w'.heap[k]? = some o := fun k o ho => (hb.block k (lt_of_heap ho)).trans ho
  exact ⟨ok, ge, mv, sv, hk _ _ h1, h2.of_map (fun k es c => hk k _), ownsRow_of_row h3 (fun k cs => hk k _)⟩
/-- Other objects' methods leave it as it is. -/
theorem DevAt.fr {K : Obj → Bool} {B B' : Nat} {w w' : World} {db : Nat} {d : Dev} {N : Nat} (h : DevAt B w db d N) (hf : Fr K B' w w') (hK : ∀ o, FK o = true → K o = false) : DevAt B w' db d N := by
  obtain ⟨ok, ge, mv, sv, h1, h2, h3⟩ := h
  refine ⟨ok, ge, mv, sv, hf.keep _ _ h1 (Or.inr (hK _ rfl)), h2.of_map (fun k es c hh => hf.keep _ _ hh (Or.inr (hK _ rfl))), ownsRow_of_row h3 (fun k cs hh => hf.keep _ _ hh (Or.inr (hK _ rfl)))⟩

/-- A store into the device's own cells (its numbers and flags). -/
theorem DevAt.store {B : Nat} {w : World} {db : Nat} {d d' : Dev} {N : Nat} (h : DevAt B w db d N) (i : Nat) (u : Value) (hd : d'.Ok)
    (hcs : ∀ mv sv, (#[.int .i64 d.size, mv, sv, .bool d.off, .bool d.armed, .int .i64 d.left] : Array Value).setIfInBounds i u = #[.int .i64 d'.size, mv, sv, .bool d'.off, .bool d'.armed, .int .i64 d'.left])
    (hl : d'.last = d.last) (hw : d'.waits = d.waits) : DevAt B (w.setCell ⟨db, i, none⟩ u) db d' N ∧ Fr FK B w (w.setCell ⟨db, i, none⟩ u) := by
  obtain ⟨ok, ge, mv, sv, h1, h2, h3⟩ := h
  have hs := heap_setCell_same w db i _ _ u h1
  rw [hcs] at hs
  refine ⟨⟨hd, ge, mv, sv, hs, ?_, ?_⟩, (Fr.refl _ _ _).setCell h1 ge rfl u⟩
  · rw [hl]; refine h2.of_map (fun k es c hk => ?_)
    rw [Below.heap_setCell _ _ _ _ (by rintro rfl; rw [h1] at hk; cases hk)]; exact hk
  · rw [hw]; refine ownsRow_of_row h3 (fun k cs hk => ?_)
    rw [Below.heap_setCell _ _ _ _ (by rintro rfl; rw [h1] at hk; simp at hk)]; exact hk

/-! ### the small methods -/
set_option maxHeartbeats 400000 in
theorem has_nil (i : Int) (w : World) : Calls Try.prog 25 #[.pointer none, .int .i64 i] w fun e w' => e = .returned (.bool false) ∧ w = w' := by
  go_enter Try.func25, Try.ntmps25
  go_wp2
  go_ret
  exact ⟨rfl, rfl⟩
end Go.Proofs.Ytfdabkcbefhdaaa
