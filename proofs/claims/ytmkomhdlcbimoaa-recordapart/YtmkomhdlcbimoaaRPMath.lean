/- Pairs as items, and their blobs: plain mathematics. No statement of the seat is proved here. -/
import Derived.Test.YtmkomhdlcbimoaaRPair
namespace Go.Proofs.Ytmkomhdlcbimoaa
set_option maxRecDepth 20000
open Go.RowKit

def pairT (l : List Pr) : List It := l.flatMap fun p => [txtI p.k, txtI p.v]
def pairI (n : Int) (l : List Pr) : List It := numI 4 :: numI n :: pairT l
theorem pairT_length (l : List Pr) : (pairT l).length = 2 * l.length := by
  induction l with
  | nil => rfl
  | cons x r ih => simp only [pairT, List.flatMap_cons, List.length_append, List.length_cons, List.length_nil] at *; omega
theorem pairI_length (n : Int) (l : List Pr) : (pairI n l).length = 2 * l.length + 2 := by
  simp only [pairI, List.length_cons, pairT_length]
theorem pairT_at (l : List Pr) : ∀ i, i < l.length → itAt (pairT l) (2 * i) = txtI (prAt l i).k ∧ itAt (pairT l) (2 * i + 1) = txtI (prAt l i).v := by
  induction l with
  | nil => intro i hi; simp at hi
  | cons x r ih =>
    intro i hi
    cases i with
    | zero => exact ⟨rfl, rfl⟩
    | succ j =>
      have h := ih j (by simpa using hi)
      have e1 : itAt (pairT (x :: r)) (2 * (j + 1)) = itAt (pairT r) (2 * j) := rfl
      have e2 : itAt (pairT (x :: r)) (2 * (j + 1) + 1) = itAt (pairT r) (2 * j + 1) := rfl
      rw [e1, e2]; exact h
theorem pairI_at (n : Int) (l : List Pr) (i : Nat) (hi : i < l.length) : itAt (pairI n l) (2 * i + 2) = txtI (prAt l i).k ∧ itAt (pairI n l) (2 * i + 2 + 1) = txtI (prAt l i).v := pairT_at l i hi
theorem pairT_take (l : List Pr) (k : Nat) (h : k < l.length) : pairT (l.take (k + 1)) = pairT (l.take k) ++ [txtI (prAt l k).k, txtI (prAt l k).v] := by
  unfold pairT prAt
  rw [List.take_succ_eq_append_getElem h, List.flatMap_append, List.getD_eq_getElem?_getD, List.getElem?_eq_getElem h]; simp
theorem pairI_take (n : Int) (l : List Pr) (k : Nat) (h : k < l.length) : pairI n (l.take (k + 1)) = pairI n (l.take k) ++ [txtI (prAt l k).k, txtI (prAt l k).v] := by
  unfold pairI; rw [pairT_take l k h]; rfl
theorem packT_length (l : List Pr) : (packB (pairT l)).length = sizP l := by
  induction l with
  | nil => rfl
  | cons x r ih =>
    have : packB (pairT (x :: r)) = itemB (txtI x.k) ++ (itemB (txtI x.v) ++ packB (pairT r)) := by simp [packB, pairT]
    rw [this, List.length_append, List.length_append, txtI_len, txtI_len, ih]
    simp only [sizP, List.map_cons, List.sum_cons]; omega
theorem packP_length (n : Int) (l : List Pr) : (packB (pairI n l)).length = 18 + sizP l := by
  have : packB (pairI n l) = itemB (numI 4) ++ (itemB (numI n) ++ packB (pairT l)) := by simp [packB, pairI]
  rw [this, List.length_append, List.length_append, numI_len, numI_len, packT_length]; omega
theorem bigP_false {l : List Pr} (h : bigP l = false) : l.length ≤ 1900 ∧ 22 + sizP l ≤ 60000 := by
  unfold bigP at h
  simp only [Bool.or_eq_false_iff, decide_eq_false_iff_not] at h
  omega
theorem okP_true {n : Int} {l : List Pr} (h : okP n l = true) : 0 ≤ n ∧ ∀ i, i < l.length → fitAt l i = true := by
  unfold okP fitP at h
  simp only [Bool.and_eq_true, List.all_eq_true, List.mem_range, decide_eq_true_eq] at h
  exact ⟨h.2, h.1⟩
theorem fitAt_true {l : List Pr} {i : Nat} (h : fitAt l i = true) : leS (prAt l i).k (prevK l i) = false ∧ (prAt l i).k.size ≤ 32 ∧ (prAt l i).v.size ≤ 48 := by
  unfold fitAt at h
  simp only [Bool.and_eq_true, decide_eq_true_eq] at h
  refine ⟨by simpa using h.1.1, h.1.2, h.2⟩
theorem okP_sizes {n : Int} {l : List Pr} (h : okP n l = true) : ∀ x ∈ l, x.k.size ≤ 32 ∧ x.v.size ≤ 48 := by
  intro x hx
  obtain ⟨i, hi, rfl⟩ := mem_prAt hx
  exact (fitAt_true ((okP_true h).2 i hi)).2
theorem mem_pairT {l : List Pr} {x : It} (h : x ∈ pairT l) : ∃ p ∈ l, x = txtI p.k ∨ x = txtI p.v := by
  unfold pairT at h
  obtain ⟨p, hp, hx⟩ := List.mem_flatMap.1 h
  simp only [List.mem_cons, List.not_mem_nil, or_false] at hx
  exact ⟨p, hp, hx⟩
theorem encE_pairs {n : Int} {l : List Pr} (hb : bigP l = false) (h : okP n l = true) : encE (pairI n l) = 0 := encE_of (by rw [pairI_length]; have := (bigP_false hb).1; omega) (by
  intro x hx
  have hs := okP_sizes h
  simp only [pairI, List.mem_cons] at hx
  rcases hx with rfl | rfl | hx
  · exact ⟨numI_form _, numI_short _⟩
  · exact ⟨numI_form _, numI_short _⟩
  · obtain ⟨p, hp, e⟩ := mem_pairT hx
    have := hs p hp
    rcases e with rfl | rfl
    · exact ⟨txtI_form _, txtI_short (by omega)⟩
    · exact ⟨txtI_form _, txtI_short (by omega)⟩)
theorem pairI_ok {n : Int} {l : List Pr} (hn : inI n) (hok : ∀ x ∈ l, x.ok) : ∀ x ∈ pairI n l, x.ok := by
  intro x hx
  simp only [pairI, List.mem_cons] at hx
  rcases hx with rfl | rfl | hx
  · exact numI_ok ⟨by decide, by decide⟩
  · exact numI_ok hn
  · obtain ⟨p, hp, e⟩ := mem_pairT hx
    have := hok p hp
    unfold Pr.ok at this
    rcases e with rfl | rfl
    · exact txtI_ok (by unfold maxLen; omega)
    · exact txtI_ok (by unfold maxLen; omega)
theorem sizes_ok {n : Int} {l : List Pr} (h : okP n l = true) : ∀ x ∈ l, x.ok := fun x hx => by
  have := okP_sizes h x hx; exact ⟨by omega, by omega⟩

/-! ### pairs out of items -/
def prsOf (it : List It) : List Pr := (List.range ((it.length - 2) / 2)).map fun i => ⟨(itAt it (2 * i + 2)).s, (itAt it (2 * i + 2 + 1)).s⟩
theorem prsOf_length (it : List It) : (prsOf it).length = (it.length - 2) / 2 := by simp [prsOf]
theorem prsOf_at (it : List It) (i : Nat) (h : i < (it.length - 2) / 2) : prAt (prsOf it) i = ⟨(itAt it (2 * i + 2)).s, (itAt it (2 * i + 2 + 1)).s⟩ := by
  unfold prAt prsOf
  rw [List.getD_eq_getElem?_getD, List.getElem?_map, List.getElem?_range h]; rfl
theorem pr_ext {l m : List Pr} (hl : l.length = m.length) (h : ∀ i, i < l.length → prAt l i = prAt m i) : l = m := by
  apply List.ext_getElem hl
  intro i h1 h2
  have := h i h1
  unfold prAt at this
  rw [List.getD_eq_getElem?_getD, List.getD_eq_getElem?_getD, List.getElem?_eq_getElem h1, List.getElem?_eq_getElem h2] at this
  exact this
theorem it_ext {l m : List It} (hl : l.length = m.length) (h : ∀ i, i < l.length → itAt l i = itAt m i) : l = m := by
  apply List.ext_getElem hl
  intro i h1 h2
  have := h i h1
  unfold itAt at this
  rw [List.getD_eq_getElem?_getD, List.getD_eq_getElem?_getD, List.getElem?_eq_getElem h1, List.getElem?_eq_getElem h2] at this
  exact this
theorem prs_pairI (n : Int) (l : List Pr) : prsOf (pairI n l) = l := by
  have hlen : ((pairI n l).length - 2) / 2 = l.length := by rw [pairI_length]; omega
  apply pr_ext
  · rw [prsOf_length, hlen]
  · intro i hi
    rw [prsOf_length, hlen] at hi
    rw [prsOf_at _ _ (by rw [hlen]; exact hi), (pairI_at n l i hi).1, (pairI_at n l i hi).2]; rfl
theorem pairI_shape (n : Int) (l : List Pr) : shapeB (pairI n l) 4 2 = true := by
  refine shape_true (by rw [pairI_length]; omega) rfl (fun i hi => ?_)
  rw [pairI_length] at hi
  by_cases h0 : i = 0
  · subst h0; rfl
  · by_cases h1 : i = 1
    · subst h1; rfl
    · obtain ⟨j, rfl | rfl⟩ : ∃ j, i = 2 * j + 2 ∨ i = 2 * j + 2 + 1 := ⟨(i - 2) / 2, by omega⟩
      · rw [(pairI_at n l j (by omega)).1, decide_eq_false (by omega)]; rfl
      · rw [(pairI_at n l j (by omega)).2, decide_eq_false (by omega)]; rfl
theorem pairs_of {it : List It} (hE : encE it = 0) (hs : shapeB it 4 2 = true) (he : it.length % 2 = 0) : it = pairI (itAt it 1).n (prsOf it) := by
  have hl : 2 ≤ it.length := by
    unfold shapeB at hs
    simp only [Bool.and_eq_true, decide_eq_true_eq] at hs
    exact hs.1.1
  apply it_ext
  · rw [pairI_length, prsOf_length]; omega
  · intro i hi
    by_cases h0 : i = 0
    · subst h0
      have := head_at' hE hs (i := 0) hi (by omega)
      rw [(shape_get hs).1] at this; exact this
    · by_cases h1 : i = 1
      · subst h1; exact head_at' hE hs hi (by omega)
      · have ht := text_at' hE hs hi (by omega)
        obtain ⟨j, rfl | rfl⟩ : ∃ j, i = 2 * j + 2 ∨ i = 2 * j + 2 + 1 := ⟨(i - 2) / 2, by omega⟩
        · rw [(pairI_at _ _ j (by rw [prsOf_length]; omega)).1, prsOf_at _ _ (by omega)]; exact ht
        · rw [(pairI_at _ _ j (by rw [prsOf_length]; omega)).2, prsOf_at _ _ (by omega)]; exact ht
def pshB (it : List It) : Bool := shapeB it 4 2 && decide (it.length % 2 = 0)
def pdecOk (it : List It) : Bool := pshB it && !(bigP (prsOf it)) && okP (itAt it 1).n (prsOf it)
def pdecE (bs : List UInt8) : Int := if unsE bs ≠ 0 then unsE bs else if pdecOk (unsR bs) then 0 else 2
def pdecN (bs : List UInt8) : Int := if pdecE bs = 0 then (itAt (unsR bs) 1).n else 0
def pdecL (bs : List UInt8) : List Pr := if pdecE bs = 0 then prsOf (unsR bs) else []
def blobB (n : Int) (l : List Pr) : List UInt8 := sealed (packB (pairI n l))
theorem pairs_seal {n : Int} {l : List Pr} (hb : bigP l = false) (h : okP n l = true) (hn : inI n) : pdecE (blobB n l) = 0 ∧ pdecN (blobB n l) = n ∧ pdecL (blobB n l) = l := by
  obtain ⟨h1, h2⟩ := uns_seal (encE_pairs hb h) (pairI_ok hn (sizes_ok h))
  have hE : pdecE (blobB n l) = 0 := by
    unfold pdecE blobB
    rw [h1, h2, if_neg (by simp), if_pos]
    unfold pdecOk pshB
    rw [pairI_shape, prs_pairI, hb, show (itAt (pairI n l) 1).n = n from rfl, h, decide_eq_true (by rw [pairI_length]; omega)]; rfl
  refine ⟨hE, ?_, ?_⟩
  · unfold pdecN; rw [if_pos hE]; unfold blobB; rw [h2]; rfl
  · unfold pdecL; rw [if_pos hE]; unfold blobB; rw [h2, prs_pairI]
theorem pdecE_zero {bs : List UInt8} (h : pdecE bs = 0) : unsE bs = 0 ∧ pdecOk (unsR bs) = true := by
  unfold pdecE at h
  split at h
  · contradiction
  · split at h
    · exact ⟨Decidable.of_not_not ‹_›, ‹_›⟩
    · cases h
theorem pairs_back {bs : List UInt8} (h : pdecE bs = 0) : bs = blobB (pdecN bs) (pdecL bs) ∧ bigP (pdecL bs) = false ∧ okP (pdecN bs) (pdecL bs) = true ∧ inI (pdecN bs) := by
  have e1 : pdecN bs = (itAt (unsR bs) 1).n := if_pos h
  have e2 : pdecL bs = prsOf (unsR bs) := if_pos h
  obtain ⟨h1, h2⟩ := pdecE_zero h
  obtain ⟨u1, u2, u3⟩ := unsE_zero h1
  unfold pdecOk pshB at h2
  simp only [Bool.and_eq_true, decide_eq_true_eq, Bool.not_eq_true'] at h2
  obtain ⟨⟨⟨k1, k2⟩, k3⟩, k4⟩ := h2
  have hp := pairs_of u1 k1 k2
  have hl : 2 ≤ (unsR bs).length := by
    unfold shapeB at k1
    simp only [Bool.and_eq_true, decide_eq_true_eq] at k1
    exact k1.1.1
  rw [e1, e2]
  refine ⟨?_, k3, k4, (itAt_ok u3 (by omega)).2.1⟩
  unfold blobB
  rw [← hp]; exact u2
theorem pdecE_cases (bs : List UInt8) : pdecE bs = 0 ∨ pdecE bs = 2 ∨ pdecE bs = 16 := by
  unfold pdecE; split
  · exact unsE_cases bs
  · split <;> simp
def epE (n : Int) (l : List Pr) : Int := if bigP l then 14 else if okP n l then 0 else 2
def epR (n : Int) (l : List Pr) : List UInt8 := if epE n l = 0 then blobB n l else []
theorem epE_zero {n : Int} {l : List Pr} (h : epE n l = 0) : bigP l = false ∧ okP n l = true := by
  unfold epE at h
  split at h
  · cases h
  · split at h
    · rename_i h1 h2
      exact ⟨by simpa using h1, h2⟩
    · cases h
theorem epE_ok {n : Int} {l : List Pr} (hb : bigP l = false) (h : okP n l = true) : epE n l = 0 := by unfold epE; rw [hb, h]; rfl
end Go.Proofs.Ytmkomhdlcbimoaa
