/- The halves of a node: plain mathematics. No statement of the seat is proved here. -/
import Derived.Test.YtdkmfcmndncmcaaNMath2
namespace Go.Proofs.Ytdkmfcmndncmcaa
set_option maxRecDepth 20000
open Go.RowKit

theorem ris_take {l : List ByteArray} (h : risB l = true) (i : Nat) : risB (l.take i) = true := by
  obtain ⟨h1, h2⟩ := risB_mem h
  exact risB_of (fun s hs => h1 s (List.mem_of_mem_take hs)) (h2.sublist (List.take_sublist _ _))
theorem ris_drop {l : List ByteArray} (h : risB l = true) (i : Nat) : risB (l.drop i) = true := by
  obtain ⟨h1, h2⟩ := risB_mem h
  exact risB_of (fun s hs => h1 s (List.mem_of_mem_drop hs)) (h2.sublist (List.drop_sublist _ _))
theorem ksOf_take (l : List Pr) (i : Nat) : ksOf (l.take i) = (ksOf l).take i := List.map_take
theorem ksOf_drop (l : List Pr) (i : Nat) : ksOf (l.drop i) = (ksOf l).drop i := List.map_drop
theorem sizPs_pos {l : List Pr} (h : 0 < l.length) : 0 < sizPs l := by
  cases l with
  | nil => simp at h
  | cons a r => simp [sizPs]; omega
def lfLo (n : Nd) (i : Nat) : Nd := ⟨true, n.ps.take i, [], []⟩
def lfHi (n : Nd) (i : Nat) : Nd := ⟨true, n.ps.drop i, [], []⟩
theorem lf_ok {n : Nd} (hl : n.leaf = true) (h : okN n = true) (i : Nat) : okN (lfLo n i) = true ∧ okN (lfHi n i) = true := by
  obtain ⟨-, -, h3, h4, h5⟩ := okL_true ((okN_leaf hl).symm.trans h)
  refine ⟨(okN_leaf (n := lfLo n i) rfl).trans (okL_of rfl rfl ?_ ?_ ?_), (okN_leaf (n := lfHi n i) rfl).trans (okL_of rfl rfl ?_ ?_ ?_)⟩
  · show (n.ps.take i).length ≤ 255; rw [List.length_take]; omega
  · show risB (ksOf (n.ps.take i)) = true; rw [ksOf_take]; exact ris_take h4 i
  · exact fun p hp => h5 p (List.mem_of_mem_take hp)
  · show (n.ps.drop i).length ≤ 255; rw [List.length_drop]; omega
  · show risB (ksOf (n.ps.drop i)) = true; rw [ksOf_drop]; exact ris_drop h4 i
  · exact fun p hp => h5 p (List.mem_of_mem_drop hp)
theorem lf_size {n : Nd} (hl : n.leaf = true) {i : Nat} (h1 : 1 ≤ i) (h2 : i < n.ps.length) : sizN (lfLo n i) < sizN n ∧ sizN (lfHi n i) < sizN n := by
  have e : sizPs n.ps = sizPs (n.ps.take i) + sizPs (n.ps.drop i) := by rw [← sizPs_append, List.take_append_drop]
  have a := sizPs_pos (l := n.ps.take i) (by rw [List.length_take]; omega)
  have b := sizPs_pos (l := n.ps.drop i) (by rw [List.length_drop]; omega)
  unfold sizN
  rw [hl]
  simp only [lfLo, lfHi, if_true]
  omega
theorem lf_join (n : Nd) (i : Nat) : (lfLo n i).ps ++ (lfHi n i).ps = n.ps := List.take_append_drop _ _
theorem lf_below {n : Nd} (hl : n.leaf = true) (h : okN n = true) {i j : Nat} (hi : i < n.ps.length) (hj : j < i) : ltS (prAt (n.ps.take i) j).k (prAt n.ps i).k = true := by
  obtain ⟨-, -, -, h4, -⟩ := okL_true ((okN_leaf hl).symm.trans h)
  have := risB_lt h4 hj (by rw [ksOf_length]; exact hi)
  rw [ksOf_at _ (by omega), ksOf_at _ hi] at this
  have e : prAt (n.ps.take i) j = prAt n.ps j := by
    unfold prAt
    rw [List.getD_eq_getElem?_getD, List.getD_eq_getElem?_getD, List.getElem?_take, if_pos hj]
  rw [e]; exact this
theorem lf_above {n : Nd} (hl : n.leaf = true) (h : okN n = true) {i j : Nat} (hj : i + j < n.ps.length) : ltS (prAt (n.ps.drop i) j).k (prAt n.ps i).k = false := by
  obtain ⟨-, -, -, h4, -⟩ := okL_true ((okN_leaf hl).symm.trans h)
  have e : prAt (n.ps.drop i) j = prAt n.ps (i + j) := by
    unfold prAt
    rw [List.getD_eq_getElem?_getD, List.getD_eq_getElem?_getD, List.getElem?_drop]
  rw [e]
  by_cases h0 : j = 0
  · subst h0; exact ltS_irrefl _
  · have := risB_lt h4 (i := i) (j := i + j) (by omega) (by rw [ksOf_length]; exact hj)
    rw [ksOf_at _ (by omega), ksOf_at _ hj] at this
    exact ltS_asymm this
def inLo (n : Nd) (i : Nat) : Nd := ⟨false, [], n.ks.take (i - 1), n.is.take i⟩
def inHi (n : Nd) (i : Nat) : Nd := ⟨false, [], n.ks.drop i, n.is.drop i⟩
theorem in_ok {n : Nd} (hl : n.leaf = false) (h : okN n = true) {i : Nat} (hi1 : 1 ≤ i) (hi2 : i < n.is.length) : okN (inLo n i) = true ∧ okN (inHi n i) = true := by
  obtain ⟨-, h2, h3, h4, h5, h6⟩ := okI_true ((okN_inner hl).symm.trans h)
  refine ⟨(okN_inner (n := inLo n i) rfl).trans (okI_of rfl ?_ ?_ ?_ (ris_take h5 _) ?_), (okN_inner (n := inHi n i) rfl).trans (okI_of rfl ?_ ?_ ?_ (ris_drop h5 _) ?_)⟩
  · show 1 ≤ (n.is.take i).length; rw [List.length_take]; omega
  · show (n.is.take i).length ≤ 255; rw [List.length_take]; omega
  · show (n.ks.take (i - 1)).length = (n.is.take i).length - 1; rw [List.length_take, List.length_take]; omega
  · exact fun z hz => h6 z (List.mem_of_mem_take hz)
  · show 1 ≤ (n.is.drop i).length; rw [List.length_drop]; omega
  · show (n.is.drop i).length ≤ 255; rw [List.length_drop]; omega
  · show (n.ks.drop i).length = (n.is.drop i).length - 1; rw [List.length_drop, List.length_drop]; omega
  · exact fun z hz => h6 z (List.mem_of_mem_drop hz)
theorem sizKs_part (l : List ByteArray) (i : Nat) : sizKs (l.take i) ≤ sizKs l ∧ sizKs (l.drop i) ≤ sizKs l := by
  have e : sizKs l = sizKs (l.take i) + sizKs (l.drop i) := by rw [← sizKs_append, List.take_append_drop]
  omega
theorem in_size {n : Nd} (hl : n.leaf = false) {i : Nat} (h1 : 1 ≤ i) (h2 : i < n.is.length) : sizN (inLo n i) < sizN n ∧ sizN (inHi n i) < sizN n := by
  have a := (sizKs_part n.ks (i - 1)).1
  have b := (sizKs_part n.ks i).2
  unfold sizN
  rw [hl]
  simp only [inLo, inHi, Bool.false_eq_true, if_false, List.length_take, List.length_drop]
  omega
theorem in_join_is (n : Nd) (i : Nat) : (inLo n i).is ++ (inHi n i).is = n.is := List.take_append_drop _ _
theorem in_join_ks {n : Nd} {i : Nat} (h1 : 1 ≤ i) (h2 : i - 1 < n.ks.length) : (inLo n i).ks ++ [kAt n.ks (i - 1)] ++ (inHi n i).ks = n.ks := by
  obtain ⟨j, rfl⟩ : ∃ j, i = j + 1 := ⟨i - 1, by omega⟩
  have e : kAt n.ks j = n.ks[j]'(by omega) := by unfold kAt; rw [List.getD_eq_getElem?_getD, List.getElem?_eq_getElem (by omega)]; rfl
  show n.ks.take j ++ [kAt n.ks j] ++ n.ks.drop (j + 1) = n.ks
  rw [e, List.append_assoc, List.singleton_append, ← List.drop_eq_getElem_cons (by omega), List.take_append_drop]
theorem in_below {n : Nd} (hl : n.leaf = false) (h : okN n = true) {i j : Nat} (hi : i - 1 < n.ks.length) (hj : j < i - 1) : ltS (kAt (n.ks.take (i - 1)) j) (kAt n.ks (i - 1)) = true := by
  obtain ⟨-, -, -, -, h5, -⟩ := okI_true ((okN_inner hl).symm.trans h)
  have := risB_lt h5 hj hi
  have e : kAt (n.ks.take (i - 1)) j = kAt n.ks j := by
    unfold kAt
    rw [List.getD_eq_getElem?_getD, List.getD_eq_getElem?_getD, List.getElem?_take, if_pos hj]
  rw [e]; exact this
theorem in_above {n : Nd} (hl : n.leaf = false) (h : okN n = true) {i j : Nat} (hi : 1 ≤ i) (hj : i + j < n.ks.length) : ltS (kAt n.ks (i - 1)) (kAt (n.ks.drop i) j) = true := by
  obtain ⟨-, -, -, -, h5, -⟩ := okI_true ((okN_inner hl).symm.trans h)
  have e : kAt (n.ks.drop i) j = kAt n.ks (i + j) := by
    unfold kAt
    rw [List.getD_eq_getElem?_getD, List.getD_eq_getElem?_getD, List.getElem?_drop]
  rw [e]
  exact risB_lt h5 (by omega) hj
end Go.Proofs.Ytdkmfcmndncmcaa
