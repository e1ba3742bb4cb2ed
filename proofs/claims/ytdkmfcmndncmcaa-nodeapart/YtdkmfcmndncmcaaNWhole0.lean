/- What Split gives, and what Merge makes of it. No statement of the seat is proved here. -/
import Derived.Test.YtdkmfcmndncmcaaNMerge
import Derived.Test.YtdkmfcmndncmcaaNSize
namespace Go.Proofs.Ytdkmfcmndncmcaa
set_option maxRecDepth 20000
open Go.RowKit

structure Halved (n a : Nd) (key : ByteArray) (b : Nd) : Prop where
  ok : okN n = true
  oka : okN a = true
  okb : okN b = true
  sa : sizN a < sizN n
  sb : sizN b < sizN n
  la : a.leaf = n.leaf
  lb : b.leaf = n.leaf
  kk : okK key = true
  join : merN a key b = n
  lo : ∀ j, j < a.ps.length → ltS (prAt a.ps j).k key = true
  hi : ∀ j, j < b.ps.length → ltS (prAt b.ps j).k key = false
  klo : ∀ j, j < a.ks.length → ltS (kAt a.ks j) key = true
  khi : ∀ j, j < b.ks.length → ltS key (kAt b.ks j) = true
theorem halved_leaf {n : Nd} {i : Nat} (hk : okN n = true) (hl : n.leaf = true) (h1 : 1 ≤ i) (h2 : i < n.ps.length) : Halved n (lfLo n i) (prAt n.ps i).k (lfHi n i) := by
  have ho := okL_true ((okN_leaf hl).symm.trans hk)
  have hs := lf_size hl h1 h2
  refine ⟨hk, (lf_ok hl hk i).1, (lf_ok hl hk i).2, hs.1, hs.2, hl.symm, hl.symm, ?_, ?_, ?_, ?_, ?_, ?_⟩
  · have := (risB_mem ho.2.2.2.1).1 (prAt n.ps i).k (by
      have e := kAt_mem (l := ksOf n.ps) (i := i) (by rw [ksOf_length]; exact h2)
      rwa [ksOf_at n.ps h2] at e)
    exact this
  · obtain ⟨lf, ps, ks, is⟩ := n
    have e1 : ks = [] := ho.1
    have e2 : is = [] := ho.2.1
    have e3 : lf = true := hl
    subst e1 e2 e3
    unfold merN lfLo lfHi
    simp
  · intro j hj
    have hj' : j < i := by
      have : (lfLo n i).ps = n.ps.take i := rfl
      rw [this, List.length_take] at hj
      omega
    exact lf_below hl hk h2 hj'
  · intro j hj
    have hj' : i + j < n.ps.length := by
      have : (lfHi n i).ps = n.ps.drop i := rfl
      rw [this, List.length_drop] at hj
      omega
    exact lf_above hl hk hj'
  · intro j hj; exact absurd hj (Nat.not_lt_zero _)
  · intro j hj; exact absurd hj (Nat.not_lt_zero _)
theorem halved_in {n : Nd} {i : Nat} (hk : okN n = true) (hl : n.leaf = false) (h1 : 2 ≤ i) (h2 : i < n.is.length) : Halved n (inLo n i) (kAt n.ks (i - 1)) (inHi n i) := by
  have ho := okI_true ((okN_inner hl).symm.trans hk)
  have hi1 : i - 1 < n.ks.length := by rw [ho.2.2.2.1]; omega
  have hs := in_size hl (by omega) h2
  have hoo := in_ok hl hk (by omega) h2
  refine ⟨hk, hoo.1, hoo.2, hs.1, hs.2, hl.symm, hl.symm, ?_, ?_, ?_, ?_, ?_, ?_⟩
  · exact (risB_mem ho.2.2.2.2.1).1 _ (kAt_mem hi1)
  · have e1 := in_join_ks (n := n) (i := i) (by omega) hi1
    have e2 := in_join_is n i
    obtain ⟨lf, ps, ks, is⟩ := n
    have e3 : ps = [] := ho.1
    have e4 : lf = false := hl
    subst e3 e4
    unfold merN
    have : (inLo ⟨false, [], ks, is⟩ i).leaf = false := rfl
    rw [this, e1, e2]
    rfl
  · intro j hj; exact absurd hj (Nat.not_lt_zero _)
  · intro j hj; exact absurd hj (Nat.not_lt_zero _)
  · intro j hj
    have hj' : j < i - 1 := by
      have : (inLo n i).ks = n.ks.take (i - 1) := rfl
      rw [this, List.length_take] at hj
      omega
    exact in_below hl hk hi1 hj'
  · intro j hj
    have hj' : i + j < n.ks.length := by
      have : (inHi n i).ks = n.ks.drop i := rfl
      rw [this, List.length_drop] at hj
      omega
    exact in_above hl hk (by omega) hj'
theorem split_any {w : World} {v : Value} {n : Nd} (h : NdAt w.heap.size w v n) : Calls Try.prog 31 #[v] w fun e w' => (∃ er : Int, (er = 2 ∨ er = 7) ∧ SplRet w .none ⟨#[]⟩ .none er e w') ∨ ∃ a key b, Halved n a key b ∧ SplRet w a key b 0 e w' := by
  cases hk : okN n
  · exact (split_no h hk).mono fun e w' r => .inl ⟨2, .inl rfl, r⟩
  · cases hl : n.leaf
    · by_cases h4 : n.is.length < 4
      · exact (split_few h hk (by rw [hl]; exact h4)).mono fun e w' r => .inl ⟨7, .inr rfl, r⟩
      · exact (split_in h hk hl (by omega)).mono fun e w' r => .inr ⟨_, _, _, halved_in hk hl (by omega) (by omega), r⟩
    · by_cases h2 : n.ps.length < 2
      · exact (split_few h hk (by rw [hl]; exact h2)).mono fun e w' r => .inl ⟨7, .inr rfl, r⟩
      · refine (split_leaf h hk hl (by omega)).mono fun e w' r => ?_
        obtain ⟨i, hi, r⟩ := r
        exact .inr ⟨_, _, _, halved_leaf hk hl hi.one hi.lt, r⟩
theorem Halved.mer {n a b : Nd} {key : ByteArray} (h : Halved n a key b) : mergeN a key b = (n, 0) := by
  have hh : a.leaf = b.leaf := h.la.trans h.lb.symm
  rw [mergeN_eq ⟨h.oka, h.okb, h.kk⟩ hh, h.join, h.ok, if_pos rfl]
theorem merge_any {w : World} {v1 v2 : Value} {a b : Nd} (h1 : NdAt w.heap.size w v1 a) (h2 : NdAt w.heap.size w v2 b) (key : ByteArray) : Calls Try.prog 33 #[v1, .string key, v2] w (NdRet w (mergeN a key b)) := by
  cases hc : (okN a && okN b && (a.leaf == b.leaf) && okK key)
  · have e : mergeN a key b = (.none, 2) := by unfold mergeN; rw [hc]; simp
    rw [e]
    exact merge_no h1 h2 key hc
  · simp only [Bool.and_eq_true, beq_iff_eq] at hc
    obtain ⟨⟨⟨c1, c2⟩, c3⟩, c4⟩ := hc
    cases hl : a.leaf
    · exact merge_in h1 h2 key ⟨c1, c2, c4⟩ hl (by rw [← c3]; exact hl)
    · exact merge_leaf h1 h2 key ⟨c1, c2, c4⟩ hl (by rw [← c3]; exact hl)
end Go.Proofs.Ytdkmfcmndncmcaa
