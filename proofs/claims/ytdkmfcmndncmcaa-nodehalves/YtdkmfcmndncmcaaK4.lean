/- Texts that belong together, joined. No statement of the seat is proved here. -/
import Derived.Test.YtdkmfcmndncmcaaNMerge
import Derived.Test.YtdkmfcmndncmcaaNSize
import Derived.Test.YtdkmfcmndncmcaaK3
import Derived.Test.YtdkmfcmndncmcaaNDocMI
import Derived.Test.YtdkmfcmndncmcaaK1
/- What Split gives, and what Merge makes of it. No statement of the seat is proved here. -/
namespace Go.Proofs.Ytdkmfcmndncmcaa
set_option maxRecDepth 20000
open Go.RowKit

structure Halved (n a : Nd) (key : ByteArray) (b : Nd) : Prop where
  ok : okN n = true
  oka : okN a = true
  okb : okN b = true
  sa : sizN a < sizN n
  sb : sizN b < sizN n
  la : a.leaf = n.leaf
  lb : b.leaf = n.leaf
  kk : okK key = true
  join : merN a key b = n
  lo : ∀ j, j < a.ps.length → ltS (prAt a.ps j).k key = true
  hi : ∀ j, j < b.ps.length → ltS (prAt b.ps j).k key = false
  klo : ∀ j, j < a.ks.length → ltS (kAt a.ks j) key = true
  khi : ∀ j, j < b.ks.length → ltS key (kAt b.ks j) = true
theorem halved_leaf {n : Nd} {i : Nat} (hk : okN n = true) (hl : n.leaf = true) (h1 : 1 ≤ i) (h2 : i < n.ps.length) : Halved n (lfLo n i) (prAt n.ps i).k (lfHi n i) := by
  have ho := okL_true ((okN_leaf hl).symm.trans hk)
  have hs := lf_size hl h1 h2
  refine ⟨hk, (lf_ok hl hk i).1, (lf_ok hl hk i).2, hs.1, hs.2, hl.symm, hl.symm, ?_, ?_, ?_, ?_, ?_, ?_⟩
  · have := (risB_mem ho.2.2.2.1).1 (prAt n.ps i).k (by
      have e := kAt_mem (l := ksOf n.ps) (i := i) (by rw [ksOf_length]; exact h2)
      rwa [ksOf_at n.ps h2] at e)
    exact this
  · obtain ⟨lf, ps, ks, is⟩ := n
    have e1 : ks = [] := ho.1
    have e2 : is = [] := ho.2.1
    have e3 : lf = true := hl
    subst e1 e2 e3
    unfold merN lfLo lfHi
    simp
  · intro j hj
    have hj' : j < i := by
      have : (lfLo n i).ps = n.ps.take i := rfl
      rw [this, List.length_take] at hj
      omega
    exact lf_below hl hk h2 hj'
  · intro j hj
    have hj' : i + j < n.ps.length := by
      have : (lfHi n i).ps = n.ps.drop i := rfl
      rw [this, List.length_drop] at hj
      omega
    exact lf_above hl hk hj'
  · intro j hj; exact absurd hj (Nat.not_lt_zero _)
  · intro j hj; exact absurd hj (Nat.not_lt_zero _)
theorem halved_in {n : Nd} {i : Nat} (hk : okN n = true) (hl : n.leaf = false) (h1 : 2 ≤ i) (h2 : i < n.is.length) : Halved n (inLo n i) (kAt n.ks (i - 1)) (inHi n i) := by
  have ho := okI_true ((okN_inner hl).symm.trans hk)
  have hi1 : i - 1 < n.ks.length := by rw [ho.2.2.2.1]; omega
  have hs := in_size hl (by omega) h2
  have hoo := in_ok hl hk (by omega) h2
  refine ⟨hk, hoo.1, hoo.2, hs.1, hs.2, hl.symm, hl.symm, ?_, ?_, ?_, ?_, ?_, ?_⟩
  · exact (risB_mem ho.2.2.2.2.1).1 _ (kAt_mem hi1)
  · have e1 := in_join_ks (n := n) (i := i) (by omega) hi1
    have e2 := in_join_is n i
    obtain ⟨lf, ps, ks, is⟩ := n
    have e3 : ps = [] := ho.1
    have e4 : lf = false := hl
    subst e3 e4
    unfold merN
    have : (inLo ⟨false, [], ks, is⟩ i).leaf = false := rfl
    rw [this, e1, e2]
    rfl
  · intro j hj; exact absurd hj (Nat.not_lt_zero _)
  · intro j hj; exact absurd hj (Nat.not_lt_zero _)
  · intro j hj
    have hj' : j < i - 1 := by
      have : (inLo n i).ks = n.ks.take (i - 1) := rfl
      rw [this, List.length_take] at hj
      omega
    exact in_below hl hk hi1 hj'
  · intro j hj
    have hj' : i + j < n.ks.length := by
      have : (inHi n i).ks = n.ks.drop i := rfl
      rw [this, List.length_drop] at hj
      omega
    exact in_above hl hk (by omega) hj'
theorem split_any {w : World} {v : Value} {n : Nd} (h : NdAt w.heap.size w v n) : Calls Try.prog 31 #[v] w fun e w' => (∃ er : Int, (er = 2 ∨ er = 7) ∧ SplRet w .none ⟨#[]⟩ .none er e w') ∨ ∃ a key b, Halved n a key b ∧ SplRet w a key b 0 e w' := by
  cases hk : okN n
  · exact (split_no h hk).mono fun e w' r => .inl ⟨2, .inl rfl, r⟩
  · cases hl : n.leaf
    · by_cases h4 : n.is.length < 4
      · exact (split_few h hk (by rw [hl]; exact h4)).mono fun e w' r => .inl ⟨7, .inr rfl, r⟩
      · exact (split_in h hk hl (by omega)).mono fun e w' r => .inr ⟨_, _, _, halved_in hk hl (by omega) (by omega), r⟩
    · by_cases h2 : n.ps.length < 2
      · exact (split_few h hk (by rw [hl]; exact h2)).mono fun e w' r => .inl ⟨7, .inr rfl, r⟩
      · refine (split_leaf h hk hl (by omega)).mono fun e w' r => ?_
        obtain ⟨i, hi, r⟩ := r
        exact .inr ⟨_, _, _, halved_leaf hk hl hi.one hi.lt, r⟩
theorem Halved.mer {n a b : Nd} {key : ByteArray} (h : Halved n a key b) : mergeN a key b = (n, 0) := by
  have hh : a.leaf = b.leaf := h.la.trans h.lb.symm
  rw [mergeN_eq ⟨h.oka, h.okb, h.kk⟩ hh, h.join, h.ok, if_pos rfl]
theorem merge_any {w : World} {v1 v2 : Value} {a b : Nd} (h1 : NdAt w.heap.size w v1 a) (h2 : NdAt w.heap.size w v2 b) (key : ByteArray) : Calls Try.prog 33 #[v1, .string key, v2] w (NdRet w (mergeN a key b)) := by
  cases hc : (okN a && okN b && (a.leaf == b.leaf) && okK key)
  · have e : mergeN a key b = (.none, 2) := by unfold mergeN; rw [hc]; simp
    rw [e]
    exact merge_no h1 h2 key hc
  · simp only [Bool.and_eq_true, beq_iff_eq] at hc
    obtain ⟨⟨⟨c1, c2⟩, c3⟩, c4⟩ := hc
    cases hl : a.leaf
    · exact merge_in h1 h2 key ⟨c1, c2, c4⟩ hl (by rw [← c3]; exact hl)
    · exact merge_leaf h1 h2 key ⟨c1, c2, c4⟩ hl (by rw [← c3]; exact hl)
end Go.Proofs.Ytdkmfcmndncmcaa

/- Both Splits, both Merges: what they answer is one thing. No statement of the seat is proved here. -/
namespace Go.Proofs.Ytdkmfcmndncmcaa
set_option maxRecDepth 20000
open Go.RowKit

def SplIs (n a : Nd) (k : ByteArray) (b : Nd) (er : Int) : Prop :=
  (okN n = false ∧ a = .none ∧ k = ⟨#[]⟩ ∧ b = .none ∧ er = 2) ∨
  (okN n = true ∧ (if n.leaf then n.ps.length < 2 else n.is.length < 4) ∧ a = .none ∧ k = ⟨#[]⟩ ∧ b = .none ∧ er = 7) ∨
  (okN n = true ∧ n.leaf = true ∧ 2 ≤ n.ps.length ∧ ∃ i, HalfAt n.ps i ∧ a = lfLo n i ∧ k = (prAt n.ps i).k ∧ b = lfHi n i ∧ er = 0) ∨
  (okN n = true ∧ n.leaf = false ∧ 4 ≤ n.is.length ∧ a = inLo n (n.is.length / 2) ∧ k = kAt n.ks (n.is.length / 2 - 1) ∧ b = inHi n (n.is.length / 2) ∧ er = 0)
theorem SplIs.uniq {n a a' b b' : Nd} {k k' : ByteArray} {er er' : Int} (h : SplIs n a k b er) (g : SplIs n a' k' b' er') : a = a' ∧ k = k' ∧ b = b' ∧ er = er' := by
  rcases h with ⟨h1, rfl, rfl, rfl, rfl⟩ | ⟨h1, h2, rfl, rfl, rfl, rfl⟩ | ⟨h1, h2, h3, i, hi, rfl, rfl, rfl, rfl⟩ | ⟨h1, h2, h3, rfl, rfl, rfl, rfl⟩ <;>
  rcases g with ⟨g1, rfl, rfl, rfl, rfl⟩ | ⟨g1, g2, rfl, rfl, rfl, rfl⟩ | ⟨g1, g2, g3, j, hj, rfl, rfl, rfl, rfl⟩ | ⟨g1, g2, g3, rfl, rfl, rfl, rfl⟩
  · exact ⟨rfl, rfl, rfl, rfl⟩
  · rw [h1] at g1; cases g1
  · rw [h1] at g1; cases g1
  · rw [h1] at g1; cases g1
  · rw [h1] at g1; cases g1
  · exact ⟨rfl, rfl, rfl, rfl⟩
  · rw [g2, if_pos rfl] at h2; omega
  · rw [g2] at h2; simp at h2; omega
  · rw [h1] at g1; cases g1
  · rw [h2, if_pos rfl] at g2; omega
  · obtain rfl := hi.uniq hj
    exact ⟨rfl, rfl, rfl, rfl⟩
  · rw [h2] at g2; cases g2
  · rw [h1] at g1; cases g1
  · rw [h2] at g2; simp at g2; omega
  · rw [h2] at g2; cases g2
  · exact ⟨rfl, rfl, rfl, rfl⟩
theorem none_small : Nd.none.small := ⟨by decide, by decide, by decide⟩
theorem SplIs.small {n a b : Nd} {k : ByteArray} {er : Int} (h : SplIs n a k b er) : a.small ∧ b.small := by
  rcases h with ⟨h1, rfl, rfl, rfl, rfl⟩ | ⟨h1, h2, rfl, rfl, rfl, rfl⟩ | ⟨h1, h2, h3, i, hi, rfl, rfl, rfl, rfl⟩ | ⟨h1, h2, h3, rfl, rfl, rfl, rfl⟩
  · exact ⟨none_small, none_small⟩
  · exact ⟨none_small, none_small⟩
  · have := lf_ok h2 h1 i
    exact ⟨ok_small this.1, ok_small this.2⟩
  · have := in_ok h2 h1 (i := n.is.length / 2) (by omega) (by omega)
    exact ⟨ok_small this.1, ok_small this.2⟩
theorem split_is {w : World} {v : Value} {n : Nd} (h : NdAt w.heap.size w v n) : Calls Try.prog 31 #[v] w fun e w' => ∃ a k b er, SplIs n a k b er ∧ SplRet w a k b er e w' := by
  cases hk : okN n
  · exact (split_no h hk).mono fun e w' r => ⟨_, _, _, _, .inl ⟨hk, rfl, rfl, rfl, rfl⟩, r⟩
  · cases hl : n.leaf
    · by_cases h4 : n.is.length < 4
      · have hf : if n.leaf then n.ps.length < 2 else n.is.length < 4 := by rw [hl]; exact h4
        exact (split_few h hk hf).mono fun e w' r => ⟨_, _, _, _, .inr (.inl ⟨hk, hf, rfl, rfl, rfl, rfl⟩), r⟩
      · exact (split_in h hk hl (by omega)).mono fun e w' r => ⟨_, _, _, _, .inr (.inr (.inr ⟨hk, hl, by omega, rfl, rfl, rfl, rfl⟩)), r⟩
    · by_cases h2 : n.ps.length < 2
      · have hf : if n.leaf then n.ps.length < 2 else n.is.length < 4 := by rw [hl]; exact h2
        exact (split_few h hk hf).mono fun e w' r => ⟨_, _, _, _, .inr (.inl ⟨hk, hf, rfl, rfl, rfl, rfl⟩), r⟩
      · refine (split_leaf h hk hl (by omega)).mono fun e w' r => ?_
        obtain ⟨i, hi, r⟩ := r
        exact ⟨_, _, _, _, .inr (.inr (.inl ⟨hk, hl, by omega, i, hi, rfl, rfl, rfl, rfl⟩)), r⟩
theorem docSplit_is {w : World} {v : Value} {n : Nd} (h : NdAt w.heap.size w v n) : Calls Try.prog 30 #[v] w fun e w' => ∃ a k b er, SplIs n a k b er ∧ SplRet w a k b er e w' := by
  cases hk : okN n
  · exact (docSplit_no h hk).mono fun e w' r => ⟨_, _, _, _, .inl ⟨hk, rfl, rfl, rfl, rfl⟩, r⟩
  · cases hl : n.leaf
    · by_cases h4 : n.is.length < 4
      · have hf : if n.leaf then n.ps.length < 2 else n.is.length < 4 := by rw [hl]; exact h4
        exact (docSplit_few h hk hf).mono fun e w' r => ⟨_, _, _, _, .inr (.inl ⟨hk, hf, rfl, rfl, rfl, rfl⟩), r⟩
      · exact (docSplit_in h hk hl (by omega)).mono fun e w' r => ⟨_, _, _, _, .inr (.inr (.inr ⟨hk, hl, by omega, rfl, rfl, rfl, rfl⟩)), r⟩
    · by_cases h2 : n.ps.length < 2
      · have hf : if n.leaf then n.ps.length < 2 else n.is.length < 4 := by rw [hl]; exact h2
        exact (docSplit_few h hk hf).mono fun e w' r => ⟨_, _, _, _, .inr (.inl ⟨hk, hf, rfl, rfl, rfl, rfl⟩), r⟩
      · refine (docSplit_leaf h hk hl (by omega)).mono fun e w' r => ?_
        obtain ⟨i, hi, r⟩ := r
        exact ⟨_, _, _, _, .inr (.inr (.inl ⟨hk, hl, by omega, i, hi, rfl, rfl, rfl, rfl⟩)), r⟩
theorem docMerge_any {w : World} {v1 v2 : Value} {a b : Nd} (h1 : NdAt w.heap.size w v1 a) (h2 : NdAt w.heap.size w v2 b) (key : ByteArray) : Calls Try.prog 32 #[v1, .string key, v2] w (NdRet w (mergeN a key b)) := by
  cases hc : (okN a && okN b && (a.leaf == b.leaf) && okK key)
  · have e : mergeN a key b = (.none, 2) := by unfold mergeN; rw [hc]; simp
    rw [e]
    exact docMerge_no h1 h2 key hc
  · simp only [Bool.and_eq_true, beq_iff_eq] at hc
    obtain ⟨⟨⟨c1, c2⟩, c3⟩, c4⟩ := hc
    cases hl : a.leaf
    · exact docMerge_in h1 h2 key ⟨c1, c2, c4⟩ c3 hl
    · exact docMerge_leaf h1 h2 key ⟨c1, c2, c4⟩ c3 hl
theorem mergeN_small (a : Nd) (key : ByteArray) (b : Nd) : (mergeN a key b).1.small := by
  unfold mergeN
  cases hc : (okN a && okN b && (a.leaf == b.leaf) && okK key && okN (merN a key b))
  · exact none_small
  · simp only [Bool.and_eq_true] at hc
    exact ok_small hc.2
/-- a law's two boxes -/
theorem rbox2 {W : World} {l1 l2 : Bool} {p1 k1 i1 p2 k2 i2 : Value} {w1 : World} (b : Below (W.heap.size + 2) ((W.alloc (rbO l1 p1 k1 i1)).alloc (rbO l2 p2 k2 i2)) w1) : NdCells w1 W.heap.size l1 p1 k1 i1 ∧ NdCells w1 (W.heap.size + 1) l2 p2 k2 i2 ∧ Below W.heap.size W w1 ∧ W.heap.size + 2 ≤ w1.heap.size := by
  have s1 : (W.alloc (rbO l1 p1 k1 i1)).heap.size = W.heap.size + 1 := by simp
  have s2 : ((W.alloc (rbO l1 p1 k1 i1)).alloc (rbO l2 p2 k2 i2)).heap.size = W.heap.size + 2 := by simp
  have a0 := heap_alloc_new W (rbO l1 p1 k1 i1)
  have a1 := heap_alloc_new (W.alloc (rbO l1 p1 k1 i1)) (rbO l2 p2 k2 i2)
  rw [s1] at a1
  have b1 : Below (W.heap.size + 1) (W.alloc (rbO l1 p1 k1 i1)) ((W.alloc (rbO l1 p1 k1 i1)).alloc (rbO l2 p2 k2 i2)) := (Below.refl _ _).alloc (by omega) _
  exact ⟨NdCells.of ((b.block _ (by omega)).trans ((b1.block _ (by omega)).trans a0)), NdCells.of ((b.block _ (by omega)).trans a1), (below_new _ _).trans ((b1.mono (by omega)).trans (b.mono (by omega))), by have := b.size; omega⟩
end Go.Proofs.Ytdkmfcmndncmcaa

/- For all nodes and texts Split and Merge answer what the document says: the law cisternlaw11.NodeHalves returns true at every input. No condition. -/
namespace Go.Proofs.Ytdkmfcmndncmcaa.nodeHalves
set_option maxRecDepth 20000
open Go.RowKit Go.ChangeShapes Go.WideShapes Go.ChangeAt

theorem own : ownKnob Try.prog.godebug = none := by kernel_rfl
theorem own_form {base : Nat} {w : World} {v : Value} {n : Nd} (h : NdOwn base w v n) : ∃ pa pm pc ka km kc ia im ic, v = .agg #[.bool n.leaf, .slice pa pm pc, .slice ka km kc, .slice ia im ic] := by
  obtain ⟨pv, kv, iv, rfl, h1, h2, h3⟩ := h
  obtain ⟨pa, pm, pc, rfl⟩ := h1.slv
  obtain ⟨ka, km, kc, rfl⟩ := h2.slv
  obtain ⟨ia, im, ic, rfl⟩ := h3.slv
  exact ⟨_, _, _, _, _, _, _, _, _, rfl⟩
set_option maxHeartbeats 25600000 in
set_option maxRecDepth 400000 in
theorem walk (v0 : Value) (z0 : Nd) (a1 : ByteArray) (_ : a1.size ≤ maxLen) (v2 : Value) (z2 : Nd) (W : World) (w0 : NdArg W v0 z0) (w2 : NdArg W v2 z2) :
    Calls Try.prog 7 #[v0, .string a1, v2] W fun e w' => e = .returned (.bool true) ∧ Below W.heap.size W w' := by
  obtain ⟨h0, -, -⟩ := w0
  obtain ⟨h2, -, -⟩ := w2
  have H0 := Lib.hid (fun w (hb : Below W.heap.size W w) => (h0.below hb).more hb.size)
  have H2 := Lib.hid (fun w (hb : Below W.heap.size W w) => (h2.below hb).more hb.size)
  have OF := Lib.hid (fun w (hb : Below W.heap.size W w) => of_in h0 hb)
  have OM := Lib.hid (fun w (hb : Below W.heap.size W w) => of_in h2 hb)
  have DMC := Lib.hid (fun w (hb : Below W.heap.size W w) => docMerge_any (H0.out w hb) (H2.out w hb) a1)
  have MGC := Lib.hid (fun (w : World) (u v : Value) (hu : NdAt w.heap.size w u z0) (hv : NdAt w.heap.size w v z2) => merge_any hu hv a1)
  have SMG := Lib.hid (mergeN_small z0 a1 z2)
  generalize mergeN z0 a1 z2 = RR at *
  obtain ⟨RN, RE⟩ := RR
  simp only at SMG
  obtain ⟨pv, kv, iv, rfl, x1, x2, x3⟩ := h0
  obtain ⟨pa, pm, pc, rfl, -⟩ := x1.form
  obtain ⟨ka, km, kc, rfl, -⟩ := x2.form
  obtain ⟨ia, im, ic, rfl, -⟩ := x3.form
  obtain ⟨qv, lv, jv, rfl, y1, y2, y3⟩ := h2
  obtain ⟨qa, qm, qc, rfl, -⟩ := y1.form
  obtain ⟨la, lm, lc, rfl, -⟩ := y2.form
  obtain ⟨ja, jm, jc, rfl, -⟩ := y3.form
  clear x1 x2 x3 y1 y2 y3
  generalize z0.leaf = lf at *
  generalize z2.leaf = lg at *
  have RB := Lib.hid (fun w1 b => rbox2 (W := W) (l1 := lf) (p1 := .slice pa pm pc) (k1 := .slice ka km kc) (i1 := .slice ia im ic) (l2 := lg) (p2 := .slice qa qm qc) (k2 := .slice la lm lc) (i2 := .slice ja jm jc) (w1 := w1) b)
  have b0 : Below (W.heap.size + 2) ((W.alloc (rbO lf (.slice pa pm pc) (.slice ka km kc) (.slice ia im ic))).alloc (rbO lg (.slice qa qm qc) (.slice la lm lc) (.slice ja jm jc))) ((W.alloc (rbO lf (.slice pa pm pc) (.slice ka km kc) (.slice ia im ic))).alloc (rbO lg (.slice qa qm qc) (.slice la lm lc) (.slice ja jm jc))) := Below.refl _ _
  have hz0 : W.heap.size + 2 ≤ ((W.alloc (rbO lf (.slice pa pm pc) (.slice ka km kc) (.slice ia im ic))).alloc (rbO lg (.slice qa qm qc) (.slice la lm lc) (.slice ja jm jc))).heap.size := by simp
  have HZ0 := Lib.hid hz0
  clear hz0
  go_enter Try.func7, Try.ntmps7
  go_wp2_with fail
  refine Calls.mono (nknown_any _) ?_
  rintro e w1 ⟨rfl, c1⟩
  have b1 := Below.thenB b0 c1 HZ0.out
  obtain ⟨⟨q0, q1, q2, q3⟩, -, B1, s1⟩ := RB.out w1 b1
  clear c1 b0 HZ0
  go_wp2_with fail
  refine Calls.mono (docSplit_is (H0.out _ B1)) ?_
  rintro e w3 ⟨nd1, key, nd2, er, hsp, v3, v4, rfl, o1, o2, c⟩
  obtain ⟨ta, tb, tc, td, te, tf, tg, th, ti, rfl⟩ := own_form o1
  obtain ⟨ua, ub, uc, ud, ue, uf, ug, uh, ui, rfl⟩ := own_form o2
  have HSP := Lib.hid hsp
  have b3 := Below.thenB b1 c s1
  obtain ⟨-, -, B3, s3⟩ := RB.out w3 b3
  have n1 := o1.at hsp.small.1
  have n2 := o2.at hsp.small.2
  obtain ⟨e1, he1⟩ : ∃ l, nd1.leaf = l := ⟨_, rfl⟩
  obtain ⟨e2, he2⟩ : ∃ l, nd2.leaf = l := ⟨_, rfl⟩
  have HE1 := Lib.hid he1
  have HE2 := Lib.hid he2
  rw [he1] at n1 ⊢
  rw [he2] at n2 ⊢
  have N1 := Lib.hid n1
  have N2 := Lib.hid n2
  clear b1 B1 s1 c o1 o2 hsp n1 n2 he1 he2
  have hg1 := heap_alloc_new w3 zrbO
  have hg2 := heap_alloc_new (w3.alloc zrbO) zrbO
  have hz1 : (w3.alloc zrbO).heap.size = w3.heap.size + 1 := by simp
  have hg1 : ((w3.alloc zrbO).alloc zrbO).heap[w3.heap.size]? = some zrbO := (Below.heap_alloc _ _ _ (by simp)).trans hg1
  rw [hz1] at hg2
  have c5 : Below w3.heap.size w3 ((w3.alloc zrbO).alloc zrbO) := (below_new _ _).trans ((below_new _ _).mono (by simp))
  clear hz1 q0 q1 q2 q3
  go_wp2_with (with_reducible refine wpList_store_rn (a0 := w3) (B := w3.heap.size) rfl (.tmp 7) (.tmp 20) rfl w3.heap.size e1 (.slice ta tb tc) (.slice td te tf) (.slice tg th ti) rfl rfl #[.bool false, .slice none 0 0, .slice none 0 0, .slice none 0 0] hg1 rfl (.mk _ _ _) (.mk _ _ _) (.mk _ _ _) c5 (Nat.le_refl _) ?_)
  rintro w4x - x7 c4 k4
  have hg2 := (k4 (w3.heap.size + 1) (by omega)).trans hg2
  go_wp2_with (with_reducible refine wpList_store_rn (a0 := w3) (B := w3.heap.size) rfl (.tmp 9) (.tmp 22) rfl (w3.heap.size + 1) e2 (.slice ua ub uc) (.slice ud ue uf) (.slice ug uh ui) rfl rfl #[.bool false, .slice none 0 0, .slice none 0 0, .slice none 0 0] hg2 rfl (.mk _ _ _) (.mk _ _ _) (.mk _ _ _) c4 (Nat.le_succ _) ?_)
  rintro w4 - x9 c k5
  have x7 := (k5 w3.heap.size (by omega)).trans x7
  clear c5 c4 k4 k5 hg1 hg2
  have b4 := b3.trans (c.mono s3)
  obtain ⟨⟨q0, q1, q2, q3⟩, -, B4, s4⟩ := RB.out w4 b4
  have N1 := Lib.hid ((N1.out.below c).more c.size)
  have N2 := Lib.hid ((N2.out.below c).more c.size)
  obtain ⟨A7, hA⟩ : ∃ A, w3.heap.size = A := ⟨_, rfl⟩
  rw [hA] at x7 x9 s3 ⊢
  have hA7 := s3
  clear hA b3 B3 s3 c
  go_wp2_with fail
  refine Calls.mono (OF.out _ B4) ?_
  rintro e w5 ⟨v5, rfl, n5, c⟩
  have b5 := Below.thenB b4 c s4
  obtain ⟨-, -, B5, s5⟩ := RB.out w5 b5
  have N1 := Lib.hid ((N1.out.below c).more c.size)
  have N2 := Lib.hid ((N2.out.below c).more c.size)
  have x7 := (c.block _ (lt_of_heap x7)).trans x7
  have x9 := (c.block _ (lt_of_heap x9)).trans x9
  clear b4 B4 s4 c q0 q1 q2 q3
  go_wp2_with fail
  refine Calls.mono (split_is n5) ?_
  rintro e w6 ⟨nd3, key3, nd4, er3, hsp, v6, v7, rfl, o3, o4, c⟩
  obtain ⟨rfl, rfl, rfl, rfl⟩ := HSP.out.uniq hsp
  obtain ⟨ra, rb, rc, rd, re, rf, rg, rh, ri, rfl⟩ := own_form o3
  obtain ⟨sa, sb, sc, sd, se, sf, sg, sh, si, rfl⟩ := own_form o4
  have b6 := Below.thenB b5 c s5
  obtain ⟨-, -, B6, s6⟩ := RB.out w6 b6
  have n3 := o3.at hsp.small.1
  have n4 := o4.at hsp.small.2
  have he1 := HE1.out
  have he2 := HE2.out
  rw [he1] at n3 ⊢
  rw [he2] at n4 ⊢
  have N1 := Lib.hid ((N1.out.below c).more c.size)
  have N2 := Lib.hid ((N2.out.below c).more c.size)
  have x7 := (c.block _ (lt_of_heap x7)).trans x7
  have x9 := (c.block _ (lt_of_heap x9)).trans x9
  have N3 := Lib.hid n3
  have N4 := Lib.hid n4
  clear b5 B5 s5 c n5 o3 o4 hsp n3 n4 he1 he2 HSP HE1 HE2
  have hg1 := heap_alloc_new w6 zNdO
  have hg2 := heap_alloc_new (w6.alloc zNdO) zNdO
  have hz1 : (w6.alloc zNdO).heap.size = w6.heap.size + 1 := by simp
  have hg1 : ((w6.alloc zNdO).alloc zNdO).heap[w6.heap.size]? = some zNdO := (Below.heap_alloc _ _ _ (by simp)).trans hg1
  rw [hz1] at hg2
  have c5 : Below w6.heap.size w6 ((w6.alloc zNdO).alloc zNdO) := (below_new _ _).trans ((below_new _ _).mono (by simp))
  clear hz1
  go_wp2_with (with_reducible refine wpList_store_nd (a0 := w6) (B := w6.heap.size) rfl (.tmp 11) (.tmp 28) rfl w6.heap.size e1 (.slice ra rb rc) (.slice rd re rf) (.slice rg rh ri) rfl rfl #[.bool false, .slice none 0 0, .slice none 0 0, .slice none 0 0] hg1 rfl (.mk _ _ _) (.mk _ _ _) (.mk _ _ _) c5 (Nat.le_refl _) ?_)
  rintro w7x - x11 c4 k4
  have hg2 := (k4 (w6.heap.size + 1) (by omega)).trans hg2
  go_wp2_with (with_reducible refine wpList_store_nd (a0 := w6) (B := w6.heap.size) rfl (.tmp 13) (.tmp 30) rfl (w6.heap.size + 1) e2 (.slice sa sb sc) (.slice sd se sf) (.slice sg sh si) rfl rfl #[.bool false, .slice none 0 0, .slice none 0 0, .slice none 0 0] hg2 rfl (.mk _ _ _) (.mk _ _ _) (.mk _ _ _) c4 (Nat.le_succ _) ?_)
  rintro w7 - x13 c k5
  have x11 := (k5 w6.heap.size (by omega)).trans x11
  clear c5 c4 k4 k5 hg1 hg2
  have b7 := b6.trans (c.mono s6)
  obtain ⟨-, -, B7, s7⟩ := RB.out w7 b7
  have N1 := Lib.hid (fun w' (h : Below w7.heap.size w7 w') => (N1.out.below (c.trans (h.mono c.size))).more (Nat.le_trans c.size h.size))
  have N2 := Lib.hid (fun w' (h : Below w7.heap.size w7 w') => (N2.out.below (c.trans (h.mono c.size))).more (Nat.le_trans c.size h.size))
  have N3 := Lib.hid (fun w' (h : Below w7.heap.size w7 w') => (N3.out.below (c.trans (h.mono c.size))).more (Nat.le_trans c.size h.size))
  have N4 := Lib.hid (fun w' (h : Below w7.heap.size w7 w') => (N4.out.below (c.trans (h.mono c.size))).more (Nat.le_trans c.size h.size))
  have h79 : A7 + 1 < w6.heap.size := lt_of_heap x9
  have x7 := (c.block _ (by omega)).trans x7
  have x9 := (c.block _ h79).trans x9
  obtain ⟨A11, hA⟩ : ∃ A, w6.heap.size = A := ⟨_, rfl⟩
  rw [hA] at x11 x13 h79 s6 ⊢
  have hA11 := s6
  have R7 := Lib.hid (fun w' (h : Below w7.heap.size w7 w') => range4s (NdCells.of ((h.block _ (lt_of_heap x7)).trans x7)))
  have R9 := Lib.hid (fun w' (h : Below w7.heap.size w7 w') => range4s (NdCells.of ((h.block _ (lt_of_heap x9)).trans x9)))
  have R11 := Lib.hid (fun w' (h : Below w7.heap.size w7 w') => range4s (NdCells.of ((h.block _ (lt_of_heap x11)).trans x11)))
  have R13 := Lib.hid (fun w' (h : Below w7.heap.size w7 w') => range4s (NdCells.of ((h.block _ (lt_of_heap x13)).trans x13)))
  have BK := Lib.hid (fun (w' : World) => back_any (w := w') (lf := e1) (.mk ra rb rc) (.mk rd re rf) (.mk rg rh ri))
  have BK2 := Lib.hid (fun (w' : World) => back_any (w := w') (lf := e2) (.mk sa sb sc) (.mk sd se sf) (.mk sg sh si))
  have hkk : (!(key.toList == key.toList)) = false := by simp
  have hee : (er != er) = false := by simp
  clear hA c b6 B6 s6
  go_wp2_with fail
  have hS := (Below.refl w7.heap.size w7).drew
  refine wp_region_held_drew (S := fun w' => Below w7.heap.size w7 w') mixed hS (fun _ => ?_)
  show wpAnyH _ _ _ _ _ 22 (Array.replicate 22 false) _ _
  refine wpAnyH_take_d 0 (some 32) (.agg #[.bool e1, .slice ta tb tc, .slice td te tf, .slice tg th ti]) rfl (by kernel_rfl) (by kernel_rfl) (by kernel_rfl) (by kernel_rfl) rfl (fun _ _ _ h => h) (fun w' h => ex_row rfl rfl (R7.out _ h) Try.underlying26 rfl (by kernel_rfl)) (by exact hS) ?_
  simp only [Act.put, List.setIfInBounds_toArray, List.set_cons_succ, List.set_cons_zero]
  refine wpAnyH_take_d 1 (some 33) (.agg #[.bool e1, .slice ra rb rc, .slice rd re rf, .slice rg rh ri]) rfl (by kernel_rfl) (by kernel_rfl) (by kernel_rfl) (by kernel_rfl) rfl (fun _ _ _ h => h) (fun w' h => ex_row rfl rfl (R11.out _ h) Try.underlying32 rfl (by kernel_rfl)) (by exact hS) ?_
  simp only [Act.put, List.setIfInBounds_toArray, List.set_cons_succ, List.set_cons_zero]
  refine wpAnyH_call 2 (some 34) 23 #[.agg #[.bool e1, .slice ra rb rc, .slice rd re rf, .slice rg rh ri]] rfl (by kernel_rfl) (by kernel_rfl) rfl (by kernel_rfl) (BK.out _) ?_
  rintro e wx ⟨rfl, bx⟩
  have hS := hS.trans (bx.mono hS.size)
  refine ⟨_, rfl, hS, ?_⟩
  simp only [Act.put, List.setIfInBounds_toArray, List.set_cons_succ, List.set_cons_zero]
  refine wpAnyH_call 3 (some 35) 22 #[.agg #[.bool e1, .slice ta tb tc, .slice td te tf, .slice tg th ti], .agg #[.bool e1, .slice ra rb rc, .slice rd re rf, .slice rg rh ri]] rfl (by kernel_rfl) (by kernel_rfl) rfl (by kernel_rfl) (same_any (N1.out _ hS) (N3.out _ hS)) ?_
  rintro e wx ⟨rfl, bx⟩
  have hS := hS.trans (bx.mono hS.size)
  refine ⟨_, rfl, hS, ?_⟩
  simp only [Act.put, List.setIfInBounds_toArray, List.set_cons_succ, List.set_cons_zero]
  refine wpAnyH_take_d 4 (some 36) (.bool false) rfl (by kernel_rfl) (by kernel_rfl) (by kernel_rfl) (by kernel_rfl) rfl (fun _ _ _ h => h) (fun _ _ => by kernel_rfl) (by exact hS) ?_
  simp only [Act.put, List.setIfInBounds_toArray, List.set_cons_succ, List.set_cons_zero]
  refine wpAnyH_take_d 5 (some 37) (.bool false) rfl (by kernel_rfl) (by kernel_rfl) (by kernel_rfl) (by kernel_rfl) rfl (fun _ _ _ h => h) (fun _ _ => by kernel_rfl) (by exact hS) ?_
  simp only [Act.put, List.setIfInBounds_toArray, List.set_cons_succ, List.set_cons_zero]
  refine wpAnyH_take_d 6 (some 38) (.agg #[.bool e2, .slice ua ub uc, .slice ud ue uf, .slice ug uh ui]) rfl (by kernel_rfl) (by kernel_rfl) (by kernel_rfl) (by kernel_rfl) rfl (fun _ _ _ h => h) (fun w' h => ex_row rfl rfl (R9.out _ h) Try.underlying26 rfl (by kernel_rfl)) (by exact hS) ?_
  simp only [Act.put, List.setIfInBounds_toArray, List.set_cons_succ, List.set_cons_zero]
  refine wpAnyH_take_d 7 (some 39) (.agg #[.bool e2, .slice sa sb sc, .slice sd se sf, .slice sg sh si]) rfl (by kernel_rfl) (by kernel_rfl) (by kernel_rfl) (by kernel_rfl) rfl (fun _ _ _ h => h) (fun w' h => ex_row rfl rfl (R13.out _ h) Try.underlying32 rfl (by kernel_rfl)) (by exact hS) ?_
  simp only [Act.put, List.setIfInBounds_toArray, List.set_cons_succ, List.set_cons_zero]
  refine wpAnyH_call 8 (some 40) 23 #[.agg #[.bool e2, .slice sa sb sc, .slice sd se sf, .slice sg sh si]] rfl (by kernel_rfl) (by kernel_rfl) rfl (by kernel_rfl) (BK2.out _) ?_
  rintro e wx ⟨rfl, bx⟩
  have hS := hS.trans (bx.mono hS.size)
  refine ⟨_, rfl, hS, ?_⟩
  simp only [Act.put, List.setIfInBounds_toArray, List.set_cons_succ, List.set_cons_zero]
  refine wpAnyH_call 9 (some 41) 22 #[.agg #[.bool e2, .slice ua ub uc, .slice ud ue uf, .slice ug uh ui], .agg #[.bool e2, .slice sa sb sc, .slice sd se sf, .slice sg sh si]] rfl (by kernel_rfl) (by kernel_rfl) rfl (by kernel_rfl) (same_any (N2.out _ hS) (N4.out _ hS)) ?_
  rintro e wx ⟨rfl, bx⟩
  have hS := hS.trans (bx.mono hS.size)
  refine ⟨_, rfl, hS, ?_⟩
  simp only [Act.put, List.setIfInBounds_toArray, List.set_cons_succ, List.set_cons_zero]
  refine wpAnyH_take_d 10 (some 42) (.bool false) rfl (by kernel_rfl) (by kernel_rfl) (by kernel_rfl) (by kernel_rfl) rfl (fun _ _ _ h => h) (fun _ _ => by kernel_rfl) (by exact hS) ?_
  simp only [Act.put, List.setIfInBounds_toArray, List.set_cons_succ, List.set_cons_zero]
  refine wpAnyH_take_d 11 (some 43) (.bool false) rfl (by kernel_rfl) (by kernel_rfl) (by kernel_rfl) (by kernel_rfl) rfl (fun _ _ _ h => h) (fun _ _ => by kernel_rfl) (by exact hS) ?_
  simp only [Act.put, List.setIfInBounds_toArray, List.set_cons_succ, List.set_cons_zero]
  refine wpAnyH_take_d 12 (some 44) (.bool false) rfl (by kernel_rfl) (by kernel_rfl) (by kernel_rfl) (by kernel_rfl) rfl (fun _ _ _ h => h) (fun _ _ => by kernel_rfl) (by exact hS) ?_
  simp only [Act.put, List.setIfInBounds_toArray, List.set_cons_succ, List.set_cons_zero]
  refine wpAnyH_take_d 13 (some 45) (.string key) rfl (by kernel_rfl) (by kernel_rfl) (by kernel_rfl) (by kernel_rfl) rfl (fun _ _ _ h => h) (fun _ _ => by kernel_rfl) (by exact hS) ?_
  simp only [Act.put, List.setIfInBounds_toArray, List.set_cons_succ, List.set_cons_zero]
  refine wpAnyH_take_d 14 (some 46) (.string key) rfl (by kernel_rfl) (by kernel_rfl) (by kernel_rfl) (by kernel_rfl) rfl (fun _ _ _ h => h) (fun _ _ => by kernel_rfl) (by exact hS) ?_
  simp only [Act.put, List.setIfInBounds_toArray, List.set_cons_succ, List.set_cons_zero]
  refine wpAnyH_take_d 15 (some 47) (.bool false) rfl (by kernel_rfl) (by kernel_rfl) (by kernel_rfl) (by kernel_rfl) rfl (fun _ _ _ h => h) (fun _ _ => ex_sne rfl rfl rfl hkk) (by exact hS) ?_
  simp only [Act.put, List.setIfInBounds_toArray, List.set_cons_succ, List.set_cons_zero]
  refine wpAnyH_take_d 16 (some 48) (.bool false) rfl (by kernel_rfl) (by kernel_rfl) (by kernel_rfl) (by kernel_rfl) rfl (fun _ _ _ h => h) (fun _ _ => by kernel_rfl) (by exact hS) ?_
  simp only [Act.put, List.setIfInBounds_toArray, List.set_cons_succ, List.set_cons_zero]
  refine wpAnyH_take_d 17 (some 49) (.bool false) rfl (by kernel_rfl) (by kernel_rfl) (by kernel_rfl) (by kernel_rfl) rfl (fun _ _ _ h => h) (fun _ _ => by kernel_rfl) (by exact hS) ?_
  simp only [Act.put, List.setIfInBounds_toArray, List.set_cons_succ, List.set_cons_zero]
  refine wpAnyH_take_d 18 (some 50) (.int .i64 er) rfl (by kernel_rfl) (by kernel_rfl) (by kernel_rfl) (by kernel_rfl) rfl (fun _ _ _ h => h) (fun _ _ => by kernel_rfl) (by exact hS) ?_
  simp only [Act.put, List.setIfInBounds_toArray, List.set_cons_succ, List.set_cons_zero]
  refine wpAnyH_take_d 19 (some 51) (.int .i64 er) rfl (by kernel_rfl) (by kernel_rfl) (by kernel_rfl) (by kernel_rfl) rfl (fun _ _ _ h => h) (fun _ _ => by kernel_rfl) (by exact hS) ?_
  simp only [Act.put, List.setIfInBounds_toArray, List.set_cons_succ, List.set_cons_zero]
  refine wpAnyH_take_d 20 (some 52) (.bool false) rfl (by kernel_rfl) (by kernel_rfl) (by kernel_rfl) (by kernel_rfl) rfl (fun _ _ _ h => h) (fun _ _ => ex_ne rfl rfl rfl hee) (by exact hS) ?_
  simp only [Act.put, List.setIfInBounds_toArray, List.set_cons_succ, List.set_cons_zero]
  refine wpAnyH_take_d 21 (some 53) (.bool false) rfl (by kernel_rfl) (by kernel_rfl) (by kernel_rfl) (by kernel_rfl) rfl (fun _ _ _ h => h) (fun _ _ => by kernel_rfl) (by exact hS) ?_
  simp only [Act.put, List.setIfInBounds_toArray, List.set_cons_succ, List.set_cons_zero]
  refine wpAnyH_done (by kernel_rfl) ?_ _
  have b8 := b7.trans (hS.mono s7)
  obtain ⟨w8, hw8⟩ : ∃ w8, wx = w8 := ⟨_, rfl⟩
  rw [hw8] at b8 hS ⊢
  clear hw8
  obtain ⟨⟨q0, q1, q2, q3⟩, ⟨p0, p1, p2, p3⟩, B8, s8⟩ := RB.out w8 b8
  have x7 := (hS.block _ (lt_of_heap x7)).trans x7
  have x11 := (hS.block _ (lt_of_heap x11)).trans x11
  have dm := DMC.out _ B8
  have h8a := lt_of_heap x7
  have h8b := lt_of_heap x11
  clear R7 R9 R11 R13 BK BK2 hkk hee N1 N2 N3 N4 b7 B7 s7 hS x9 x13
  go_wp2_with fail
  refine Calls.mono dm ?_
  rintro e w9 ⟨v9, rfl, o9, c⟩
  obtain ⟨ya, yb, yc, yd, ye, yf, yg, yh, yi, rfl⟩ := own_form o9
  have n9 := o9.at SMG.out
  obtain ⟨g9, hg9⟩ : ∃ l, RN.leaf = l := ⟨_, rfl⟩
  have HG9 := Lib.hid hg9
  rw [hg9] at n9 ⊢
  have b9 := Below.thenB b8 c s8
  have s9 := (RB.out w9 b9).2.2.2
  have x7 := (c.block _ (lt_of_heap x7)).trans x7
  have x11 := (c.block _ (lt_of_heap x11)).trans x11
  have hc9 : Below A7 w9 w9 := Below.refl _ _
  have OWN9 := Lib.hid o9
  clear dm b8 B8 s8 n9 o9 hg9 q0 q1 q2 q3 p0 p1 p2 p3
  go_wp2_with (with_reducible refine wpList_store_rn (a0 := w9) (B := A7) rfl (.tmp 7) (.tmp 59) rfl A7 g9 (.slice ya yb yc) (.slice yd ye yf) (.slice yg yh yi) rfl rfl _ x7 rfl (.mk _ _ _) (.mk _ _ _) (.mk _ _ _) hc9 (Nat.le_refl _) ?_)
  rintro w10 - y7 c10 k10
  have b10 := b9.trans (c10.mono hA7)
  obtain ⟨⟨q0, q1, q2, q3⟩, ⟨p0, p1, p2, p3⟩, B10, s10⟩ := RB.out w10 b10
  have x11 := (k10 A11 (by omega)).trans x11
  have o10 : NdOwn w8.heap.size w10 (.agg #[.bool g9, .slice ya yb yc, .slice yd ye yf, .slice yg yh yi]) RN := by
    have h8 : A7 < w8.heap.size := h8a
    have := ownN_keepg (g := A7) (w1 := w10) OWN9.out h8 k10
    rw [HG9.out] at this
    exact this
  have O10 := Lib.hid o10
  clear OWN9 o10 hc9 c10 k10 c b9 s9
  have G7 := Lib.hid (fun w' (h : Below A11 w10 w') => (h.block A7 (by omega)).trans y7)
  have RX := Lib.hid (fun w' (h : Below A11 w10 w') => RB.out w' (b10.trans (h.mono hA11)))
  have hA11s := lt_of_heap x11
  clear q0 q1 q2 q3 p0 p1 p2 p3
  have hg9 := HG9.out
  have hF := (Below.refl w10.heap.size w10).drew
  have hA11l := Nat.le_of_lt hA11s
  go_wp2_with fail
  have hS := hF.mono hA11l
  refine wp_region_held_drew (S := fun w' => Below A11 w10 w') mixed hS (fun _ => ?_)
  show wpAnyH _ _ _ _ _ 11 (Array.replicate 11 false) _ _
  refine wpAnyH_take_d 0 (some 62) (.agg #[.bool lf, .slice pa pm pc, .slice ka km kc, .slice ia im ic]) rfl (by kernel_rfl) (by kernel_rfl) (by kernel_rfl) (by kernel_rfl) rfl (fun _ _ _ h => h) (fun w' h => ex_row rfl rfl (range4s (RX.out _ h).1) Try.underlying26 rfl (by kernel_rfl)) (by exact hS) ?_
  simp only [Act.put, List.setIfInBounds_toArray, List.set_cons_succ, List.set_cons_zero]
  refine wpAnyH_take_d 2 (some 64) (.string a1) rfl (by kernel_rfl) (by kernel_rfl) (by kernel_rfl) (by kernel_rfl) rfl (fun _ _ _ h => h) (fun _ _ => by kernel_rfl) (by exact hS) ?_
  simp only [Act.put, List.setIfInBounds_toArray, List.set_cons_succ, List.set_cons_zero]
  refine wpAnyH_take_d 3 (some 65) (.agg #[.bool lg, .slice qa qm qc, .slice la lm lc, .slice ja jm jc]) rfl (by kernel_rfl) (by kernel_rfl) (by kernel_rfl) (by kernel_rfl) rfl (fun _ _ _ h => h) (fun w' h => ex_row rfl rfl (range4s (RX.out _ h).2.1) Try.underlying26 rfl (by kernel_rfl)) (by exact hS) ?_
  simp only [Act.put, List.setIfInBounds_toArray, List.set_cons_succ, List.set_cons_zero]
  refine wpAnyH_call 1 (some 63) 15 #[.agg #[.bool lf, .slice pa pm pc, .slice ka km kc, .slice ia im ic]] rfl (by kernel_rfl) (by kernel_rfl) rfl (by kernel_rfl) (OF.out _ (RX.out _ hS).2.2.1) ?_
  rintro e wa ⟨va, rfl, na, bx⟩
  have hF := hF.trans (bx.mono hF.size)
  have hS := hF.mono hA11l
  refine ⟨_, rfl, hS, ?_⟩
  simp only [Act.put, List.setIfInBounds_toArray, List.set_cons_succ, List.set_cons_zero]
  refine wpAnyH_call 4 (some 66) 15 #[.agg #[.bool lg, .slice qa qm qc, .slice la lm lc, .slice ja jm jc]] rfl (by kernel_rfl) (by kernel_rfl) rfl (by kernel_rfl) (OM.out _ (RX.out _ hS).2.2.1) ?_
  rintro e wb ⟨vb, rfl, nb, bx⟩
  have na := (na.below bx).more bx.size
  have hF := hF.trans (bx.mono hF.size)
  have hS := hF.mono hA11l
  refine ⟨_, rfl, hS, ?_⟩
  simp only [Act.put, List.setIfInBounds_toArray, List.set_cons_succ, List.set_cons_zero]
  refine wpAnyH_call 5 (some 67) 33 #[va, .string a1, vb] rfl (by kernel_rfl) (by kernel_rfl) rfl (by kernel_rfl) (MGC.out _ _ _ na nb) ?_
  rintro e wc ⟨vc, rfl, oc, bx⟩
  obtain ⟨za, zb, zc, zd, ze, zf, zg, zh, zi, rfl⟩ := own_form oc
  rw [hg9] at oc ⊢
  have hwb : A11 < wb.heap.size := Nat.lt_of_lt_of_le hA11s hF.size
  have hF := hF.trans (bx.mono hF.size)
  have hS := hF.mono hA11l
  refine ⟨_, rfl, hS, ?_⟩
  simp only [Act.put, List.setIfInBounds_toArray, List.set_cons_succ, List.set_cons_zero]
  refine wpAnyH_take_d 6 (some 61) (.tuple #[.agg #[.bool g9, .slice za zb zc, .slice zd ze zf, .slice zg zh zi], .int .i64 RE]) rfl (by kernel_rfl) (by kernel_rfl) (by kernel_rfl) (by kernel_rfl) rfl (fun _ _ _ h => h) (fun _ _ => by kernel_rfl) (by exact hS) ?_
  simp only [Act.put, List.setIfInBounds_toArray, List.set_cons_succ, List.set_cons_zero]
  refine wpAnyH_take_d 7 (some 68) (.agg #[.bool g9, .slice za zb zc, .slice zd ze zf, .slice zg zh zi]) rfl (by kernel_rfl) (by kernel_rfl) (by kernel_rfl) (by kernel_rfl) rfl (fun _ _ _ h => h) (fun _ _ => ex_ext rfl rfl rfl) (by exact hS) ?_
  simp only [Act.put, List.setIfInBounds_toArray, List.set_cons_succ, List.set_cons_zero]
  refine wpAnyH_take_d 8 (some 69) (.int .i64 RE) rfl (by kernel_rfl) (by kernel_rfl) (by kernel_rfl) (by kernel_rfl) rfl (fun _ _ _ h => h) (fun _ _ => ex_ext rfl rfl rfl) (by exact hS) ?_
  simp only [Act.put, List.setIfInBounds_toArray, List.set_cons_succ, List.set_cons_zero]
  -- left: [(9, ('none', 'Op.store 32 t11 t68', None)), (10, ('14', 'Op.assign t69', None))]
  have x11 := (hF.block A11 hA11s).trans x11
  have hS2 := below_setRow' hS (Nat.le_refl _) #[.bool g9, .slice za zb zc, .slice zd ze zf, .slice zg zh zi]
  refine wpAnyH_one_skip 9 rfl (by kernel_rfl) (by kernel_rfl) (ex_store_row rfl rfl rfl x11 (by kernel_rfl) rfl (by simp [Value.oneCell'])) hS2 ?_
  simp only [Act.put, List.setIfInBounds_toArray]
  refine wpAnyH_take_d 10 (some 14) (.int .i64 RE) rfl (by kernel_rfl) (by kernel_rfl) (by kernel_rfl) (by kernel_rfl) rfl (fun _ _ _ h => h) (fun _ _ => by kernel_rfl) (by exact hS2) ?_
  refine wpAnyH_done (by kernel_rfl) ?_ _
  have hoth : ∀ k, k ≠ A11 → (wc.setRow A11 #[.bool g9, .slice za zb zc, .slice zd ze zf, .slice zg zh zi]).heap[k]? = wc.heap[k]? := fun k hk => setRow_other wc A11 k _ hk
  have y11 := setRow_heap wc A11 _ #[.bool g9, .slice za zb zc, .slice zd ze zf, .slice zg zh zi] _ _ x11
  have nz := (ownN_keepg oc hwb hoth).at SMG.out
  have ny := (ownN_keepg (O10.out.below hF) h8b hoth).at SMG.out
  have y7 := G7.out _ hS2
  have BW := (RX.out _ hS2).2.2.1
  obtain ⟨wd, hwd⟩ : ∃ wd, wc.setRow A11 #[.bool g9, .slice za zb zc, .slice zd ze zf, .slice zg zh zi] = wd := ⟨_, rfl⟩
  rw [hwd] at y11 nz ny y7 BW ⊢
  have NZ := Lib.hid (fun w' (h : Below wd.heap.size wd w') => (nz.below h).more h.size)
  have NY := Lib.hid (fun w' (h : Below wd.heap.size wd w') => (ny.below h).more h.size)
  have R7 := Lib.hid (fun w' (h : Below wd.heap.size wd w') => range4s (NdCells.of ((h.block _ (lt_of_heap y7)).trans y7)))
  have R11 := Lib.hid (fun w' (h : Below wd.heap.size wd w') => range4s (NdCells.of ((h.block _ (lt_of_heap y11)).trans y11)))
  have BWH := Lib.hid BW
  have hee : (RE == RE) = true := by simp
  clear hwd y11 nz ny y7 BW hS2 hoth x11 hS hF hwb oc na nb bx G7 RX O10 OF OM H0 H2 DMC MGC SMG
  go_wp2_with fail
  have hS := (Below.refl wd.heap.size wd).drew
  refine wp_region_held_drew (S := fun w' => Below wd.heap.size wd w') mixed hS (fun _ => ?_)
  show wpAnyH _ _ _ _ _ 10 (Array.replicate 10 false) _ _
  refine wpAnyH_take_d 0 (some 70) ((.agg #[.bool g9, .slice ya yb yc, .slice yd ye yf, .slice yg yh yi])) rfl (by kernel_rfl) (by kernel_rfl) (by kernel_rfl) (by kernel_rfl) rfl (fun _ _ _ h => h) (fun w' h => ex_row rfl rfl (R7.out _ h) Try.underlying26 rfl (by kernel_rfl)) (by exact hS) ?_
  simp only [Act.put, List.setIfInBounds_toArray, List.set_cons_succ, List.set_cons_zero]
  refine wpAnyH_take_d 1 (some 71) (.agg #[.bool g9, .slice za zb zc, .slice zd ze zf, .slice zg zh zi]) rfl (by kernel_rfl) (by kernel_rfl) (by kernel_rfl) (by kernel_rfl) rfl (fun _ _ _ h => h) (fun w' h => ex_row rfl rfl (R11.out _ h) Try.underlying32 rfl (by kernel_rfl)) (by exact hS) ?_
  simp only [Act.put, List.setIfInBounds_toArray, List.set_cons_succ, List.set_cons_zero]
  refine wpAnyH_call 2 (some 72) 23 #[.agg #[.bool g9, .slice za zb zc, .slice zd ze zf, .slice zg zh zi]] rfl (by kernel_rfl) (by kernel_rfl) rfl (by kernel_rfl) (back_any (.mk _ _ _) (.mk _ _ _) (.mk _ _ _)) ?_
  rintro e wx ⟨rfl, bx⟩
  have hS := hS.trans (bx.mono hS.size)
  refine ⟨_, rfl, hS, ?_⟩
  simp only [Act.put, List.setIfInBounds_toArray, List.set_cons_succ, List.set_cons_zero]
  refine wpAnyH_call 3 (some 73) 22 #[(.agg #[.bool g9, .slice ya yb yc, .slice yd ye yf, .slice yg yh yi]), .agg #[.bool g9, .slice za zb zc, .slice zd ze zf, .slice zg zh zi]] rfl (by kernel_rfl) (by kernel_rfl) rfl (by kernel_rfl) (same_any (NY.out _ hS) (NZ.out _ hS)) ?_
  rintro e wx ⟨rfl, bx⟩
  have hS := hS.trans (bx.mono hS.size)
  refine ⟨_, rfl, hS, ?_⟩
  simp only [Act.put, List.setIfInBounds_toArray, List.set_cons_succ, List.set_cons_zero]
  refine wpAnyH_take_d 4 (some 74) (.bool true) rfl (by kernel_rfl) (by kernel_rfl) (by kernel_rfl) (by kernel_rfl) rfl (fun _ _ _ h => h) (fun _ _ => by kernel_rfl) (by exact hS) ?_
  simp only [Act.put, List.setIfInBounds_toArray, List.set_cons_succ, List.set_cons_zero]
  refine wpAnyH_take_d 5 (some 75) (.int .i64 RE) rfl (by kernel_rfl) (by kernel_rfl) (by kernel_rfl) (by kernel_rfl) rfl (fun _ _ _ h => h) (fun _ _ => by kernel_rfl) (by exact hS) ?_
  simp only [Act.put, List.setIfInBounds_toArray, List.set_cons_succ, List.set_cons_zero]
  refine wpAnyH_take_d 6 (some 76) (.int .i64 RE) rfl (by kernel_rfl) (by kernel_rfl) (by kernel_rfl) (by kernel_rfl) rfl (fun _ _ _ h => h) (fun _ _ => by kernel_rfl) (by exact hS) ?_
  simp only [Act.put, List.setIfInBounds_toArray, List.set_cons_succ, List.set_cons_zero]
  refine wpAnyH_take_d 7 (some 77) (.bool true) rfl (by kernel_rfl) (by kernel_rfl) (by kernel_rfl) (by kernel_rfl) rfl (fun _ _ _ h => h) (fun _ _ => ex_eq rfl rfl rfl hee) (by exact hS) ?_
  simp only [Act.put, List.setIfInBounds_toArray, List.set_cons_succ, List.set_cons_zero]
  refine wpAnyH_take_d 8 (some 78) (.bool true) rfl (by kernel_rfl) (by kernel_rfl) (by kernel_rfl) (by kernel_rfl) rfl (fun _ _ _ h => h) (fun _ _ => by kernel_rfl) (by exact hS) ?_
  simp only [Act.put, List.setIfInBounds_toArray, List.set_cons_succ, List.set_cons_zero]
  refine wpAnyH_take_d 9 (some 6) (.bool true) rfl (by kernel_rfl) (by kernel_rfl) (by kernel_rfl) (by kernel_rfl) rfl (fun _ _ _ h => h) (fun _ _ => by kernel_rfl) (by exact hS) ?_
  simp only [Act.put, List.setIfInBounds_toArray, List.set_cons_succ, List.set_cons_zero]
  refine wpAnyH_done (by kernel_rfl) ?_ _
  go_wp2
  go_ret
  exact ⟨rfl, BWH.out.trans (hS.mono BWH.out.size)⟩

/-! ### the row -/
theorem laidOut : laidOutB Try.prog = true := by kernel_rfl
theorem bytesInt : Try.prog.bytesOf 3 = 8 := by kernel_rfl
set_option maxRecDepth 100000 in
theorem lifted (os : Os) (started : os.Started) (H : Type) (enc : TypeId × Value → H) :
    ReturnsInHanded {} Try.checked os 7 .any (Rows.nodeHalvesSpec.pre6 enc Try.prog Try.f7 Rows.nodeHalvesRow.domain false) (Rows.nodeHalvesSpec.post enc Try.prog Try.f7 false true false false) := by
  refine returnsInHanded_of_change_sized (C := Try.checked) own started (by kernel_rfl) Try.func7
    (ChangeSpec.witness6 (enc := enc) (C := Try.checked) false ⟨#[], #[.agg #[.bool false, .slice none 0 0, .slice none 0 0, .slice none 0 0], .string ByteArray.empty, .agg #[.bool false, .slice none 0 0, .slice none 0 0, .slice none 0 0]], []⟩ 8 (by kernel_rfl) (by kernel_rfl) (by kernel_rfl) (by kernel_rfl)) ?_
  intro W base args ds gs before hval0 hW hcnd hsz0 _
  have hval : ∀ (j : Nat) t v, Try.f7.params[j]? = some t → args[j]? = some v → Value.okWide Try.prog W .any base t v := hval0
  have hW' := hW
  obtain ⟨p, q, hA0, hV, rfl, hfz, hnd⟩ := hW
  have hA : DataW.TrodAll enc Try.prog W 0 (fun _ => true) true Try.f7.params.toList args.toList ds p := hA0
  have hsz : (DataW.weightsEach Try.prog (Try.f7.params.toList ++ Rows.nodeHalvesSpec.plain.varTypes Try.prog) (ds ++ gs)).all (· ≤ reachBytes) = true := hsz0
  rw [Try.params7] at hA hval hsz
  obtain ⟨v0, vs0, d0, ds0, p0, q0, hargs, rfl, rfl, h0, r0⟩ := trodAll_cons hA
  obtain ⟨v1, vs1, d1, ds1, p1, q1, rfl, rfl, rfl, h1, r1⟩ := trodAll_cons r0
  obtain ⟨v2, vs2, d2, ds2, p2, q2, rfl, rfl, rfl, h2, r2⟩ := trodAll_cons r1
  obtain ⟨rfl, rfl, rfl⟩ := trodAll_nil r2
  obtain rfl : args = #[v0, v1, v2] := by cases args; simp_all
  obtain ⟨rfl, rfl⟩ := trodVars_none hV
  have k0 := h0
  have lt0 := args_lt k0
  obtain ⟨z0, w0⟩ := nd_arg (hval 0 26 v0 rfl rfl) (fun k hk => of_decide_eq_true (List.all_eq_true.1 hsz _ (DataW.weights_mem_each (j := 0) (t := 26) (d := d0) rfl rfl k hk))) h0
  obtain ⟨a1, rfl, rfl, rfl, w1⟩ := Go.ChangeMaps.open_string Try.underlying9 (hval 1 9 v1 rfl rfl) h1
  have k2 := h2
  have lt2 := args_lt k2
  obtain ⟨z2, w2⟩ := nd_arg (hval 2 26 v2 rfl rfl) (fun k hk => of_decide_eq_true (List.all_eq_true.1 hsz _ (DataW.weights_mem_each (j := 2) (t := 26) (d := d2) rfl rfl k hk))) h2
  clear hA0 hval0 hsz0
  refine (walk v0 z0 a1 w1 v2 z2 W w0 w2).mono fun e W' ⟨he, bel⟩ => ?_
  subst he
  exact ⟨_, rfl, _, _, _, [], _, [], hW', trodAll_mk1 (shut_bool Try.underlying4 _), (trodAll_cons_mk (Below.trod laidOut (by kernel_rfl) (of_decide_eq_true (by kernel_rfl)) k0 bel lt0) (trodAll_cons_mk (Go.ChangeMaps.shut_string Try.underlying9 w1) (trodAll_cons_mk (Below.trod laidOut (by kernel_rfl) (of_decide_eq_true (by kernel_rfl)) k2 bel lt2) trodAll_mk0))), rfl, bel.frame _, fun h => by cases h⟩

theorem over : Rows.nodeHalvesRow.holds Try.pinned (OpenSpec.ofChange Rows.nodeHalvesSpec) :=
  OpenClaim.holds_of_wide 7 Try.f7 rfl rfl rfl rfl rfl rfl rfl ⟨rfl, rfl, rfl, rfl, rfl⟩ rfl rfl rfl rfl rfl (by kernel_rfl) Try.func7 (by kernel_rfl)
    (of_decide_eq_true (by kernel_rfl)) (by unfold Func.isWrapper; first | (rw [if_pos (by decide +kernel)]; kernel_rfl) | (rw [if_neg (by decide +kernel)]; exact ⟨rfl, rfl⟩))
    (fun os started H enc _ => lifted os started H enc)
end Go.Proofs.Ytdkmfcmndncmcaa.nodeHalves

namespace Go.Proofs.Ytdkmfcmndncmcaa
/-- The law returns true at every input. -/
theorem nodeHalves_holds : Rows.NodeHalvesSaid := nodeHalves.over
end Go.Proofs.Ytdkmfcmndncmcaa

