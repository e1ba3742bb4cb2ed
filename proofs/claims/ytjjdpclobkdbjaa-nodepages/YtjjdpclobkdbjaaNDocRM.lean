/- The document's Decode: plain mathematics. No statement of the seat is proved here. -/
import Derived.Test.YtjjdpclobkdbjaaNRefD
import Derived.Test.YtjjdpclobkdbjaaNDecode
namespace Go.Proofs.Ytjjdpclobkdbjaa
set_option maxRecDepth 20000
open Go.RowKit

/-- The page of a node. -/
def GoodOf (s : ByteArray) (m : Nd) : Prop := okN m = true ∧ sizN m ≤ 160 ∧ s = strOf (encN m)
theorem good_dec {s : ByteArray} {m : Nd} (h : GoodOf s m) : decN s = (m, 0) := by
  obtain ⟨h1, h2, rfl⟩ := h
  unfold decN
  rw [if_neg (by rw [strOf_size, encN_length]; omega), node_fwd h1, h1]
  simp
theorem no_good {s : ByteArray} (h : ∀ m, ¬ GoodOf s m) : decN s = (.none, 2) := by
  unfold decN
  by_cases hb : 160 < s.size
  · rw [if_pos hb]
  · rw [if_neg hb]
    cases h1 : (nodeR ⟨s, false⟩).2.sh
    · by_cases h2 : (nodeR ⟨s, false⟩).2.s = ⟨#[]⟩
      · cases h3 : okN (nodeR ⟨s, false⟩).1
        · simp
        · have e := node_bwd (R := ⟨s, false⟩) h1 (by rw [h2]; rfl) h3
          have e' : s = strOf (encN (nodeR ⟨s, false⟩).1) := e
          exact absurd ⟨h3, by rw [← encN_length, ← strOf_size, ← e']; omega, e'⟩ (h _)
      · simp [h2]
    · simp
theorem good_size {s : ByteArray} {m : Nd} (h : GoodOf s m) : 2 ≤ s.size ∧ s.size ≤ 160 := by
  obtain ⟨h1, h2, rfl⟩ := h
  rw [strOf_size, encN_length]
  refine ⟨?_, h2⟩
  unfold sizN; split <;> omega
theorem good_leaf {s : ByteArray} {m : Nd} {x y : UInt8} {l : List UInt8} (hs : bts s = x :: y :: l) (h : GoodOf s m) (hl : m.leaf = true) : x = 1 ∧ y.toNat = m.ps.length ∧ l = psB m.ps := by
  obtain ⟨h1, h2, rfl⟩ := h
  rw [bts_strOf] at hs
  unfold encN at hs; rw [hl, if_pos rfl] at hs
  injection hs with a b
  injection b with b c
  have := (okL_true ((okN_leaf hl).symm.trans h1)).2.2.1
  exact ⟨a.symm, by rw [← b, UInt8.toNat_ofNat']; omega, c.symm⟩
theorem good_inner {s : ByteArray} {m : Nd} {x y : UInt8} {l : List UInt8} (hs : bts s = x :: y :: l) (h : GoodOf s m) (hl : m.leaf = false) : x = 2 ∧ y.toNat = m.is.length ∧ l = isB m.is ++ ksB m.ks := by
  obtain ⟨h1, h2, rfl⟩ := h
  rw [bts_strOf] at hs
  unfold encN at hs; rw [hl] at hs; simp only [Bool.false_eq_true, if_false] at hs
  injection hs with a b
  injection b with b c
  have := (okI_true ((okN_inner hl).symm.trans h1)).2.2.1
  exact ⟨a.symm, by rw [← b, UInt8.toNat_ofNat']; omega, c.symm⟩
theorem tk_fwd {r t : ByteArray} {z : List UInt8} (ht : t.size ≤ 255) (h : bts r = txtB t ++ z) : tkO r = true ∧ tkT r = t ∧ bts (tkR r) = z := by
  have h' : bts r = UInt8.ofNat t.size :: (bts t ++ z) := h
  have e1 : tkN r = t.size := by unfold tkN; rw [h']; simp; omega
  have hz := bts_size r
  rw [h', List.length_cons, List.length_append, bts_size] at hz
  have ok : tkO r = true := by unfold tkO; rw [e1, decide_eq_true (by omega), decide_eq_true (by omega)]; rfl
  have d : r.data.toList = UInt8.ofNat t.size :: (bts t ++ z) := h'
  refine ⟨ok, ?_, ?_⟩
  · unfold tkT; rw [ok, if_pos rfl, e1, Lib.extract_eq, d]
    have : List.take (1 + t.size - 1) (List.drop 1 (UInt8.ofNat t.size :: (bts t ++ z))) = bts t := by
      rw [List.drop_succ_cons, List.drop_zero, Nat.add_sub_cancel_left, ← bts_size, List.take_left]
    rw [this]
    exact strOf_bts t
  · unfold tkR; rw [ok, if_pos rfl, e1, Lib.extract_eq, d]
    have : List.take (r.size - (1 + t.size)) (List.drop (1 + t.size) (UInt8.ofNat t.size :: (bts t ++ z))) = z := by
      rw [Nat.add_comm, List.drop_succ_cons, ← bts_size t, List.drop_left, ← hz, bts_size]
      have : t.size + z.length + 1 - (t.size + 1) = z.length := by omega
      rw [this, List.take_length]
    rw [this]
    exact bts_strOf z
theorem tkR_size (r : ByteArray) : (tkR r).size ≤ r.size := by
  unfold tkR; split
  · simp
  · exact Nat.zero_le _
/-- what stands at the k-th pair, if this is a page of a leaf -/
def PhP (s : ByteArray) (k : Nat) (acc : List Pr) (r : ByteArray) : Prop := ∀ m, GoodOf s m → m.leaf = true ∧ acc = m.ps.take k ∧ bts r = psB (m.ps.drop k)
theorem php0 {s r : ByteArray} {y : UInt8} (hs : bts s = 1 :: y :: bts r) : PhP s 0 [] r := fun m h => by
  cases hl : m.leaf with
  | true => exact ⟨rfl, rfl, (good_leaf hs h hl).2.2⟩
  | false => exact absurd (good_inner hs h hl).1 (by decide)
theorem php_ok {s r : ByteArray} {x y : UInt8} {l : List UInt8} (hs : bts s = x :: y :: l) {k : Nat} {acc : List Pr} (h : PhP s k acc r) (hk : k < y.toNat) {m : Nd} (g : GoodOf s m) : tkO r = true ∧ tkO (tkR r) = true ∧ acc ++ [⟨tkT r, tkT (tkR r)⟩] = m.ps.take (k + 1) ∧ bts (tkR (tkR r)) = psB (m.ps.drop (k + 1)) := by
  obtain ⟨hl, h1, h2⟩ := h m g
  have hy := (good_leaf hs g hl).2.1
  have hkl : k < m.ps.length := by omega
  have hm := ok_key g.1 hl _ (List.getElem_mem hkl)
  rw [List.drop_eq_getElem_cons hkl, psB_cons, List.append_assoc] at h2
  obtain ⟨a1, a2, a3⟩ := tk_fwd (by omega) h2
  obtain ⟨b1, b2, b3⟩ := tk_fwd (by omega) a3
  exact ⟨a1, b1, by rw [a2, b2, h1, List.take_succ_eq_append_getElem hkl], b3⟩
theorem php_bad {s r : ByteArray} {x y : UInt8} {l : List UInt8} (hs : bts s = x :: y :: l) {k : Nat} {acc : List Pr} (h : PhP s k acc r) (hk : k < y.toNat) (hb : (tkO r && tkO (tkR r)) = false) : decN s = (.none, 2) :=
  no_good fun m g => by
    obtain ⟨a, b, -, -⟩ := php_ok hs h hk g
    rw [a, b] at hb; cases hb
theorem php_step {s r : ByteArray} {x y : UInt8} {l : List UInt8} (hs : bts s = x :: y :: l) {k : Nat} {acc : List Pr} (h : PhP s k acc r) (hk : k < y.toNat) : PhP s (k + 1) (acc ++ [⟨tkT r, tkT (tkR r)⟩]) (tkR (tkR r)) := fun m g => by
  obtain ⟨-, -, a, b⟩ := php_ok hs h hk g
  exact ⟨(h m g).1, a, b⟩
theorem dec_end {s : ByteArray} {n : Nd} (hsz : s.size ≤ 160) (h : ∀ m, GoodOf s m → n = m) : decN s = if okN n && decide (strOf (encN n) = s) then (n, 0) else (.none, 2) := by
  by_cases h1 : okN n = true
  · by_cases h2 : strOf (encN n) = s
    · rw [h1, decide_eq_true h2]
      exact good_dec ⟨h1, by rw [← encN_length, ← strOf_size, h2]; exact hsz, h2.symm⟩
    · rw [decide_eq_false h2]; simp
      exact no_good fun m g => h2 (by rw [h m g]; exact g.2.2.symm)
  · have h1' : okN n = false := by simpa using h1
    rw [h1']; simp
    exact no_good fun m g => h1 (by rw [h m g]; exact g.1)
theorem php_end {s r : ByteArray} {x y : UInt8} {l : List UInt8} (hs : bts s = x :: y :: l) {acc : List Pr} (h : PhP s y.toNat acc r) : ∀ m, GoodOf s m → (⟨true, acc, [], []⟩ : Nd) = m := fun m g => by
  obtain ⟨hl, h1, -⟩ := h m g
  obtain ⟨-, hy, -⟩ := good_leaf hs g hl
  obtain ⟨j1, j2, -⟩ := okL_true ((okN_leaf hl).symm.trans g.1)
  rw [hy, List.take_length] at h1
  obtain ⟨lf, ps, ks, is⟩ := m
  simp only at hl h1 j1 j2
  rw [hl, h1, j1, j2]
/-- at the k-th kid -/
def PhI (s : ByteArray) (k : Nat) (acc : List Int) (r : ByteArray) : Prop := ∀ m, GoodOf s m → m.leaf = false ∧ acc = m.is.take k ∧ bts r = isB (m.is.drop k) ++ ksB m.ks
theorem phi0 {s r : ByteArray} {x y : UInt8} (hs : bts s = x :: y :: bts r) (hx : x ≠ 1) : PhI s 0 [] r := fun m h => by
  cases hl : m.leaf with
  | false => exact ⟨rfl, rfl, (good_inner hs h hl).2.2⟩
  | true => exact absurd (good_leaf hs h hl).1 hx
theorem phi_ok {s r : ByteArray} {x y : UInt8} {l : List UInt8} (hs : bts s = x :: y :: l) {k : Nat} {acc : List Int} (h : PhI s k acc r) (hk : k < y.toNat) {m : Nd} (g : GoodOf s m) : ∃ a b z, bts r = a :: b :: z ∧ acc ++ [((a.toNat + 256 * b.toNat : Nat) : Int)] = m.is.take (k + 1) ∧ z = isB (m.is.drop (k + 1)) ++ ksB m.ks := by
  obtain ⟨hl, h1, h2⟩ := h m g
  have hy := (good_inner hs g hl).2.1
  have hkl : k < m.is.length := by omega
  have hm := (okI_true ((okN_inner hl).symm.trans g.1)).2.2.2.2.2 _ (List.getElem_mem hkl)
  rw [List.drop_eq_getElem_cons hkl, isB_cons, List.append_assoc] at h2
  refine ⟨_, _, _, h2, ?_, rfl⟩
  have := kid_num hm
  rw [Nat.mul_comm, this, h1, List.take_succ_eq_append_getElem hkl]
theorem phi_bad {s r : ByteArray} {x y : UInt8} {l : List UInt8} (hs : bts s = x :: y :: l) {k : Nat} {acc : List Int} (h : PhI s k acc r) (hk : k < y.toNat) (hb : r.size < 2) : decN s = (.none, 2) :=
  no_good fun m g => by
    obtain ⟨a, b, z, h1, -⟩ := phi_ok hs h hk g
    rw [← bts_size, h1] at hb; simp only [List.length_cons] at hb; omega
theorem phi_step {s r : ByteArray} {x y : UInt8} {l : List UInt8} (hs : bts s = x :: y :: l) {k : Nat} {acc : List Int} (h : PhI s k acc r) (hk : k < y.toNat) {a b : UInt8} {r' : ByteArray} (hr : bts r = a :: b :: bts r') : PhI s (k + 1) (acc ++ [((a.toNat + 256 * b.toNat : Nat) : Int)]) r' := fun m g => by
  obtain ⟨a', b', z, h1, h2, h3⟩ := phi_ok hs h hk g
  rw [hr] at h1
  injection h1 with e1 h1
  injection h1 with e2 h1
  subst e1; subst e2
  exact ⟨(h m g).1, h2, h1.trans h3⟩
/-- at the k-th key -/
def PhK (s : ByteArray) (k : Nat) (KI : List Int) (acc : List ByteArray) (r : ByteArray) : Prop := ∀ m, GoodOf s m → m.leaf = false ∧ KI = m.is ∧ acc = m.ks.take k ∧ bts r = ksB (m.ks.drop k)
theorem phk0 {s r : ByteArray} {x y : UInt8} {l : List UInt8} (hs : bts s = x :: y :: l) {KI : List Int} (h : PhI s y.toNat KI r) : PhK s 0 KI [] r := fun m g => by
  obtain ⟨hl, h1, h2⟩ := h m g
  rw [(good_inner hs g hl).2.1, List.take_length] at h1
  rw [(good_inner hs g hl).2.1, List.drop_length] at h2
  exact ⟨hl, h1, rfl, h2⟩
theorem phk_ok {s r : ByteArray} {x y : UInt8} {l : List UInt8} (hs : bts s = x :: y :: l) {k : Nat} {KI : List Int} {acc : List ByteArray} (h : PhK s k KI acc r) (hk : k + 1 < y.toNat) {m : Nd} (g : GoodOf s m) : tkO r = true ∧ acc ++ [tkT r] = m.ks.take (k + 1) ∧ bts (tkR r) = ksB (m.ks.drop (k + 1)) := by
  obtain ⟨hl, -, h1, h2⟩ := h m g
  have hy := (good_inner hs g hl).2.1
  obtain ⟨-, -, -, j4, j5, -⟩ := okI_true ((okN_inner hl).symm.trans g.1)
  have hkl : k < m.ks.length := by omega
  have hm := okK_size ((risB_mem j5).1 _ (List.getElem_mem hkl))
  rw [List.drop_eq_getElem_cons hkl, ksB_cons] at h2
  obtain ⟨a1, a2, a3⟩ := tk_fwd (by omega) h2
  exact ⟨a1, by rw [a2, h1, List.take_succ_eq_append_getElem hkl], a3⟩
theorem phk_bad {s r : ByteArray} {x y : UInt8} {l : List UInt8} (hs : bts s = x :: y :: l) {k : Nat} {KI : List Int} {acc : List ByteArray} (h : PhK s k KI acc r) (hk : k + 1 < y.toNat) (hb : tkO r = false) : decN s = (.none, 2) :=
  no_good fun m g => by
    have := (phk_ok hs h hk g).1
    rw [hb] at this; cases this
theorem phk_step {s r : ByteArray} {x y : UInt8} {l : List UInt8} (hs : bts s = x :: y :: l) {k : Nat} {KI : List Int} {acc : List ByteArray} (h : PhK s k KI acc r) (hk : k + 1 < y.toNat) : PhK s (k + 1) KI (acc ++ [tkT r]) (tkR r) := fun m g => by
  obtain ⟨-, a, b⟩ := phk_ok hs h hk g
  exact ⟨(h m g).1, (h m g).2.1, a, b⟩
theorem phk_end {s r : ByteArray} {x y : UInt8} {l : List UInt8} (hs : bts s = x :: y :: l) {KI : List Int} {acc : List ByteArray} (h : PhK s (y.toNat - 1) KI acc r) : ∀ m, GoodOf s m → (⟨false, [], acc, KI⟩ : Nd) = m := fun m g => by
  obtain ⟨hl, h0, h1, -⟩ := h m g
  obtain ⟨-, hy, -⟩ := good_inner hs g hl
  obtain ⟨j1, -, -, j4, -⟩ := okI_true ((okN_inner hl).symm.trans g.1)
  rw [hy, ← j4, List.take_length] at h1
  obtain ⟨lf, ps, ks, is⟩ := m
  simp only at hl h0 h1 j1
  rw [hl, h0, h1, j1]
end Go.Proofs.Ytjjdpclobkdbjaa
