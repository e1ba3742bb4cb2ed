/- The reader of a page: plain mathematics. No statement of the seat is proved here. -/
import Derived.Test.YtdkmfcmndncmcaaNRd
namespace Go.Proofs.Ytdkmfcmndncmcaa
set_option maxRecDepth 20000
open Go.RowKit

def psR : Nat → Rd → List Pr × Rd
  | 0, R => ([], R)
  | k + 1, R => ((psR k R).1 ++ [⟨(txtR (psR k R).2).1, (txtR (txtR (psR k R).2).2).1⟩], (txtR (txtR (psR k R).2).2).2)
def isR : Nat → Rd → List Int × Rd
  | 0, R => ([], R)
  | k + 1, R => ((isR k R).1 ++ [(((numR (isR k R).2).1 + (numR (numR (isR k R).2).2).1 * 256 : Nat) : Int)], (numR (numR (isR k R).2).2).2)
def ksR : Nat → Rd → List ByteArray × Rd
  | 0, R => ([], R)
  | k + 1, R => ((ksR k R).1 ++ [(txtR (ksR k R).2).1], (txtR (ksR k R).2).2)
def nodeR (R : Rd) : Nd × Rd :=
  if (numR R).1 = 1 then (⟨true, (psR (numR (numR R).2).1 (numR (numR R).2).2).1, [], []⟩, (psR (numR (numR R).2).1 (numR (numR R).2).2).2)
  else if (numR R).1 = 2 then (⟨false, [], (ksR ((numR (numR R).2).1 - 1) (isR (numR (numR R).2).1 (numR (numR R).2).2).2).1, (isR (numR (numR R).2).1 (numR (numR R).2).2).1⟩, (ksR ((numR (numR R).2).1 - 1) (isR (numR (numR R).2).1 (numR (numR R).2).2).2).2)
  else (Nd.none, (numR R).2)
theorem psR_length (k : Nat) (R : Rd) : (psR k R).1.length = k := by
  induction k with
  | zero => rfl
  | succ k ih => simp [psR, ih]
theorem isR_length (k : Nat) (R : Rd) : (isR k R).1.length = k := by
  induction k with
  | zero => rfl
  | succ k ih => simp [isR, ih]
theorem ksR_length (k : Nat) (R : Rd) : (ksR k R).1.length = k := by
  induction k with
  | zero => rfl
  | succ k ih => simp [ksR, ih]
theorem psR_len (k : Nat) (R : Rd) : (psR k R).2.s.size ≤ R.s.size := by
  induction k with
  | zero => exact Nat.le_refl _
  | succ k ih => exact Nat.le_trans (Nat.le_trans (txtR_len _) (txtR_len _)) ih
theorem isR_len (k : Nat) (R : Rd) : (isR k R).2.s.size ≤ R.s.size := by
  induction k with
  | zero => exact Nat.le_refl _
  | succ k ih => exact Nat.le_trans (Nat.le_trans (numR_len _) (numR_len _)) ih
theorem ksR_len (k : Nat) (R : Rd) : (ksR k R).2.s.size ≤ R.s.size := by
  induction k with
  | zero => exact Nat.le_refl _
  | succ k ih => exact Nat.le_trans (txtR_len _) ih

/-! ### what is read, from the bytes -/
def bts (s : ByteArray) : List UInt8 := s.data.toList
theorem bts_strOf (l : List UInt8) : bts (strOf l) = l := by simp [bts, strOf]
theorem strOf_bts (s : ByteArray) : strOf (bts s) = s := by cases s; simp [bts, strOf]
theorem bts_size (s : ByteArray) : (bts s).length = s.size := Array.length_toList
theorem psB_cons (a : Pr) (r : List Pr) : psB (a :: r) = txtB a.k ++ txtB a.v ++ psB r := rfl
theorem isB_cons (a : Int) (r : List Int) : isB (a :: r) = kidB a ++ isB r := rfl
theorem ksB_cons (a : ByteArray) (r : List ByteArray) : ksB (a :: r) = txtB a ++ ksB r := rfl
theorem take_fwd {R : Rd} {x y : List UInt8} (h : bts R.s = x ++ y) : takeR x.length R = (strOf x, ⟨strOf y, R.sh⟩) := by
  have hs := bts_size R.s
  rw [h, List.length_append] at hs
  have e : R.s.data.toList = x ++ y := h
  rw [takeR_lo (by omega), Lib.extract_eq, Lib.extract_eq, e, ← hs]
  have e1 : List.take (x.length - 0) (List.drop 0 (x ++ y)) = x := by simp
  have e2 : List.take (x.length + y.length - x.length) (List.drop x.length (x ++ y)) = y := by simp
  rw [e1, e2]; rfl
theorem num_fwd {R : Rd} {u : UInt8} {y : List UInt8} (h : bts R.s = u :: y) : numR R = (u.toNat, ⟨strOf y, R.sh⟩) := by
  have := take_fwd (x := [u]) (y := y) (R := R) h
  unfold numR
  have e : R.s.data.toList = u :: y := h
  rw [e, show (1 : Nat) = [u].length from rfl, this]; rfl
theorem txt_fwd {R : Rd} {s : ByteArray} {y : List UInt8} (hs : s.size ≤ 255) (h : bts R.s = txtB s ++ y) : txtR R = (s, ⟨strOf y, R.sh⟩) := by
  have h' : bts R.s = UInt8.ofNat s.size :: (bts s ++ y) := h
  unfold txtR
  rw [num_fwd h']
  have e : (UInt8.ofNat s.size).toNat = (bts s).length := by rw [bts_size, UInt8.toNat_ofNat']; omega
  show takeR (UInt8.ofNat s.size).toNat ⟨strOf (bts s ++ y), R.sh⟩ = _
  rw [e, take_fwd (R := ⟨strOf (bts s ++ y), R.sh⟩) (bts_strOf _), strOf_bts]
theorem ps_fwd {R : Rd} {l : List Pr} {y : List UInt8} (hs : ∀ p ∈ l, p.k.size ≤ 255 ∧ p.v.size ≤ 255) (h : bts R.s = psB l ++ y) : ∀ k, k ≤ l.length → psR k R = (l.take k, ⟨strOf (psB (l.drop k) ++ y), R.sh⟩) := by
  intro k
  induction k with
  | zero => intro _; simp only [psR, List.take_zero, List.drop_zero, ← h, strOf_bts]
  | succ k ih =>
    intro hk
    have i := ih (by omega)
    have hd : l.drop k = l[k] :: l.drop (k + 1) := List.drop_eq_getElem_cons (by omega)
    have hm := hs l[k] (List.getElem_mem _)
    have e1 := txt_fwd (R := ⟨strOf (psB (l.drop k) ++ y), R.sh⟩) (s := l[k].k) (y := txtB l[k].v ++ (psB (l.drop (k + 1)) ++ y)) hm.1 (by rw [bts_strOf, hd, psB_cons]; simp only [List.append_assoc])
    have e2 := txt_fwd (R := ⟨strOf (txtB l[k].v ++ (psB (l.drop (k + 1)) ++ y)), R.sh⟩) (s := l[k].v) (y := psB (l.drop (k + 1)) ++ y) hm.2 (by rw [bts_strOf])
    simp only [psR, i, e1, e2]
    rw [List.take_succ_eq_append_getElem (by omega)]
theorem kid_num {z : Int} (h : 1 ≤ z ∧ z ≤ 65535) : (((UInt8.ofNat (z % 256).toNat).toNat + (UInt8.ofNat (z / 256).toNat).toNat * 256 : Nat) : Int) = z := by
  rw [UInt8.toNat_ofNat', UInt8.toNat_ofNat']; omega
theorem is_fwd {R : Rd} {l : List Int} {y : List UInt8} (hs : ∀ z ∈ l, 1 ≤ z ∧ z ≤ 65535) (h : bts R.s = isB l ++ y) : ∀ k, k ≤ l.length → isR k R = (l.take k, ⟨strOf (isB (l.drop k) ++ y), R.sh⟩) := by
  intro k
  induction k with
  | zero => intro _; simp only [isR, List.take_zero, List.drop_zero, ← h, strOf_bts]
  | succ k ih =>
    intro hk
    have i := ih (by omega)
    have hd : l.drop k = l[k] :: l.drop (k + 1) := List.drop_eq_getElem_cons (by omega)
    have hm := hs l[k] (List.getElem_mem _)
    have e1 := num_fwd (R := ⟨strOf (isB (l.drop k) ++ y), R.sh⟩) (u := UInt8.ofNat (l[k] % 256).toNat) (y := UInt8.ofNat (l[k] / 256).toNat :: (isB (l.drop (k + 1)) ++ y)) (by rw [bts_strOf, hd, isB_cons]; rfl)
    have e2 := num_fwd (R := ⟨strOf (UInt8.ofNat (l[k] / 256).toNat :: (isB (l.drop (k + 1)) ++ y)), R.sh⟩) (u := UInt8.ofNat (l[k] / 256).toNat) (y := isB (l.drop (k + 1)) ++ y) (by rw [bts_strOf])
    simp only [isR, i, e1, e2]
    rw [List.take_succ_eq_append_getElem (by omega), kid_num hm]
theorem ks_fwd {R : Rd} {l : List ByteArray} {y : List UInt8} (hs : ∀ p ∈ l, p.size ≤ 255) (h : bts R.s = ksB l ++ y) : ∀ k, k ≤ l.length → ksR k R = (l.take k, ⟨strOf (ksB (l.drop k) ++ y), R.sh⟩) := by
  intro k
  induction k with
  | zero => intro _; simp only [ksR, List.take_zero, List.drop_zero, ← h, strOf_bts]
  | succ k ih =>
    intro hk
    have i := ih (by omega)
    have hd : l.drop k = l[k] :: l.drop (k + 1) := List.drop_eq_getElem_cons (by omega)
    have hm := hs l[k] (List.getElem_mem _)
    have e1 := txt_fwd (R := ⟨strOf (ksB (l.drop k) ++ y), R.sh⟩) (s := l[k]) (y := ksB (l.drop (k + 1)) ++ y) hm (by rw [bts_strOf, hd, ksB_cons, List.append_assoc])
    simp only [ksR, i, e1]
    rw [List.take_succ_eq_append_getElem (by omega)]
theorem node_fwd {n : Nd} (h : okN n = true) : nodeR ⟨strOf (encN n), false⟩ = (n, ⟨⟨#[]⟩, false⟩) := by
  cases hl : n.leaf with
  | true =>
    have hk := ok_key h hl
    rw [okN_leaf hl] at h
    obtain ⟨h1, h2, h3, -, -⟩ := okL_true h
    have e : bts (strOf (encN n)) = 1 :: UInt8.ofNat n.ps.length :: psB n.ps := by rw [bts_strOf]; unfold encN; rw [hl, if_pos rfl]
    have e1 := num_fwd (R := ⟨strOf (encN n), false⟩) e
    have e2 := num_fwd (R := ⟨strOf (UInt8.ofNat n.ps.length :: psB n.ps), false⟩) (bts_strOf _)
    have e3 := ps_fwd (R := ⟨strOf (psB n.ps), false⟩) (l := n.ps) (y := []) (fun p hp => by have := hk p hp; omega) (by rw [bts_strOf, List.append_nil]) n.ps.length (Nat.le_refl _)
    have hu : (UInt8.ofNat n.ps.length).toNat = n.ps.length := by rw [UInt8.toNat_ofNat']; omega
    unfold nodeR
    rw [e1]; simp only
    rw [if_pos (by rfl), e2]; simp only
    rw [hu, e3]
    obtain ⟨lf, ps, ks, is⟩ := n
    subst h1; subst h2; simp at hl; subst hl
    simp [psB, strOf]
  | false =>
    rw [okN_inner hl] at h
    obtain ⟨h1, h2, h3, h4, h5, h6⟩ := okI_true h
    have hk := fun s hs => okK_size ((risB_mem h5).1 s hs)
    have e : bts (strOf (encN n)) = 2 :: UInt8.ofNat n.is.length :: (isB n.is ++ ksB n.ks) := by rw [bts_strOf]; unfold encN; rw [hl]; rfl
    have e1 := num_fwd (R := ⟨strOf (encN n), false⟩) e
    have e2 := num_fwd (R := ⟨strOf (UInt8.ofNat n.is.length :: (isB n.is ++ ksB n.ks)), false⟩) (bts_strOf _)
    have e3 := is_fwd (R := ⟨strOf (isB n.is ++ ksB n.ks), false⟩) (l := n.is) (y := ksB n.ks) h6 (bts_strOf _) n.is.length (Nat.le_refl _)
    have e4 := ks_fwd (R := ⟨strOf (ksB n.ks), false⟩) (l := n.ks) (y := []) (fun s hs => by have := hk s hs; omega) (by rw [bts_strOf, List.append_nil]) n.ks.length (Nat.le_refl _)
    have hu : (UInt8.ofNat n.is.length).toNat = n.is.length := by rw [UInt8.toNat_ofNat']; omega
    have e5 : isB (n.is.drop n.is.length) ++ ksB n.ks = ksB n.ks := by rw [List.drop_length]; rfl
    unfold nodeR
    rw [e1]; simp only
    rw [if_neg (by decide), if_pos (by rfl), e2]; simp only
    rw [hu, e3, e5, ← h4, e4]
    obtain ⟨lf, ps, ks, is⟩ := n
    subst h1; simp at hl; subst hl
    simp [ksB, strOf]

/-! ### and back -/
theorem take_bwd {c : Nat} {R : Rd} (h : (takeR c R).2.sh = false) : R.sh = false ∧ bts R.s = bts (takeR c R).1 ++ bts (takeR c R).2.s ∧ (takeR c R).1.size = c := by
  by_cases hc : c ≤ R.s.size
  · rw [takeR_lo hc] at h ⊢
    refine ⟨h, ?_, by simp; omega⟩
    have hs := bts_size R.s
    have e1 : bts (R.s.extract 0 c) = (bts R.s).take c := by rw [Lib.extract_eq]; simp [bts]
    have e2 : bts (R.s.extract c R.s.size) = (bts R.s).drop c := by
      rw [Lib.extract_eq]
      have : (bts (R.s)).length - c = R.s.size - c := by rw [hs]
      simp only [bts] at this ⊢
      rw [← this, ← List.length_drop, List.take_length]
    simp only
    rw [e1, e2, List.take_append_drop]
  · rw [takeR_hi hc] at h; cases h
theorem num_bwd {R : Rd} (h : (numR R).2.sh = false) : R.sh = false ∧ bts R.s = UInt8.ofNat (numR R).1 :: bts (numR R).2.s := by
  obtain ⟨h1, h2, h3⟩ := take_bwd (c := 1) (R := R) h
  refine ⟨h1, ?_⟩
  unfold numR
  simp only
  rw [← bts_size] at h3
  obtain ⟨u, hu⟩ := List.length_eq_one_iff.1 h3
  rw [hu] at h2
  have e : R.s.data.toList = [u] ++ bts (takeR 1 R).2.s := h2
  rw [h2, e]
  simp
theorem txt_bwd {R : Rd} (h : (txtR R).2.sh = false) : R.sh = false ∧ bts R.s = txtB (txtR R).1 ++ bts (txtR R).2.s := by
  obtain ⟨h1, h2, h3⟩ := take_bwd (c := (numR R).1) (R := (numR R).2) h
  obtain ⟨h4, h5⟩ := num_bwd h1
  refine ⟨h4, ?_⟩
  rw [h5, h2]
  show _ = UInt8.ofNat (txtR R).1.size :: (bts (txtR R).1 ++ _)
  have e : (txtR R).1.size = (numR R).1 := h3
  rw [e]; rfl
theorem ps_bwd {R : Rd} : ∀ k, (psR k R).2.sh = false → R.sh = false ∧ bts R.s = psB (psR k R).1 ++ bts (psR k R).2.s := by
  intro k
  induction k with
  | zero => intro h; exact ⟨h, rfl⟩
  | succ k ih =>
    intro h
    obtain ⟨h1, h2⟩ := txt_bwd (R := (txtR (psR k R).2).2) h
    obtain ⟨h3, h4⟩ := txt_bwd h1
    obtain ⟨h5, h6⟩ := ih h3
    refine ⟨h5, ?_⟩
    rw [h6, h4, h2]
    simp [psR, psB, prB]
theorem is_bwd {R : Rd} : ∀ k, (isR k R).2.sh = false → R.sh = false ∧ bts R.s = isB (isR k R).1 ++ bts (isR k R).2.s := by
  intro k
  induction k with
  | zero => intro h; exact ⟨h, rfl⟩
  | succ k ih =>
    intro h
    obtain ⟨h1, h2⟩ := num_bwd (R := (numR (isR k R).2).2) h
    obtain ⟨h3, h4⟩ := num_bwd h1
    obtain ⟨h5, h6⟩ := ih h3
    refine ⟨h5, ?_⟩
    have l1 := numR_le (isR k R).2
    have l2 := numR_le (numR (isR k R).2).2
    have e1 : ((((numR (isR k R).2).1 + (numR (numR (isR k R).2).2).1 * 256 : Nat) : Int) % 256).toNat = (numR (isR k R).2).1 := by omega
    have e2 : ((((numR (isR k R).2).1 + (numR (numR (isR k R).2).2).1 * 256 : Nat) : Int) / 256).toNat = (numR (numR (isR k R).2).2).1 := by omega
    rw [h6, h4, h2]
    simp only [isR, isB, List.flatMap_append, List.flatMap_cons, List.flatMap_nil, kidB, e1, e2, List.append_assoc, List.cons_append, List.nil_append]
theorem ks_bwd {R : Rd} : ∀ k, (ksR k R).2.sh = false → R.sh = false ∧ bts R.s = ksB (ksR k R).1 ++ bts (ksR k R).2.s := by
  intro k
  induction k with
  | zero => intro h; exact ⟨h, rfl⟩
  | succ k ih =>
    intro h
    obtain ⟨h3, h4⟩ := txt_bwd (R := (ksR k R).2) h
    obtain ⟨h5, h6⟩ := ih h3
    refine ⟨h5, ?_⟩
    rw [h6, h4]
    simp [ksR, ksB]
theorem node_bwd {R : Rd} (h : (nodeR R).2.sh = false) (h0 : (nodeR R).2.s.size = 0) (hok : okN (nodeR R).1 = true) : R.s = strOf (encN (nodeR R).1) := by
  have hn : bts (nodeR R).2.s = [] := List.eq_nil_of_length_eq_zero (by rw [bts_size]; exact h0)
  rw [← strOf_bts R.s]
  congr 1
  unfold nodeR at *
  split
  · rename_i h1
    rw [if_pos h1] at h hn
    obtain ⟨a1, a2⟩ := ps_bwd _ h
    obtain ⟨b1, b2⟩ := num_bwd a1
    obtain ⟨c1, c2⟩ := num_bwd b1
    rw [c2, b2, a2, h1]
    simp only at hn ⊢
    rw [hn, List.append_nil]
    unfold encN
    simp only [if_true, psR_length]; rfl
  · rename_i h1
    rw [if_neg h1] at h hn hok
    split
    · rename_i h2
      rw [if_pos h2] at h hn
      obtain ⟨d1, d2⟩ := ks_bwd _ h
      obtain ⟨a1, a2⟩ := is_bwd _ d1
      obtain ⟨b1, b2⟩ := num_bwd a1
      obtain ⟨c1, c2⟩ := num_bwd b1
      rw [c2, b2, a2, d2, h2]
      simp only at hn ⊢
      rw [hn, List.append_nil]
      unfold encN
      simp only [isR_length]; rfl
    · rename_i h2
      rw [if_neg h2] at hok
      have hf : okN Nd.none = false := by decide
      rw [hf] at hok; cases hok
end Go.Proofs.Ytdkmfcmndncmcaa
