/- Sets of numbers as words of bits: how many are in one, its least, without its least; the sum of a word's bits as math/bits reckons it. No statement of the seat is proved here. -/
import Derived.WalkKit
import Derived.Lib.BitFns
import Derived.Lib.TrailingZeros
namespace Go.Proofs.YtkmaikmbjebjeaaDoor
set_option maxRecDepth 20000
open Go.RowKit

/-! ### words -/
def bitsN (f : Nat → Bool) : Nat → Nat
  | 0 => 0
  | k + 1 => bitsN f k + (if f k then 2 ^ k else 0)
theorem bitsN_lt (f : Nat → Bool) : ∀ k, bitsN f k < 2 ^ k
  | 0 => by simp [bitsN]
  | k + 1 => by
    have := bitsN_lt f k
    rw [bitsN, Nat.pow_succ]; split <;> omega
theorem testBit_bitsN (f : Nat → Bool) : ∀ k j, (bitsN f k).testBit j = (decide (j < k) && f j)
  | 0, j => by simp [bitsN]
  | k + 1, j => by
    have hl := bitsN_lt f k
    have ih := testBit_bitsN f k
    by_cases hj : j = k
    · subst hj
      rw [bitsN]
      cases hf : f j
      · simp [Nat.testBit_lt_two_pow hl]
      · simp only [if_true]
        rw [Nat.add_comm, Nat.testBit_two_pow_add_eq, Nat.testBit_lt_two_pow hl]; simp
    · by_cases hlt : j < k
      · rw [bitsN]
        have e1 : decide (j < k + 1) = decide (j < k) := by simp; omega
        rw [e1, ← ih j]
        split
        · rw [Nat.add_comm, Nat.testBit_two_pow_add_gt hlt]
        · simp
      · have h2 := bitsN_lt f (k + 1)
        have : bitsN f (k + 1) < 2 ^ j := Nat.lt_of_lt_of_le h2 (Nat.pow_le_pow_right (by decide) (by omega))
        rw [Nat.testBit_lt_two_pow this]
        simp; intro; omega
theorem bitsN_congr {f g : Nat → Bool} {k : Nat} (h : ∀ j, j < k → f j = g j) : bitsN f k = bitsN g k := by
  apply Nat.eq_of_testBit_eq
  intro j
  rw [testBit_bitsN, testBit_bitsN]
  by_cases hj : j < k
  · simp [hj, h j hj]
  · simp [hj]
theorem bitsN_or (f g : Nat → Bool) (k : Nat) : bitsN f k ||| bitsN g k = bitsN (fun j => f j || g j) k := by
  apply Nat.eq_of_testBit_eq
  intro j
  rw [Nat.testBit_or, testBit_bitsN, testBit_bitsN, testBit_bitsN]
  cases decide (j < k) <;> simp
theorem bitsN_and (f g : Nat → Bool) (k : Nat) : bitsN f k &&& bitsN g k = bitsN (fun j => f j && g j) k := by
  apply Nat.eq_of_testBit_eq
  intro j
  rw [Nat.testBit_and, testBit_bitsN, testBit_bitsN, testBit_bitsN]
  cases decide (j < k) <;> simp
theorem bitsN_not (f : Nat → Bool) (k : Nat) : 2 ^ k - 1 - bitsN f k = bitsN (fun j => !f j) k := by
  apply Nat.eq_of_testBit_eq
  intro j
  have := bitsN_lt f k
  rw [show 2 ^ k - 1 - bitsN f k = 2 ^ k - (bitsN f k + 1) by omega, Nat.testBit_two_pow_sub_succ this, testBit_bitsN, testBit_bitsN]
  cases decide (j < k) <;> simp
theorem bitsN_one {k j : Nat} (h : j < k) : bitsN (fun i => decide (i = j)) k = 2 ^ j := by
  apply Nat.eq_of_testBit_eq
  intro i
  rw [testBit_bitsN, Nat.testBit_two_pow]
  by_cases e : i = j
  · subst e; simp [h]
  · simp [e]; omega
theorem bitsN_zero {f : Nat → Bool} {k : Nat} (h : ∀ j, j < k → f j = false) : bitsN f k = 0 := by
  apply Nat.eq_of_testBit_eq
  intro j
  rw [testBit_bitsN, Nat.zero_testBit]
  by_cases hj : j < k
  · simp [h j hj]
  · simp [hj]
theorem bitsN_pos {f : Nat → Bool} {k j : Nat} (hj : j < k) (hf : f j = true) : 0 < bitsN f k := by
  apply Nat.pos_of_ne_zero
  intro h
  have := testBit_bitsN f k j
  rw [h, Nat.zero_testBit] at this
  simp [hj, hf] at this

/-! ### how many -/
def cnt (f : Nat → Bool) : Nat → Nat
  | 0 => 0
  | n + 1 => cnt f n + (if f n then 1 else 0)
theorem cnt_le (f : Nat → Bool) : ∀ n, cnt f n ≤ n
  | 0 => Nat.le_refl _
  | n + 1 => by rw [cnt]; have := cnt_le f n; split <;> omega
theorem cnt_congr {f g : Nat → Bool} : ∀ {n : Nat}, (∀ j, j < n → f j = g j) → cnt f n = cnt g n
  | 0, _ => rfl
  | n + 1, h => by rw [cnt, cnt, cnt_congr (fun j hj => h j (by omega)), h n (by omega)]
theorem cnt_front (f : Nat → Bool) : ∀ n, cnt f (n + 1) = (if f 0 then 1 else 0) + cnt (fun j => f (j + 1)) n
  | 0 => by simp [cnt]
  | n + 1 => by rw [cnt, cnt_front f n, cnt]; omega
theorem cnt_add (f : Nat → Bool) (m : Nat) : ∀ n, cnt f (m + n) = cnt f m + cnt (fun j => f (m + j)) n
  | 0 => by simp [cnt]
  | n + 1 => by rw [← Nat.add_assoc, cnt, cnt_add f m n, cnt]; omega
theorem cnt_none {f : Nat → Bool} : ∀ {n : Nat}, (∀ j, j < n → f j = false) → cnt f n = 0
  | 0, _ => rfl
  | n + 1, h => by rw [cnt, cnt_none (fun j hj => h j (by omega)), h n (by omega)]; rfl
theorem cnt_zero {f : Nat → Bool} : ∀ {n : Nat}, cnt f n = 0 → ∀ j, j < n → f j = false
  | n + 1, h, j, hj => by
    rw [cnt] at h
    by_cases e : j = n
    · subst e; cases hf : f j
      · rfl
      · rw [hf] at h; simp at h
    · exact cnt_zero (n := n) (by split at h <;> omega) j (by omega)
theorem cnt_pos {f : Nat → Bool} {n j : Nat} (hj : j < n) (hf : f j = true) : 0 < cnt f n := by
  apply Nat.pos_of_ne_zero
  intro h
  rw [cnt_zero h j hj] at hf; cases hf
theorem cnt_set {f g : Nat → Bool} {b : Nat} (hb : f b = false) (gb : g b = true) (ho : ∀ j, j ≠ b → g j = f j) : ∀ {n : Nat}, b < n → cnt g n = cnt f n + 1
  | n + 1, h => by
    rw [cnt, cnt]
    by_cases e : b = n
    · subst e
      rw [hb, gb, cnt_congr (f := g) (g := f) (fun j hj => ho j (by omega))]; simp
    · rw [cnt_set hb gb ho (by omega), ho n (by omega)]; omega
theorem cnt_not (f : Nat → Bool) : ∀ n, cnt f n + cnt (fun j => !f j) n = n
  | 0 => rfl
  | n + 1 => by
    have := cnt_not f n
    rw [cnt, cnt]
    cases f n <;> simp <;> omega
theorem cnt_or {f g : Nat → Bool} (h : ∀ j, f j = true → g j = false) : ∀ n, cnt (fun j => f j || g j) n = cnt f n + cnt g n
  | 0 => rfl
  | n + 1 => by
    rw [cnt, cnt, cnt, cnt_or h n]
    have := h n
    cases hf : f n <;> cases hg : g n <;> simp_all <;> omega
/-- the number of those in words of 64 -/
theorem cnt_words (f : Nat → Bool) (i : Nat) : cnt f (64 * (i + 1)) = cnt f (64 * i) + cnt (fun j => f (64 * i + j)) 64 := by
  rw [show 64 * (i + 1) = 64 * i + 64 by omega, cnt_add]
/-- the least -/
theorem least_of (f : Nat → Bool) : ∀ {n : Nat}, (∃ j, j < n ∧ f j = true) → ∃ b, b < n ∧ f b = true ∧ ∀ j, j < b → f j = false
  | 0, h => by obtain ⟨j, hj, _⟩ := h; omega
  | n + 1, h => by
    by_cases h' : ∃ j, j < n ∧ f j = true
    · obtain ⟨b, h1, h2, h3⟩ := least_of f h'
      exact ⟨b, by omega, h2, h3⟩
    · obtain ⟨j, hj, hf⟩ := h
      refine ⟨j, hj, hf, fun i hi => ?_⟩
      cases hfi : f i
      · rfl
      · exact absurd ⟨i, by omega, hfi⟩ h'

/-! ### the sum of a word's bits -/
theorem popAux_cnt : ∀ n x, Lib.popAux n x = cnt x.testBit n
  | 0, _ => rfl
  | n + 1, x => by
    rw [Lib.popAux, popAux_cnt n (x / 2), cnt_front]
    have e : (fun j => x.testBit (j + 1)) = (x / 2).testBit := by funext j; rw [Nat.testBit_succ]
    rw [e, Nat.testBit_zero]
    rcases Nat.mod_two_eq_zero_or_one x with h | h <;> simp [h]
theorem onesCount_bits (f : Nat → Bool) : Lib.onesCount (bitsN f 64) = cnt f 64 := by
  rw [Lib.onesCount, popAux_cnt]
  exact cnt_congr (fun j hj => by rw [testBit_bitsN]; simp [hj])
def rep (c : Nat) : Nat → Nat
  | 0 => 0
  | k + 1 => 256 * rep c k + c
theorem and_split (h b M m : Nat) (hb : b < 256) (hm : m < 256) : (256 * h + b) &&& (256 * M + m) = 256 * (h &&& M) + (b &&& m) := by
  have e1 := Nat.and_div_two_pow (a := 256 * h + b) (b := 256 * M + m) (n := 8)
  have e2 := Nat.and_mod_two_pow (a := 256 * h + b) (b := 256 * M + m) (n := 8)
  have a1 : (256 * h + b) / 2 ^ 8 = h := by omega
  have a2 : (256 * M + m) / 2 ^ 8 = M := by omega
  have a3 : (256 * h + b) % 2 ^ 8 = b := by omega
  have a4 : (256 * M + m) % 2 ^ 8 = m := by omega
  rw [a1, a2] at e1
  rw [a3, a4] at e2
  generalize (256 * h + b) &&& (256 * M + m) = x at *
  omega
def s1 (k x : Nat) : Nat := (x / 2 &&& rep 85 k) + (x &&& rep 85 k)
def s2 (k x : Nat) : Nat := (x / 4 &&& rep 51 k) + (x &&& rep 51 k)
def s3 (k x : Nat) : Nat := (x / 16 + x) &&& rep 15 k
def t8 (b : Nat) : Nat := (((b / 2 &&& 85) + (b &&& 85)) / 4 &&& 51) + (((b / 2 &&& 85) + (b &&& 85)) &&& 51)
theorem byte1 : ∀ c : Fin 2, ∀ b : Fin 256, (128 * c.val + b.val / 2) &&& 85 = b.val / 2 &&& 85 := by decide +kernel
theorem byte1' : ∀ b : Fin 256, (b.val / 2 &&& 85) + (b.val &&& 85) < 256 := by decide +kernel
theorem byte2 : ∀ c : Fin 4, ∀ b : Fin 256, (64 * c.val + b.val / 4) &&& 51 = b.val / 4 &&& 51 := by decide +kernel
theorem byte2' : ∀ b : Fin 256, (b.val / 4 &&& 51) + (b.val &&& 51) < 256 := by decide +kernel
theorem byte3 : ∀ c : Fin 5, ∀ b : Fin 256, (16 * c.val + (t8 b.val / 16 + t8 b.val)) &&& 15 = Lib.popAux 8 b.val := by decide +kernel
theorem byte3' : ∀ b : Fin 256, t8 b.val % 16 ≤ 4 ∧ 64 + (t8 b.val / 16 + t8 b.val) < 256 := by decide +kernel
theorem byte4 : ∀ b : Fin 256, Lib.popAux 8 b.val ≤ 8 := by decide +kernel
theorem s1_split (k h b : Nat) (hb : b < 256) : s1 (k + 1) (256 * h + b) = 256 * s1 k h + ((b / 2 &&& 85) + (b &&& 85)) := by
  have e : (256 * h + b) / 2 = 256 * (h / 2) + (128 * (h % 2) + b / 2) := by omega
  have hc := byte1 ⟨h % 2, by omega⟩ ⟨b, hb⟩
  simp only at hc
  unfold s1
  rw [rep, e, and_split _ _ _ _ (by omega) (by decide), and_split _ _ _ _ hb (by decide), hc]
  omega
theorem s2_split (k h b : Nat) (hb : b < 256) : s2 (k + 1) (256 * h + b) = 256 * s2 k h + ((b / 4 &&& 51) + (b &&& 51)) := by
  have e : (256 * h + b) / 4 = 256 * (h / 4) + (64 * (h % 4) + b / 4) := by omega
  have hc := byte2 ⟨h % 4, by omega⟩ ⟨b, hb⟩
  simp only at hc
  unfold s2
  rw [rep, e, and_split _ _ _ _ (by omega) (by decide), and_split _ _ _ _ hb (by decide), hc]
  omega
theorem t_split (k h b : Nat) (hb : b < 256) : s2 (k + 1) (s1 (k + 1) (256 * h + b)) = 256 * s2 k (s1 k h) + t8 b := by
  rw [s1_split k h b hb, s2_split _ _ _ (byte1' ⟨b, hb⟩)]; rfl
theorem t_low (k h : Nat) : s2 k (s1 k h) % 16 ≤ 4 := by
  cases k with
  | zero => simp [s2, rep]
  | succ k =>
    have e : h = 256 * (h / 256) + h % 256 := by omega
    have hb : h % 256 < 256 := by omega
    rw [e, t_split k _ _ hb]
    have := (byte3' ⟨h % 256, hb⟩).1
    simp only at this
    omega
theorem f_split (k h b : Nat) (hb : b < 256) : s3 (k + 1) (s2 (k + 1) (s1 (k + 1) (256 * h + b))) = 256 * s3 k (s2 k (s1 k h)) + Lib.popAux 8 b := by
  rw [t_split k h b hb]
  have h1 := t_low k h
  have h2 := (byte3' ⟨b, hb⟩).2
  simp only at h2
  generalize s2 k (s1 k h) = y at h1 ⊢
  have h3 := byte3 ⟨y % 16, by omega⟩ ⟨b, hb⟩
  simp only at h3
  have e : (256 * y + t8 b) / 16 + (256 * y + t8 b) = 256 * (y / 16 + y) + (16 * (y % 16) + (t8 b / 16 + t8 b)) := by omega
  unfold s3
  rw [rep, e, and_split _ _ _ _ (by omega) (by decide), h3]
theorem popAux_add : ∀ m n x, Lib.popAux (m + n) x = Lib.popAux m x + Lib.popAux n (x / 2 ^ m)
  | 0, n, x => by simp [Lib.popAux]
  | m + 1, n, x => by
    rw [show m + 1 + n = (m + n) + 1 by omega, Lib.popAux, popAux_add m n, Lib.popAux, Nat.div_div_eq_div_mul, show 2 * 2 ^ m = 2 ^ (m + 1) by rw [Nat.pow_succ]; omega]
    omega
theorem popAux_mod : ∀ m x, Lib.popAux m (x % 2 ^ m) = Lib.popAux m x
  | 0, x => rfl
  | m + 1, x => by
    rw [Lib.popAux, Lib.popAux, ← popAux_mod m (x / 2)]
    have e1 : x % 2 ^ (m + 1) % 2 = x % 2 := by rw [Nat.pow_succ]; exact Nat.mod_mul_left_mod x (2 ^ m) 2
    have e2 : x % 2 ^ (m + 1) / 2 = x / 2 % 2 ^ m := by rw [Nat.pow_succ, Nat.mul_comm]; exact Nat.mod_mul_right_div_self x 2 (2 ^ m)
    rw [e1, e2]
theorem popAux_byte (n h b : Nat) (hb : b < 256) : Lib.popAux (8 + n) (256 * h + b) = Lib.popAux 8 b + Lib.popAux n h := by
  rw [popAux_add, ← popAux_mod 8 (256 * h + b)]
  have e1 : (256 * h + b) % 2 ^ 8 = b := by omega
  have e2 : (256 * h + b) / 2 ^ 8 = h := by omega
  rw [e1, e2]
theorem d8 (A b : Nat) (h : b < 256) : (256 * A + b) / 256 = A := by omega
theorem d16 (A b c : Nat) (h : b < 256) (h' : c < 256) : (256 * (256 * A + b) + c) / 65536 = A := by omega
theorem d32 (A b c d e : Nat) (h1 : b < 256) (h2 : c < 256) (h3 : d < 256) (h4 : e < 256) : (256 * (256 * (256 * (256 * A + b) + c) + d) + e) / 4294967296 = A := by
  rw [show (4294967296 : Nat) = 65536 * 65536 by rfl, ← Nat.div_div_eq_div_mul, d16 _ _ _ h3 h4, d16 _ _ _ h1 h2]
theorem sum_bytes (p0 p1 p2 p3 p4 p5 p6 p7 y y1 y2 : Nat) (h0 : p0 ≤ 8) (h1 : p1 ≤ 8) (h2 : p2 ≤ 8) (h3 : p3 ≤ 8) (h4 : p4 ≤ 8) (h5 : p5 ≤ 8) (h6 : p6 ≤ 8) (h7 : p7 ≤ 8)
    (hy : y = 256 * (256 * (256 * (256 * (256 * (256 * (256 * p7 + p6) + p5) + p4) + p3) + p2) + p1) + p0) (e1 : y1 = y + y / 256) (e2 : y2 = y1 + y1 / 65536) :
    (y2 + y2 / 4294967296) % 128 = p0 + p1 + p2 + p3 + p4 + p5 + p6 + p7 ∧ y2 + y2 / 4294967296 < 9223372036854775808 := by
  have q1 : y1 = 256 * (256 * (256 * (256 * (256 * (256 * (256 * p7 + (p6 + p7)) + (p5 + p6)) + (p4 + p5)) + (p3 + p4)) + (p2 + p3)) + (p1 + p2)) + (p0 + p1) := by
    rw [e1, hy, d8 _ p0 (by omega)]; clear e1 e2 hy; omega
  have q2 : y2 = 256 * (256 * (256 * (256 * (256 * (256 * (256 * p7 + (p6 + p7)) + (p5 + p6 + p7)) + (p4 + p5 + p6 + p7)) + (p3 + p4 + p5 + p6)) + (p2 + p3 + p4 + p5)) + (p1 + p2 + p3 + p4)) + (p0 + p1 + p2 + p3) := by
    rw [e2, q1, d16 _ (p1 + p2) (p0 + p1) (by omega) (by omega)]; clear e1 e2 hy q1; omega
  clear e1 e2 hy q1
  rw [q2, d32 _ (p3 + p4 + p5 + p6) (p2 + p3 + p4 + p5) (p1 + p2 + p3 + p4) (p0 + p1 + p2 + p3) (by omega) (by omega) (by omega) (by omega)]
  clear q2
  constructor
  · have e : ∀ A B s t : Nat, s + t < 128 → (256 * A + s + (256 * B + t)) % 128 = s + t := fun A B s t h => by omega
    rw [e _ _ _ _ (by omega)]; omega
  · omega
theorem pop_all (x : Nat) (hx : x < 18446744073709551616) : ∃ y y1 y2, y = s3 8 (s2 8 (s1 8 x)) ∧ y1 = y + y / 256 ∧ y2 = y1 + y1 / 65536 ∧ (y2 + y2 / 4294967296) % 128 = Lib.onesCount x ∧ y2 + y2 / 4294967296 < 9223372036854775808 := by
  obtain ⟨b0, x1, rfl, l0⟩ : ∃ b h, x = 256 * h + b ∧ b < 256 := ⟨x % 256, x / 256, by omega, by omega⟩
  obtain ⟨b1, x2, rfl, l1⟩ : ∃ b h, x1 = 256 * h + b ∧ b < 256 := ⟨x1 % 256, x1 / 256, by omega, by omega⟩
  obtain ⟨b2, x3, rfl, l2⟩ : ∃ b h, x2 = 256 * h + b ∧ b < 256 := ⟨x2 % 256, x2 / 256, by omega, by omega⟩
  obtain ⟨b3, x4, rfl, l3⟩ : ∃ b h, x3 = 256 * h + b ∧ b < 256 := ⟨x3 % 256, x3 / 256, by omega, by omega⟩
  obtain ⟨b4, x5, rfl, l4⟩ : ∃ b h, x4 = 256 * h + b ∧ b < 256 := ⟨x4 % 256, x4 / 256, by omega, by omega⟩
  obtain ⟨b5, x6, rfl, l5⟩ : ∃ b h, x5 = 256 * h + b ∧ b < 256 := ⟨x5 % 256, x5 / 256, by omega, by omega⟩
  obtain ⟨b6, x7, rfl, l6⟩ : ∃ b h, x6 = 256 * h + b ∧ b < 256 := ⟨x6 % 256, x6 / 256, by omega, by omega⟩
  obtain ⟨b7, x8, rfl, l7⟩ : ∃ b h, x7 = 256 * h + b ∧ b < 256 := ⟨x7 % 256, x7 / 256, by omega, by omega⟩
  obtain rfl : x8 = 0 := by omega
  have hF : ∀ z, s3 0 (s2 0 (s1 0 z)) = 0 := fun z => by simp [s3, rep]
  have hP : ∀ z, Lib.popAux 0 z = 0 := fun z => rfl
  have E : s3 8 (s2 8 (s1 8 (256 * (256 * (256 * (256 * (256 * (256 * (256 * (256 * 0 + b7) + b6) + b5) + b4) + b3) + b2) + b1) + b0))) = 256 * (256 * (256 * (256 * (256 * (256 * (256 * Lib.popAux 8 b7 + Lib.popAux 8 b6) + Lib.popAux 8 b5) + Lib.popAux 8 b4) + Lib.popAux 8 b3) + Lib.popAux 8 b2) + Lib.popAux 8 b1) + Lib.popAux 8 b0 := by
    rw [f_split 7 _ _ l0, f_split 6 _ _ l1, f_split 5 _ _ l2, f_split 4 _ _ l3, f_split 3 _ _ l4, f_split 2 _ _ l5, f_split 1 _ _ l6, f_split 0 _ _ l7, hF]
    omega
  have G : Lib.onesCount (256 * (256 * (256 * (256 * (256 * (256 * (256 * (256 * 0 + b7) + b6) + b5) + b4) + b3) + b2) + b1) + b0) = Lib.popAux 8 b0 + Lib.popAux 8 b1 + Lib.popAux 8 b2 + Lib.popAux 8 b3 + Lib.popAux 8 b4 + Lib.popAux 8 b5 + Lib.popAux 8 b6 + Lib.popAux 8 b7 := by
    rw [Lib.onesCount, popAux_byte 56 _ _ l0, popAux_byte 48 _ _ l1, popAux_byte 40 _ _ l2, popAux_byte 32 _ _ l3, popAux_byte 24 _ _ l4, popAux_byte 16 _ _ l5, popAux_byte 8 _ _ l6, popAux_byte 0 _ _ l7, hP]
    omega
  have k0 := byte4 ⟨b0, l0⟩
  have k1 := byte4 ⟨b1, l1⟩
  have k2 := byte4 ⟨b2, l2⟩
  have k3 := byte4 ⟨b3, l3⟩
  have k4 := byte4 ⟨b4, l4⟩
  have k5 := byte4 ⟨b5, l5⟩
  have k6 := byte4 ⟨b6, l6⟩
  have k7 := byte4 ⟨b7, l7⟩
  refine ⟨_, _, _, rfl, rfl, rfl, ?_⟩
  rw [G]
  exact sum_bytes _ _ _ _ _ _ _ _ _ _ _ k0 k1 k2 k3 k4 k5 k6 k7 E rfl rfl
end Go.Proofs.YtkmaikmbjebjeaaDoor
