/- The order of double floating numbers is the order of their rungs: plain mathematics over the library's float core. No conditions but that a word is no NaN where that is said. -/
import Derived.Laws.FloatArith
namespace Go.Proofs.Ytegloiojhimoeaa.G
open Ieee

abbrev D : Format := Ieee.double
/-- the lower 63 bits -/
def rung (b : Nat) : Nat := b % 9223372036854775808
def sgn (b : Nat) : Bool := b / 9223372036854775808 % 2 == 1
def nan (b : Nat) : Bool := decide (9218868437227405312 < rung b)
/-- a rung's magnitude, in units of the least number above nought -/
def mag (r : Nat) : Nat := if r < 4503599627370496 then r else (4503599627370496 + r % 4503599627370496) * 2 ^ (r / 4503599627370496 - 1)
/-- the place in the order, both noughts at 0 -/
def sv (b : Nat) : Int := if sgn b then -(rung b : Int) else rung b

theorem binade_eq : D.binade = 4503599627370496 := by decide +kernel
theorem inf_eq : D.infRung = 9218868437227405312 := by decide +kernel
theorem weight_eq : D.signWeight = 9223372036854775808 := by decide +kernel
theorem least_eq : D.leastPlace = -1074 := by decide +kernel

theorem mag_step (r : Nat) : mag r < mag (r + 1) := by
  unfold mag
  by_cases h0 : r < 4503599627370496
  · by_cases h1 : r + 1 < 4503599627370496
    · rw [if_pos h0, if_pos h1]; omega
    · obtain rfl : r = 4503599627370495 := by omega
      decide +kernel
  · rw [if_neg h0, if_neg (by omega)]
    by_cases h1 : r % 4503599627370496 + 1 < 4503599627370496
    · have e2 : (r + 1) % 4503599627370496 = r % 4503599627370496 + 1 := by omega
      have e4 : (r + 1) / 4503599627370496 - 1 = r / 4503599627370496 - 1 := by omega
      rw [e2, e4]
      exact Nat.mul_lt_mul_of_pos_right (by omega) (Nat.two_pow_pos _)
    · have e1 : r % 4503599627370496 = 4503599627370495 := by omega
      have e2 : (r + 1) % 4503599627370496 = 0 := by omega
      have e4 : (r + 1) / 4503599627370496 - 1 = r / 4503599627370496 - 1 + 1 := by omega
      rw [e1, e2, e4, Nat.pow_succ]
      have := Nat.two_pow_pos (r / 4503599627370496 - 1)
      omega

theorem mag_lt {r s : Nat} (h : r < s) : mag r < mag s := by
  induction s with
  | zero => omega
  | succ s ih =>
    rcases Nat.lt_succ_iff_lt_or_eq.1 h with h | rfl
    · exact Nat.lt_trans (ih h) (mag_step s)
    · exact mag_step _

theorem mag_zero : mag 0 = 0 := by decide +kernel

/-- the magnitude with a sign -/
def gi (v : Int) : Int := if v < 0 then -(mag v.natAbs : Int) else mag v.natAbs

theorem gi_lt {a b : Int} (h : a < b) : gi a < gi b := by
  unfold gi
  by_cases ha : a < 0 <;> by_cases hb : b < 0
  · rw [if_pos ha, if_pos hb]; have := mag_lt (show b.natAbs < a.natAbs by omega); omega
  · rw [if_pos ha, if_neg hb]; have := mag_lt (show 0 < a.natAbs by omega); rw [mag_zero] at this; omega
  · omega
  · rw [if_neg ha, if_neg hb]; have := mag_lt (show a.natAbs < b.natAbs by omega); omega

theorem compare_int (a b : Int) : compare a b = if a < b then .lt else if a = b then .eq else .gt := rfl

theorem compare_gi (a b : Int) : compare (gi a) (gi b) = compare a b := by
  rw [compare_int, compare_int]
  rcases Int.lt_trichotomy a b with h | rfl | h
  · rw [if_pos h, if_pos (gi_lt h)]
  · simp
  · have := gi_lt h
    rw [if_neg (by omega), if_neg (by omega), if_neg (by omega), if_neg (by omega)]

theorem compare_scale (a b : Int) (k : Nat) (hk : 0 < k) : compare (a * k) (b * k) = compare a b := by
  rw [compare_int, compare_int]
  have hk' : (0 : Int) < k := by omega
  rcases Int.lt_trichotomy a b with h | rfl | h
  · rw [if_pos h, if_pos (Int.mul_lt_mul_of_pos_right h hk')]
  · simp
  · have := Int.mul_lt_mul_of_pos_right h hk'
    rw [if_neg (by omega), if_neg (by omega), if_neg (by omega), if_neg (by omega)]

/-- what a word stands for -/
inductive Kind (b : Nat) : Prop where
  | nan (h : nan b = true) (t : Nat) (e : D.read b = .nan (sgn b) t)
  | inf (h : nan b = false) (hr : rung b = 9218868437227405312) (e : D.read b = .infinity (sgn b))
  | num (h : nan b = false) (hr : rung b < 9218868437227405312) (m p : Nat) (e : D.read b = .number (sgn b) m (-1074 + p)) (hm : mag (rung b) = m * 2 ^ p)
      (hf : (p = 0 ∧ m = rung b ∧ m < 4503599627370496) ∨ (4503599627370496 ≤ m ∧ m < 9007199254740992 ∧ rung b = p * 4503599627370496 + m))

theorem kind (b : Nat) : Kind b := by
  have hread : D.read b = if rung b < 4503599627370496 then .number (sgn b) (rung b) (-1074)
      else if rung b < 9218868437227405312 then .number (sgn b) (4503599627370496 + rung b % 4503599627370496) (-1074 + (rung b / 4503599627370496 - 1 : Nat))
      else if rung b = 9218868437227405312 then .infinity (sgn b) else .nan (sgn b) (rung b - 9218868437227405312) := by
    unfold Format.read rung sgn
    rw [binade_eq, inf_eq, weight_eq, least_eq]
  by_cases h1 : rung b < 4503599627370496
  · rw [if_pos h1] at hread
    refine .num (by simp [nan]; omega) (by omega) (rung b) 0 (by simpa using hread) (by simp [mag, h1]) (.inl ⟨rfl, rfl, h1⟩)
  · rw [if_neg h1] at hread
    by_cases h2 : rung b < 9218868437227405312
    · rw [if_pos h2] at hread
      refine .num (by simp [nan]; omega) h2 _ _ hread (by rw [mag, if_neg h1]) (.inr ⟨by omega, by omega, by omega⟩)
    · rw [if_neg h2] at hread
      by_cases h3 : rung b = 9218868437227405312
      · rw [if_pos h3] at hread
        exact .inf (by simp [nan]; omega) h3 hread
      · rw [if_neg h3] at hread
        exact .nan (by simp [nan]; omega) _ hread

theorem signed_eq (s : Bool) (m k : Nat) : signed s m k = (if s then -1 else 1) * ((m * 2 ^ k : Nat) : Int) := by
  unfold signed; rw [Nat.shiftLeft_eq]; cases s <;> simp

theorem gi_sv (b : Nat) : gi (sv b) = (if sgn b then -1 else 1) * (mag (rung b) : Int) := by
  unfold gi sv
  cases sgn b
  · simp; omega
  · by_cases h : rung b = 0
    · simp [h, mag_zero]
    · simp; omega

theorem toNat_shift (p q : Nat) : ((-1074 + (p : Int)) - min (-1074 + (p : Int)) (-1074 + (q : Int))).toNat = p - min p q ∧ ((-1074 + (q : Int)) - min (-1074 + (p : Int)) (-1074 + (q : Int))).toNat = q - min p q := by
  omega

theorem order_nan_left {a b : Nat} (h : nan a = true) : D.order a b = none := by
  rcases kind a with ⟨_, t, e⟩ | ⟨h', _, _⟩ | ⟨h', _, _, _, _, _, _⟩
  · unfold Format.order; rw [e]; simp [Datum.order]
  · simp [h] at h'
  · simp [h] at h'

theorem order_nan_right {a b : Nat} (h : nan b = true) : D.order a b = none := by
  rcases kind b with ⟨_, t, e⟩ | ⟨h', _, _⟩ | ⟨h', _, _, _, _, _, _⟩
  · unfold Format.order; rw [e]; cases D.read a <;> simp [Datum.order]
  · simp [h] at h'
  · simp [h] at h'

/-- The order of numbers is the order of their places. -/
theorem order_sv {a b : Nat} (ha : nan a = false) (hb : nan b = false) : D.order a b = some (compare (sv a) (sv b)) := by
  rcases kind a with ⟨h', _, _⟩ | ⟨_, hr, e⟩ | ⟨_, hr, m, p, e, hm, _⟩
  · simp [ha] at h'
  · rcases kind b with ⟨h', _, _⟩ | ⟨_, hr', e'⟩ | ⟨_, hr', m', p', e', hm', _⟩
    · simp [hb] at h'
    · unfold Format.order; rw [e, e']; unfold sv; rw [hr, hr']
      cases sgn a <;> cases sgn b <;> decide +kernel
    · unfold Format.order; rw [e, e', compare_int]; unfold sv; rw [hr]
      cases sgn a <;> cases sgn b <;> simp only [Datum.order, Bool.false_eq_true, if_true, if_false, if_pos] <;> first | rw [if_pos (by omega)] | rw [if_neg (by omega), if_neg (by omega)]
  · rcases kind b with ⟨h', _, _⟩ | ⟨_, hr', e'⟩ | ⟨_, hr', m', p', e', hm', _⟩
    · simp [hb] at h'
    · unfold Format.order; rw [e, e', compare_int]; unfold sv; rw [hr']
      cases sgn a <;> cases sgn b <;> simp only [Datum.order, Bool.false_eq_true, if_true, if_false, if_pos] <;> first | rw [if_pos (by omega)] | rw [if_neg (by omega), if_neg (by omega)]
    · unfold Format.order; rw [e, e', ← compare_gi, gi_sv, gi_sv, hm, hm']
      simp only [Datum.order]
      rw [(toNat_shift p p').1, (toNat_shift p p').2, signed_eq, signed_eq, ← compare_scale _ _ (2 ^ min p p') (Nat.two_pow_pos _)]
      congr 2
      · rw [Int.mul_assoc]; congr 1; rw [← Int.natCast_mul, Nat.mul_assoc, ← Nat.pow_add, show p - min p p' + min p p' = p by omega]
      · rw [Int.mul_assoc]; congr 1; rw [← Int.natCast_mul, Nat.mul_assoc, ← Nat.pow_add, show p' - min p p' + min p p' = p' by omega]

theorem order_lt {a b : Nat} (ha : nan a = false) (hb : nan b = false) : (D.order a b == some .lt) = decide (sv a < sv b) := by
  rw [order_sv ha hb, compare_int]; split <;> (try split) <;> simp_all
theorem order_gt {a b : Nat} (ha : nan a = false) (hb : nan b = false) : (D.order a b == some .gt) = decide (sv b < sv a) := by
  rw [order_sv ha hb, compare_int]
  rcases Int.lt_trichotomy (sv a) (sv b) with h | h | h
  · rw [if_pos h]; simp; omega
  · rw [if_neg (by omega), if_pos h]; simp; omega
  · rw [if_neg (by omega), if_neg (by omega)]; simp; omega
theorem order_eq {a b : Nat} (ha : nan a = false) (hb : nan b = false) : (D.order a b == some .eq) = decide (sv a = sv b) := by
  rw [order_sv ha hb, compare_int]
  rcases Int.lt_trichotomy (sv a) (sv b) with h | h | h
  · rw [if_pos h]; simp; omega
  · rw [if_neg (by omega), if_pos h]; simp; omega
  · rw [if_neg (by omega), if_neg (by omega)]; simp; omega

/-- a number is itself, what is none is not -/
theorem order_self (a : Nat) : (D.order a a == some .eq) = !nan a := by
  cases h : nan a
  · rw [order_eq h h]; simp
  · rw [order_nan_left h]; rfl

end Go.Proofs.Ytegloiojhimoeaa.G
