/- Products by one, sums with noughts, negation, whole numbers: plain mathematics for gauge's laws. No statement of the seat is proved here. -/
import Derived.Test.YtolpajkeiijbmaaGArgs
namespace Go.Proofs.Ytolpajkeiijbmaa
open Go.RowKit G Ieee

theorem word_self {b : Nat} (hb : b < 18446744073709551616) : D.word (sgn b) (rung b) = b := by
  unfold Format.word; rw [weight_eq]
  cases hs : sgn b
  · simp; exact (sgn_false hb hs).symm
  · simp; exact (sgn_true hb hs).symm

/-- what fits is written as it is, however its digits are shifted -/
theorem nearest_fit (s : Bool) (m p k : Nat) (hf : (p = 0 ∧ m < 4503599627370496) ∨ (4503599627370496 ≤ m ∧ m < 9007199254740992)) (hr : p * 4503599627370496 + m ≤ 9218868437227405312) (hm : m ≠ 0) :
    D.nearest s (m * 2 ^ k) (-1074 + p - k) = D.word s (p * 4503599627370496 + m) := by
  have hM : m * 2 ^ k ≠ 0 := by have := Nat.two_pow_pos k; exact Nat.mul_ne_zero hm (by omega)
  have hlog : (m * 2 ^ k).log2 = m.log2 + k := by
    rw [Nat.log2_eq_iff hM]
    have := (Nat.log2_eq_iff hm).1 rfl
    constructor
    · rw [Nat.pow_add]; exact Nat.mul_le_mul_right _ this.1
    · rw [show m.log2 + k + 1 = (m.log2 + 1) + k by omega, Nat.pow_add]; exact Nat.mul_lt_mul_of_pos_right this.2 (Nat.two_pow_pos k)
  have hl : (p = 0 ∧ m.log2 < 52) ∨ m.log2 = 52 := by
    rcases hf with ⟨h1, h2⟩ | ⟨h1, h2⟩
    · exact .inl ⟨h1, (Nat.log2_lt hm).2 (by rw [show (2 : Nat) ^ 52 = 4503599627370496 by decide +kernel]; exact h2)⟩
    · refine .inr ((Nat.log2_eq_iff hm).2 ?_)
      rw [show (2 : Nat) ^ 52 = 4503599627370496 by decide +kernel, show (2 : Nat) ^ (52 + 1) = 9007199254740992 by decide +kernel]
      exact ⟨h1, h2⟩
  unfold Format.nearest
  rw [if_neg hM]
  dsimp only
  rw [hlog, least_eq, binade_eq, inf_eq, show D.fractionBits = 52 from rfl]
  have hlast : max (-1074 + (p : Int) - k + ((m.log2 + k : Nat) : Int) - (52 : Nat)) (-1074) = -1074 + p := by omega
  rw [hlast]
  rw [show (-1074 + (p : Int) - k - (-1074 + p)).toNat = 0 by omega, show (-1074 + (p : Int) - (-1074 + p - k)).toNat = k by omega, show (-1074 + (p : Int) - -1074).toNat = p by omega]
  have hcut : Toward.even.cut s ((m * 2 ^ k) <<< 0) k = m := by
    unfold Toward.cut
    rw [show (m * 2 ^ k) <<< 0 = m * 2 ^ k by simp]
    simp only [hlog]
    rw [Nat.min_eq_left (by omega), Nat.shiftLeft_eq, Nat.one_mul, Nat.mul_div_cancel _ (Nat.two_pow_pos k), Nat.mul_mod_left]
    have := Nat.two_pow_pos k
    rw [show decide (2 ^ k < 2 * 0) = false by simp, show ((2 ^ k == 2 * 0) : Bool) = false by simp]
    rfl
  rw [hcut, Nat.min_eq_left hr]

/-- a number's parts -/
theorem parts {b : Nat} (hn : nan b = false) (hr : rung b < 9218868437227405312) : ∃ m p : Nat, D.read b = .number (sgn b) m (-1074 + p) ∧ rung b = p * 4503599627370496 + m ∧ ((p = 0 ∧ m < 4503599627370496) ∨ (4503599627370496 ≤ m ∧ m < 9007199254740992)) := by
  rcases kind b with ⟨h', _, _⟩ | ⟨_, hr', _⟩ | ⟨_, _, m, p, e, _, hf⟩
  · simp [hn] at h'
  · omega
  · rcases hf with ⟨h1, h2, h3⟩ | ⟨h1, h2, h3⟩
    · exact ⟨m, p, e, by omega, .inl ⟨h1, h3⟩⟩
    · exact ⟨m, p, e, h3, .inr ⟨h1, h2⟩⟩
theorem read_inf {b : Nat} (hn : nan b = false) (hr : ¬ rung b < 9218868437227405312) : D.read b = .infinity (sgn b) := by
  rcases kind b with ⟨h', _, _⟩ | ⟨_, _, e⟩ | ⟨_, h', _, _, _, _, _⟩
  · simp [hn] at h'
  · exact e
  · omega
/-- a number that is written with its digits shifted by k places is itself -/
theorem write_shift {b : Nat} (hb : b < 18446744073709551616) (hr : rung b < 9218868437227405312) {m p : Nat} (e : rung b = p * 4503599627370496 + m) (hf : (p = 0 ∧ m < 4503599627370496) ∨ (4503599627370496 ≤ m ∧ m < 9007199254740992)) (k : Nat) :
    D.write (.number (sgn b) (m * 2 ^ k) (-1074 + p - k)) = b := by
  show D.nearest _ _ _ = b
  by_cases hm : m = 0
  · subst hm
    have hp : p = 0 := by omega
    subst hp
    rw [Nat.zero_mul]
    unfold Format.nearest
    rw [if_pos rfl]
    have : rung b = 0 := by omega
    rw [← this]; exact word_self hb
  · rw [nearest_fit _ m p k hf (by omega) hm, ← e]; exact word_self hb

theorem read_one : D.read 4607182418800017408 = .number false 4503599627370496 (-52) := by decide +kernel
/-- one times a number is the number -/
theorem mul_one {b : Nat} (hb : b < 18446744073709551616) (hn : nan b = false) : floatBits .mul .f64 4607182418800017408 b = some b := by
  show (((D.read 4607182418800017408).product (D.read b)).map D.write) = some b
  rw [read_one]
  by_cases hr : rung b < 9218868437227405312
  · obtain ⟨m, p, e, er, hf⟩ := parts hn hr
    rw [e]
    simp only [Datum.product, Option.map_some]
    have := write_shift hb hr er hf 52
    rw [show (2 : Nat) ^ 52 = 4503599627370496 by decide +kernel] at this
    rw [Nat.mul_comm, show (-52 + (-1074 + (p : Int))) = -1074 + p - (52 : Nat) by omega, Bool.false_xor, this]
  · rw [read_inf hn hr]
    simp only [Datum.product]
    rw [if_neg (by decide)]
    simp only [Option.map_some, Format.write, Bool.xor_false]
    rw [inf_eq]
    have h1 : rung b = 9218868437227405312 := by
      have : ¬ 9218868437227405312 < rung b := by unfold nan at hn; simpa using hn
      omega
    rw [← h1]; congr 1; exact word_self hb
theorem fo_one (v : Nat) (hv : v < 18446744073709551616) : fo .mul (some 4607182418800017408) (val v) = val v := by
  unfold val
  cases hn : nan v
  · simp [fo, mul_one hv hn]
  · simp [fo]

theorem powV_one (n : Nat) : powV n (some 4607182418800017408) = some 4607182418800017408 := by
  induction n with
  | zero => rfl
  | succ n ih => show fo .mul (powV n _) _ = _; rw [ih]; decide +kernel
theorem powV_zero (n : Nat) : powV (n + 1) (some 0) = some 0 := by
  induction n with
  | zero => decide +kernel
  | succ n ih => show fo .mul (powV (n + 1) _) _ = _; rw [ih]; decide +kernel

/-! ### sums with noughts -/
theorem natAbs_signed (s : Bool) (m k : Nat) : (signed s m k).natAbs = m * 2 ^ k := by rw [signed_eq]; generalize m * 2 ^ k = z; cases s <;> simp
theorem signed_neg (s : Bool) (m k : Nat) (h : m ≠ 0) : decide (signed s m k < 0) = s := by
  rw [signed_eq]
  have : 0 < m * 2 ^ k := Nat.mul_pos (by omega) (Nat.two_pow_pos k)
  generalize m * 2 ^ k = z at this
  cases s <;> simp <;> omega
theorem signed_zero (s : Bool) (k : Nat) : signed s 0 k = 0 := by rw [signed_eq]; cases s <;> simp
/-- a finite number and a nought: its place stands -/
theorem add_nought {b : Nat} (hb : b < 18446744073709551616) (hn : nan b = false) (hr : rung b < 9218868437227405312) (z : Nat) (hz : rung z = 0) : ∃ r, floatBits .add .f64 b z = some r ∧ sv r = sv b := by
  obtain ⟨m, p, e, er, hf⟩ := parts hn hr
  have hzr : D.read z = .number (sgn z) 0 (-1074) := by
    rcases kind z with ⟨h', _, _⟩ | ⟨_, hr', _⟩ | ⟨_, _, m', p', e', _, hf'⟩
    · unfold nan at h'; rw [hz] at h'; simp at h'
    · omega
    · have : m' = 0 ∧ p' = 0 := by omega
      obtain ⟨rfl, rfl⟩ := this
      simpa using e'
  refine ⟨D.write (.number (if signed (sgn b) m p = 0 then sgn b && sgn z else decide (signed (sgn b) m p < 0)) (signed (sgn b) m p).natAbs (-1074)), ?_, ?_⟩
  · show (((D.read b).sum (D.read z)).map D.write) = _
    rw [e, hzr]
    simp only [Datum.sum, Option.map_some]
    rw [show min (-1074 + (p : Int)) (-1074) = -1074 by omega, show (-1074 + (p : Int) - -1074).toNat = p by omega, show ((-1074 : Int) - -1074).toNat = 0 by decide, signed_zero, Int.add_zero]
  · by_cases hm : m = 0
    · subst hm
      rw [signed_zero, if_pos rfl]
      have h0 : rung b = 0 := by omega
      have : sv b = 0 := by unfold sv; rw [h0]; cases sgn b <;> rfl
      rw [this]
      show sv (D.nearest _ 0 _) = 0
      unfold Format.nearest
      rw [if_pos rfl]
      unfold sv
      rw [rung_word _ (by decide)]
      cases sgn _ <;> rfl
    · have hne : signed (sgn b) m p ≠ 0 := by
        intro h; have := natAbs_signed (sgn b) m p; rw [h] at this
        have h2 : 0 < m * 2 ^ p := Nat.mul_pos (by omega) (Nat.two_pow_pos p)
        simp at this; omega
      rw [if_neg hne, signed_neg _ _ _ hm, natAbs_signed]
      have := write_shift hb hr er hf p
      rw [show -1074 + (p : Int) - p = -1074 by omega] at this
      rw [this]

/-- what a difference that is finite says of its parts -/
theorem sub_finite {a b d : Nat} (h : floatBits .sub .f64 a b = some d) (hd : rung d < 9218868437227405312) : nan a = false ∧ nan b = false ∧ rung b < 9218868437227405312 := by
  have hf : fo .sub (val a) (val b) = some d := by rw [← fo_val .sub, h]
  unfold fo val at hf
  cases ha : nan a
  · cases hb : nan b
    · refine ⟨rfl, rfl, ?_⟩
      refine Decidable.byContradiction fun hr => ?_
      have e : (((D.read a).sum (D.read b).opposite).map D.write) = some d := h
      rw [read_inf hb hr] at e
      have hinf : ∀ s, D.write (.infinity s) = d → False := fun s hs => by
        have : rung d = 9218868437227405312 := by rw [← hs]; show rung (D.word s D.infRung) = _; rw [inf_eq]; exact rung_word s (by decide)
        omega
      cases hra : D.read a with
      | nan s t => rw [hra] at e; simp [Datum.sum] at e
      | infinity s =>
        rw [hra] at e
        simp only [Datum.opposite, Datum.sum] at e
        split at e
        · simp only [Option.map_some, Option.some.injEq] at e; exact hinf _ e
        · cases e
      | number s m i =>
        rw [hra] at e
        simp only [Datum.opposite, Datum.sum, Option.map_some, Option.some.injEq] at e
        exact hinf _ e
    · rw [ha, hb] at hf; simp at hf
  · rw [ha] at hf; simp at hf
/-- a finite number less itself is nought -/
theorem sub_self {b : Nat} (hn : nan b = false) (hr : rung b < 9218868437227405312) : floatBits .sub .f64 b b = some 0 := by
  obtain ⟨m, p, e, er, hf⟩ := parts hn hr
  show (((D.read b).sum (D.read b).opposite).map D.write) = _
  rw [e]
  simp only [Datum.opposite, Datum.sum, Option.map_some]
  have : signed (sgn b) m (-1074 + (p : Int) - min (-1074 + (p : Int)) (-1074 + (p : Int))).toNat + signed (!sgn b) m (-1074 + (p : Int) - min (-1074 + (p : Int)) (-1074 + (p : Int))).toNat = 0 := by
    rw [signed_eq, signed_eq]; cases sgn b <;> simp <;> omega
  rw [this, if_pos rfl, Bool.and_not_self]
  show some (D.nearest false 0 _) = some 0
  unfold Format.nearest
  rw [if_pos rfl]
  decide +kernel
theorem sub_inf {b : Nat} (hn : nan b = false) (hr : ¬ rung b < 9218868437227405312) : floatBits .sub .f64 b b = none := by
  show (((D.read b).sum (D.read b).opposite).map D.write) = _
  rw [read_inf hn hr]
  simp only [Datum.opposite, Datum.sum]
  cases sgn b <;> simp
/-- nought times a finite number is a nought -/
theorem zero_mul {b : Nat} (hn : nan b = false) (hr : rung b < 9218868437227405312) : ∃ z, floatBits .mul .f64 0 b = some z ∧ rung z = 0 := by
  obtain ⟨m, p, e, er, hf⟩ := parts hn hr
  refine ⟨D.word (false ^^ sgn b) 0, ?_, rung_word _ (by decide)⟩
  show (((D.read 0).product (D.read b)).map D.write) = _
  rw [e, show D.read 0 = .number false 0 (-1074) by decide +kernel]
  simp only [Datum.product, Option.map_some, Nat.zero_mul]
  show some (D.nearest _ 0 _) = _
  unfold Format.nearest
  rw [if_pos rfl]

/-! ### negation -/
def negB (b : Nat) : Nat := b ^^^ 9223372036854775808
theorem xor_sign {b : Nat} (hb : b < 18446744073709551616) : negB b = if sgn b then rung b else 9223372036854775808 + rung b := by
  unfold negB
  have hx : (b ^^^ 9223372036854775808) = (b % 9223372036854775808) + (b / 9223372036854775808 ^^^ 1) * 9223372036854775808 := by
    apply Nat.eq_of_testBit_eq
    intro j
    have e63 : (9223372036854775808 : Nat) = 2 ^ 63 := by decide +kernel
    rw [Nat.testBit_xor, e63, Nat.add_comm, Nat.mul_comm, Nat.testBit_two_pow_mul_add _ (Nat.mod_lt _ (Nat.two_pow_pos 63))]
    by_cases hj : j < 63
    · rw [if_pos hj, Nat.testBit_mod_two_pow, Nat.testBit_two_pow, show decide (63 = j) = false by simp; omega]
      simp [hj]
    · rw [if_neg hj, Nat.testBit_xor, Nat.testBit_div_two_pow, Nat.testBit_two_pow]
      rw [show j - 63 + 63 = j by omega]
      congr 1
      by_cases h63 : j = 63
      · subst h63; simp
      · have h1 : 1 < 2 ^ (j - 63) := Nat.lt_of_lt_of_le (by decide : 1 < 2 ^ 1) (Nat.pow_le_pow_right (by decide) (by omega))
        rw [Nat.testBit_lt_two_pow h1]; simp; omega
  rw [hx]
  unfold sgn rung
  have : b / 9223372036854775808 = 0 ∨ b / 9223372036854775808 = 1 := by omega
  rcases this with h | h <;> rw [h] <;> simp <;> omega
theorem neg_parts {b : Nat} (hb : b < 18446744073709551616) : rung (negB b) = rung b ∧ sgn (negB b) = !sgn b ∧ negB b < 18446744073709551616 := by
  have hr := rung_lt b
  rw [xor_sign hb]
  cases hs : sgn b
  · simp; unfold rung at *; unfold sgn; simp; omega
  · simp; unfold rung at *; unfold sgn; simp; omega
theorem neg_nan {b : Nat} (hb : b < 18446744073709551616) : nan (negB b) = nan b := by unfold nan; rw [(neg_parts hb).1]
theorem neg_key {b : Nat} (hb : b < 18446744073709551616) (hn : nan b = false) : key (negB b) = -1 - key b := by
  unfold key; rw [neg_nan hb, (neg_parts hb).1, (neg_parts hb).2.1, hn]
  cases sgn b <;> simp <;> omega
theorem neg_neg (b : Nat) : negB (negB b) = b := by unfold negB; rw [Nat.xor_assoc, Nat.xor_self, Nat.xor_zero]

/-! ### ticks -/
theorem sv_le {a b : Nat} (ha : nan a = false) (hb : nan b = false) (h : key a ≤ key b) : sv a ≤ sv b := by
  have := key_sv hb ha; omega
theorem rung_sv {b : Nat} (h : ¬ sv b < 0) : (rung b : Int) = sv b := by
  unfold sv at *; cases hs : sgn b <;> rw [hs] at h <;> simp at * <;> omega
theorem ticks_bounds (b : Nat) : 0 ≤ ticks b ∧ ticks b ≤ 100000 := by
  unfold ticks
  split
  · omega
  · split
    · omega
    · split
      · omega
      · rename_i h1 h2
        refine ⟨by omega, ?_⟩
        have := rung_sv h1
        have hw : whole b ≤ 100000 := by rw [← whole_top]; exact whole_le (by rw [rung_top]; omega)
        omega
theorem ticks_mono {a b : Nat} (ha : nan a = false) (hb : nan b = false) (h : key a ≤ key b) : ticks a ≤ ticks b := by
  have hs := sv_le ha hb h
  have ba := ticks_bounds a
  have bb := ticks_bounds b
  by_cases c1 : sv a < 0
  · rw [show ticks a = 0 by simp [ticks, c1]]; omega
  · by_cases c2 : 4681608360884174848 < sv b
    · have c3 : ¬ sv b < 0 := by omega
      rw [show ticks b = 100000 by simp [ticks, hb, c2, c3]]; omega
    · have c3 : ¬ sv b < 0 := by omega
      have c4 : ¬ 4681608360884174848 < sv a := by omega
      rw [show ticks a = whole a by simp [ticks, ha, c1, c4], show ticks b = whole b by simp [ticks, hb, c2, c3]]
      have h1 := rung_sv c1
      have h2 := rung_sv c3
      have := whole_le (show rung a ≤ rung b by omega)
      omega
end Go.Proofs.Ytolpajkeiijbmaa
