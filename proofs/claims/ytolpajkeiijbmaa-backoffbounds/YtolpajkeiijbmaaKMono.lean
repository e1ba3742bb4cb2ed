/- Products are rounded in their order; the delays don't shrink. No statement of the seat is proved here. -/
import Derived.Test.YtolpajkeiijbmaaKBase
namespace Go.Proofs.Ytolpajkeiijbmaa
open Go.RowKit G Ieee

/-- half to even -/
def rne (X d : Nat) : Nat := X / 2 ^ d + (decide (2 ^ d < 2 * (X % 2 ^ d)) || (2 ^ d == 2 * (X % 2 ^ d) && X / 2 ^ d % 2 == 1)).toNat
theorem rne_small {X d : Nat} (h : 2 * X < 2 ^ d) : rne X d = 0 := by
  unfold rne
  rw [Nat.div_eq_of_lt (by omega), Nat.mod_eq_of_lt (by omega)]
  rw [show decide (2 ^ d < 2 * X) = false by simp; omega, show ((2 ^ d == 2 * X) : Bool) = false by simp; omega]
  rfl
theorem cut_rne (s : Bool) (n d : Nat) (hn : n ≠ 0) : Toward.even.cut s n d = rne n d := by
  unfold Toward.cut
  dsimp only
  by_cases h : d ≤ n.log2 + 2
  · rw [Nat.min_eq_left h, Nat.shiftLeft_eq, Nat.one_mul]; rfl
  · have hb := ((Nat.log2_eq_iff hn).1 rfl).2
    have e2 : 2 ^ (n.log2 + 2) = 2 * 2 ^ (n.log2 + 1) := by rw [show n.log2 + 2 = (n.log2 + 1) + 1 by omega, Nat.pow_succ]; omega
    have hle : 2 ^ (n.log2 + 2) ≤ 2 ^ d := Nat.pow_le_pow_right (by decide) (by omega)
    rw [rne_small (by omega), Nat.min_eq_right (by omega), Nat.shiftLeft_eq, Nat.one_mul, Nat.div_eq_of_lt (by omega), Nat.mod_eq_of_lt (by omega)]
    rw [show decide (2 ^ (n.log2 + 2) < 2 * n) = false by simp; omega, show ((2 ^ (n.log2 + 2) == 2 * n) : Bool) = false by simp; omega]
    rfl
theorem rne_scale (M d s : Nat) : rne (M * 2 ^ s) (d + s) = rne M d := by
  unfold rne
  have hp := Nat.two_pow_pos s
  rw [Nat.pow_add, Nat.mul_div_mul_right _ _ hp, Nat.mul_mod_mul_right]
  have e1 : decide (2 ^ d * 2 ^ s < 2 * (M % 2 ^ d * 2 ^ s)) = decide (2 ^ d < 2 * (M % 2 ^ d)) := by
    rw [← Nat.mul_assoc]
    exact decide_eq_decide.2 (Nat.mul_lt_mul_right hp)
  have e2 : ((2 ^ d * 2 ^ s == 2 * (M % 2 ^ d * 2 ^ s)) : Bool) = (2 ^ d == 2 * (M % 2 ^ d)) := by
    rw [← Nat.mul_assoc, Bool.eq_iff_iff, beq_iff_eq, beq_iff_eq]
    exact Nat.mul_left_inj (by omega)
  rw [e1, e2]
theorem toNat_le (b : Bool) : b.toNat ≤ 1 := by cases b <;> decide
theorem rne_mono {X Y : Nat} (d : Nat) (h : X ≤ Y) : rne X d ≤ rne Y d := by
  have hq : X / 2 ^ d ≤ Y / 2 ^ d := Nat.div_le_div_right h
  unfold rne
  have hX := Nat.div_add_mod X (2 ^ d)
  have hY := Nat.div_add_mod Y (2 ^ d)
  rcases Nat.lt_or_eq_of_le hq with hl | he
  · have := toNat_le (decide (2 ^ d < 2 * (X % 2 ^ d)) || (2 ^ d == 2 * (X % 2 ^ d) && X / 2 ^ d % 2 == 1))
    omega
  · rw [he] at hX ⊢
    have hr : X % 2 ^ d ≤ Y % 2 ^ d := by omega
    generalize X % 2 ^ d = x at *
    generalize Y % 2 ^ d = y at *
    generalize 2 ^ d = g at *
    generalize Y / g = q at *
    refine Nat.add_le_add_left ?_ _
    have key : (decide (g < 2 * x) || (g == 2 * x && q % 2 == 1)) = true → (decide (g < 2 * y) || (g == 2 * y && q % 2 == 1)) = true := by
      simp only [Bool.or_eq_true, decide_eq_true_eq, Bool.and_eq_true, beq_iff_eq]
      rintro (h1 | ⟨h1, h2⟩)
      · left; omega
      · by_cases hxy : x = y
        · right; exact ⟨by omega, h2⟩
        · left; omega
    cases hb : (decide (g < 2 * x) || (g == 2 * x && q % 2 == 1))
    · exact Nat.zero_le _
    · rw [key hb]; exact Nat.le_refl _
theorem rne_le {X d q : Nat} (h : X < q * 2 ^ d) : rne X d ≤ q := by
  unfold rne
  have : X / 2 ^ d < q := (Nat.div_lt_iff_lt_mul (Nat.two_pow_pos d)).2 h
  have := toNat_le (decide (2 ^ d < 2 * (X % 2 ^ d)) || (2 ^ d == 2 * (X % 2 ^ d) && X / 2 ^ d % 2 == 1))
  omega
theorem le_rne {X d q : Nat} (h : q * 2 ^ d ≤ X) : q ≤ rne X d := by
  unfold rne
  have := (Nat.le_div_iff_mul_le (Nat.two_pow_pos d)).2 h
  omega
/-- the rung of X units of 2^-2148 -/
def rngL (X : Nat) : Nat := X.log2 - 1126
def rng (X : Nat) : Nat := rngL X * 4503599627370496 + rne X (rngL X + 1074)
theorem p52 : (2 : Nat) ^ 52 = 4503599627370496 := by decide +kernel
theorem p53 : (2 : Nat) ^ 53 = 9007199254740992 := by decide +kernel
theorem log2_mono {X Y : Nat} (h0 : X ≠ 0) (h : X ≤ Y) : X.log2 ≤ Y.log2 := by
  have hy : Y ≠ 0 := by omega
  have h1 := ((Nat.log2_eq_iff h0).1 rfl).1
  have h2 := ((Nat.log2_eq_iff hy).1 rfl).2
  refine Decidable.byContradiction fun hh => ?_
  have : 2 ^ (Y.log2 + 1) ≤ 2 ^ X.log2 := Nat.pow_le_pow_right (by decide) (by omega)
  omega
theorem rng_eq {X L T : Nat} (hL : rngL X = L) (hT : L + 1074 = T) : rng X = L * 4503599627370496 + rne X T := by subst hL; subst hT; rfl
theorem rng_mono {X Y : Nat} (h0 : X ≠ 0) (h : X ≤ Y) : rng X ≤ rng Y := by
  have hl := log2_mono h0 h
  obtain ⟨T, hT⟩ : ∃ T, rngL X + 1074 = T := ⟨_, rfl⟩
  obtain ⟨U, hU⟩ : ∃ U, rngL Y + 1074 = U := ⟨_, rfl⟩
  rw [rng_eq rfl hT, rng_eq rfl hU]
  by_cases he : rngL X = rngL Y
  · obtain rfl : T = U := by rw [← hT, ← hU, he]
    rw [he]; exact Nat.add_le_add_left (rne_mono _ h) _
  · have hlt : rngL X < rngL Y := by unfold rngL at *; omega
    have h1 : rne X T ≤ 9007199254740992 := rne_le (by
      have hx := ((Nat.log2_eq_iff h0).1 rfl).2
      rw [← p53, ← Nat.pow_add]
      exact Nat.lt_of_lt_of_le hx (Nat.pow_le_pow_right (by decide) (by unfold rngL at hT; omega)))
    have h2 : 4503599627370496 ≤ rne Y U := le_rne (by
      have hy := ((Nat.log2_eq_iff (show Y ≠ 0 by omega)).1 rfl).1
      rw [← p52, ← Nat.pow_add]
      exact Nat.le_trans (Nat.pow_le_pow_right (by decide) (by unfold rngL at *; omega)) hy)
    clear hT hU
    generalize rne X T = x at *
    generalize rne Y U = y at *
    generalize rngL X = a at *
    generalize rngL Y = b at *
    omega
theorem log2_scale {M : Nat} (s : Nat) (hM : M ≠ 0) : (M * 2 ^ s).log2 = M.log2 + s := by
  have hX : M * 2 ^ s ≠ 0 := Nat.mul_ne_zero hM (by have := Nat.two_pow_pos s; omega)
  rw [Nat.log2_eq_iff hX]
  have := (Nat.log2_eq_iff hM).1 rfl
  constructor
  · rw [Nat.pow_add]; exact Nat.mul_le_mul_right _ this.1
  · rw [show M.log2 + s + 1 = (M.log2 + 1) + s by omega, Nat.pow_add]; exact Nat.mul_lt_mul_of_pos_right this.2 (Nat.two_pow_pos s)
theorem nearest_rng (g : Bool) (M s : Nat) (hM : M ≠ 0) (p q : Nat) (hs : p + q = s) : D.nearest g M (-1074 + (p : Int) + (-1074 + (q : Int))) = D.word g (min (rng (M * 2 ^ s)) 9218868437227405312) := by
  unfold Format.nearest
  rw [if_neg hM]
  dsimp only
  rw [least_eq, binade_eq, inf_eq, show D.fractionBits = 52 from rfl]
  have hL : rngL (M * 2 ^ s) = M.log2 + s - 1126 := by unfold rngL; rw [log2_scale s hM]
  have hlast : max (-1074 + (p : Int) + (-1074 + (q : Int)) + (M.log2 : Int) - (52 : Nat)) (-1074) = -1074 + (rngL (M * 2 ^ s) : Nat) := by rw [hL]; omega
  rw [hlast]
  have hr := rng_eq (X := M * 2 ^ s) rfl rfl
  generalize rngL (M * 2 ^ s) = L at *
  rw [hr, show (-1074 + (L : Int) - -1074).toNat = L by omega]
  have hcut : Toward.even.cut g (M <<< (-1074 + (p : Int) + (-1074 + (q : Int)) - (-1074 + (L : Int))).toNat) (-1074 + (L : Int) - (-1074 + (p : Int) + (-1074 + (q : Int)))).toNat = rne (M * 2 ^ s) (L + 1074) := by
    clear hr hL hlast
    obtain ⟨T, hT⟩ : ∃ T, T = L + 1074 := ⟨_, rfl⟩
    rw [← hT]
    by_cases h : T ≤ s
    · rw [show (-1074 + (p : Int) + (-1074 + (q : Int)) - (-1074 + (L : Int))).toNat = s - T by omega, show (-1074 + (L : Int) - (-1074 + (p : Int) + (-1074 + (q : Int)))).toNat = 0 by omega]
      rw [Nat.shiftLeft_eq, cut_rne _ _ _ (Nat.mul_ne_zero hM (by have := Nat.two_pow_pos (s - T); omega))]
      have := rne_scale (M * 2 ^ (s - T)) 0 T
      rw [Nat.mul_assoc, ← Nat.pow_add, show s - T + T = s by omega, Nat.zero_add] at this
      rw [this]
    · rw [show (-1074 + (p : Int) + (-1074 + (q : Int)) - (-1074 + (L : Int))).toNat = 0 by omega, show (-1074 + (L : Int) - (-1074 + (p : Int) + (-1074 + (q : Int)))).toNat = T - s by omega]
      rw [Nat.shiftLeft_zero, cut_rne _ _ _ hM]
      have := rne_scale M (T - s) s
      rw [show T - s + s = T by omega] at this
      rw [this]
  rw [hcut]

/-- a number from nought on -/
structure Pos (a : Nat) : Prop where
  lt : a < 18446744073709551616
  nan : nan a = false
  sgn : sgn a = false
theorem Pos.rung_le {a : Nat} (h : Pos a) : rung a ≤ 9218868437227405312 := by
  have := h.nan; unfold G.nan at this; simpa using this
theorem Pos.key {a : Nat} (h : Pos a) : key a = rung a := by unfold Go.Proofs.Ytolpajkeiijbmaa.key; rw [h.nan, h.sgn]; rfl
theorem Pos.word {r : Nat} (h : r ≤ 9218868437227405312) : Pos (D.word false r) ∧ rung (D.word false r) = r := by
  refine ⟨⟨?_, nan_word _ h, sgn_word _ (by omega)⟩, rung_word _ (by omega)⟩
  unfold Format.word; rw [weight_eq]; simp; omega
/-- the rung of a product -/
theorem mul_pos {a b : Nat} (ha : Pos a) (hb : Pos b) (hn : ¬ (rung a = 0 ∧ rung b = 9218868437227405312)) (hn' : ¬ (rung b = 0 ∧ rung a = 9218868437227405312)) :
    ∃ x, floatBits .mul .f64 a b = some x ∧ Pos x ∧ rung x = if rung a = 9218868437227405312 ∨ rung b = 9218868437227405312 then 9218868437227405312 else if rung a = 0 ∨ rung b = 0 then 0 else min (rng (mag (rung a) * mag (rung b))) 9218868437227405312 := by
  show ∃ x, (((D.read a).product (D.read b)).map D.write) = some x ∧ _
  have ra := ha.rung_le
  have rb := hb.rung_le
  rcases kind a with ⟨h', _, _⟩ | ⟨_, hra, ea⟩ | ⟨_, hra, m, p, ea, hm, hfa⟩
  · rw [ha.nan] at h'; cases h'
  · rw [if_pos (.inl hra), ea, ha.sgn]
    rcases kind b with ⟨h', _, _⟩ | ⟨_, hrb, eb⟩ | ⟨_, hrb, n, q, eb, hq, hfb⟩
    · rw [hb.nan] at h'; cases h'
    · rw [eb, hb.sgn]
      obtain ⟨w1, w2⟩ := Pos.word (r := 9218868437227405312) (Nat.le_refl _)
      exact ⟨_, by simp only [Datum.product, Option.map_some, Format.write, inf_eq]; rfl, w1, w2⟩
    · rw [eb, hb.sgn]
      have hn0 : n ≠ 0 := by
        rintro rfl
        apply hn'
        rcases hfb with ⟨_, h2, _⟩ | ⟨h1, _, _⟩
        · exact ⟨h2.symm, hra⟩
        · omega
      obtain ⟨w1, w2⟩ := Pos.word (r := 9218868437227405312) (Nat.le_refl _)
      exact ⟨_, by simp only [Datum.product]; rw [if_neg hn0]; simp only [Option.map_some, Format.write, inf_eq]; rfl, w1, w2⟩
  · have hm0 : m = 0 ↔ rung a = 0 := by
      rcases hfa with ⟨_, h2, _⟩ | ⟨h1, _, h3⟩ <;> omega
    rw [ea, ha.sgn]
    rcases kind b with ⟨h', _, _⟩ | ⟨_, hrb, eb⟩ | ⟨_, hrb, n, q, eb, hq, hfb⟩
    · rw [hb.nan] at h'; cases h'
    · rw [if_pos (.inr hrb), eb, hb.sgn]
      have hm1 : m ≠ 0 := fun h => hn ⟨hm0.1 h, hrb⟩
      obtain ⟨w1, w2⟩ := Pos.word (r := 9218868437227405312) (Nat.le_refl _)
      exact ⟨_, by simp only [Datum.product]; rw [if_neg hm1]; simp only [Option.map_some, Format.write, inf_eq]; rfl, w1, w2⟩
    · have hn0 : n = 0 ↔ rung b = 0 := by
        rcases hfb with ⟨_, h2, _⟩ | ⟨h1, _, h3⟩ <;> omega
      rw [if_neg (by omega), eb, hb.sgn]
      simp only [Datum.product, Option.map_some, Format.write, Bool.xor_false]
      refine ⟨_, rfl, ?_⟩
      by_cases hz : rung a = 0 ∨ rung b = 0
      · have hmn : m * n = 0 := by rcases hz with h | h
                                   · rw [hm0.2 h, Nat.zero_mul]
                                   · rw [hn0.2 h, Nat.mul_zero]
        rw [if_pos hz, hmn]
        unfold Format.nearest
        rw [if_pos rfl]
        exact Pos.word (Nat.zero_le _)
      · have hmn : m * n ≠ 0 := Nat.mul_ne_zero (fun h => hz (.inl (hm0.1 h))) (fun h => hz (.inr (hn0.1 h)))
        rw [if_neg hz, nearest_rng false (m * n) (p + q) hmn p q rfl, hm, hq]
        rw [show m * 2 ^ p * (n * 2 ^ q) = m * n * 2 ^ (p + q) by rw [Nat.pow_add, Nat.mul_mul_mul_comm]]
        exact Pos.word (Nat.min_le_right _ _)
/-- products stand in the order of what is multiplied -/
theorem mul_mono {a b c d x y : Nat} (ha : Pos a) (hb : Pos b) (hc : Pos c) (hd : Pos d) (h : mag (rung a) * mag (rung b) ≤ mag (rung c) * mag (rung d)) (hi : rung a = 9218868437227405312 ∨ rung b = 9218868437227405312 → rung c = 9218868437227405312 ∨ rung d = 9218868437227405312) (h0 : 0 < rung a) (h0' : 0 < rung b) (h1 : 0 < rung c) (h1' : 0 < rung d)
    (ex : floatBits .mul .f64 a b = some x) (ey : floatBits .mul .f64 c d = some y) : rung x ≤ rung y := by
  have rc := hc.rung_le
  have rd := hd.rung_le
  obtain ⟨x', ex', px, rx⟩ := mul_pos ha hb (by omega) (by omega)
  obtain ⟨y', ey', py, ry⟩ := mul_pos hc hd (by omega) (by omega)
  rw [ex] at ex'; cases ex'
  rw [ey] at ey'; cases ey'
  by_cases hi' : rung c = 9218868437227405312 ∨ rung d = 9218868437227405312
  · rw [ry, if_pos hi']
    exact px.rung_le
  · rw [rx, ry, if_neg hi', if_neg (fun h => hi' (hi h)), if_neg (by omega), if_neg (by omega)]
    have hma : mag 0 < mag (rung a) := mag_lt h0
    have hmb : mag 0 < mag (rung b) := mag_lt h0'
    rw [mag_zero] at hma hmb
    have := rng_mono (X := mag (rung a) * mag (rung b)) (Y := mag (rung c) * mag (rung d)) (Nat.mul_ne_zero (by omega) (by omega)) h
    generalize rng (mag (rung a) * mag (rung b)) = u at this ⊢
    generalize rng (mag (rung c) * mag (rung d)) = v at this ⊢
    omega

theorem pos_one : Pos 4607182418800017408 := ⟨by decide, by decide +kernel, by decide +kernel⟩
theorem rung_one : rung 4607182418800017408 = 4607182418800017408 := by decide +kernel
theorem Pos.eq {a b : Nat} (ha : Pos a) (hb : Pos b) (h : rung a = rung b) : a = b := by
  rw [sgn_false ha.lt ha.sgn, sgn_false hb.lt hb.sgn, h]
theorem pow_step {f r : Nat} (hf : Pos f) (h1 : 4607182418800017408 ≤ rung f) (hr : Pos r) (hr1 : 4607182418800017408 ≤ rung r) : ∃ x, floatBits .mul .f64 r f = some x ∧ Pos x ∧ rung r ≤ rung x := by
  obtain ⟨x, ex, px, rx⟩ := mul_pos hr hf (by omega) (by omega)
  refine ⟨x, ex, px, ?_⟩
  refine mul_mono pos_one hr hr hf ?_ (fun h => by rw [rung_one] at h; left; omega) (by rw [rung_one]; decide) (by omega) (by omega) (by omega) (mul_one hr.lt hr.nan) ex
  rw [Nat.mul_comm]
  exact Nat.mul_le_mul_left _ (mag_le (by rw [rung_one]; exact h1))
theorem pow_up {f : Nat} (hf : Pos f) (h1 : 4607182418800017408 ≤ rung f) (k : Nat) : ∃ r s, powV k (val f) = some r ∧ powV (k + 1) (val f) = some s ∧ Pos r ∧ Pos s ∧ 4607182418800017408 ≤ rung r ∧ rung r ≤ rung s := by
  have hv : val f = some f := by simp [val, hf.nan]
  have step : ∀ {k r}, powV k (val f) = some r → Pos r → 4607182418800017408 ≤ rung r → ∃ s, powV (k + 1) (val f) = some s ∧ Pos s ∧ rung r ≤ rung s := fun {k r} e p h => by
    obtain ⟨x, ex, px, hx⟩ := pow_step hf h1 p h
    exact ⟨x, by simp only [powV, e]; rw [hv]; exact ex, px, hx⟩
  induction k with
  | zero =>
    obtain ⟨s, es, ps, hs⟩ := step (k := 0) rfl pos_one (Nat.le_of_eq rung_one.symm)
    exact ⟨_, s, rfl, es, pos_one, ps, Nat.le_of_eq rung_one.symm, hs⟩
  | succ k ih =>
    obtain ⟨r, s, e1, e2, p1, p2, h1', h2'⟩ := ih
    obtain ⟨t, et, pt, ht⟩ := step e2 p2 (by omega)
    exact ⟨s, t, e2, et, p2, pt, by omega, ht⟩
theorem nan_least {c x : Nat} (hx : nan x = false) : nan (leastB c x) = false := by
  unfold leastB; split
  · exact hx
  · rename_i h
    cases hc : nan c
    · rfl
    · rw [key_nan hc] at h; have := (key_le hx).1; omega
theorem key_leastB (a b : Nat) : key (leastB a b) = min (key a) (key b) := by unfold leastB; split <;> omega
theorem ticks_least_mono {c x y : Nat} (hx : nan x = false) (hy : nan y = false) (h : key x ≤ key y) : ticks (leastB c x) ≤ ticks (leastB c y) :=
  ticks_mono (nan_least hx) (nan_least hy) (by rw [key_leastB, key_leastB]; omega)
theorem ticks_low' {p c : Nat} (hc : nan c = false) (h0 : ticks c = 0) (h : key p ≤ key c) : ticks p = 0 := by
  have hpn : nan p = false := by
    cases hq : nan p
    · rfl
    · have := (key_le hc).1; rw [key_nan hq] at h; omega
  have h1 := ticks_mono hpn hc h
  have h2 := (ticks_bounds p).1
  omega
theorem ticks_least_low {c z : Nat} (hz : nan z = false) (h0 : ticks z = 0) : ticks (leastB c z) = 0 :=
  ticks_low' hz h0 (by rw [key_leastB]; omega)
theorem nought_mul {b r : Nat} (hb : nan b = false) (h0 : rung b = 0) (hr : nan r = false) (hi : rung r < 9218868437227405312) : ∃ z, floatBits .mul .f64 b r = some z ∧ nan z = false ∧ ticks z = 0 := by
  obtain ⟨m, p, e, er, hf⟩ := parts hb (by omega)
  obtain ⟨n, q, e', er', hf'⟩ := parts hr hi
  have hm : m = 0 := by omega
  subst hm
  show ∃ z, (((D.read b).product (D.read r)).map D.write) = some z ∧ _
  rw [e, e']
  simp only [Datum.product, Option.map_some, Format.write, Nat.zero_mul]
  refine ⟨_, rfl, ?_⟩
  unfold Format.nearest
  rw [if_pos rfl]
  have hz : nan (D.word (sgn b ^^ sgn r) 0) = false := nan_word _ (by decide)
  refine ⟨hz, ?_⟩
  cases (sgn b ^^ sgn r) <;> decide +kernel
theorem dlyN_step {b f c : Nat} (hb : nan b = false) (hs : rung b = 0 ∨ (Pos b ∧ 0 < rung b)) (hf : Pos f) (h1 : 4607182418800017408 ≤ rung f) (k : Nat) : dlyN b f c k ≤ dlyN b f c (k + 1) := by
  obtain ⟨r, s, e1, e2, p1, p2, hr1, hrs⟩ := pow_up hf h1 k
  have hv : val b = some b := by simp [val, hb]
  unfold dlyN
  rw [e1, e2, hv]
  show ticks (leastB c (rep (floatBits .mul .f64 b r))) ≤ ticks (leastB c (rep (floatBits .mul .f64 b s)))
  rcases hs with h0 | ⟨pb, h0⟩
  · by_cases hi : rung r < 9218868437227405312
    · obtain ⟨z, ez, nz, tz⟩ := nought_mul hb h0 p1.nan hi
      rw [ez, show rep (some z) = z from rfl, ticks_least_low nz tz]
      exact (ticks_bounds _).1
    · have := p1.rung_le
      have := p2.rung_le
      rw [Pos.eq p1 p2 (by omega)]
      exact Int.le_refl _
  · obtain ⟨x, ex, px, -⟩ := mul_pos pb p1 (by omega) (by omega)
    obtain ⟨y, ey, py, -⟩ := mul_pos pb p2 (by omega) (by omega)
    have hxy := mul_mono pb p1 pb p2 (Nat.mul_le_mul_left _ (mag_le hrs)) (fun h => by have := p2.rung_le; omega) h0 (by omega) h0 (by omega) ex ey
    rw [ex, ey]
    exact ticks_least_mono px.nan py.nan (by show key x ≤ key y; rw [px.key, py.key]; omega)
theorem dly_step {b f c : Nat} (hb : nan b = false) (hs : rung b = 0 ∨ (Pos b ∧ 0 < rung b)) (hf : Pos f) (h1 : 4607182418800017408 ≤ rung f) (j : Nat) : dly b f c j ≤ dly b f c ((j : Int) + 1) := by
  by_cases hj : j = 0
  · subst hj; have := (dly_bounds b f c ((0 : Nat) + 1 : Int)).1; simpa [dly] using this
  · unfold dly
    rw [if_neg (by omega), if_neg (by omega)]
    by_cases h60 : j ≤ 60
    · have e1 : times ((j : Int) - 1) = j - 1 := by unfold times; omega
      have e2 : times ((j : Int) + 1 - 1) = (j - 1) + 1 := by unfold times; omega
      rw [e1, e2]
      exact dlyN_step hb hs hf h1 _
    · have e1 : times ((j : Int) - 1) = 60 := by unfold times; omega
      have e2 : times ((j : Int) + 1 - 1) = 60 := by unfold times; omega
      rw [e1, e2]; exact Int.le_refl _

/-! ### a delay as a number, held against the cap -/
theorem nearest_up (n : Nat) (h0 : n ≠ 0) (h1 : n < 4503599627370496) : D.nearest false n 0 = D.word false ((n.log2 + 1022) * 4503599627370496 + n * 2 ^ (52 - n.log2)) ∧ 4503599627370496 ≤ n * 2 ^ (52 - n.log2) ∧ n * 2 ^ (52 - n.log2) < 9007199254740992 ∧ n.log2 < 52 := by
  have hl : n.log2 < 52 := (Nat.log2_lt h0).2 (by rw [show (2 : Nat) ^ 52 = 4503599627370496 by decide +kernel]; exact h1)
  have hb := (Nat.log2_eq_iff h0).1 rfl
  have e1 : 2 ^ n.log2 * 2 ^ (52 - n.log2) = 4503599627370496 := by rw [← Nat.pow_add, show n.log2 + (52 - n.log2) = 52 by omega]
  have e2 : 2 ^ (n.log2 + 1) * 2 ^ (52 - n.log2) = 9007199254740992 := by rw [← Nat.pow_add, show n.log2 + 1 + (52 - n.log2) = 53 by omega]
  have g1 : 4503599627370496 ≤ n * 2 ^ (52 - n.log2) := by rw [← e1]; exact Nat.mul_le_mul_right _ hb.1
  have g2 : n * 2 ^ (52 - n.log2) < 9007199254740992 := by rw [← e2]; exact Nat.mul_lt_mul_of_pos_right hb.2 (Nat.two_pow_pos _)
  refine ⟨?_, g1, g2, hl⟩
  unfold Format.nearest
  rw [if_neg h0]
  dsimp only
  rw [least_eq, binade_eq, inf_eq, show D.fractionBits = 52 from rfl]
  have hlast : max (0 + (n.log2 : Int) - (52 : Nat)) (-1074) = (n.log2 : Int) - 52 := by omega
  rw [hlast, show (0 - ((n.log2 : Int) - 52)).toNat = 52 - n.log2 by omega, show ((n.log2 : Int) - 52 - 0).toNat = 0 by omega, show ((n.log2 : Int) - 52 - -1074).toNat = n.log2 + 1022 by omega]
  have hcut : Toward.even.cut false (n <<< (52 - n.log2)) 0 = n * 2 ^ (52 - n.log2) := by
    unfold Toward.cut
    simp only [Nat.zero_min, Nat.shiftLeft_eq, Nat.pow_zero, Nat.mul_one, Nat.div_one, Nat.mod_one, Nat.mul_zero]
    simp
  rw [hcut, Nat.min_eq_left (by omega)]
theorem mag_of {r q m : Nat} (h1 : 4503599627370496 ≤ m) (h2 : m < 9007199254740992) (hr : r = q * 4503599627370496 + m) : mag r = m * 2 ^ q := by
  unfold mag
  rw [if_neg (by omega), show r % 4503599627370496 = m - 4503599627370496 by omega, show r / 4503599627370496 - 1 = q by omega, show 4503599627370496 + (m - 4503599627370496) = m by omega]
theorem mul_back (n k K : Nat) (hK : 52 - k + (k + 1022) = K) : n * 2 ^ (52 - k) * 2 ^ (k + 1022) = n * 2 ^ K := by
  rw [Nat.mul_assoc, ← Nat.pow_add, hK]
theorem float_whole (N : Nat) (h1 : N ≤ 100000) (K : Nat) (hK : K = 1074) : Pos (floatOfInt .f64 (N : Int)) ∧ mag (rung (floatOfInt .f64 (N : Int))) = N * 2 ^ K := by
  have e : floatOfInt .f64 (N : Int) = D.nearest false N 0 := by
    show D.nearest (decide ((N : Int) < 0)) (N : Int).natAbs 0 = _
    rw [show decide ((N : Int) < 0) = false by simp, Int.natAbs_natCast]
  rw [e]
  by_cases hN : N = 0
  · subst hN
    rw [Nat.zero_mul]
    exact ⟨⟨by decide +kernel, by decide +kernel, by decide +kernel⟩, by decide +kernel⟩
  · obtain ⟨g, g1, g2, g3⟩ := nearest_up N hN (by omega)
    rw [g]
    have hr : (N.log2 + 1022) * 4503599627370496 + N * 2 ^ (52 - N.log2) < 9218868437227405312 := by omega
    have hm := mag_of g1 g2 rfl (r := (N.log2 + 1022) * 4503599627370496 + N * 2 ^ (52 - N.log2))
    rw [mul_back N N.log2 K (by omega)] at hm
    generalize (N.log2 + 1022) * 4503599627370496 + N * 2 ^ (52 - N.log2) = r at hr hm
    obtain ⟨w1, w2⟩ := Pos.word (r := r) (by omega)
    exact ⟨w1, by rw [w2]; exact hm⟩
theorem whole_mul_le (b K : Nat) : mag (rung b) / 2 ^ K * 2 ^ K ≤ mag (rung b) := Nat.div_mul_le_self _ _
theorem whole_K (b : Nat) : ∃ K, K = 1074 ∧ whole b = mag (rung b) / 2 ^ K := ⟨_, rfl, rfl⟩
/-- a delay, as a number, is no more than the cap -/
theorem dly_cap {b f c : Nat} (n : Int) (hc : nan c = false) (h0 : 0 ≤ sv c) (h1 : sv c ≤ 4681608360884174848) : sv (floatOfInt .f64 (dly b f c n)) ≤ sv c ∧ nan (floatOfInt .f64 (dly b f c n)) = false := by
  have hbd := dly_bounds b f c n
  obtain ⟨N, hN⟩ : ∃ N : Nat, dly b f c n = N := ⟨(dly b f c n).toNat, by omega⟩
  obtain ⟨K, hK, -⟩ := whole_K c
  obtain ⟨pN, mN⟩ := float_whole N (by omega) K hK
  have sN : sv (floatOfInt .f64 (N : Int)) = rung (floatOfInt .f64 (N : Int)) := by unfold sv; rw [pN.sgn]; rfl
  have sc : sv c = rung c := (rung_sv (by omega)).symm
  rw [hN]
  refine ⟨?_, pN.nan⟩
  by_cases h00 : N = 0
  · subst h00
    have : sv (floatOfInt .f64 ((0 : Nat) : Int)) = 0 := by decide +kernel
    rw [this]; exact h0
  · -- the least one is between
    have key1 : N * 2 ^ K ≤ mag (rung c) := by
      have hd : dly b f c n = dlyN b f c (times (n - 1)) := by
        unfold dly at hN ⊢
        split
        · rename_i h; rw [if_pos h] at hN; omega
        · rfl
      rw [hd] at hN
      unfold dlyN at hN
      generalize rep (fo .mul (val b) (powV (times (n - 1)) (val f))) = p at hN
      have hkl : key (leastB c p) ≤ key c := by rw [key_leastB]; omega
      have hnl : nan (leastB c p) = false := by
        cases hq : nan (leastB c p)
        · rfl
        · have := (key_le hc).1; rw [key_nan hq] at hkl; omega
      generalize leastB c p = m at *
      have hsv := sv_le hnl hc hkl
      unfold ticks at hN
      rw [hnl, if_neg (by decide)] at hN
      split at hN
      · omega
      · rw [if_neg (by omega)] at hN
        rename_i hneg
        have hrm := rung_sv hneg
        obtain ⟨K', hK', hw⟩ := whole_K m
        obtain rfl : K = K' := by omega
        have hNw : N = mag (rung m) / 2 ^ K := by rw [← hw]; omega
        have hle : rung m ≤ rung c := by omega
        rw [hNw]
        exact Nat.le_trans (whole_mul_le m K) (mag_le hle)
    rw [← mN] at key1
    rw [sN, sc]
    refine Decidable.byContradiction fun hh => ?_
    have := mag_lt (show rung c < rung (floatOfInt .f64 (N : Int)) by omega)
    omega

/-! ### comparing numbers -/
def geB (a b : Nat) : Bool := !nan a && !nan b && decide (sv b ≤ sv a)
def gtB (a b : Nat) : Bool := !nan a && !nan b && decide (sv b < sv a)
end Go.Proofs.Ytolpajkeiijbmaa
