/- The contracts of gauge's order: keys, comparing, picking. No statement of the seat is proved here. -/
import Derived.Test.YtegloiojhimoeaaRows
import Derived.Test.YtegloiojhimoeaaMem
import Derived.Test.YtegloiojhimoeaaGMath
import Derived.Laws.Externs
import Derived.Laws.BitsAllLaws
namespace Go.Proofs.Ytegloiojhimoeaa
open Go.RowKit G

theorem bits_call (b : Nat) (w : World) : (callFunc 36 #[.float .f64 b]).run Try.prog w = .ok (.value (.int .u64 b)) w := by
  rw [run_callFunc_extern Try.func36 (by kernel_rfl) (by kernel_rfl) (by kernel_rfl) (e := Extern.MathFloatBits.float64bits) (by kernel_rfl)]; rfl
theorem from_call (n : Int) (w : World) : (callFunc 42 #[.int .u64 n]).run Try.prog w = .ok (.value (.float .f64 n.toNat)) w := by
  rw [run_callFunc_extern Try.func42 (by kernel_rfl) (by kernel_rfl) (by kernel_rfl) (e := Extern.MathFloatBits.float64frombits) (by kernel_rfl)]; rfl

set_option maxHeartbeats 400000 in
theorem isNaN_any (b : Nat) (w : World) : Calls Try.prog 52 #[.float .f64 b] w fun e w' => e = .returned (.bool (nan b)) ∧ w = w' := by
  have h : (FloatKind.f64.format.order b b != some .eq) = nan b := by
    have := order_self b; unfold bne; rw [show FloatKind.f64.format = D from rfl, this]; simp
  go_enter Try.func52, Try.ntmps52
  go_wp2
  go_ret
  exact ⟨rfl, rfl⟩
set_option maxHeartbeats 400000 in
theorem cmpNaN_any (n : Int) (w : World) : Calls Try.prog 51 #[.int .i64 n] w fun e w' => e = .returned (.bool false) ∧ w = w' := by
  go_enter Try.func51, Try.ntmps51
  go_wp2
  go_ret
  simp

def cmpI (a b : Int) : Int := if a < b then -1 else if b < a then 1 else 0
set_option maxHeartbeats 400000 in
theorem compare_any (a b : Int) (w : World) : Calls Try.prog 37 #[.int .i64 a, .int .i64 b] w fun e w' => e = .returned (.int .i64 (cmpI a b)) ∧ w = w' := by
  unfold cmpI
  by_cases h1 : a < b
  · rw [if_pos h1]
    go_enter Try.func37, Try.ntmps37
    go_wp2_with fail
    refine (cmpNaN_any _ _).mono ?_
    rintro e _ ⟨rfl, rfl⟩
    go_wp2_with fail
    refine (cmpNaN_any _ _).mono ?_
    rintro e _ ⟨rfl, rfl⟩
    go_wp2
    go_ret
    exact ⟨rfl, rfl⟩
  · rw [if_neg h1]
    by_cases h2 : b < a
    · rw [if_pos h2]
      go_enter Try.func37, Try.ntmps37
      go_wp2_with fail
      refine (cmpNaN_any _ _).mono ?_
      rintro e _ ⟨rfl, rfl⟩
      go_wp2_with fail
      refine (cmpNaN_any _ _).mono ?_
      rintro e _ ⟨rfl, rfl⟩
      go_wp2
      go_ret
      exact ⟨rfl, rfl⟩
    · rw [if_neg h2]
      go_enter Try.func37, Try.ntmps37
      go_wp2_with fail
      refine (cmpNaN_any _ _).mono ?_
      rintro e _ ⟨rfl, rfl⟩
      go_wp2_with fail
      refine (cmpNaN_any _ _).mono ?_
      rintro e _ ⟨rfl, rfl⟩
      go_wp2
      go_ret
      exact ⟨rfl, rfl⟩


theorem and_sign (b : Nat) (hb : b < 18446744073709551616) : bits .and .u64 (b : Int) 9223372036854775808 = if sgn b then 9223372036854775808 else 0 := by
  rw [show (9223372036854775808 : Int) = ((9223372036854775808 : Nat) : Int) from rfl, u64_and_nat b _ hb (by decide), show (9223372036854775808 : Nat) = 2 ^ 63 by decide +kernel, nat_bit]
  unfold sgn
  have := Nat.mod_two_eq_zero_or_one (b / 9223372036854775808)
  rw [show (2 : Nat) ^ 63 = 9223372036854775808 by decide +kernel]
  rcases this with h | h <;> simp [h]
theorem andNot_sign (b : Nat) (hb : b < 18446744073709551616) : bits .andNot .u64 (b : Int) 9223372036854775808 = (rung b : Int) := by
  rw [show (9223372036854775808 : Int) = ((9223372036854775808 : Nat) : Int) from rfl, u64_andNot_nat b _ hb (by decide), show (18446744073709551615 - 9223372036854775808 : Nat) = 2 ^ 63 - 1 by decide +kernel, Nat.and_two_pow_sub_one_eq_mod]
  rw [show (2 : Nat) ^ 63 = 9223372036854775808 by decide +kernel]; rfl
theorem or_sign (n : Int) (h0 : 0 ≤ n) (h1 : n < 9223372036854775808) : bits .or .u64 9223372036854775808 n = 9223372036854775808 + n := by
  rw [u64_or _ _ (by decide) (by decide) h0 (by omega)]
  have := nat_join 63 9223372036854775808 n.toNat (by decide +kernel) (by rw [show (2 : Nat) ^ 63 = 9223372036854775808 by decide +kernel]; omega)
  rw [show ((9223372036854775808 : Int).toNat) = 9223372036854775808 by decide, this]
  omega
theorem rung_lt (b : Nat) : rung b < 9223372036854775808 := Nat.mod_lt _ (by decide)
theorem sgn_false {b : Nat} (hb : b < 18446744073709551616) (h : sgn b = false) : b = rung b := by
  unfold sgn at h; unfold rung
  have : b / 9223372036854775808 % 2 ≠ 1 := by simpa using h
  omega
theorem sgn_true {b : Nat} (hb : b < 18446744073709551616) (h : sgn b = true) : b = 9223372036854775808 + rung b := by
  unfold sgn at h; unfold rung
  have : b / 9223372036854775808 % 2 = 1 := by simpa using h
  omega

def key (b : Nat) : Int := if nan b then 9223372036854775807 else if sgn b then -1 - rung b else rung b
set_option maxHeartbeats 400000 in
theorem key_any (b : Nat) (w : World) (hb : b < 18446744073709551616) : Calls Try.prog 38 #[.float .f64 b] w fun e w' => e = .returned (.int .i64 (key b)) ∧ w = w' := by
  have hx := bits_call b
  have ha := and_sign b hb
  have hr := rung_lt b
  cases hn : nan b
  · cases hs : sgn b
    · rw [hs] at ha
      have hk : key b = b := by have := sgn_false hb hs; simp only [key, hn, hs]; simp; omega
      rw [hk]
      have hw : wrap64 (b : Int) = b := by have := sgn_false hb hs; unfold wrap64; omega
      clear hk
      go_enter Try.func38, Try.ntmps38
      go_wp2_with fail
      refine (isNaN_any _ _).mono ?_
      rintro e _ ⟨rfl, rfl⟩
      go_wp2
      go_ret
      refine ⟨?_, rfl⟩
      show Ending.returned (.int .i64 (wrap64 b)) = _
      rw [hw]
    · rw [hs] at ha
      have hk : key b = -1 - rung b := by simp [key, hn, hs]
      rw [hk]
      have ho := andNot_sign b hb
      have hw : wrap64 (rung b : Int) = rung b := by unfold wrap64; omega
      have hw' : wrap64 (-1 - (rung b : Int)) = -1 - rung b := by unfold wrap64; omega
      clear hk
      go_enter Try.func38, Try.ntmps38
      go_wp2_with fail
      refine (isNaN_any _ _).mono ?_
      rintro e _ ⟨rfl, rfl⟩
      go_wp2
      go_ret
      exact ⟨rfl, rfl⟩
  · have hk : key b = 9223372036854775807 := by simp [key, hn]
    rw [hk]
    clear ha hk
    go_enter Try.func38, Try.ntmps38
    go_wp2_with fail
    refine (isNaN_any _ _).mono ?_
    rintro e _ ⟨rfl, rfl⟩
    go_wp2
    go_ret
    exact ⟨rfl, rfl⟩

def cmpB (a b : Nat) : Int := cmpI (key a) (key b)
set_option maxHeartbeats 400000 in
theorem cmp_any (a b : Nat) (w : World) (ha : a < 18446744073709551616) (hb : b < 18446744073709551616) : Calls Try.prog 17 #[.float .f64 a, .float .f64 b] w fun e w' => e = .returned (.int .i64 (cmpB a b)) ∧ w = w' := by
  unfold cmpB
  go_enter Try.func17, Try.ntmps17
  go_wp2_with fail
  refine (key_any _ _ ha).mono ?_
  rintro e _ ⟨rfl, rfl⟩
  go_wp2_with fail
  refine (key_any _ _ hb).mono ?_
  rintro e _ ⟨rfl, rfl⟩
  go_wp2_with fail
  refine (compare_any _ _ _).mono ?_
  rintro e _ ⟨rfl, rfl⟩
  go_wp2
  go_ret
  exact ⟨rfl, rfl⟩

/-- of two the one ahead, the one behind -/
def leastB (a b : Nat) : Nat := if key b < key a then b else a
def mostB (a b : Nat) : Nat := if key a < key b then b else a
theorem cmpI_lt {a b : Int} : cmpI a b < 0 ↔ a < b := by unfold cmpI; split <;> (try split) <;> omega
theorem cmpI_gt {a b : Int} : 0 < cmpI a b ↔ b < a := by unfold cmpI; split <;> (try split) <;> omega
theorem cmpI_cases (a b : Int) : (a < b ∧ cmpI a b = -1) ∨ (b < a ∧ cmpI a b = 1) ∨ (a = b ∧ cmpI a b = 0) := by
  unfold cmpI
  rcases Int.lt_trichotomy a b with h | h | h
  · exact .inl ⟨h, if_pos h⟩
  · exact .inr (.inr ⟨h, by simp [h]⟩)
  · exact .inr (.inl ⟨h, by rw [if_neg (by omega), if_pos h]⟩)
theorem leastB_lt {a b : Nat} (ha : a < 18446744073709551616) (hb : b < 18446744073709551616) : leastB a b < 18446744073709551616 := by unfold leastB; split <;> assumption
theorem mostB_lt {a b : Nat} (ha : a < 18446744073709551616) (hb : b < 18446744073709551616) : mostB a b < 18446744073709551616 := by unfold mostB; split <;> assumption

def clampB (x lo hi : Nat) : Nat := if key hi < key lo then 0 else leastB (mostB x lo) hi
def clampE (lo hi : Nat) : Int := if key hi < key lo then 1 else 0
set_option maxHeartbeats 400000 in
theorem nanMade_any (w : World) : Calls Try.prog 41 #[] w fun e w' => e = .returned (.float .f64 9221120237041090561) ∧ w = w' := by
  have hx := from_call
  go_enter Try.func41, Try.ntmps41
  go_wp2
  go_ret
  exact ⟨rfl, rfl⟩

/-- the number with a key, and whether there is one -/
def hasB (k : Int) : Bool := decide (k = 9223372036854775807) || (decide (-9218868437227405313 ≤ k) && decide (k ≤ 9218868437227405312))
def ofB (k : Int) : Nat := if k = 9223372036854775807 then 9221120237041090561 else if k < -9218868437227405313 ∨ 9218868437227405312 < k then 0 else if k < 0 then (9223372036854775808 + (-1 - k)).toNat else k.toNat
def ofE (k : Int) : Int := if hasB k then 0 else 1
set_option maxHeartbeats 400000 in
theorem of_any (k : Int) (w : World) (h0 : -9223372036854775808 ≤ k) (h1 : k ≤ 9223372036854775807) : Calls Try.prog 20 #[.int .i64 k] w fun e w' => e = .returned (.tuple #[.float .f64 (ofB k), .int .i64 (ofE k)]) ∧ w = w' := by
  have hx := from_call
  by_cases c1 : k = 9223372036854775807
  · rw [show ofB k = 9221120237041090561 by simp [ofB, c1], show ofE k = 0 by simp [ofE, hasB, c1]]
    subst c1
    go_enter Try.func20, Try.ntmps20
    go_wp2_with fail
    refine (nanMade_any _).mono ?_
    rintro e _ ⟨rfl, rfl⟩
    go_wp2
    go_ret2
    exact ⟨rfl, rfl⟩
  · have c1' : (k == 9223372036854775807) = false := by simpa using c1
    by_cases c2 : k < -9218868437227405313
    · rw [show ofB k = 0 by simp [ofB, c1, c2], show ofE k = 1 by simp [ofE, hasB, c1]; omega]
      clear c1
      go_enter Try.func20, Try.ntmps20
      go_wp2
      go_ret2
      exact ⟨rfl, rfl⟩
    · by_cases c3 : 9218868437227405312 < k
      · rw [show ofB k = 0 by simp [ofB, c1, c3], show ofE k = 1 by simp [ofE, hasB, c1]; omega]
        clear c1
        go_enter Try.func20, Try.ntmps20
        go_wp2
        go_ret2
        exact ⟨rfl, rfl⟩
      · have e1 : ofE k = 0 := by simp [ofE, hasB, c1]; omega
        by_cases c4 : k < 0
        · have e0 : ofB k = (9223372036854775808 + (-1 - k)).toNat := by unfold ofB; rw [if_neg c1, if_neg (by omega), if_pos c4]
          rw [e0, e1]
          have hw : wrap64 (-1 - k) = -1 - k := by unfold wrap64; omega
          have ho := or_sign (-1 - k) (by omega) (by omega)
          clear c1 e0 e1
          go_enter Try.func20, Try.ntmps20
          go_wp2
          go_ret2
          exact ⟨rfl, rfl⟩
        · have e0 : ofB k = k.toNat := by unfold ofB; rw [if_neg c1, if_neg (by omega), if_neg c4]
          rw [e0, e1]
          clear c1 e0 e1
          go_enter Try.func20, Try.ntmps20
          go_wp2
          go_ret2
          exact ⟨rfl, rfl⟩
end Go.Proofs.Ytegloiojhimoeaa
