/- The contracts of the document's own answers for gauge's order. No statement of the seat is proved here. -/
import Derived.Test.YtegloiojhimoeaaGBase
namespace Go.Proofs.Ytegloiojhimoeaa
open Go.RowKit G

set_option maxHeartbeats 400000 in
theorem rNaN_any (b : Nat) (w : World) : Calls Try.prog 35 #[.float .f64 b] w fun e w' => e = .returned (.bool (nan b)) ∧ w = w' := by
  have h : (FloatKind.f64.format.order b b != some .eq) = nan b := by
    have := order_self b; unfold bne; rw [show FloatKind.f64.format = D from rfl, this]; simp
  go_enter Try.func35, Try.ntmps35
  go_wp2
  go_ret
  exact ⟨rfl, rfl⟩

theorem nan0 : nan 0 = false := by decide +kernel
theorem sv0 : sv 0 = 0 := by decide +kernel
theorem quo_pos (w : World) : (binOp .quo 31 (.float .f64 4607182418800017408) (.float .f64 0)).run Try.prog w = .ok (.float .f64 9218868437227405312) w := run_float_arith w .quo _ .f64 _ _ _ (by decide +kernel)
theorem quo_neg (w : World) : (binOp .quo 31 (.float .f64 4607182418800017408) (.float .f64 9223372036854775808)).run Try.prog w = .ok (.float .f64 18442240474082181120) w := run_float_arith w .quo _ .f64 _ _ _ (by decide +kernel)
theorem neg_cases {b : Nat} (hb : b < 18446744073709551616) : b = 0 ∨ b = 9223372036854775808 ∨ (0 < rung b) := by unfold rung; omega

set_option maxHeartbeats 400000 in
theorem neg_any (b : Nat) (w : World) (hb : b < 18446744073709551616) (hn : nan b = false) : Calls Try.prog 65 #[.float .f64 b] w fun e w' => e = .returned (.bool (sgn b)) ∧ w = w' := by
  have hl := order_lt hn nan0
  have he := order_eq hn nan0
  rw [sv0] at hl he
  rw [show D = FloatKind.f64.format from rfl] at hl he
  rcases neg_cases hb with rfl | rfl | h
  · rw [show sgn 0 = false by decide +kernel]
    rw [show sv 0 = 0 by decide +kernel] at hl he
    have hq := quo_pos
    have hi : (FloatKind.f64.format.order 9218868437227405312 0 == some .lt) = false := by decide +kernel
    clear hn
    go_enter Try.func65, Try.ntmps65
    go_wp2
    go_ret
    exact ⟨rfl, rfl⟩
  · rw [show sgn 9223372036854775808 = true by decide +kernel]
    rw [show sv 9223372036854775808 = 0 by decide +kernel] at hl he
    have hq := quo_neg
    have hi : (FloatKind.f64.format.order 18442240474082181120 0 == some .lt) = true := by decide +kernel
    clear hn
    go_enter Try.func65, Try.ntmps65
    go_wp2
    go_ret
    exact ⟨rfl, rfl⟩
  · cases hs : sgn b
    · have h1 : decide (sv b < 0) = false := by simp [sv, hs]
      have h2 : decide (sv b = 0) = false := by simp [sv, hs]; omega
      rw [h1] at hl; rw [h2] at he
      clear hn h1 h2
      go_enter Try.func65, Try.ntmps65
      go_wp2
      go_ret
      exact ⟨rfl, rfl⟩
    · have h1 : decide (sv b < 0) = true := by simp [sv, hs]; omega
      rw [h1] at hl
      clear hn h1 he
      go_enter Try.func65, Try.ntmps65
      go_wp2
      go_ret
      exact ⟨rfl, rfl⟩

theorem key_le {b : Nat} (hn : nan b = false) : key b ≤ 9218868437227405312 ∧ -9218868437227405313 ≤ key b := by
  unfold key; rw [hn]; unfold nan at hn; simp at hn
  cases sgn b <;> simp <;> omega
theorem key_nan {b : Nat} (hn : nan b = true) : key b = 9223372036854775807 := by simp [key, hn]
theorem key_sv {a b : Nat} (ha : nan a = false) (hb : nan b = false) : (key a < key b) ↔ (sv a < sv b ∨ (sv a = sv b ∧ sgn a = true ∧ sgn b = false)) := by
  unfold key sv; rw [ha, hb]
  cases sgn a <;> cases sgn b <;> simp <;> omega

set_option maxHeartbeats 800000 in
theorem rCmp_any (a b : Nat) (w : World) (ha : a < 18446744073709551616) (hb : b < 18446744073709551616) : Calls Try.prog 54 #[.float .f64 a, .float .f64 b] w fun e w' => e = .returned (.int .i64 (cmpB a b)) ∧ w = w' := by
  obtain ⟨c, hc⟩ : ∃ c, cmpB a b = c := ⟨_, rfl⟩
  rw [hc]
  unfold cmpB at hc
  cases hna : nan a <;> cases hnb : nan b
  · have hl := order_lt hna hnb
    have hg := order_gt hna hnb
    have k1 := key_sv hna hnb
    have k2 := key_sv hnb hna
    rw [show D = FloatKind.f64.format from rfl] at hl hg
    rcases Int.lt_trichotomy (sv a) (sv b) with h | h | h
    · have hk : key a < key b := k1.2 (.inl h)
      obtain rfl : c = -1 := by rw [← hc, cmpI, if_pos hk]
      rw [show decide (sv a < sv b) = true by simpa using h] at hl
      clear hg hc hk k1 k2 h
      go_enter Try.func54, Try.ntmps54
      iterate 3
        go_wp2_with fail
        refine (rNaN_any _ _).mono ?_
        rintro e _ ⟨rfl, rfl⟩
      go_wp2
      go_ret
      exact ⟨rfl, rfl⟩
    · rw [show decide (sv a < sv b) = false by simp; omega] at hl
      rw [show decide (sv b < sv a) = false by simp; omega] at hg
      cases hsa : sgn a <;> cases hsb : sgn b
      · obtain rfl : c = 0 := by rw [← hc, cmpI, if_neg (by rw [k1]; simp [hsa, hsb]; omega), if_neg (by rw [k2]; simp [hsa, hsb]; omega)]
        clear hc k1 k2 h
        go_enter Try.func54, Try.ntmps54
        iterate 3
          go_wp2_with fail
          refine (rNaN_any _ _).mono ?_
          rintro e _ ⟨rfl, rfl⟩
        go_wp2_with fail
        refine (neg_any _ _ ha hna).mono ?_
        rintro e _ ⟨rfl, rfl⟩
        go_wp2_with fail
        refine (neg_any _ _ hb hnb).mono ?_
        rintro e _ ⟨rfl, rfl⟩
        go_wp2
        go_ret
        exact ⟨rfl, rfl⟩
      · obtain rfl : c = 1 := by rw [← hc, cmpI, if_neg (by rw [k1]; simp [hsa, hsb]; omega), if_pos (by rw [k2]; simp [hsa, hsb]; omega)]
        clear hc k1 k2 h
        go_enter Try.func54, Try.ntmps54
        iterate 3
          go_wp2_with fail
          refine (rNaN_any _ _).mono ?_
          rintro e _ ⟨rfl, rfl⟩
        go_wp2_with fail
        refine (neg_any _ _ ha hna).mono ?_
        rintro e _ ⟨rfl, rfl⟩
        go_wp2_with fail
        refine (neg_any _ _ hb hnb).mono ?_
        rintro e _ ⟨rfl, rfl⟩
        go_wp2_with fail
        refine (neg_any _ _ ha hna).mono ?_
        rintro e _ ⟨rfl, rfl⟩
        go_wp2
        go_ret
        exact ⟨rfl, rfl⟩
      · obtain rfl : c = -1 := by rw [← hc, cmpI, if_pos (by rw [k1]; simp [hsa, hsb]; omega)]
        clear hc k1 k2 h
        go_enter Try.func54, Try.ntmps54
        iterate 3
          go_wp2_with fail
          refine (rNaN_any _ _).mono ?_
          rintro e _ ⟨rfl, rfl⟩
        go_wp2_with fail
        refine (neg_any _ _ ha hna).mono ?_
        rintro e _ ⟨rfl, rfl⟩
        go_wp2_with fail
        refine (neg_any _ _ hb hnb).mono ?_
        rintro e _ ⟨rfl, rfl⟩
        go_wp2_with fail
        refine (neg_any _ _ ha hna).mono ?_
        rintro e _ ⟨rfl, rfl⟩
        go_wp2
        go_ret
        exact ⟨rfl, rfl⟩
      · obtain rfl : c = 0 := by rw [← hc, cmpI, if_neg (by rw [k1]; simp [hsa, hsb]; omega), if_neg (by rw [k2]; simp [hsa, hsb]; omega)]
        clear hc k1 k2 h
        go_enter Try.func54, Try.ntmps54
        iterate 3
          go_wp2_with fail
          refine (rNaN_any _ _).mono ?_
          rintro e _ ⟨rfl, rfl⟩
        go_wp2_with fail
        refine (neg_any _ _ ha hna).mono ?_
        rintro e _ ⟨rfl, rfl⟩
        go_wp2_with fail
        refine (neg_any _ _ hb hnb).mono ?_
        rintro e _ ⟨rfl, rfl⟩
        go_wp2
        go_ret
        exact ⟨rfl, rfl⟩
    · have hk : key b < key a := k2.2 (.inl h)
      obtain rfl : c = 1 := by rw [← hc, cmpI, if_neg (by omega), if_pos hk]
      rw [show decide (sv a < sv b) = false by simp; omega] at hl
      rw [show decide (sv b < sv a) = true by simpa using h] at hg
      clear hc hk k1 k2 h
      go_enter Try.func54, Try.ntmps54
      iterate 3
        go_wp2_with fail
        refine (rNaN_any _ _).mono ?_
        rintro e _ ⟨rfl, rfl⟩
      go_wp2
      go_ret
      exact ⟨rfl, rfl⟩
  · obtain rfl : c = -1 := by rw [← hc, cmpI, key_nan hnb, if_pos (by have := key_le hna; omega)]
    clear hc
    go_enter Try.func54, Try.ntmps54
    iterate 3
      go_wp2_with fail
      refine (rNaN_any _ _).mono ?_
      rintro e _ ⟨rfl, rfl⟩
    go_wp2
    go_ret
    exact ⟨rfl, rfl⟩
  · obtain rfl : c = 1 := by rw [← hc, cmpI, key_nan hna, if_neg (by have := key_le hnb; omega), if_pos (by have := key_le hnb; omega)]
    clear hc
    go_enter Try.func54, Try.ntmps54
    iterate 3
      go_wp2_with fail
      refine (rNaN_any _ _).mono ?_
      rintro e _ ⟨rfl, rfl⟩
    go_wp2
    go_ret
    exact ⟨rfl, rfl⟩
  · obtain rfl : c = 0 := by rw [← hc, cmpI, key_nan hna, key_nan hnb]; rfl
    clear hc
    go_enter Try.func54, Try.ntmps54
    iterate 2
      go_wp2_with fail
      refine (rNaN_any _ _).mono ?_
      rintro e _ ⟨rfl, rfl⟩
    go_wp2
    go_ret
    exact ⟨rfl, rfl⟩

end Go.Proofs.Ytegloiojhimoeaa
