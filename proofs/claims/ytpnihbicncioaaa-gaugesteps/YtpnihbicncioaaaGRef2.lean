/- The contracts of the document's own answers for gauge's picks, and of the search for a key. No statement of the seat is proved here. -/
import Derived.Test.YtpnihbicncioaaaGRef
namespace Go.Proofs.Ytpnihbicncioaaa
open Go.RowKit G

/-- a number as a value: all NaN are one -/
def val (b : Nat) : Option Nat := if nan b then none else some b
def sameB (a b : Nat) : Bool := decide (val a = val b)
set_option maxHeartbeats 400000 in
theorem same_any (a b : Nat) (w : World) : Calls Try.prog 19 #[.float .f64 a, .float .f64 b] w fun e w' => e = .returned (.bool (sameB a b)) ∧ w = w' := by
  have h1 := bits_call a
  have h2 := bits_call b
  obtain ⟨c, hc⟩ : ∃ c, sameB a b = c := ⟨_, rfl⟩
  rw [hc]
  unfold sameB val at hc
  cases hna : nan a
  · have hq : ((a : Int) == (b : Int)) = c := by
      rw [← hc, hna]; cases hnb : nan b
      · rw [Bool.eq_iff_iff]; simp; omega
      · simp; intro e; have : a = b := by omega
        subst this; simp [hna] at hnb
    have HQ := Lib.hid hq
    clear hc hq
    go_enter Try.func19, Try.ntmps19
    go_wp2_with fail
    refine (rNaN_any _ _).mono ?_
    rintro e _ ⟨rfl, rfl⟩
    go_wp2
    go_ret
    have := HQ.out
    first | exact ⟨by rw [← this]; rfl, rfl⟩ | (subst this; refine ⟨?_, rfl⟩; simp; done) 
  · cases hnb : nan b
    · have hq : ((a : Int) == (b : Int)) = false := by
        simp; intro e; have : a = b := by omega
        subst this; simp [hna] at hnb
      obtain rfl : c = false := by rw [← hc, hna, hnb]; simp
      clear hc
      go_enter Try.func19, Try.ntmps19
      iterate 2
        go_wp2_with fail
        refine (rNaN_any _ _).mono ?_
        rintro e _ ⟨rfl, rfl⟩
      go_wp2
      go_ret
      first | exact ⟨rfl, rfl⟩ | (refine ⟨?_, rfl⟩; simpa using hq)
    · obtain rfl : c = true := by rw [← hc, hna, hnb]; simp
      clear hc
      go_enter Try.func19, Try.ntmps19
      iterate 2
        go_wp2_with fail
        refine (rNaN_any _ _).mono ?_
        rintro e _ ⟨rfl, rfl⟩
      go_wp2
      go_ret
      exact ⟨rfl, rfl⟩

def rLeastB (a b : Nat) : Nat := if key a ≤ key b then a else b
def rMostB (a b : Nat) : Nat := if key b ≤ key a then a else b
theorem cmpB_le {a b : Nat} : cmpB a b ≤ 0 ↔ key a ≤ key b := by unfold cmpB cmpI; split <;> (try split) <;> omega
theorem cmpB_ge {a b : Nat} : 0 ≤ cmpB a b ↔ key b ≤ key a := by unfold cmpB cmpI; split <;> (try split) <;> omega
set_option maxHeartbeats 400000 in
theorem rLeast_any (a b : Nat) (w : World) (ha : a < 18446744073709551616) (hb : b < 18446744073709551616) : Calls Try.prog 23 #[.float .f64 a, .float .f64 b] w fun e w' => e = .returned (.float .f64 (rLeastB a b)) ∧ w = w' := by
  unfold rLeastB
  by_cases h : key a ≤ key b
  · rw [if_pos h]
    have h' : cmpB a b ≤ 0 := cmpB_le.2 h
    clear h
    go_enter Try.func23, Try.ntmps23
    go_wp2_with fail
    refine (rCmp_any _ _ _ ha hb).mono ?_
    rintro e _ ⟨rfl, rfl⟩
    go_wp2
    go_ret
    exact ⟨rfl, rfl⟩
  · rw [if_neg h]
    have h' : ¬ cmpB a b ≤ 0 := fun x => h (cmpB_le.1 x)
    clear h
    go_enter Try.func23, Try.ntmps23
    go_wp2_with fail
    refine (rCmp_any _ _ _ ha hb).mono ?_
    rintro e _ ⟨rfl, rfl⟩
    go_wp2
    go_ret
    exact ⟨rfl, rfl⟩
set_option maxHeartbeats 400000 in
theorem rMost_any (a b : Nat) (w : World) (ha : a < 18446744073709551616) (hb : b < 18446744073709551616) : Calls Try.prog 25 #[.float .f64 a, .float .f64 b] w fun e w' => e = .returned (.float .f64 (rMostB a b)) ∧ w = w' := by
  unfold rMostB
  by_cases h : key b ≤ key a
  · rw [if_pos h]
    have h' : 0 ≤ cmpB a b := cmpB_ge.2 h
    clear h
    go_enter Try.func25, Try.ntmps25
    go_wp2_with fail
    refine (rCmp_any _ _ _ ha hb).mono ?_
    rintro e _ ⟨rfl, rfl⟩
    go_wp2
    go_ret
    exact ⟨rfl, rfl⟩
  · rw [if_neg h]
    have h' : ¬ 0 ≤ cmpB a b := fun x => h (cmpB_ge.1 x)
    clear h
    go_enter Try.func25, Try.ntmps25
    go_wp2_with fail
    refine (rCmp_any _ _ _ ha hb).mono ?_
    rintro e _ ⟨rfl, rfl⟩
    go_wp2
    go_ret
    exact ⟨rfl, rfl⟩
theorem rLeastB_lt {a b : Nat} (ha : a < 18446744073709551616) (hb : b < 18446744073709551616) : rLeastB a b < 18446744073709551616 := by unfold rLeastB; split <;> assumption
def rClampB (x lo hi : Nat) : Nat := if key hi < key lo then 0 else rMostB lo (rLeastB x hi)
set_option maxHeartbeats 400000 in
theorem rClamp_any (x lo hi : Nat) (w : World) (hx : x < 18446744073709551616) (hl : lo < 18446744073709551616) (hh : hi < 18446744073709551616) : Calls Try.prog 20 #[.float .f64 x, .float .f64 lo, .float .f64 hi] w fun e w' => e = .returned (.tuple #[.float .f64 (rClampB x lo hi), .int .i64 (clampE lo hi)]) ∧ w = w' := by
  unfold rClampB clampE
  by_cases h : key hi < key lo
  · rw [if_pos h, if_pos h]
    have h' : 0 < cmpB lo hi := cmpI_gt.2 h
    clear h
    go_enter Try.func20, Try.ntmps20
    go_wp2_with fail
    refine (rCmp_any _ _ _ hl hh).mono ?_
    rintro e _ ⟨rfl, rfl⟩
    go_wp2
    go_ret2
    exact ⟨rfl, rfl⟩
  · rw [if_neg h, if_neg h]
    have h' : ¬ 0 < cmpB lo hi := fun x => h (cmpI_gt.1 x)
    clear h
    go_enter Try.func20, Try.ntmps20
    go_wp2_with fail
    refine (rCmp_any _ _ _ hl hh).mono ?_
    rintro e _ ⟨rfl, rfl⟩
    go_wp2_with fail
    refine (rLeast_any _ _ _ hx hh).mono ?_
    rintro e _ ⟨rfl, rfl⟩
    go_wp2_with fail
    refine (rMost_any _ _ _ hl (rLeastB_lt hx hh)).mono ?_
    rintro e _ ⟨rfl, rfl⟩
    go_wp2
    go_ret2
    exact ⟨rfl, rfl⟩

theorem ofB_lt (k : Int) (h0 : -9223372036854775808 ≤ k) (h1 : k ≤ 9223372036854775807) : ofB k < 18446744073709551616 := by unfold ofB; split <;> (try split) <;> (try split) <;> omega
/-- the number with a key has that key -/
theorem key_of {k : Int} (h : hasB k = true) : key (ofB k) = k := by
  unfold hasB at h
  simp at h
  by_cases c1 : k = 9223372036854775807
  · subst c1; decide +kernel
  · unfold ofB; rw [if_neg c1, if_neg (by omega)]
    by_cases c4 : k < 0
    · rw [if_pos c4]
      have e1 : rung (9223372036854775808 + (-1 - k)).toNat = (-1 - k).toNat := by unfold rung; omega
      have e2 : sgn (9223372036854775808 + (-1 - k)).toNat = true := by unfold sgn; simp; omega
      have e3 : nan (9223372036854775808 + (-1 - k)).toNat = false := by unfold nan; rw [e1]; simp; omega
      unfold key; rw [e1, e2, e3]; simp; omega
    · rw [if_neg c4]
      have e1 : rung k.toNat = k.toNat := by unfold rung; omega
      have e2 : sgn k.toNat = false := by unfold sgn; simp; omega
      have e3 : nan k.toNat = false := by unfold nan; rw [e1]; simp; omega
      unfold key; rw [e1, e2, e3]; simp; omega
/-- a number's key leads to it -/
theorem of_key {b : Nat} (hb : b < 18446744073709551616) : hasB (key b) = true ∧ val (ofB (key b)) = val b := by
  cases hn : nan b
  · have hk := key_le hn
    refine ⟨by unfold hasB; simp; omega, ?_⟩
    have e : ofB (key b) = b := by
      have hr := rung_lt b
      unfold ofB
      rw [if_neg (by omega), if_neg (by omega)]
      cases hs : sgn b
      · have e0 := sgn_false hb hs
        have : key b = rung b := by simp [key, hn, hs]
        rw [this, if_neg (by omega)]; omega
      · have e0 := sgn_true hb hs
        have : key b = -1 - rung b := by simp [key, hn, hs]
        rw [this, if_pos (by omega)]; omega
    rw [e]
  · rw [key_nan hn]
    exact ⟨by decide +kernel, by rw [show val b = none by simp [val, hn]]; decide +kernel⟩

theorem mid_eq {lo hi : Int} (h : lo < hi) (h1 : -9218868437227405313 ≤ lo) (h4 : hi ≤ 9218868437227405312) : wrap64 (lo + wrap64 (IntKind.u64.wrap ((IntKind.u64.wrap (IntKind.u64.wrap hi - IntKind.u64.wrap lo)).tdiv 2))) = lo + (hi - lo) / 2 := by
  have e : IntKind.u64.wrap (IntKind.u64.wrap hi - IntKind.u64.wrap lo) = hi - lo := by simp only [IntKind.wrap_u64]; omega
  rw [e, Int.tdiv_eq_ediv_of_nonneg (by omega)]
  simp only [IntKind.wrap_u64, wrap64]; omega
theorem mid_le {lo hi : Int} (h : lo < hi) : lo ≤ lo + (hi - lo) / 2 ∧ lo + (hi - lo) / 2 < hi := by omega
set_option maxHeartbeats 800000 in
theorem rKey_any (x : Nat) (w : World) (hx : x < 18446744073709551616) : Calls Try.prog 16 #[.float .f64 x] w fun e w' => e = .returned (.int .i64 (key x)) ∧ w = w' := by
  cases hn : nan x
  · have hk := key_le hn
    obtain ⟨hk1, hk2⟩ := hk
    go_enter Try.func16, Try.ntmps16
    go_wp2_with fail
    refine (rNaN_any _ _).mono ?_
    rintro e _ ⟨rfl, rfl⟩
    go_wp2
    go_loop [3, 4] (fun i j => ∃ lo hi : Int, -9218868437227405313 ≤ lo ∧ lo ≤ key x ∧ key x ≤ hi ∧ hi ≤ 9218868437227405312 ∧ i = .int .i64 lo ∧ j = .int .i64 hi) (fun i j => (intOf j - intOf i).toNat)
    case atStart => exact ⟨_, _, by omega, hk2, hk1, by omega, rfl, rfl⟩
    case round =>
      obtain ⟨lo, hi, h1, h2, h3, h4, rfl, rfl⟩ := hrel
      by_cases hlt : lo < hi
      · go_wp2_with fail
        rw [mid_eq hlt h1 h4]
        obtain ⟨m1, m2⟩ := mid_le hlt
        generalize lo + (hi - lo) / 2 = mid at m1 m2 ⊢
        have hh : hasB mid = true := by unfold hasB; simp; omega
        have hkm := Lib.hid (key_of hh)
        have hlt' := ofB_lt mid (by omega) (by omega)
        refine (rOf_any _ _ (by omega) (by omega)).mono ?_
        rintro e _ ⟨rfl, rfl⟩
        go_wp2_with fail
        refine (rCmp_any _ _ _ hlt' hx).mono ?_
        rintro e _ ⟨rfl, rfl⟩
        by_cases hc : mid < key x
        · have hc' : cmpB (ofB mid) x < 0 := cmpI_lt.2 (by rw [hkm.out]; exact hc)
          go_wp2
          go_round
          case rel => exact ⟨mid + 1, hi, by omega, by omega, h3, h4, rfl, rfl⟩
          case measure => simp [intOf]; omega
        · have hc' : ¬ cmpB (ofB mid) x < 0 := fun z => hc (by have := cmpI_lt.1 z; rwa [hkm.out] at this)
          go_wp2
          go_round
          case rel => exact ⟨lo, mid, h1, h2, by omega, by omega, rfl, rfl⟩
          case measure => simp [intOf]; omega
      · go_wp2
        go_ret
        exact ⟨by rw [show key x = lo by omega]; rfl, rfl⟩
  · rw [key_nan hn]
    go_enter Try.func16, Try.ntmps16
    go_wp2_with fail
    refine (rNaN_any _ _).mono ?_
    rintro e _ ⟨rfl, rfl⟩
    go_wp2
    go_ret
    exact ⟨rfl, rfl⟩
end Go.Proofs.Ytpnihbicncioaaa
