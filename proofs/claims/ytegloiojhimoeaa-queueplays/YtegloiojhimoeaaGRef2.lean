/- The contracts of the document's own answers for gauge's picks, and of the search for a key. No statement of the seat is proved here. -/
import Derived.Test.YtegloiojhimoeaaGRef
namespace Go.Proofs.Ytegloiojhimoeaa
open Go.RowKit G

/-- a number as a value: all NaN are one -/
def val (b : Nat) : Option Nat := if nan b then none else some b
def sameB (a b : Nat) : Bool := decide (val a = val b)
set_option maxHeartbeats 400000 in
theorem same_any (a b : Nat) (w : World) : Calls Try.prog 16 #[.float .f64 a, .float .f64 b] w fun e w' => e = .returned (.bool (sameB a b)) ∧ w = w' := by
  have h1 := bits_call a
  have h2 := bits_call b
  obtain ⟨c, hc⟩ : ∃ c, sameB a b = c := ⟨_, rfl⟩
  rw [hc]
  unfold sameB val at hc
  cases hna : nan a
  · have hq : ((a : Int) == (b : Int)) = c := by
      rw [← hc, hna]; cases hnb : nan b
      · rw [Bool.eq_iff_iff]; simp; omega
      · simp; intro e; have : a = b := by omega
        subst this; simp [hna] at hnb
    have HQ := Lib.hid hq
    clear hc hq
    go_enter Try.func16, Try.ntmps16
    go_wp2_with fail
    refine (rNaN_any _ _).mono ?_
    rintro e _ ⟨rfl, rfl⟩
    go_wp2
    go_ret
    have := HQ.out
    first | exact ⟨by rw [← this]; rfl, rfl⟩ | (subst this; refine ⟨?_, rfl⟩; simp; done) 
  · cases hnb : nan b
    · have hq : ((a : Int) == (b : Int)) = false := by
        simp; intro e; have : a = b := by omega
        subst this; simp [hna] at hnb
      obtain rfl : c = false := by rw [← hc, hna, hnb]; simp
      clear hc
      go_enter Try.func16, Try.ntmps16
      iterate 2
        go_wp2_with fail
        refine (rNaN_any _ _).mono ?_
        rintro e _ ⟨rfl, rfl⟩
      go_wp2
      go_ret
      first | exact ⟨rfl, rfl⟩ | (refine ⟨?_, rfl⟩; simpa using hq)
    · obtain rfl : c = true := by rw [← hc, hna, hnb]; simp
      clear hc
      go_enter Try.func16, Try.ntmps16
      iterate 2
        go_wp2_with fail
        refine (rNaN_any _ _).mono ?_
        rintro e _ ⟨rfl, rfl⟩
      go_wp2
      go_ret
      exact ⟨rfl, rfl⟩

def rLeastB (a b : Nat) : Nat := if key a ≤ key b then a else b
def rMostB (a b : Nat) : Nat := if key b ≤ key a then a else b
theorem cmpB_le {a b : Nat} : cmpB a b ≤ 0 ↔ key a ≤ key b := by unfold cmpB cmpI; split <;> (try split) <;> omega
theorem cmpB_ge {a b : Nat} : 0 ≤ cmpB a b ↔ key b ≤ key a := by unfold cmpB cmpI; split <;> (try split) <;> omega
theorem rLeastB_lt {a b : Nat} (ha : a < 18446744073709551616) (hb : b < 18446744073709551616) : rLeastB a b < 18446744073709551616 := by unfold rLeastB; split <;> assumption
def rClampB (x lo hi : Nat) : Nat := if key hi < key lo then 0 else rMostB lo (rLeastB x hi)
theorem ofB_lt (k : Int) (h0 : -9223372036854775808 ≤ k) (h1 : k ≤ 9223372036854775807) : ofB k < 18446744073709551616 := by unfold ofB; split <;> (try split) <;> (try split) <;> omega
/-- the number with a key has that key -/
theorem key_of {k : Int} (h : hasB k = true) : key (ofB k) = k := by
  unfold hasB at h
  simp at h
  by_cases c1 : k = 9223372036854775807
  · subst c1; decide +kernel
  · unfold ofB; rw [if_neg c1, if_neg (by omega)]
    by_cases c4 : k < 0
    · rw [if_pos c4]
      have e1 : rung (9223372036854775808 + (-1 - k)).toNat = (-1 - k).toNat := by unfold rung; omega
      have e2 : sgn (9223372036854775808 + (-1 - k)).toNat = true := by unfold sgn; simp; omega
      have e3 : nan (9223372036854775808 + (-1 - k)).toNat = false := by unfold nan; rw [e1]; simp; omega
      unfold key; rw [e1, e2, e3]; simp; omega
    · rw [if_neg c4]
      have e1 : rung k.toNat = k.toNat := by unfold rung; omega
      have e2 : sgn k.toNat = false := by unfold sgn; simp; omega
      have e3 : nan k.toNat = false := by unfold nan; rw [e1]; simp; omega
      unfold key; rw [e1, e2, e3]; simp; omega
/-- a number's key leads to it -/
theorem of_key {b : Nat} (hb : b < 18446744073709551616) : hasB (key b) = true ∧ val (ofB (key b)) = val b := by
  cases hn : nan b
  · have hk := key_le hn
    refine ⟨by unfold hasB; simp; omega, ?_⟩
    have e : ofB (key b) = b := by
      have hr := rung_lt b
      unfold ofB
      rw [if_neg (by omega), if_neg (by omega)]
      cases hs : sgn b
      · have e0 := sgn_false hb hs
        have : key b = rung b := by simp [key, hn, hs]
        rw [this, if_neg (by omega)]; omega
      · have e0 := sgn_true hb hs
        have : key b = -1 - rung b := by simp [key, hn, hs]
        rw [this, if_pos (by omega)]; omega
    rw [e]
  · rw [key_nan hn]
    exact ⟨by decide +kernel, by rw [show val b = none by simp [val, hn]]; decide +kernel⟩

theorem mid_eq {lo hi : Int} (h : lo < hi) (h1 : -9218868437227405313 ≤ lo) (h4 : hi ≤ 9218868437227405312) : wrap64 (lo + wrap64 (IntKind.u64.wrap ((IntKind.u64.wrap (IntKind.u64.wrap hi - IntKind.u64.wrap lo)).tdiv 2))) = lo + (hi - lo) / 2 := by
  have e : IntKind.u64.wrap (IntKind.u64.wrap hi - IntKind.u64.wrap lo) = hi - lo := by simp only [IntKind.wrap_u64]; omega
  rw [e, Int.tdiv_eq_ediv_of_nonneg (by omega)]
  simp only [IntKind.wrap_u64, wrap64]; omega
theorem mid_le {lo hi : Int} (h : lo < hi) : lo ≤ lo + (hi - lo) / 2 ∧ lo + (hi - lo) / 2 < hi := by omega
end Go.Proofs.Ytegloiojhimoeaa
