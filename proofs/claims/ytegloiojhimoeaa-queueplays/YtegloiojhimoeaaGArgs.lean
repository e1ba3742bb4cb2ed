/- Small lemmas on keys and values for gauge's laws. No statement of the seat is proved here. -/
import Derived.Test.YtegloiojhimoeaaGNum
import Derived.Test.YtegloiojhimoeaaArgs
import Derived.ChangeMaps5
namespace Go.Proofs.Ytegloiojhimoeaa
open Go.RowKit G

theorem float_lt {b : Nat} (h : (Lit.float .f64 b).wf = true) : b < 18446744073709551616 := by simpa [Lit.wf] using h
theorem val_key {a b : Nat} (ha : a < 18446744073709551616) (hb : b < 18446744073709551616) (h : key a = key b) : val a = val b := by
  rw [← (of_key ha).2, ← (of_key hb).2, h]
theorem same_refl (a : Nat) : sameB a a = true := by simp [sameB]
theorem same_key {a b : Nat} (ha : a < 18446744073709551616) (hb : b < 18446744073709551616) (h : key a = key b) : sameB a b = true := by simp [sameB, val_key ha hb h]
theorem same_val {a b : Nat} (h : val a = val b) : sameB a b = true := by simp [sameB, h]
theorem key_least (a b : Nat) : key (leastB a b) = min (key a) (key b) := by unfold leastB; split <;> omega
theorem key_most (a b : Nat) : key (mostB a b) = max (key a) (key b) := by unfold mostB; split <;> omega
theorem key_rLeast (a b : Nat) : key (rLeastB a b) = min (key a) (key b) := by unfold rLeastB; split <;> omega
theorem key_rMost (a b : Nat) : key (rMostB a b) = max (key a) (key b) := by unfold rMostB; split <;> omega
theorem rMostB_lt {a b : Nat} (ha : a < 18446744073709551616) (hb : b < 18446744073709551616) : rMostB a b < 18446744073709551616 := by unfold rMostB; split <;> assumption
theorem same_least {a b : Nat} (ha : a < 18446744073709551616) (hb : b < 18446744073709551616) : sameB (leastB a b) (rLeastB a b) = true :=
  same_key (leastB_lt ha hb) (rLeastB_lt ha hb) (by rw [key_least, key_rLeast])
theorem same_most {a b : Nat} (ha : a < 18446744073709551616) (hb : b < 18446744073709551616) : sameB (mostB a b) (rMostB a b) = true :=
  same_key (mostB_lt ha hb) (rMostB_lt ha hb) (by rw [key_most, key_rMost])
theorem clampB_lt {x lo hi : Nat} (hx : x < 18446744073709551616) (hl : lo < 18446744073709551616) (hh : hi < 18446744073709551616) : clampB x lo hi < 18446744073709551616 := by
  unfold clampB; split
  · decide
  · exact leastB_lt (mostB_lt hx hl) hh
theorem rClampB_lt {x lo hi : Nat} (hx : x < 18446744073709551616) (hl : lo < 18446744073709551616) (hh : hi < 18446744073709551616) : rClampB x lo hi < 18446744073709551616 := by
  unfold rClampB; split
  · decide
  · exact rMostB_lt hl (rLeastB_lt hx hh)
theorem same_clamp {x lo hi : Nat} (hx : x < 18446744073709551616) (hl : lo < 18446744073709551616) (hh : hi < 18446744073709551616) : sameB (rClampB x lo hi) (clampB x lo hi) = true := by
  refine same_key (rClampB_lt hx hl hh) (clampB_lt hx hl hh) ?_
  unfold rClampB clampB
  split
  · rfl
  · rw [key_least, key_most, key_rMost, key_rLeast]; omega
end Go.Proofs.Ytegloiojhimoeaa
