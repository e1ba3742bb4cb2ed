/- The order of all numbers is one: of two unlike numbers one stands ahead, a key is a number's place, the next key is the next number: the law cisternlaw04.GaugeWhole returns true at every input. No condition. -/
import Derived.Test.YtpnihbicncioaaaGArgs
namespace Go.Proofs.Ytpnihbicncioaaa.gaugeWhole
open Go.RowKit Go.ChangeShapes Go.WideShapes Go.ChangeAt G

theorem own : ownKnob Try.prog.godebug = none := by kernel_rfl
theorem ofE_key {b : Nat} (hb : b < 18446744073709551616) : ofE (key b) = 0 := by simp [ofE, (of_key hb).1]
theorem cmp_back {b : Nat} (hb : b < 18446744073709551616) : cmpB (ofB (key b)) b = 0 := by unfold cmpB; rw [key_of (of_key hb).1]; simp [cmpI]
theorem same_back {b : Nat} (hb : b < 18446744073709551616) : sameB (ofB (key b)) b = true := same_val (of_key hb).2
theorem key_bounds (b : Nat) : -9223372036854775808 ≤ key b ∧ key b ≤ 9223372036854775807 := by
  cases hn : nan b
  · have := key_le hn; omega
  · rw [key_nan hn]; omega
theorem has_next {k : Int} (h0 : 0 ≤ k) (h1 : k ≤ 9218868437227405311) : hasB (k + 1) = true := by unfold hasB; simp; omega
theorem ofE_next {k : Int} (h0 : 0 ≤ k) (h1 : k ≤ 9218868437227405311) : ofE (k + 1) = 0 := by simp [ofE, has_next h0 h1]

set_option maxRecDepth 20000 in
set_option maxHeartbeats 800000 in
theorem walkAN (a b c : Nat) (ha : a < 18446744073709551616) (hb : b < 18446744073709551616) (hc : c < 18446744073709551616) (W : World) (h : key b < key a) (hi : key a < 0) :
    Calls Try.prog 6 #[.float .f64 a, .float .f64 b, .float .f64 c] W fun e w' => e = .returned (.bool true) ∧ Below W.heap.size W w' := by
  have q1 : cmpB a b = 1 := by unfold cmpB cmpI; rw [if_neg (by omega), if_pos (by omega)]
  have q2 : cmpB b a = -1 := by unfold cmpB cmpI; rw [if_pos (by omega)]
  have f1 : decide (key a < key b) = false := by simp; omega
  have f2 : (key a == key b) = false := by simp; omega
  have g1 := ofE_key ha
  have g2 := cmp_back ha
  have g3 := same_back ha
  obtain ⟨k0, k1⟩ := key_bounds a
  clear h
  have k0' := k0
  go_enter Try.func6, Try.ntmps6
  go_wp2_with fail
  refine (known_any _).mono ?_
  rintro e _ ⟨rfl, rfl⟩
  go_wp2_with fail
  refine (cmp_any _ _ _ ha hb).mono ?_
  rintro e _ ⟨rfl, rfl⟩
  go_wp2_with fail
  refine (cmp_any _ _ _ hb ha).mono ?_
  rintro e _ ⟨rfl, rfl⟩
  go_wp2_with fail
  refine (cmp_any _ _ _ hb hc).mono ?_
  rintro e _ ⟨rfl, rfl⟩
  go_wp2_with fail
  refine (cmp_any _ _ _ ha hc).mono ?_
  rintro e _ ⟨rfl, rfl⟩
  go_wp2_with fail
  refine (key_any _ _ ha).mono ?_
  rintro e _ ⟨rfl, rfl⟩
  go_wp2_with fail
  refine (key_any _ _ hb).mono ?_
  rintro e _ ⟨rfl, rfl⟩
  go_wp2_with fail
  refine (of_any _ _ k0 k1).mono ?_
  rintro e _ ⟨rfl, rfl⟩
  go_wp2_with fail
  refine (cmp_any _ _ _ (ofB_lt _ k0 k1) ha).mono ?_
  rintro e _ ⟨rfl, rfl⟩
  go_wp2_with fail
  refine (same_any _ _ _).mono ?_
  rintro e _ ⟨rfl, rfl⟩
  go_wp2
  go_ret
  exact ⟨rfl, Below.refl _ _⟩

set_option maxRecDepth 20000 in
set_option maxHeartbeats 800000 in
theorem walkAP (a b c : Nat) (ha : a < 18446744073709551616) (hb : b < 18446744073709551616) (hc : c < 18446744073709551616) (W : World) (h : key b < key a) (hi : 9218868437227405311 < key a) :
    Calls Try.prog 6 #[.float .f64 a, .float .f64 b, .float .f64 c] W fun e w' => e = .returned (.bool true) ∧ Below W.heap.size W w' := by
  have q1 : cmpB a b = 1 := by unfold cmpB cmpI; rw [if_neg (by omega), if_pos (by omega)]
  have q2 : cmpB b a = -1 := by unfold cmpB cmpI; rw [if_pos (by omega)]
  have f1 : decide (key a < key b) = false := by simp; omega
  have f2 : (key a == key b) = false := by simp; omega
  have g1 := ofE_key ha
  have g2 := cmp_back ha
  have g3 := same_back ha
  obtain ⟨k0, k1⟩ := key_bounds a
  clear h
  have k0' := k0
  go_enter Try.func6, Try.ntmps6
  go_wp2_with fail
  refine (known_any _).mono ?_
  rintro e _ ⟨rfl, rfl⟩
  go_wp2_with fail
  refine (cmp_any _ _ _ ha hb).mono ?_
  rintro e _ ⟨rfl, rfl⟩
  go_wp2_with fail
  refine (cmp_any _ _ _ hb ha).mono ?_
  rintro e _ ⟨rfl, rfl⟩
  go_wp2_with fail
  refine (cmp_any _ _ _ hb hc).mono ?_
  rintro e _ ⟨rfl, rfl⟩
  go_wp2_with fail
  refine (cmp_any _ _ _ ha hc).mono ?_
  rintro e _ ⟨rfl, rfl⟩
  go_wp2_with fail
  refine (key_any _ _ ha).mono ?_
  rintro e _ ⟨rfl, rfl⟩
  go_wp2_with fail
  refine (key_any _ _ hb).mono ?_
  rintro e _ ⟨rfl, rfl⟩
  go_wp2_with fail
  refine (of_any _ _ k0 k1).mono ?_
  rintro e _ ⟨rfl, rfl⟩
  go_wp2_with fail
  refine (cmp_any _ _ _ (ofB_lt _ k0 k1) ha).mono ?_
  rintro e _ ⟨rfl, rfl⟩
  go_wp2_with fail
  refine (same_any _ _ _).mono ?_
  rintro e _ ⟨rfl, rfl⟩
  go_wp2
  go_ret
  exact ⟨rfl, Below.refl _ _⟩

set_option maxRecDepth 20000 in
set_option maxHeartbeats 800000 in
theorem walkAM (a b c : Nat) (ha : a < 18446744073709551616) (hb : b < 18446744073709551616) (hc : c < 18446744073709551616) (W : World) (h : key b < key a) (hi : 0 ≤ key a) (hj : key a ≤ 9218868437227405311) :
    Calls Try.prog 6 #[.float .f64 a, .float .f64 b, .float .f64 c] W fun e w' => e = .returned (.bool true) ∧ Below W.heap.size W w' := by
  have q1 : cmpB a b = 1 := by unfold cmpB cmpI; rw [if_neg (by omega), if_pos (by omega)]
  have q2 : cmpB b a = -1 := by unfold cmpB cmpI; rw [if_pos (by omega)]
  have f1 : decide (key a < key b) = false := by simp; omega
  have f2 : (key a == key b) = false := by simp; omega
  have g1 := ofE_key ha
  have g2 := cmp_back ha
  have g3 := same_back ha
  obtain ⟨k0, k1⟩ := key_bounds a
  have n1 := ofE_next hi hj
  have n2 : cmpB a (ofB (key a + 1)) = -1 := by unfold cmpB; rw [key_of (has_next hi hj)]; unfold cmpI; rw [if_pos (by omega)]
  have n3 : (key (ofB (key a + 1)) == key a + 1) = true := by rw [key_of (has_next hi hj)]; simp
  have n5 := ofB_lt (key a + 1) (by omega) (by omega)
  clear h
  have k0' := k0
  go_enter Try.func6, Try.ntmps6
  go_wp2_with fail
  refine (known_any _).mono ?_
  rintro e _ ⟨rfl, rfl⟩
  go_wp2_with fail
  refine (cmp_any _ _ _ ha hb).mono ?_
  rintro e _ ⟨rfl, rfl⟩
  go_wp2_with fail
  refine (cmp_any _ _ _ hb ha).mono ?_
  rintro e _ ⟨rfl, rfl⟩
  go_wp2_with fail
  refine (cmp_any _ _ _ hb hc).mono ?_
  rintro e _ ⟨rfl, rfl⟩
  go_wp2_with fail
  refine (cmp_any _ _ _ ha hc).mono ?_
  rintro e _ ⟨rfl, rfl⟩
  go_wp2_with fail
  refine (key_any _ _ ha).mono ?_
  rintro e _ ⟨rfl, rfl⟩
  go_wp2_with fail
  refine (key_any _ _ hb).mono ?_
  rintro e _ ⟨rfl, rfl⟩
  go_wp2_with fail
  refine (of_any _ _ k0 k1).mono ?_
  rintro e _ ⟨rfl, rfl⟩
  go_wp2_with fail
  refine (cmp_any _ _ _ (ofB_lt _ k0 k1) ha).mono ?_
  rintro e _ ⟨rfl, rfl⟩
  go_wp2_with fail
  refine (same_any _ _ _).mono ?_
  rintro e _ ⟨rfl, rfl⟩
  go_wp2_with fail
  refine (of_any _ _ (by omega) (by omega)).mono ?_
  rintro e _ ⟨rfl, rfl⟩
  go_wp2_with fail
  refine (cmp_any _ _ _ ha n5).mono ?_
  rintro e _ ⟨rfl, rfl⟩
  go_wp2_with fail
  refine (key_any _ _ n5).mono ?_
  rintro e _ ⟨rfl, rfl⟩
  go_wp2_with fail
  refine (cmp_any _ _ _ hb ha).mono ?_
  rintro e _ ⟨rfl, rfl⟩
  go_wp2
  go_ret
  exact ⟨rfl, Below.refl _ _⟩

set_option maxRecDepth 20000 in
set_option maxHeartbeats 800000 in
theorem walkB1N (a b c : Nat) (ha : a < 18446744073709551616) (hb : b < 18446744073709551616) (hc : c < 18446744073709551616) (W : World) (h : key a < key b) (h2 : key c < key b) (hi : key a < 0) :
    Calls Try.prog 6 #[.float .f64 a, .float .f64 b, .float .f64 c] W fun e w' => e = .returned (.bool true) ∧ Below W.heap.size W w' := by
  have q1 : cmpB a b = -1 := by unfold cmpB cmpI; rw [if_pos (by omega)]
  have q2 : cmpB b a = 1 := by unfold cmpB cmpI; rw [if_neg (by omega), if_pos (by omega)]
  have q3 : cmpB b c = 1 := by unfold cmpB cmpI; rw [if_neg (by omega), if_pos (by omega)]
  have f1 : decide (key a < key b) = true := by simp; omega
  have f2 : (key a == key b) = false := by simp; omega
  have g1 := ofE_key ha
  have g2 := cmp_back ha
  have g3 := same_back ha
  obtain ⟨k0, k1⟩ := key_bounds a
  clear h h2
  have k0' := k0
  go_enter Try.func6, Try.ntmps6
  go_wp2_with fail
  refine (known_any _).mono ?_
  rintro e _ ⟨rfl, rfl⟩
  go_wp2_with fail
  refine (cmp_any _ _ _ ha hb).mono ?_
  rintro e _ ⟨rfl, rfl⟩
  go_wp2_with fail
  refine (cmp_any _ _ _ hb ha).mono ?_
  rintro e _ ⟨rfl, rfl⟩
  go_wp2_with fail
  refine (cmp_any _ _ _ hb hc).mono ?_
  rintro e _ ⟨rfl, rfl⟩
  go_wp2_with fail
  refine (cmp_any _ _ _ ha hc).mono ?_
  rintro e _ ⟨rfl, rfl⟩
  go_wp2_with fail
  refine (key_any _ _ ha).mono ?_
  rintro e _ ⟨rfl, rfl⟩
  go_wp2_with fail
  refine (key_any _ _ hb).mono ?_
  rintro e _ ⟨rfl, rfl⟩
  go_wp2_with fail
  refine (of_any _ _ k0 k1).mono ?_
  rintro e _ ⟨rfl, rfl⟩
  go_wp2_with fail
  refine (cmp_any _ _ _ (ofB_lt _ k0 k1) ha).mono ?_
  rintro e _ ⟨rfl, rfl⟩
  go_wp2_with fail
  refine (same_any _ _ _).mono ?_
  rintro e _ ⟨rfl, rfl⟩
  go_wp2
  go_ret
  exact ⟨rfl, Below.refl _ _⟩

set_option maxRecDepth 20000 in
set_option maxHeartbeats 800000 in
theorem walkB1P (a b c : Nat) (ha : a < 18446744073709551616) (hb : b < 18446744073709551616) (hc : c < 18446744073709551616) (W : World) (h : key a < key b) (h2 : key c < key b) (hi : 9218868437227405311 < key a) :
    Calls Try.prog 6 #[.float .f64 a, .float .f64 b, .float .f64 c] W fun e w' => e = .returned (.bool true) ∧ Below W.heap.size W w' := by
  have q1 : cmpB a b = -1 := by unfold cmpB cmpI; rw [if_pos (by omega)]
  have q2 : cmpB b a = 1 := by unfold cmpB cmpI; rw [if_neg (by omega), if_pos (by omega)]
  have q3 : cmpB b c = 1 := by unfold cmpB cmpI; rw [if_neg (by omega), if_pos (by omega)]
  have f1 : decide (key a < key b) = true := by simp; omega
  have f2 : (key a == key b) = false := by simp; omega
  have g1 := ofE_key ha
  have g2 := cmp_back ha
  have g3 := same_back ha
  obtain ⟨k0, k1⟩ := key_bounds a
  clear h h2
  have k0' := k0
  go_enter Try.func6, Try.ntmps6
  go_wp2_with fail
  refine (known_any _).mono ?_
  rintro e _ ⟨rfl, rfl⟩
  go_wp2_with fail
  refine (cmp_any _ _ _ ha hb).mono ?_
  rintro e _ ⟨rfl, rfl⟩
  go_wp2_with fail
  refine (cmp_any _ _ _ hb ha).mono ?_
  rintro e _ ⟨rfl, rfl⟩
  go_wp2_with fail
  refine (cmp_any _ _ _ hb hc).mono ?_
  rintro e _ ⟨rfl, rfl⟩
  go_wp2_with fail
  refine (cmp_any _ _ _ ha hc).mono ?_
  rintro e _ ⟨rfl, rfl⟩
  go_wp2_with fail
  refine (key_any _ _ ha).mono ?_
  rintro e _ ⟨rfl, rfl⟩
  go_wp2_with fail
  refine (key_any _ _ hb).mono ?_
  rintro e _ ⟨rfl, rfl⟩
  go_wp2_with fail
  refine (of_any _ _ k0 k1).mono ?_
  rintro e _ ⟨rfl, rfl⟩
  go_wp2_with fail
  refine (cmp_any _ _ _ (ofB_lt _ k0 k1) ha).mono ?_
  rintro e _ ⟨rfl, rfl⟩
  go_wp2_with fail
  refine (same_any _ _ _).mono ?_
  rintro e _ ⟨rfl, rfl⟩
  go_wp2
  go_ret
  exact ⟨rfl, Below.refl _ _⟩

set_option maxRecDepth 20000 in
set_option maxHeartbeats 800000 in
theorem walkB1M (a b c : Nat) (ha : a < 18446744073709551616) (hb : b < 18446744073709551616) (hc : c < 18446744073709551616) (W : World) (h : key a < key b) (h2 : key c < key b) (hi : 0 ≤ key a) (hj : key a ≤ 9218868437227405311) :
    Calls Try.prog 6 #[.float .f64 a, .float .f64 b, .float .f64 c] W fun e w' => e = .returned (.bool true) ∧ Below W.heap.size W w' := by
  have q1 : cmpB a b = -1 := by unfold cmpB cmpI; rw [if_pos (by omega)]
  have q2 : cmpB b a = 1 := by unfold cmpB cmpI; rw [if_neg (by omega), if_pos (by omega)]
  have q3 : cmpB b c = 1 := by unfold cmpB cmpI; rw [if_neg (by omega), if_pos (by omega)]
  have f1 : decide (key a < key b) = true := by simp; omega
  have f2 : (key a == key b) = false := by simp; omega
  have g1 := ofE_key ha
  have g2 := cmp_back ha
  have g3 := same_back ha
  obtain ⟨k0, k1⟩ := key_bounds a
  have n1 := ofE_next hi hj
  have n2 : cmpB a (ofB (key a + 1)) = -1 := by unfold cmpB; rw [key_of (has_next hi hj)]; unfold cmpI; rw [if_pos (by omega)]
  have n3 : (key (ofB (key a + 1)) == key a + 1) = true := by rw [key_of (has_next hi hj)]; simp
  have n5 := ofB_lt (key a + 1) (by omega) (by omega)
  have n4 : 0 ≤ cmpB b (ofB (key a + 1)) := by rw [cmpB_ge, key_of (has_next hi hj)]; omega
  clear h h2
  have k0' := k0
  go_enter Try.func6, Try.ntmps6
  go_wp2_with fail
  refine (known_any _).mono ?_
  rintro e _ ⟨rfl, rfl⟩
  go_wp2_with fail
  refine (cmp_any _ _ _ ha hb).mono ?_
  rintro e _ ⟨rfl, rfl⟩
  go_wp2_with fail
  refine (cmp_any _ _ _ hb ha).mono ?_
  rintro e _ ⟨rfl, rfl⟩
  go_wp2_with fail
  refine (cmp_any _ _ _ hb hc).mono ?_
  rintro e _ ⟨rfl, rfl⟩
  go_wp2_with fail
  refine (cmp_any _ _ _ ha hc).mono ?_
  rintro e _ ⟨rfl, rfl⟩
  go_wp2_with fail
  refine (key_any _ _ ha).mono ?_
  rintro e _ ⟨rfl, rfl⟩
  go_wp2_with fail
  refine (key_any _ _ hb).mono ?_
  rintro e _ ⟨rfl, rfl⟩
  go_wp2_with fail
  refine (of_any _ _ k0 k1).mono ?_
  rintro e _ ⟨rfl, rfl⟩
  go_wp2_with fail
  refine (cmp_any _ _ _ (ofB_lt _ k0 k1) ha).mono ?_
  rintro e _ ⟨rfl, rfl⟩
  go_wp2_with fail
  refine (same_any _ _ _).mono ?_
  rintro e _ ⟨rfl, rfl⟩
  go_wp2_with fail
  refine (of_any _ _ (by omega) (by omega)).mono ?_
  rintro e _ ⟨rfl, rfl⟩
  go_wp2_with fail
  refine (cmp_any _ _ _ ha n5).mono ?_
  rintro e _ ⟨rfl, rfl⟩
  go_wp2_with fail
  refine (key_any _ _ n5).mono ?_
  rintro e _ ⟨rfl, rfl⟩
  go_wp2_with fail
  refine (cmp_any _ _ _ hb ha).mono ?_
  rintro e _ ⟨rfl, rfl⟩
  go_wp2_with fail
  refine (cmp_any _ _ _ hb n5).mono ?_
  rintro e _ ⟨rfl, rfl⟩
  go_wp2
  go_ret
  exact ⟨rfl, Below.refl _ _⟩

set_option maxRecDepth 20000 in
set_option maxHeartbeats 800000 in
theorem walkB2N (a b c : Nat) (ha : a < 18446744073709551616) (hb : b < 18446744073709551616) (hc : c < 18446744073709551616) (W : World) (h : key a = key b) (h2 : key c < key b) (hi : key a < 0) :
    Calls Try.prog 6 #[.float .f64 a, .float .f64 b, .float .f64 c] W fun e w' => e = .returned (.bool true) ∧ Below W.heap.size W w' := by
  have q1 : cmpB a b = 0 := by unfold cmpB cmpI; rw [if_neg (by omega), if_neg (by omega)]
  have q2 : cmpB b a = 0 := by unfold cmpB cmpI; rw [if_neg (by omega), if_neg (by omega)]
  have q3 : cmpB b c = 1 := by unfold cmpB cmpI; rw [if_neg (by omega), if_pos (by omega)]
  have f1 : decide (key a < key b) = false := by simp; omega
  have f2 : (key a == key b) = true := by simp; omega
  have g1 := ofE_key ha
  have g2 := cmp_back ha
  have g3 := same_back ha
  obtain ⟨k0, k1⟩ := key_bounds a
  clear h h2
  have k0' := k0
  go_enter Try.func6, Try.ntmps6
  go_wp2_with fail
  refine (known_any _).mono ?_
  rintro e _ ⟨rfl, rfl⟩
  go_wp2_with fail
  refine (cmp_any _ _ _ ha hb).mono ?_
  rintro e _ ⟨rfl, rfl⟩
  go_wp2_with fail
  refine (cmp_any _ _ _ hb ha).mono ?_
  rintro e _ ⟨rfl, rfl⟩
  go_wp2_with fail
  refine (cmp_any _ _ _ hb hc).mono ?_
  rintro e _ ⟨rfl, rfl⟩
  go_wp2_with fail
  refine (cmp_any _ _ _ ha hc).mono ?_
  rintro e _ ⟨rfl, rfl⟩
  go_wp2_with fail
  refine (key_any _ _ ha).mono ?_
  rintro e _ ⟨rfl, rfl⟩
  go_wp2_with fail
  refine (key_any _ _ hb).mono ?_
  rintro e _ ⟨rfl, rfl⟩
  go_wp2_with fail
  refine (of_any _ _ k0 k1).mono ?_
  rintro e _ ⟨rfl, rfl⟩
  go_wp2_with fail
  refine (cmp_any _ _ _ (ofB_lt _ k0 k1) ha).mono ?_
  rintro e _ ⟨rfl, rfl⟩
  go_wp2_with fail
  refine (same_any _ _ _).mono ?_
  rintro e _ ⟨rfl, rfl⟩
  go_wp2
  go_ret
  exact ⟨rfl, Below.refl _ _⟩

set_option maxRecDepth 20000 in
set_option maxHeartbeats 800000 in
theorem walkB2P (a b c : Nat) (ha : a < 18446744073709551616) (hb : b < 18446744073709551616) (hc : c < 18446744073709551616) (W : World) (h : key a = key b) (h2 : key c < key b) (hi : 9218868437227405311 < key a) :
    Calls Try.prog 6 #[.float .f64 a, .float .f64 b, .float .f64 c] W fun e w' => e = .returned (.bool true) ∧ Below W.heap.size W w' := by
  have q1 : cmpB a b = 0 := by unfold cmpB cmpI; rw [if_neg (by omega), if_neg (by omega)]
  have q2 : cmpB b a = 0 := by unfold cmpB cmpI; rw [if_neg (by omega), if_neg (by omega)]
  have q3 : cmpB b c = 1 := by unfold cmpB cmpI; rw [if_neg (by omega), if_pos (by omega)]
  have f1 : decide (key a < key b) = false := by simp; omega
  have f2 : (key a == key b) = true := by simp; omega
  have g1 := ofE_key ha
  have g2 := cmp_back ha
  have g3 := same_back ha
  obtain ⟨k0, k1⟩ := key_bounds a
  clear h h2
  have k0' := k0
  go_enter Try.func6, Try.ntmps6
  go_wp2_with fail
  refine (known_any _).mono ?_
  rintro e _ ⟨rfl, rfl⟩
  go_wp2_with fail
  refine (cmp_any _ _ _ ha hb).mono ?_
  rintro e _ ⟨rfl, rfl⟩
  go_wp2_with fail
  refine (cmp_any _ _ _ hb ha).mono ?_
  rintro e _ ⟨rfl, rfl⟩
  go_wp2_with fail
  refine (cmp_any _ _ _ hb hc).mono ?_
  rintro e _ ⟨rfl, rfl⟩
  go_wp2_with fail
  refine (cmp_any _ _ _ ha hc).mono ?_
  rintro e _ ⟨rfl, rfl⟩
  go_wp2_with fail
  refine (key_any _ _ ha).mono ?_
  rintro e _ ⟨rfl, rfl⟩
  go_wp2_with fail
  refine (key_any _ _ hb).mono ?_
  rintro e _ ⟨rfl, rfl⟩
  go_wp2_with fail
  refine (of_any _ _ k0 k1).mono ?_
  rintro e _ ⟨rfl, rfl⟩
  go_wp2_with fail
  refine (cmp_any _ _ _ (ofB_lt _ k0 k1) ha).mono ?_
  rintro e _ ⟨rfl, rfl⟩
  go_wp2_with fail
  refine (same_any _ _ _).mono ?_
  rintro e _ ⟨rfl, rfl⟩
  go_wp2
  go_ret
  exact ⟨rfl, Below.refl _ _⟩

set_option maxRecDepth 20000 in
set_option maxHeartbeats 800000 in
theorem walkB2M (a b c : Nat) (ha : a < 18446744073709551616) (hb : b < 18446744073709551616) (hc : c < 18446744073709551616) (W : World) (h : key a = key b) (h2 : key c < key b) (hi : 0 ≤ key a) (hj : key a ≤ 9218868437227405311) :
    Calls Try.prog 6 #[.float .f64 a, .float .f64 b, .float .f64 c] W fun e w' => e = .returned (.bool true) ∧ Below W.heap.size W w' := by
  have q1 : cmpB a b = 0 := by unfold cmpB cmpI; rw [if_neg (by omega), if_neg (by omega)]
  have q2 : cmpB b a = 0 := by unfold cmpB cmpI; rw [if_neg (by omega), if_neg (by omega)]
  have q3 : cmpB b c = 1 := by unfold cmpB cmpI; rw [if_neg (by omega), if_pos (by omega)]
  have f1 : decide (key a < key b) = false := by simp; omega
  have f2 : (key a == key b) = true := by simp; omega
  have g1 := ofE_key ha
  have g2 := cmp_back ha
  have g3 := same_back ha
  obtain ⟨k0, k1⟩ := key_bounds a
  have n1 := ofE_next hi hj
  have n2 : cmpB a (ofB (key a + 1)) = -1 := by unfold cmpB; rw [key_of (has_next hi hj)]; unfold cmpI; rw [if_pos (by omega)]
  have n3 : (key (ofB (key a + 1)) == key a + 1) = true := by rw [key_of (has_next hi hj)]; simp
  have n5 := ofB_lt (key a + 1) (by omega) (by omega)
  clear h h2
  have k0' := k0
  go_enter Try.func6, Try.ntmps6
  go_wp2_with fail
  refine (known_any _).mono ?_
  rintro e _ ⟨rfl, rfl⟩
  go_wp2_with fail
  refine (cmp_any _ _ _ ha hb).mono ?_
  rintro e _ ⟨rfl, rfl⟩
  go_wp2_with fail
  refine (cmp_any _ _ _ hb ha).mono ?_
  rintro e _ ⟨rfl, rfl⟩
  go_wp2_with fail
  refine (cmp_any _ _ _ hb hc).mono ?_
  rintro e _ ⟨rfl, rfl⟩
  go_wp2_with fail
  refine (cmp_any _ _ _ ha hc).mono ?_
  rintro e _ ⟨rfl, rfl⟩
  go_wp2_with fail
  refine (key_any _ _ ha).mono ?_
  rintro e _ ⟨rfl, rfl⟩
  go_wp2_with fail
  refine (key_any _ _ hb).mono ?_
  rintro e _ ⟨rfl, rfl⟩
  go_wp2_with fail
  refine (of_any _ _ k0 k1).mono ?_
  rintro e _ ⟨rfl, rfl⟩
  go_wp2_with fail
  refine (cmp_any _ _ _ (ofB_lt _ k0 k1) ha).mono ?_
  rintro e _ ⟨rfl, rfl⟩
  go_wp2_with fail
  refine (same_any _ _ _).mono ?_
  rintro e _ ⟨rfl, rfl⟩
  go_wp2_with fail
  refine (of_any _ _ (by omega) (by omega)).mono ?_
  rintro e _ ⟨rfl, rfl⟩
  go_wp2_with fail
  refine (cmp_any _ _ _ ha n5).mono ?_
  rintro e _ ⟨rfl, rfl⟩
  go_wp2_with fail
  refine (key_any _ _ n5).mono ?_
  rintro e _ ⟨rfl, rfl⟩
  go_wp2_with fail
  refine (cmp_any _ _ _ hb ha).mono ?_
  rintro e _ ⟨rfl, rfl⟩
  go_wp2
  go_ret
  exact ⟨rfl, Below.refl _ _⟩

set_option maxRecDepth 20000 in
set_option maxHeartbeats 800000 in
theorem walkC1N (a b c : Nat) (ha : a < 18446744073709551616) (hb : b < 18446744073709551616) (hc : c < 18446744073709551616) (W : World) (h : key a < key b) (h2 : key b ≤ key c) (hi : key a < 0) :
    Calls Try.prog 6 #[.float .f64 a, .float .f64 b, .float .f64 c] W fun e w' => e = .returned (.bool true) ∧ Below W.heap.size W w' := by
  have q1 : cmpB a b = -1 := by unfold cmpB cmpI; rw [if_pos (by omega)]
  have q2 : cmpB b a = 1 := by unfold cmpB cmpI; rw [if_neg (by omega), if_pos (by omega)]
  have q3 : cmpB b c ≤ 0 := cmpB_le.2 h2
  have q4 : cmpB a c = -1 := by unfold cmpB cmpI; rw [if_pos (by omega)]
  have f1 : decide (key a < key b) = true := by simp; omega
  have f2 : (key a == key b) = false := by simp; omega
  have g1 := ofE_key ha
  have g2 := cmp_back ha
  have g3 := same_back ha
  obtain ⟨k0, k1⟩ := key_bounds a
  clear h h2
  have k0' := k0
  go_enter Try.func6, Try.ntmps6
  go_wp2_with fail
  refine (known_any _).mono ?_
  rintro e _ ⟨rfl, rfl⟩
  go_wp2_with fail
  refine (cmp_any _ _ _ ha hb).mono ?_
  rintro e _ ⟨rfl, rfl⟩
  go_wp2_with fail
  refine (cmp_any _ _ _ hb ha).mono ?_
  rintro e _ ⟨rfl, rfl⟩
  go_wp2_with fail
  refine (cmp_any _ _ _ hb hc).mono ?_
  rintro e _ ⟨rfl, rfl⟩
  go_wp2_with fail
  refine (cmp_any _ _ _ ha hc).mono ?_
  rintro e _ ⟨rfl, rfl⟩
  go_wp2_with fail
  refine (key_any _ _ ha).mono ?_
  rintro e _ ⟨rfl, rfl⟩
  go_wp2_with fail
  refine (key_any _ _ hb).mono ?_
  rintro e _ ⟨rfl, rfl⟩
  go_wp2_with fail
  refine (of_any _ _ k0 k1).mono ?_
  rintro e _ ⟨rfl, rfl⟩
  go_wp2_with fail
  refine (cmp_any _ _ _ (ofB_lt _ k0 k1) ha).mono ?_
  rintro e _ ⟨rfl, rfl⟩
  go_wp2_with fail
  refine (same_any _ _ _).mono ?_
  rintro e _ ⟨rfl, rfl⟩
  go_wp2
  go_ret
  exact ⟨rfl, Below.refl _ _⟩

set_option maxRecDepth 20000 in
set_option maxHeartbeats 800000 in
theorem walkC1P (a b c : Nat) (ha : a < 18446744073709551616) (hb : b < 18446744073709551616) (hc : c < 18446744073709551616) (W : World) (h : key a < key b) (h2 : key b ≤ key c) (hi : 9218868437227405311 < key a) :
    Calls Try.prog 6 #[.float .f64 a, .float .f64 b, .float .f64 c] W fun e w' => e = .returned (.bool true) ∧ Below W.heap.size W w' := by
  have q1 : cmpB a b = -1 := by unfold cmpB cmpI; rw [if_pos (by omega)]
  have q2 : cmpB b a = 1 := by unfold cmpB cmpI; rw [if_neg (by omega), if_pos (by omega)]
  have q3 : cmpB b c ≤ 0 := cmpB_le.2 h2
  have q4 : cmpB a c = -1 := by unfold cmpB cmpI; rw [if_pos (by omega)]
  have f1 : decide (key a < key b) = true := by simp; omega
  have f2 : (key a == key b) = false := by simp; omega
  have g1 := ofE_key ha
  have g2 := cmp_back ha
  have g3 := same_back ha
  obtain ⟨k0, k1⟩ := key_bounds a
  clear h h2
  have k0' := k0
  go_enter Try.func6, Try.ntmps6
  go_wp2_with fail
  refine (known_any _).mono ?_
  rintro e _ ⟨rfl, rfl⟩
  go_wp2_with fail
  refine (cmp_any _ _ _ ha hb).mono ?_
  rintro e _ ⟨rfl, rfl⟩
  go_wp2_with fail
  refine (cmp_any _ _ _ hb ha).mono ?_
  rintro e _ ⟨rfl, rfl⟩
  go_wp2_with fail
  refine (cmp_any _ _ _ hb hc).mono ?_
  rintro e _ ⟨rfl, rfl⟩
  go_wp2_with fail
  refine (cmp_any _ _ _ ha hc).mono ?_
  rintro e _ ⟨rfl, rfl⟩
  go_wp2_with fail
  refine (key_any _ _ ha).mono ?_
  rintro e _ ⟨rfl, rfl⟩
  go_wp2_with fail
  refine (key_any _ _ hb).mono ?_
  rintro e _ ⟨rfl, rfl⟩
  go_wp2_with fail
  refine (of_any _ _ k0 k1).mono ?_
  rintro e _ ⟨rfl, rfl⟩
  go_wp2_with fail
  refine (cmp_any _ _ _ (ofB_lt _ k0 k1) ha).mono ?_
  rintro e _ ⟨rfl, rfl⟩
  go_wp2_with fail
  refine (same_any _ _ _).mono ?_
  rintro e _ ⟨rfl, rfl⟩
  go_wp2
  go_ret
  exact ⟨rfl, Below.refl _ _⟩

set_option maxRecDepth 20000 in
set_option maxHeartbeats 800000 in
theorem walkC1M (a b c : Nat) (ha : a < 18446744073709551616) (hb : b < 18446744073709551616) (hc : c < 18446744073709551616) (W : World) (h : key a < key b) (h2 : key b ≤ key c) (hi : 0 ≤ key a) (hj : key a ≤ 9218868437227405311) :
    Calls Try.prog 6 #[.float .f64 a, .float .f64 b, .float .f64 c] W fun e w' => e = .returned (.bool true) ∧ Below W.heap.size W w' := by
  have q1 : cmpB a b = -1 := by unfold cmpB cmpI; rw [if_pos (by omega)]
  have q2 : cmpB b a = 1 := by unfold cmpB cmpI; rw [if_neg (by omega), if_pos (by omega)]
  have q3 : cmpB b c ≤ 0 := cmpB_le.2 h2
  have q4 : cmpB a c = -1 := by unfold cmpB cmpI; rw [if_pos (by omega)]
  have f1 : decide (key a < key b) = true := by simp; omega
  have f2 : (key a == key b) = false := by simp; omega
  have g1 := ofE_key ha
  have g2 := cmp_back ha
  have g3 := same_back ha
  obtain ⟨k0, k1⟩ := key_bounds a
  have n1 := ofE_next hi hj
  have n2 : cmpB a (ofB (key a + 1)) = -1 := by unfold cmpB; rw [key_of (has_next hi hj)]; unfold cmpI; rw [if_pos (by omega)]
  have n3 : (key (ofB (key a + 1)) == key a + 1) = true := by rw [key_of (has_next hi hj)]; simp
  have n5 := ofB_lt (key a + 1) (by omega) (by omega)
  have n4 : 0 ≤ cmpB b (ofB (key a + 1)) := by rw [cmpB_ge, key_of (has_next hi hj)]; omega
  clear h h2
  have k0' := k0
  go_enter Try.func6, Try.ntmps6
  go_wp2_with fail
  refine (known_any _).mono ?_
  rintro e _ ⟨rfl, rfl⟩
  go_wp2_with fail
  refine (cmp_any _ _ _ ha hb).mono ?_
  rintro e _ ⟨rfl, rfl⟩
  go_wp2_with fail
  refine (cmp_any _ _ _ hb ha).mono ?_
  rintro e _ ⟨rfl, rfl⟩
  go_wp2_with fail
  refine (cmp_any _ _ _ hb hc).mono ?_
  rintro e _ ⟨rfl, rfl⟩
  go_wp2_with fail
  refine (cmp_any _ _ _ ha hc).mono ?_
  rintro e _ ⟨rfl, rfl⟩
  go_wp2_with fail
  refine (key_any _ _ ha).mono ?_
  rintro e _ ⟨rfl, rfl⟩
  go_wp2_with fail
  refine (key_any _ _ hb).mono ?_
  rintro e _ ⟨rfl, rfl⟩
  go_wp2_with fail
  refine (of_any _ _ k0 k1).mono ?_
  rintro e _ ⟨rfl, rfl⟩
  go_wp2_with fail
  refine (cmp_any _ _ _ (ofB_lt _ k0 k1) ha).mono ?_
  rintro e _ ⟨rfl, rfl⟩
  go_wp2_with fail
  refine (same_any _ _ _).mono ?_
  rintro e _ ⟨rfl, rfl⟩
  go_wp2_with fail
  refine (of_any _ _ (by omega) (by omega)).mono ?_
  rintro e _ ⟨rfl, rfl⟩
  go_wp2_with fail
  refine (cmp_any _ _ _ ha n5).mono ?_
  rintro e _ ⟨rfl, rfl⟩
  go_wp2_with fail
  refine (key_any _ _ n5).mono ?_
  rintro e _ ⟨rfl, rfl⟩
  go_wp2_with fail
  refine (cmp_any _ _ _ hb ha).mono ?_
  rintro e _ ⟨rfl, rfl⟩
  go_wp2_with fail
  refine (cmp_any _ _ _ hb n5).mono ?_
  rintro e _ ⟨rfl, rfl⟩
  go_wp2
  go_ret
  exact ⟨rfl, Below.refl _ _⟩

set_option maxRecDepth 20000 in
set_option maxHeartbeats 800000 in
theorem walkC2N (a b c : Nat) (ha : a < 18446744073709551616) (hb : b < 18446744073709551616) (hc : c < 18446744073709551616) (W : World) (h : key a = key b) (h2 : key b ≤ key c) (hi : key a < 0) :
    Calls Try.prog 6 #[.float .f64 a, .float .f64 b, .float .f64 c] W fun e w' => e = .returned (.bool true) ∧ Below W.heap.size W w' := by
  have q1 : cmpB a b = 0 := by unfold cmpB cmpI; rw [if_neg (by omega), if_neg (by omega)]
  have q2 : cmpB b a = 0 := by unfold cmpB cmpI; rw [if_neg (by omega), if_neg (by omega)]
  have q3 : cmpB b c ≤ 0 := cmpB_le.2 h2
  have q4 : cmpB a c ≤ 0 := cmpB_le.2 (by omega)
  have f1 : decide (key a < key b) = false := by simp; omega
  have f2 : (key a == key b) = true := by simp; omega
  have g1 := ofE_key ha
  have g2 := cmp_back ha
  have g3 := same_back ha
  obtain ⟨k0, k1⟩ := key_bounds a
  clear h h2
  have k0' := k0
  go_enter Try.func6, Try.ntmps6
  go_wp2_with fail
  refine (known_any _).mono ?_
  rintro e _ ⟨rfl, rfl⟩
  go_wp2_with fail
  refine (cmp_any _ _ _ ha hb).mono ?_
  rintro e _ ⟨rfl, rfl⟩
  go_wp2_with fail
  refine (cmp_any _ _ _ hb ha).mono ?_
  rintro e _ ⟨rfl, rfl⟩
  go_wp2_with fail
  refine (cmp_any _ _ _ hb hc).mono ?_
  rintro e _ ⟨rfl, rfl⟩
  go_wp2_with fail
  refine (cmp_any _ _ _ ha hc).mono ?_
  rintro e _ ⟨rfl, rfl⟩
  go_wp2_with fail
  refine (key_any _ _ ha).mono ?_
  rintro e _ ⟨rfl, rfl⟩
  go_wp2_with fail
  refine (key_any _ _ hb).mono ?_
  rintro e _ ⟨rfl, rfl⟩
  go_wp2_with fail
  refine (of_any _ _ k0 k1).mono ?_
  rintro e _ ⟨rfl, rfl⟩
  go_wp2_with fail
  refine (cmp_any _ _ _ (ofB_lt _ k0 k1) ha).mono ?_
  rintro e _ ⟨rfl, rfl⟩
  go_wp2_with fail
  refine (same_any _ _ _).mono ?_
  rintro e _ ⟨rfl, rfl⟩
  go_wp2
  go_ret
  exact ⟨rfl, Below.refl _ _⟩

set_option maxRecDepth 20000 in
set_option maxHeartbeats 800000 in
theorem walkC2P (a b c : Nat) (ha : a < 18446744073709551616) (hb : b < 18446744073709551616) (hc : c < 18446744073709551616) (W : World) (h : key a = key b) (h2 : key b ≤ key c) (hi : 9218868437227405311 < key a) :
    Calls Try.prog 6 #[.float .f64 a, .float .f64 b, .float .f64 c] W fun e w' => e = .returned (.bool true) ∧ Below W.heap.size W w' := by
  have q1 : cmpB a b = 0 := by unfold cmpB cmpI; rw [if_neg (by omega), if_neg (by omega)]
  have q2 : cmpB b a = 0 := by unfold cmpB cmpI; rw [if_neg (by omega), if_neg (by omega)]
  have q3 : cmpB b c ≤ 0 := cmpB_le.2 h2
  have q4 : cmpB a c ≤ 0 := cmpB_le.2 (by omega)
  have f1 : decide (key a < key b) = false := by simp; omega
  have f2 : (key a == key b) = true := by simp; omega
  have g1 := ofE_key ha
  have g2 := cmp_back ha
  have g3 := same_back ha
  obtain ⟨k0, k1⟩ := key_bounds a
  clear h h2
  have k0' := k0
  go_enter Try.func6, Try.ntmps6
  go_wp2_with fail
  refine (known_any _).mono ?_
  rintro e _ ⟨rfl, rfl⟩
  go_wp2_with fail
  refine (cmp_any _ _ _ ha hb).mono ?_
  rintro e _ ⟨rfl, rfl⟩
  go_wp2_with fail
  refine (cmp_any _ _ _ hb ha).mono ?_
  rintro e _ ⟨rfl, rfl⟩
  go_wp2_with fail
  refine (cmp_any _ _ _ hb hc).mono ?_
  rintro e _ ⟨rfl, rfl⟩
  go_wp2_with fail
  refine (cmp_any _ _ _ ha hc).mono ?_
  rintro e _ ⟨rfl, rfl⟩
  go_wp2_with fail
  refine (key_any _ _ ha).mono ?_
  rintro e _ ⟨rfl, rfl⟩
  go_wp2_with fail
  refine (key_any _ _ hb).mono ?_
  rintro e _ ⟨rfl, rfl⟩
  go_wp2_with fail
  refine (of_any _ _ k0 k1).mono ?_
  rintro e _ ⟨rfl, rfl⟩
  go_wp2_with fail
  refine (cmp_any _ _ _ (ofB_lt _ k0 k1) ha).mono ?_
  rintro e _ ⟨rfl, rfl⟩
  go_wp2_with fail
  refine (same_any _ _ _).mono ?_
  rintro e _ ⟨rfl, rfl⟩
  go_wp2
  go_ret
  exact ⟨rfl, Below.refl _ _⟩

set_option maxRecDepth 20000 in
set_option maxHeartbeats 800000 in
theorem walkC2M (a b c : Nat) (ha : a < 18446744073709551616) (hb : b < 18446744073709551616) (hc : c < 18446744073709551616) (W : World) (h : key a = key b) (h2 : key b ≤ key c) (hi : 0 ≤ key a) (hj : key a ≤ 9218868437227405311) :
    Calls Try.prog 6 #[.float .f64 a, .float .f64 b, .float .f64 c] W fun e w' => e = .returned (.bool true) ∧ Below W.heap.size W w' := by
  have q1 : cmpB a b = 0 := by unfold cmpB cmpI; rw [if_neg (by omega), if_neg (by omega)]
  have q2 : cmpB b a = 0 := by unfold cmpB cmpI; rw [if_neg (by omega), if_neg (by omega)]
  have q3 : cmpB b c ≤ 0 := cmpB_le.2 h2
  have q4 : cmpB a c ≤ 0 := cmpB_le.2 (by omega)
  have f1 : decide (key a < key b) = false := by simp; omega
  have f2 : (key a == key b) = true := by simp; omega
  have g1 := ofE_key ha
  have g2 := cmp_back ha
  have g3 := same_back ha
  obtain ⟨k0, k1⟩ := key_bounds a
  have n1 := ofE_next hi hj
  have n2 : cmpB a (ofB (key a + 1)) = -1 := by unfold cmpB; rw [key_of (has_next hi hj)]; unfold cmpI; rw [if_pos (by omega)]
  have n3 : (key (ofB (key a + 1)) == key a + 1) = true := by rw [key_of (has_next hi hj)]; simp
  have n5 := ofB_lt (key a + 1) (by omega) (by omega)
  clear h h2
  have k0' := k0
  go_enter Try.func6, Try.ntmps6
  go_wp2_with fail
  refine (known_any _).mono ?_
  rintro e _ ⟨rfl, rfl⟩
  go_wp2_with fail
  refine (cmp_any _ _ _ ha hb).mono ?_
  rintro e _ ⟨rfl, rfl⟩
  go_wp2_with fail
  refine (cmp_any _ _ _ hb ha).mono ?_
  rintro e _ ⟨rfl, rfl⟩
  go_wp2_with fail
  refine (cmp_any _ _ _ hb hc).mono ?_
  rintro e _ ⟨rfl, rfl⟩
  go_wp2_with fail
  refine (cmp_any _ _ _ ha hc).mono ?_
  rintro e _ ⟨rfl, rfl⟩
  go_wp2_with fail
  refine (key_any _ _ ha).mono ?_
  rintro e _ ⟨rfl, rfl⟩
  go_wp2_with fail
  refine (key_any _ _ hb).mono ?_
  rintro e _ ⟨rfl, rfl⟩
  go_wp2_with fail
  refine (of_any _ _ k0 k1).mono ?_
  rintro e _ ⟨rfl, rfl⟩
  go_wp2_with fail
  refine (cmp_any _ _ _ (ofB_lt _ k0 k1) ha).mono ?_
  rintro e _ ⟨rfl, rfl⟩
  go_wp2_with fail
  refine (same_any _ _ _).mono ?_
  rintro e _ ⟨rfl, rfl⟩
  go_wp2_with fail
  refine (of_any _ _ (by omega) (by omega)).mono ?_
  rintro e _ ⟨rfl, rfl⟩
  go_wp2_with fail
  refine (cmp_any _ _ _ ha n5).mono ?_
  rintro e _ ⟨rfl, rfl⟩
  go_wp2_with fail
  refine (key_any _ _ n5).mono ?_
  rintro e _ ⟨rfl, rfl⟩
  go_wp2_with fail
  refine (cmp_any _ _ _ hb ha).mono ?_
  rintro e _ ⟨rfl, rfl⟩
  go_wp2
  go_ret
  exact ⟨rfl, Below.refl _ _⟩

theorem walk (a : Nat) (wa : (Lit.float .f64 a).wf = true) (b : Nat) (wb : (Lit.float .f64 b).wf = true) (c : Nat) (wc : (Lit.float .f64 c).wf = true) (W : World) :
    Calls Try.prog 6 #[.float .f64 a, .float .f64 b, .float .f64 c] W fun e w' => e = .returned (.bool true) ∧ Below W.heap.size W w' := by
  have ha := float_lt wa
  have hb := float_lt wb
  have hc := float_lt wc
  by_cases i1 : key a < 0
  · by_cases h : key b < key a
    · exact walkAN a b c ha hb hc W h i1
    · by_cases h2 : key c < key b
      · by_cases h' : key a < key b
        · exact walkB1N a b c ha hb hc W h' h2 i1
        · exact walkB2N a b c ha hb hc W (by omega) h2 i1
      · by_cases h' : key a < key b
        · exact walkC1N a b c ha hb hc W h' (by omega) i1
        · exact walkC2N a b c ha hb hc W (by omega) (by omega) i1
  · by_cases i2 : 9218868437227405311 < key a
    · by_cases h : key b < key a
      · exact walkAP a b c ha hb hc W h i2
      · by_cases h2 : key c < key b
        · by_cases h' : key a < key b
          · exact walkB1P a b c ha hb hc W h' h2 i2
          · exact walkB2P a b c ha hb hc W (by omega) h2 i2
        · by_cases h' : key a < key b
          · exact walkC1P a b c ha hb hc W h' (by omega) i2
          · exact walkC2P a b c ha hb hc W (by omega) (by omega) i2
    · by_cases h : key b < key a
      · exact walkAM a b c ha hb hc W h (by omega) (by omega)
      · by_cases h2 : key c < key b
        · by_cases h' : key a < key b
          · exact walkB1M a b c ha hb hc W h' h2 (by omega) (by omega)
          · exact walkB2M a b c ha hb hc W (by omega) h2 (by omega) (by omega)
        · by_cases h' : key a < key b
          · exact walkC1M a b c ha hb hc W h' (by omega) (by omega) (by omega)
          · exact walkC2M a b c ha hb hc W (by omega) (by omega) (by omega) (by omega)

/-! ### the row -/
theorem laidOut : laidOutB Try.prog = true := by kernel_rfl
theorem bytesInt : Try.prog.bytesOf 3 = 8 := by kernel_rfl
set_option maxRecDepth 100000 in
theorem lifted (os : Os) (started : os.Started) (H : Type) (enc : TypeId × Value → H) :
    ReturnsInHanded {} Try.checked os 6 .any (Rows.gaugeWholeSpec.pre6 enc Try.prog Try.f6 Rows.gaugeWholeRow.domain false) (Rows.gaugeWholeSpec.post enc Try.prog Try.f6 false true false false) := by
  refine returnsInHanded_of_change_sized (C := Try.checked) own started (by kernel_rfl) Try.func6
    (ChangeSpec.witness6 (enc := enc) (C := Try.checked) false ⟨#[], #[.float .f64 0, .float .f64 0, .float .f64 0], []⟩ 8 (by kernel_rfl) (by kernel_rfl) (by kernel_rfl) (by kernel_rfl)) ?_
  intro W base args ds gs before hval0 hW hcnd hsz0 _
  have hval : ∀ (j : Nat) t v, Try.f6.params[j]? = some t → args[j]? = some v → Value.okWide Try.prog W .any base t v := hval0
  have hW' := hW
  obtain ⟨p, q, hA0, hV, rfl, hfz, hnd⟩ := hW
  have hA : DataW.TrodAll enc Try.prog W 0 (fun _ => true) true Try.f6.params.toList args.toList ds p := hA0
  have hsz : (DataW.weightsEach Try.prog (Try.f6.params.toList ++ Rows.gaugeWholeSpec.plain.varTypes Try.prog) (ds ++ gs)).all (· ≤ reachBytes) = true := hsz0
  rw [Try.params6] at hA hval hsz
  obtain ⟨v0, vs0, d0, ds0, p0, q0, hargs, rfl, rfl, h0, r0⟩ := trodAll_cons hA
  obtain ⟨v1, vs1, d1, ds1, p1, q1, rfl, rfl, rfl, h1, r1⟩ := trodAll_cons r0
  obtain ⟨v2, vs2, d2, ds2, p2, q2, rfl, rfl, rfl, h2, r2⟩ := trodAll_cons r1
  obtain ⟨rfl, rfl, rfl⟩ := trodAll_nil r2
  obtain rfl : args = #[v0, v1, v2] := by cases args; simp_all
  obtain ⟨rfl, rfl⟩ := trodVars_none hV
  obtain ⟨a0, rfl, rfl, rfl, w0⟩ := open_float Try.underlying22 (hval 0 22 v0 rfl rfl) h0
  obtain ⟨a1, rfl, rfl, rfl, w1⟩ := open_float Try.underlying22 (hval 1 22 v1 rfl rfl) h1
  obtain ⟨a2, rfl, rfl, rfl, w2⟩ := open_float Try.underlying22 (hval 2 22 v2 rfl rfl) h2
  clear hA0 hval0 hsz0
  refine (walk a0 w0 a1 w1 a2 w2 W ).mono fun e W' ⟨he, bel⟩ => ?_
  subst he
  exact ⟨_, rfl, _, _, _, [], _, [], hW', trodAll_mk1 (shut_bool Try.underlying4 _), (trodAll_cons_mk (shut_float Try.underlying22 w0) (trodAll_cons_mk (shut_float Try.underlying22 w1) (trodAll_cons_mk (shut_float Try.underlying22 w2) trodAll_mk0))), rfl, bel.frame _, fun h => by cases h⟩

theorem over : Rows.gaugeWholeRow.holds Try.pinned (OpenSpec.ofChange Rows.gaugeWholeSpec) :=
  OpenClaim.holds_of_wide 6 Try.f6 rfl rfl rfl rfl rfl rfl rfl ⟨rfl, rfl, rfl, rfl, rfl⟩ rfl rfl rfl rfl rfl (by kernel_rfl) Try.func6 (by kernel_rfl)
    (of_decide_eq_true (by kernel_rfl)) (by unfold Func.isWrapper; first | (rw [if_pos (by decide +kernel)]; kernel_rfl) | (rw [if_neg (by decide +kernel)]; exact ⟨rfl, rfl⟩))
    (fun os started H enc _ => lifted os started H enc)
end Go.Proofs.Ytpnihbicncioaaa.gaugeWhole

namespace Go.Proofs.Ytpnihbicncioaaa
/-- The law returns true at every input. -/
theorem gaugeWhole_holds : Rows.GaugeWholeSaid := gaugeWhole.over
end Go.Proofs.Ytpnihbicncioaaa

