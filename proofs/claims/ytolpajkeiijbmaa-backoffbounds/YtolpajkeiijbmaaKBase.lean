/- The contracts of backoff's Delay and Due, and of the document's. No statement of the seat is proved here. -/
import Derived.Test.YtolpajkeiijbmaaGMath2
import Derived.Test.YtolpajkeiijbmaaGArgs
import Derived.Test.YtolpajkeiijbmaaPSteps
namespace Go.Proofs.Ytolpajkeiijbmaa
open Go.RowKit G

theorem mixed : Try.prog.follows .mixedOrders = true := by kernel_rfl
/-- a number with this value -/
def rep : Option Nat → Nat
  | none => 9221120237041090561
  | some r => r
theorem rep_lt {p : Nat} (h : p < 18446744073709551616) : rep (val p) < 18446744073709551616 := by
  unfold val; split
  · decide
  · exact h
theorem nan_made : nan 9221120237041090561 = true := by decide +kernel
theorem key_rep (p : Nat) : key (rep (val p)) = key p := by
  unfold val; split
  · rename_i h; rw [key_nan h]; exact key_nan nan_made
  · rfl
theorem key_max (p : Nat) : key p ≤ 9223372036854775807 := by
  cases h : nan p
  · have := (key_le h).1; omega
  · rw [key_nan h]; omega
theorem ticks_nan {a : Nat} (h : nan a = true) : ticks a = 0 := by unfold ticks; rw [if_pos h]
theorem ticks_rep (p : Nat) : ticks (rep (val p)) = ticks p := by
  unfold val; split
  · rename_i h; rw [ticks_nan h]; exact ticks_nan nan_made
  · rfl
theorem least_rep (c p : Nat) : ticks (leastB c p) = ticks (leastB c (rep (val p))) := by
  unfold leastB; rw [key_rep]; split
  · rw [ticks_rep]
  · rfl
theorem rLeast_eq (a b : Nat) : rLeastB a b = leastB a b := by
  unfold rLeastB leastB
  by_cases h : key a ≤ key b
  · rw [if_pos h, if_neg (by omega)]
  · rw [if_neg h, if_pos (by omega)]
/-- the ticks ahead of a try, behind k + 1 that failed -/
def dlyN (b f c : Nat) (k : Nat) : Int := ticks (leastB c (rep (fo .mul (val b) (powV k (val f)))))
def dly (b f c : Nat) (failed : Int) : Int := if failed ≤ 0 then 0 else dlyN b f c (times (failed - 1))
theorem dly_bounds (b f c : Nat) (n : Int) : 0 ≤ dly b f c n ∧ dly b f c n ≤ 100000 := by
  unfold dly; split
  · omega
  · exact ticks_bounds _
theorem dly_of {b f c p q : Nat} {n : Int} (hn : ¬ n ≤ 0) (hq : val q = powV (times (n - 1)) (val f)) (hp : val p = fo .mul (val b) (val q)) : ticks (leastB c p) = dly b f c n := by
  unfold dly dlyN; rw [if_neg hn, least_rep, hp, hq]

abbrev setting (b f c : Nat) : Value := .agg #[.float .f64 b, .float .f64 f, .float .f64 c]
abbrev setBox (b f c : Nat) : Obj := .cells #[.float .f64 b, .float .f64 f, .float .f64 c] 24
theorem box_cell {b f c : Nat} {W w' : World} (h : Below (W.heap.size + 1) (W.alloc (setBox b f c)) w') (i : Nat) {u : Value} (hu : (#[Value.float .f64 b, .float .f64 f, .float .f64 c] : Array Value)[i]? = some u) : w'.cell? ⟨W.heap.size, i, none⟩ = some u := by
  rw [h.cell (Nat.lt_succ_self _), cell_of_row _ _ _ _ _ _ (heap_alloc_new W _)]; exact hu
theorem box_row {b f c : Nat} {W w' : World} (h : Below (W.heap.size + 1) (W.alloc (setBox b f c)) w') : w'.heap[W.heap.size]? = some (setBox b f c) := by
  rw [h.block _ (Nat.lt_succ_self _)]; exact heap_alloc_new W _
theorem szS {W w' : World} {o : Obj} (h : Below (W.heap.size + 1) (W.alloc o) w') : W.heap.size + 1 ≤ w'.heap.size := by have := h.size; simpa using this
theorem exec_step {ρ : Operand → Value} {o : Oper} {t' : TypeId} {x y : Operand} {op : BinOp} {a b r : Nat} {w w1 : World} (ho : o.op = .binOp op 22 x y t') (hop : Step op) (hx : ρ x = .float .f64 a) (hy : ρ y = .float .f64 b) (h : (binOp op 22 (.float .f64 a) (.float .f64 b)).run Try.prog w = .ok (.float .f64 r) w1) : (execOp ρ o).run Try.prog w = .ok (.value (.float .f64 r)) w1 := by
  unfold execOp
  simp only [ho, hx, hy, Sem.run_bind]
  have e1 : (eqGuard op 22 x y (.float .f64 a) (.float .f64 b)).run Try.prog w = .ok () w := by cases hop <;> simp [eqGuard]
  rw [e1, Result.andThen_ok, h]; rfl

set_option maxRecDepth 20000 in
set_option maxHeartbeats 800000 in
theorem delay_any (b f c : Nat) (n : Int) (hc : c < 18446744073709551616) (hn : n ≤ 9223372036854775807) (W : World) :
    Calls Try.prog 11 #[setting b f c, .int .i64 n] W fun e w' => e = .returned (.int .i64 (dly b f c n)) ∧ Below W.heap.size W w' := by
  by_cases h0 : n ≤ 0
  · have e0 : dly b f c n = 0 := by unfold dly; rw [if_pos h0]
    rw [e0]
    clear e0
    go_enter Try.func11, Try.ntmps11
    go_wp2
    go_ret
    exact ⟨rfl, (Below.refl _ _).alloc (Nat.le_refl _) _⟩
  · have hw1 : IntKind.i64.wrap (n - 1) = n - 1 := by rw [IntKind.wrap_i64]; omega
    go_enter Try.func11, Try.ntmps11
    go_wp2_with fail
    have hS : Below (W.heap.size + 1) (W.alloc (setBox b f c)) (W.alloc (setBox b f c)).drew := (Below.refl _ _).drew
    refine wp_region_held_drew (S := fun w' => Below (W.heap.size + 1) (W.alloc (setBox b f c)) w') mixed hS (fun _ => ?_)
    show wpAnyH _ _ _ _ _ 9 (Array.replicate 9 false) _ _
    refine wpAnyH_take_d 0 (some 8) (.pointer (some ⟨W.heap.size, 0, none⟩)) rfl (by kernel_rfl) (by kernel_rfl) (by kernel_rfl) (by kernel_rfl) rfl (fun _ _ _ h => h) (fun _ _ => by kernel_rfl) (by exact hS) ?_
    simp only [Act.put, List.setIfInBounds_toArray, List.set_cons_succ, List.set_cons_zero]
    refine wpAnyH_take_d 1 (some 9) (.float .f64 b) rfl (by kernel_rfl) (by kernel_rfl) (by kernel_rfl) (by kernel_rfl) rfl (fun _ _ _ h => h) (fun w' h => exec_load_cell rfl rfl (box_cell h 0 rfl) Try.underlying22 rfl) (by exact hS) ?_
    simp only [Act.put, List.setIfInBounds_toArray, List.set_cons_succ, List.set_cons_zero]
    refine wpAnyH_take_d 2 (some 10) (.pointer (some ⟨W.heap.size, 1, none⟩)) rfl (by kernel_rfl) (by kernel_rfl) (by kernel_rfl) (by kernel_rfl) rfl (fun _ _ _ h => h) (fun _ _ => by kernel_rfl) (by exact hS) ?_
    simp only [Act.put, List.setIfInBounds_toArray, List.set_cons_succ, List.set_cons_zero]
    refine wpAnyH_take_d 3 (some 11) (.float .f64 f) rfl (by kernel_rfl) (by kernel_rfl) (by kernel_rfl) (by kernel_rfl) rfl (fun _ _ _ h => h) (fun w' h => exec_load_cell rfl rfl (box_cell h 1 rfl) Try.underlying22 rfl) (by exact hS) ?_
    simp only [Act.put, List.setIfInBounds_toArray, List.set_cons_succ, List.set_cons_zero]
    refine wpAnyH_take_d 4 (some 12) (.int .i64 n) rfl (by kernel_rfl) (by kernel_rfl) (by kernel_rfl) (by kernel_rfl) rfl (fun _ _ _ h => h) (fun _ _ => by kernel_rfl) (by exact hS) ?_
    simp only [Act.put, List.setIfInBounds_toArray, List.set_cons_succ, List.set_cons_zero]
    refine wpAnyH_take_d 5 (some 13) (.int .i64 (n - 1)) rfl (by kernel_rfl) (by kernel_rfl) (by kernel_rfl) (by kernel_rfl) rfl (fun _ _ _ h => h) (fun w' h => by go_simp) (by exact hS) ?_
    simp only [Act.put, List.setIfInBounds_toArray, List.set_cons_succ, List.set_cons_zero]
    refine wpAnyH_call 6 (some 14) 18 #[.float .f64 f, .int .i64 (n - 1)] rfl (by kernel_rfl) (by kernel_rfl) rfl (by kernel_rfl) (power_any f (n - 1) _) ?_
    rintro e w1 ⟨q, rfl, lq, vq, bq, sq⟩
    have hS := hS.trans (bq.mono (szS hS))
    have hS : Below (W.heap.size + 1) (W.alloc (setBox b f c)) w1 := hS
    clear bq sq lq
    refine ⟨_, rfl, hS, ?_⟩
    simp only [Act.put, List.setIfInBounds_toArray, List.set_cons_succ, List.set_cons_zero]
    obtain ⟨p, w2, ep, lp, vp, bp, sp⟩ := run_step .mul b q w1
    have hS := hS.trans (bp.mono (szS hS))
    have hS : Below (W.heap.size + 1) (W.alloc (setBox b f c)) w2 := hS
    clear bp sp
    refine wpAnyH_one 7 (some 15) (.float .f64 p) rfl (by kernel_rfl) (by kernel_rfl) rfl (exec_step rfl .mul rfl rfl ep) (by exact hS) ?_
    simp only [Act.put, List.setIfInBounds_toArray, List.set_cons_succ, List.set_cons_zero]
    refine wpAnyH_take_d 8 (some 5) (.float .f64 p) rfl (by kernel_rfl) (by kernel_rfl) (by kernel_rfl) (by kernel_rfl) rfl (fun _ _ _ h => h) (fun _ _ => by kernel_rfl) (by exact hS) ?_
    simp only [Act.put, List.setIfInBounds_toArray, List.set_cons_succ, List.set_cons_zero]
    refine wpAnyH_done (by kernel_rfl) ?_ _
    have HD := Lib.hid (dly_of (n := n) (c := c) (by omega) vq vp)
    have HL := Lib.hid (leastB_lt hc lp)
    have hcell := box_cell hS 2 rfl
    clear vp vq ep hw1
    go_wp2_with fail
    refine (least_any c p _ hc lp).mono ?_
    rintro e _ ⟨rfl, rfl⟩
    go_wp2_with fail
    refine (ticks_any _ _).mono ?_
    rintro e _ ⟨rfl, rfl⟩
    rw [HD.out]
    clear hcell
    go_wp2
    go_ret
    exact ⟨rfl, ((Below.refl _ _).alloc (Nat.le_refl _) _).trans (hS.mono (Nat.le_succ _))⟩

set_option maxRecDepth 20000 in
set_option maxHeartbeats 800000 in
theorem rDelay_any (b f c : Nat) (n : Int) (hc : c < 18446744073709551616) (hn : n ≤ 9223372036854775807) (W : World) :
    Calls Try.prog 12 #[.float .f64 b, .float .f64 f, .float .f64 c, .int .i64 n] W fun e w' => e = .returned (.int .i64 (dly b f c n)) ∧ Below W.heap.size W w' := by
  by_cases h0 : n ≤ 0
  · have e0 : dly b f c n = 0 := by unfold dly; rw [if_pos h0]
    rw [e0]
    clear e0
    go_enter Try.func12, Try.ntmps12
    go_wp2
    go_ret
    exact ⟨rfl, Below.refl _ _⟩
  · have hw1 : IntKind.i64.wrap (n - 1) = n - 1 := by rw [IntKind.wrap_i64]; omega
    go_enter Try.func12, Try.ntmps12
    go_wp2_with fail
    refine (rPower_any f (n - 1) _).mono ?_
    rintro e w1 ⟨q, rfl, lq, vq, bq, sq⟩
    obtain ⟨p, w2, ep, lp, vp, bp, sp⟩ := run_step .mul b q w1
    have HD := Lib.hid (dly_of (n := n) (c := c) (by omega) vq vp)
    have HS := Lib.hid (bq.trans (bp.mono (Nat.le_of_eq sq.symm)))
    clear vp vq hw1 bp bq sp sq lq
    go_wp2_with fail
    refine (rLeast_any c p _ hc lp).mono ?_
    rintro e _ ⟨rfl, rfl⟩
    rw [rLeast_eq]
    go_wp2_with fail
    refine (rTicks_any _ _).mono ?_
    rintro e _ ⟨rfl, rfl⟩
    rw [HD.out]
    go_wp2
    go_ret
    exact ⟨rfl, HS.out⟩

theorem within_any (n m : Int) (w : World) : Calls Try.prog 17 #[.int .i64 n, .int .i64 m] w fun e w' => e = .returned (.bool (decide (0 ≤ n ∧ n ≤ m))) ∧ w = w' := by
  by_cases h1 : 0 ≤ n
  · by_cases h2 : n ≤ m
    · rw [show decide (0 ≤ n ∧ n ≤ m) = true by simp [h1, h2]]
      go_enter Try.func17, Try.ntmps17
      go_wp2
      go_ret
      exact ⟨rfl, rfl⟩
    · rw [show decide (0 ≤ n ∧ n ≤ m) = false by simp [h1, h2]]
      go_enter Try.func17, Try.ntmps17
      go_wp2
      go_ret
      exact ⟨rfl, rfl⟩
  · rw [show decide (0 ≤ n ∧ n ≤ m) = false by simp [h1]]
    go_enter Try.func17, Try.ntmps17
    go_wp2
    go_ret
    exact ⟨rfl, rfl⟩
end Go.Proofs.Ytolpajkeiijbmaa
