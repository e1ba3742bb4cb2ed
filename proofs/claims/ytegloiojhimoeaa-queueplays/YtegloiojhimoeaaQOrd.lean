/- The contracts of cmp.Or and of the queue's order. No statement of the seat is proved here. -/
import Derived.Test.YtegloiojhimoeaaQMath
import Derived.Test.YtegloiojhimoeaaKpt
import Derived.Test.YtegloiojhimoeaaPSteps
import Derived.Sort.Grow
namespace Go.Proofs.Ytegloiojhimoeaa
open Go.RowKit

theorem mixed : Try.prog.follows .mixedOrders = true := by kernel_rfl
set_option maxHeartbeats 800000 in
theorem or_any {w : World} (b : Nat) (x y : Int) (h0 : w.cell? ⟨b, 0, none⟩ = some (.int .i64 x)) (h1 : w.cell? ⟨b, 1, none⟩ = some (.int .i64 y)) : Calls Try.prog 49 #[.slice (some ⟨b, 0, none⟩) 2 2] w fun e w' => e = .returned (.int .i64 (if x ≠ 0 then x else y)) ∧ w = w' := by
  go_enter Try.func49, Try.ntmps49
  go_wp2
  by_cases hx : x = 0
  · subst hx
    by_cases hy : y = 0
    · subst hy
      refine wp_loop_rounds 3 ?_
      rw [rounds_succ]
      go_wp2
      rw [rounds_succ]
      go_wp2
      rw [rounds_succ]
      go_wp2
      go_ret
      exact ⟨rfl, rfl⟩
    · have hb : (y != 0) = true := by simp [hy]
      refine wp_loop_rounds 2 ?_
      rw [rounds_succ]
      go_wp2
      rw [rounds_succ]
      go_wp2
      go_ret
      exact ⟨rfl, rfl⟩
  · have hb : (x != 0) = true := by simp [hx]
    refine wp_loop_rounds 1 ?_
    rw [rounds_succ]
    go_wp2
    go_ret
    exact ⟨rfl, rfl⟩

/-- The waiter x at its block, wherever it stands. -/
def WtIn (w : World) (x : Wt) : Prop := w.cell? ⟨x.blk, 1, none⟩ = some (.float .f64 x.pr) ∧ w.cell? ⟨x.blk, 2, none⟩ = some (.int .i64 x.turn)
def ptrW (x : Wt) : Value := .pointer (some ⟨x.blk, 0, none⟩)
theorem WtIn.below {w w' : World} {x : Wt} (h : WtIn w x) (hb : Below w.heap.size w w') : WtIn w' x :=
  ⟨(hb.cell (p := ⟨x.blk, 1, none⟩) (World.block_lt_of_cell? _ _ h.1)).trans h.1, (hb.cell (p := ⟨x.blk, 2, none⟩) (World.block_lt_of_cell? _ _ h.2)).trans h.2⟩
set_option maxRecDepth 20000 in
set_option maxHeartbeats 1600000 in
theorem order_any {w : World} (x y : Wt) (hx : WtIn w x) (hy : WtIn w y) (px : x.pr < 18446744073709551616) (py : y.pr < 18446744073709551616) :
    Calls Try.prog 33 #[ptrW x, ptrW y] w fun e w' => e = .returned (.int .i64 (ordI x y)) ∧ ∃ q os, w' = Sort.grow (w.drewN q) os := by
  have HO : Hid (ordI x y = if cmpB x.pr y.pr ≠ 0 then cmpB x.pr y.pr else cmpI x.turn y.turn) := rfl
  unfold ptrW
  generalize hc1 : cmpB x.pr y.pr = c1 at HO
  generalize hc2 : cmpI x.turn y.turn = c2 at HO
  have C1 := fun w => cmp_any x.pr y.pr w px py
  have C2 := fun w => compare_any x.turn y.turn w
  rw [hc1] at C1
  rw [hc2] at C2
  obtain ⟨xb, xi, xp, xt⟩ := x
  obtain ⟨yb, yi, yp, yt⟩ := y
  simp only at C1 C2 HO
  clear hc1 hc2 px py
  go_enter Try.func33, Try.ntmps33
  go_wp2_with fail
  have hS : WtIn w.drew ⟨xb, xi, xp, xt⟩ ∧ WtIn w.drew ⟨yb, yi, yp, yt⟩ := ⟨hx, hy⟩
  refine wp_region_held_drew (S := fun w' => WtIn w' ⟨xb, xi, xp, xt⟩ ∧ WtIn w' ⟨yb, yi, yp, yt⟩) mixed hS (fun _ => ?_)
  show wpAnyH _ _ _ _ _ 23 (Array.replicate 23 false) _ _
  refine wpAnyH_take_d 0 (some 5) (.pointer (some ⟨xb, 0, none⟩)) rfl (by kernel_rfl) (by kernel_rfl) (by kernel_rfl) (by kernel_rfl) rfl (fun _ _ _ h => h) (fun _ _ => by kernel_rfl) (by exact hS) ?_
  simp only [Act.put, List.setIfInBounds_toArray, List.set_cons_succ, List.set_cons_zero]
  refine wpAnyH_take_d 1 (some 6) (.pointer (some ⟨xb, 0, none⟩)) rfl (by kernel_rfl) (by kernel_rfl) (by kernel_rfl) (by kernel_rfl) rfl (fun _ _ _ h => h) (fun _ _ => by kernel_rfl) (by exact hS) ?_
  simp only [Act.put, List.setIfInBounds_toArray, List.set_cons_succ, List.set_cons_zero]
  refine wpAnyH_take_d 2 (some 7) (.pointer (some ⟨xb, 0, none⟩)) rfl (by kernel_rfl) (by kernel_rfl) (by kernel_rfl) (by kernel_rfl) rfl (fun _ _ _ h => h) (fun _ _ => by kernel_rfl) (by exact hS) ?_
  simp only [Act.put, List.setIfInBounds_toArray, List.set_cons_succ, List.set_cons_zero]
  refine wpAnyH_take_d 3 (some 8) (.pointer (some ⟨xb, 1, none⟩)) rfl (by kernel_rfl) (by kernel_rfl) (by kernel_rfl) (by kernel_rfl) rfl (fun _ _ _ h => h) (fun _ _ => by kernel_rfl) (by exact hS) ?_
  simp only [Act.put, List.setIfInBounds_toArray, List.set_cons_succ, List.set_cons_zero]
  refine wpAnyH_take_d 4 (some 9) (.float .f64 xp) rfl (by kernel_rfl) (by kernel_rfl) (by kernel_rfl) (by kernel_rfl) rfl (fun _ _ _ h => h) (fun w' h => exec_load_cell rfl rfl h.1.1 Try.underlying31 rfl) (by exact hS) ?_
  simp only [Act.put, List.setIfInBounds_toArray, List.set_cons_succ, List.set_cons_zero]
  refine wpAnyH_take_d 5 (some 10) (.pointer (some ⟨yb, 0, none⟩)) rfl (by kernel_rfl) (by kernel_rfl) (by kernel_rfl) (by kernel_rfl) rfl (fun _ _ _ h => h) (fun _ _ => by kernel_rfl) (by exact hS) ?_
  simp only [Act.put, List.setIfInBounds_toArray, List.set_cons_succ, List.set_cons_zero]
  refine wpAnyH_take_d 6 (some 11) (.pointer (some ⟨yb, 0, none⟩)) rfl (by kernel_rfl) (by kernel_rfl) (by kernel_rfl) (by kernel_rfl) rfl (fun _ _ _ h => h) (fun _ _ => by kernel_rfl) (by exact hS) ?_
  simp only [Act.put, List.setIfInBounds_toArray, List.set_cons_succ, List.set_cons_zero]
  refine wpAnyH_take_d 7 (some 12) (.pointer (some ⟨yb, 0, none⟩)) rfl (by kernel_rfl) (by kernel_rfl) (by kernel_rfl) (by kernel_rfl) rfl (fun _ _ _ h => h) (fun _ _ => by kernel_rfl) (by exact hS) ?_
  simp only [Act.put, List.setIfInBounds_toArray, List.set_cons_succ, List.set_cons_zero]
  refine wpAnyH_take_d 8 (some 13) (.pointer (some ⟨yb, 1, none⟩)) rfl (by kernel_rfl) (by kernel_rfl) (by kernel_rfl) (by kernel_rfl) rfl (fun _ _ _ h => h) (fun _ _ => by kernel_rfl) (by exact hS) ?_
  simp only [Act.put, List.setIfInBounds_toArray, List.set_cons_succ, List.set_cons_zero]
  refine wpAnyH_take_d 9 (some 14) (.float .f64 yp) rfl (by kernel_rfl) (by kernel_rfl) (by kernel_rfl) (by kernel_rfl) rfl (fun _ _ _ h => h) (fun w' h => exec_load_cell rfl rfl h.2.1 Try.underlying31 rfl) (by exact hS) ?_
  simp only [Act.put, List.setIfInBounds_toArray, List.set_cons_succ, List.set_cons_zero]
  refine wpAnyH_take_d 11 (some 16) (.pointer (some ⟨xb, 0, none⟩)) rfl (by kernel_rfl) (by kernel_rfl) (by kernel_rfl) (by kernel_rfl) rfl (fun _ _ _ h => h) (fun _ _ => by kernel_rfl) (by exact hS) ?_
  simp only [Act.put, List.setIfInBounds_toArray, List.set_cons_succ, List.set_cons_zero]
  refine wpAnyH_take_d 12 (some 17) (.pointer (some ⟨xb, 0, none⟩)) rfl (by kernel_rfl) (by kernel_rfl) (by kernel_rfl) (by kernel_rfl) rfl (fun _ _ _ h => h) (fun _ _ => by kernel_rfl) (by exact hS) ?_
  simp only [Act.put, List.setIfInBounds_toArray, List.set_cons_succ, List.set_cons_zero]
  refine wpAnyH_take_d 13 (some 18) (.pointer (some ⟨xb, 2, none⟩)) rfl (by kernel_rfl) (by kernel_rfl) (by kernel_rfl) (by kernel_rfl) rfl (fun _ _ _ h => h) (fun _ _ => by kernel_rfl) (by exact hS) ?_
  simp only [Act.put, List.setIfInBounds_toArray, List.set_cons_succ, List.set_cons_zero]
  refine wpAnyH_take_d 14 (some 19) (.int .i64 xt) rfl (by kernel_rfl) (by kernel_rfl) (by kernel_rfl) (by kernel_rfl) rfl (fun _ _ _ h => h) (fun w' h => exec_load_cell rfl rfl h.1.2 Try.underlying3 rfl) (by exact hS) ?_
  simp only [Act.put, List.setIfInBounds_toArray, List.set_cons_succ, List.set_cons_zero]
  refine wpAnyH_take_d 15 (some 20) (.pointer (some ⟨yb, 0, none⟩)) rfl (by kernel_rfl) (by kernel_rfl) (by kernel_rfl) (by kernel_rfl) rfl (fun _ _ _ h => h) (fun _ _ => by kernel_rfl) (by exact hS) ?_
  simp only [Act.put, List.setIfInBounds_toArray, List.set_cons_succ, List.set_cons_zero]
  refine wpAnyH_take_d 16 (some 21) (.pointer (some ⟨yb, 0, none⟩)) rfl (by kernel_rfl) (by kernel_rfl) (by kernel_rfl) (by kernel_rfl) rfl (fun _ _ _ h => h) (fun _ _ => by kernel_rfl) (by exact hS) ?_
  simp only [Act.put, List.setIfInBounds_toArray, List.set_cons_succ, List.set_cons_zero]
  refine wpAnyH_take_d 17 (some 22) (.pointer (some ⟨yb, 2, none⟩)) rfl (by kernel_rfl) (by kernel_rfl) (by kernel_rfl) (by kernel_rfl) rfl (fun _ _ _ h => h) (fun _ _ => by kernel_rfl) (by exact hS) ?_
  simp only [Act.put, List.setIfInBounds_toArray, List.set_cons_succ, List.set_cons_zero]
  refine wpAnyH_take_d 18 (some 23) (.int .i64 yt) rfl (by kernel_rfl) (by kernel_rfl) (by kernel_rfl) (by kernel_rfl) rfl (fun _ _ _ h => h) (fun w' h => exec_load_cell rfl rfl h.2.2 Try.underlying3 rfl) (by exact hS) ?_
  simp only [Act.put, List.setIfInBounds_toArray, List.set_cons_succ, List.set_cons_zero]
  refine wpAnyH_call 10 (some 15) 17 #[.float .f64 xp, .float .f64 yp] rfl (by kernel_rfl) (by kernel_rfl) rfl (by kernel_rfl) (C1 _) ?_
  rintro e _ ⟨rfl, rfl⟩
  refine ⟨_, rfl, hS, ?_⟩
  simp only [Act.put, List.setIfInBounds_toArray, List.set_cons_succ, List.set_cons_zero]
  refine wpAnyH_call 19 (some 24) 37 #[.int .i64 xt, .int .i64 yt] rfl (by kernel_rfl) (by kernel_rfl) rfl (by kernel_rfl) (C2 _) ?_
  rintro e _ ⟨rfl, rfl⟩
  refine ⟨_, rfl, hS, ?_⟩
  simp only [Act.put, List.setIfInBounds_toArray, List.set_cons_succ, List.set_cons_zero]
  have hb : Below w.drew.heap.size w.drew (w.drew.alloc (.cells #[.int .i64 c1, .int .i64 c2] 3)) := (Below.refl _ _).alloc (Nat.le_refl _) _
  have hS := And.intro (hS.1.below hb) (hS.2.below hb)
  refine wpAnyH_one (w1 := w.drew.alloc (.cells #[.int .i64 c1, .int .i64 c2] 3)) 20 (some 25) (.slice (some ⟨w.heap.size, 0, none⟩) 2 2) rfl (by kernel_rfl) (by kernel_rfl) rfl (by kernel_rfl) hS ?_
  simp only [Act.put, List.setIfInBounds_toArray, List.set_cons_succ, List.set_cons_zero]
  have hrow : (w.drew.alloc (.cells #[.int .i64 c1, .int .i64 c2] 3)).heap[w.heap.size]? = some (.cells #[.int .i64 c1, .int .i64 c2] 3 (0, 0)) := heap_alloc_new w.drew _
  refine wpAnyH_call 21 (some 26) 49 #[.slice (some ⟨w.heap.size, 0, none⟩) 2 2] rfl (by kernel_rfl) (by kernel_rfl) rfl (by kernel_rfl) (or_any w.heap.size c1 c2 (cell_row hrow 0 rfl) (cell_row hrow 1 rfl)) ?_
  rintro e _ ⟨rfl, rfl⟩
  refine ⟨_, rfl, hS, ?_⟩
  simp only [Act.put, List.setIfInBounds_toArray, List.set_cons_succ, List.set_cons_zero]
  refine wpAnyH_one 22 (some 4) (.int .i64 (if c1 ≠ 0 then c1 else c2)) rfl (by kernel_rfl) (by kernel_rfl) rfl (by kernel_rfl) (by exact hS) ?_
  simp only [Act.put, List.setIfInBounds_toArray, List.set_cons_succ, List.set_cons_zero]
  refine wpAnyH_done (by kernel_rfl) ?_ _
  clear hS hb hrow hx hy C1 C2
  rw [← HO.out]
  generalize hr : ordI ⟨xb, xi, xp, xt⟩ ⟨yb, yi, yp, yt⟩ = r
  have HR := Lib.hid hr
  clear hr
  go_wp2
  go_ret
  exact ⟨by rw [HR.out]; rfl, 1, #[.cells #[.int .i64 c1, .int .i64 c2] 3], Sort.alloc_eq_grow _ _⟩
theorem grow_below (w : World) (q : Nat) (os : Array Obj) : Below w.heap.size w (Sort.grow (w.drewN q) os) := by
  refine ⟨rfl, rfl, rfl, by simp [Sort.grow, World.drewN], fun k hk => ?_⟩
  simp only [Sort.grow, World.drewN]
  rw [Array.getElem?_append_left hk]
end Go.Proofs.Ytegloiojhimoeaa
