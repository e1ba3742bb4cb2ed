/- The contracts of the line's Less and Swap, at raw cells. No statement of the seat is proved here. -/
import Derived.Test.YtegloiojhimoeaaQOrd
import Derived.RegionTactic
namespace Go.Proofs.Ytegloiojhimoeaa
open Go.RowKit

set_option maxRecDepth 20000 in
set_option maxHeartbeats 1600000 in
theorem less_raw {w : World} (rb n cap i j : Nat) (x y : Wt) (hi : i < n) (hj : j < n) (cx : w.cell? ⟨rb, i, none⟩ = some (ptrW x)) (cy : w.cell? ⟨rb, j, none⟩ = some (ptrW y)) (hx : WtIn w x) (hy : WtIn w y) (px : x.pr < 18446744073709551616) (py : y.pr < 18446744073709551616) (tx : x.turn < 4611686018427387904) (ty : y.turn < 4611686018427387904) :
    Calls Try.prog 89 #[.slice (some ⟨rb, 0, none⟩) n cap, .int .i64 i, .int .i64 j] w fun e w' => e = .returned (.bool (decide (x.ky < y.ky))) ∧ Below w.heap.size w w' := by
  have HC : Hid (decide (x.ky < y.ky) = decide (ordI x y < 0)) := by show _ = _; simp only [ordI_lt tx ty]
  have OR := Lib.hid (order_any (w := w.drew) x y hx hy px py)
  clear hx hy px py tx ty
  generalize hpx : ptrW x = vx at cx OR
  generalize hpy : ptrW y = vy at cy OR
  go_enter Try.func89, Try.ntmps89
  go_wp2_with fail
  have hS : w.drew.cell? ⟨rb, i, none⟩ = some vx ∧ w.drew.cell? ⟨rb, j, none⟩ = some vy := ⟨cx, cy⟩
  refine wp_region_held_drew (S := fun w' => w'.cell? ⟨rb, i, none⟩ = some vx ∧ w'.cell? ⟨rb, j, none⟩ = some vy) mixed hS (fun _ => ?_)
  show wpAnyH _ _ _ _ _ 11 (Array.replicate 11 false) _ _
  refine wpAnyH_take_d 0 (some 7) (.slice (some ⟨rb, 0, none⟩) n cap) rfl (by kernel_rfl) (by kernel_rfl) (by kernel_rfl) (by kernel_rfl) rfl (fun _ _ _ h => h) (fun _ _ => by kernel_rfl) (by exact hS) ?_
  simp only [Act.put, List.setIfInBounds_toArray, List.set_cons_succ, List.set_cons_zero]
  refine wpAnyH_take_d 1 (some 8) (.int .i64 i) rfl (by kernel_rfl) (by kernel_rfl) (by kernel_rfl) (by kernel_rfl) rfl (fun _ _ _ h => h) (fun _ _ => by kernel_rfl) (by exact hS) ?_
  simp only [Act.put, List.setIfInBounds_toArray, List.set_cons_succ, List.set_cons_zero]
  refine wpAnyH_take_d 2 (some 9) (.pointer (some ⟨rb, 0 + i, none⟩)) rfl (by kernel_rfl) (by kernel_rfl) (by kernel_rfl) (by kernel_rfl) rfl (fun _ _ _ h => h) (fun w' h => exec_indexAddr rfl rfl rfl hi Try.underlying56 (by kernel_rfl)) (by exact hS) ?_
  simp only [Act.put, List.setIfInBounds_toArray, List.set_cons_succ, List.set_cons_zero]
  rw [Nat.zero_add]
  refine wpAnyH_take_d 3 (some 10) (vx) rfl (by kernel_rfl) (by kernel_rfl) (by kernel_rfl) (by kernel_rfl) rfl (fun _ _ _ h => h) (fun w' h => exec_load_cell rfl rfl h.1 Try.underlying66 rfl) (by exact hS) ?_
  simp only [Act.put, List.setIfInBounds_toArray, List.set_cons_succ, List.set_cons_zero]
  refine wpAnyH_take_d 4 (some 11) (.slice (some ⟨rb, 0, none⟩) n cap) rfl (by kernel_rfl) (by kernel_rfl) (by kernel_rfl) (by kernel_rfl) rfl (fun _ _ _ h => h) (fun _ _ => by kernel_rfl) (by exact hS) ?_
  simp only [Act.put, List.setIfInBounds_toArray, List.set_cons_succ, List.set_cons_zero]
  refine wpAnyH_take_d 5 (some 12) (.int .i64 j) rfl (by kernel_rfl) (by kernel_rfl) (by kernel_rfl) (by kernel_rfl) rfl (fun _ _ _ h => h) (fun _ _ => by kernel_rfl) (by exact hS) ?_
  simp only [Act.put, List.setIfInBounds_toArray, List.set_cons_succ, List.set_cons_zero]
  refine wpAnyH_take_d 6 (some 13) (.pointer (some ⟨rb, 0 + j, none⟩)) rfl (by kernel_rfl) (by kernel_rfl) (by kernel_rfl) (by kernel_rfl) rfl (fun _ _ _ h => h) (fun w' h => exec_indexAddr rfl rfl rfl hj Try.underlying56 (by kernel_rfl)) (by exact hS) ?_
  simp only [Act.put, List.setIfInBounds_toArray, List.set_cons_succ, List.set_cons_zero]
  rw [Nat.zero_add]
  refine wpAnyH_take_d 7 (some 14) (vy) rfl (by kernel_rfl) (by kernel_rfl) (by kernel_rfl) (by kernel_rfl) rfl (fun _ _ _ h => h) (fun w' h => exec_load_cell rfl rfl h.2 Try.underlying66 rfl) (by exact hS) ?_
  simp only [Act.put, List.setIfInBounds_toArray, List.set_cons_succ, List.set_cons_zero]
  refine wpAnyH_call 8 (some 15) 33 #[vx, vy] rfl (by kernel_rfl) (by kernel_rfl) rfl (by kernel_rfl) OR.out ?_
  rintro e w' ⟨rfl, q, os, rfl⟩
  have hb := grow_below w.drew q os
  have hS := And.intro ((hb.cell (p := ⟨rb, i, none⟩) (World.block_lt_of_cell? _ _ cx)).trans cx) ((hb.cell (p := ⟨rb, j, none⟩) (World.block_lt_of_cell? _ _ cy)).trans cy)
  refine ⟨_, rfl, hS, ?_⟩
  simp only [Act.put, List.setIfInBounds_toArray, List.set_cons_succ, List.set_cons_zero]
  generalize Sort.grow (w.drew.drewN q) os = w2 at hb hS ⊢
  generalize ordI x y = r at HC ⊢
  refine wpAnyH_one 9 (some 16) (.bool (decide (r < 0))) rfl (by kernel_rfl) (by kernel_rfl) rfl (by kernel_rfl) (by exact hS) ?_
  simp only [Act.put, List.setIfInBounds_toArray, List.set_cons_succ, List.set_cons_zero]
  refine wpAnyH_one 10 (some 6) (.bool (decide (r < 0))) rfl (by kernel_rfl) (by kernel_rfl) rfl (by kernel_rfl) (by exact hS) ?_
  simp only [Act.put, List.setIfInBounds_toArray, List.set_cons_succ, List.set_cons_zero]
  refine wpAnyH_done (by kernel_rfl) ?_ _
  clear hS cx cy OR
  have HB := Lib.hid hb
  clear hb
  generalize decide (r < 0) = t at HC ⊢
  go_wp2
  go_ret
  exact ⟨by rw [HC.out]; rfl, (Below.refl _ w).drew.trans HB.out⟩

set_option maxRecDepth 20000 in
set_option maxHeartbeats 1600000 in
theorem swap_raw {w : World} (rb n cap i j a b : Nat) (va vb : Value) (hi : i < n) (hj : j < n) (hij : i ≠ j) (ca : w.cell? ⟨rb, i, none⟩ = some (.pointer (some ⟨a, 0, none⟩))) (cb : w.cell? ⟨rb, j, none⟩ = some (.pointer (some ⟨b, 0, none⟩)))
    (fr : ∀ k, w.frozen? ⟨rb, k, none⟩ = false) (pa : w.cell? ⟨a, 3, none⟩ = some va) (pb : w.cell? ⟨b, 3, none⟩ = some vb) (fa : w.frozen? ⟨a, 3, none⟩ = false) (fb : w.frozen? ⟨b, 3, none⟩ = false) (hab : a ≠ b) (har : a ≠ rb) (hbr : b ≠ rb) :
    Calls Try.prog 90 #[.slice (some ⟨rb, 0, none⟩) n cap, .int .i64 i, .int .i64 j] w fun e w' => e = .returned (.tuple #[]) ∧ w' = ((((w.setCell ⟨rb, i, none⟩ (.pointer (some ⟨b, 0, none⟩))).setCell ⟨rb, j, none⟩ (.pointer (some ⟨a, 0, none⟩))).setCell ⟨b, 3, none⟩ (.int .i64 i)).setCell ⟨a, 3, none⟩ (.int .i64 j)).drewN 2 := by
  have fi := fr i
  have fj := fr j
  have nij : (⟨rb, i, none⟩ : Addr) ≠ ⟨rb, j, none⟩ := by simp
  have nab : (⟨a, 3, none⟩ : Addr) ≠ ⟨b, 3, none⟩ := by simp
  clear fr
  go_enter Try.func90, Try.ntmps90
  go_wp2_with fail
  go_region
  have e2 : ∀ p : Addr, p.block ≠ rb → ((w.setCell ⟨rb, i, none⟩ (.pointer (some ⟨b, 0, none⟩))).setCell ⟨rb, j, none⟩ (.pointer (some ⟨a, 0, none⟩))).cell? p = w.cell? p := fun p hp => by
    rw [World.cell?_setCell_other _ _ _ _ (by rintro rfl; exact hp rfl), World.cell?_setCell_other _ _ _ _ (by rintro rfl; exact hp rfl)]
  have ci2 : ((w.setCell ⟨rb, i, none⟩ (.pointer (some ⟨b, 0, none⟩))).setCell ⟨rb, j, none⟩ (.pointer (some ⟨a, 0, none⟩))).cell? ⟨rb, i, none⟩ = some (.pointer (some ⟨b, 0, none⟩)) := by
    rw [World.cell?_setCell_other _ _ _ _ (Ne.symm nij), World.cell?_setCell_same _ _ _ ca]
  have cj2 : ((w.setCell ⟨rb, i, none⟩ (.pointer (some ⟨b, 0, none⟩))).setCell ⟨rb, j, none⟩ (.pointer (some ⟨a, 0, none⟩))).cell? ⟨rb, j, none⟩ = some (.pointer (some ⟨a, 0, none⟩)) := by
    rw [World.cell?_setCell_same (u := .pointer (some ⟨b, 0, none⟩)) _ _ _ (by rw [World.cell?_setCell_other _ _ _ _ nij]; exact cb)]
  have pa2 := (e2 ⟨a, 3, none⟩ har).trans pa
  have pb2 := (e2 ⟨b, 3, none⟩ hbr).trans pb
  have fa2 := (World.frozen?_setCell (w.setCell ⟨rb, i, none⟩ (.pointer (some ⟨b, 0, none⟩))) ⟨rb, j, none⟩ ⟨a, 3, none⟩ (.pointer (some ⟨a, 0, none⟩))).trans ((World.frozen?_setCell w ⟨rb, i, none⟩ ⟨a, 3, none⟩ (.pointer (some ⟨b, 0, none⟩))).trans fa)
  have fb2 := (World.frozen?_setCell (w.setCell ⟨rb, i, none⟩ (.pointer (some ⟨b, 0, none⟩))) ⟨rb, j, none⟩ ⟨b, 3, none⟩ (.pointer (some ⟨a, 0, none⟩))).trans ((World.frozen?_setCell w ⟨rb, i, none⟩ ⟨b, 3, none⟩ (.pointer (some ⟨b, 0, none⟩))).trans fb)
  clear ca cb pa pb fa fb fi fj nij e2
  generalize hw2 : (w.setCell ⟨rb, i, none⟩ (.pointer (some ⟨b, 0, none⟩))).setCell ⟨rb, j, none⟩ (.pointer (some ⟨a, 0, none⟩)) = w2 at *
  have HW := Lib.hid hw2
  clear hw2
  go_wp2_with fail
  go_region
  go_wp2
  go_end0
  exact ⟨rfl, by rw [HW.out]; rfl⟩
end Go.Proofs.Ytegloiojhimoeaa
