/- The document's allocator: its calls. No statement of the seat is proved here. -/
import Derived.Test.YtkmaikmbjebjeaaDoorADocM
namespace Go.Proofs.YtkmaikmbjebjeaaDoor
set_option maxRecDepth 20000
open Go.RowKit

/-- how many are in state 0 -/
def noughts (n : Nat) (st : Nat → Int) : List Int := listN (fun i => st i == 0) n
theorem noughts_le (n : Nat) (st : Nat → Int) : (noughts n st).length ≤ n := by
  unfold noughts; rw [listN_length]; exact cnt_le _ _
theorem RS.all {B : Nat} {w : World} {rb n : Nat} {st : Nat → Int} {k : Nat} (h : RS B w rb n st k) : ∃ ao cap, (∀ w', Below w.heap.size w w' → w'.cell? ⟨rb, 0, none⟩ = some (.slice ao n cap) ∧ w'.cell? ⟨rb, 1, none⟩ = some (.int .i64 (k : Nat)) ∧
    ∀ i, i < n → ∃ g, ao = some ⟨g, 0, none⟩ ∧ w'.cell? ⟨g, i, none⟩ = some (.int .i64 (st i))) := by
  obtain ⟨ao, cap, c0, c1, -, cs⟩ := h.cells
  have hl0 : rb < w.heap.size := World.block_lt_of_cell? w _ c0
  refine ⟨ao, cap, fun w' hb => ⟨(hb.cell (p := ⟨rb, 0, none⟩) hl0).trans c0, (hb.cell (p := ⟨rb, 1, none⟩) hl0).trans c1, fun i hi => ?_⟩⟩
  obtain ⟨g, e, c, -⟩ := cs i hi
  exact ⟨g, e, (hb.cell (p := ⟨g, i, none⟩) (World.block_lt_of_cell? w _ c)).trans c⟩
set_option maxRecDepth 20000 in
set_option maxHeartbeats 1600000 in
theorem rfree_any {B : Nat} {w : World} {rb n : Nat} {st : Nat → Int} {k : Nat} (h : RS B w rb n st k) (hk : k ≤ (noughts n st).length) : Calls Tryd.prog 32 #[.pointer (some ⟨rb, 0, none⟩)] w fun e w' => e = .returned (.int .i64 (((noughts n st).length - k : Nat) : Int)) ∧ Below w.heap.size w w' := by
  have n2 := h.n2
  have hle := noughts_le n st
  have hl := rlist_any h.drew 0
  obtain ⟨ao, cap, hall⟩ := h.all
  have c1 : ∀ w', Below w.heap.size w w' → w'.cell? ⟨rb, 1, none⟩ = some (.int .i64 (k : Nat)) := fun w' hb => (hall w' hb).2.1
  clear h hall
  have HL := Lib.hid hl
  clear hl
  have hlen : (listN (fun i => st i == 0) n).length = (noughts n st).length := rfl
  generalize (noughts n st).length = m at hk hle hlen ⊢
  have HLEN := Lib.hid hlen
  clear hlen
  go_enter Tryd.func32, Tryd.ntmps32
  go_wp2_with fail
  have hS : Below w.heap.size w w.drew := (Below.refl _ _).drew
  refine wp_region_held_drew (S := fun w' => Below w.heap.size w w') mixed hS (fun _ => ?_)
  show wpAnyH _ _ _ _ _ 9 (Array.replicate 9 false) _ _
  refine wpAnyH_take_d 0 (some 3) (.pointer (some ⟨rb, 0, none⟩)) rfl (by kernel_rfl) (by kernel_rfl) (by kernel_rfl) (by kernel_rfl) rfl (fun _ _ _ h => h) (fun _ _ => by kernel_rfl) (by exact hS) ?_
  simp only [Act.put, List.setIfInBounds_toArray, List.set_cons_succ, List.set_cons_zero]
  refine wpAnyH_take_d 3 (some 6) (.pointer (some ⟨rb, 0, none⟩)) rfl (by kernel_rfl) (by kernel_rfl) (by kernel_rfl) (by kernel_rfl) rfl (fun _ _ _ h => h) (fun _ _ => by kernel_rfl) (by exact hS) ?_
  simp only [Act.put, List.setIfInBounds_toArray, List.set_cons_succ, List.set_cons_zero]
  refine wpAnyH_take_d 4 (some 7) (.pointer (some ⟨rb, 0, none⟩)) rfl (by kernel_rfl) (by kernel_rfl) (by kernel_rfl) (by kernel_rfl) rfl (fun _ _ _ h => h) (fun _ _ => by kernel_rfl) (by exact hS) ?_
  simp only [Act.put, List.setIfInBounds_toArray, List.set_cons_succ, List.set_cons_zero]
  refine wpAnyH_take_d 5 (some 8) (.pointer (some ⟨rb, 1, none⟩)) rfl (by kernel_rfl) (by kernel_rfl) (by kernel_rfl) (by kernel_rfl) rfl (fun _ _ _ h => h) (fun _ _ => by kernel_rfl) (by exact hS) ?_
  simp only [Act.put, List.setIfInBounds_toArray, List.set_cons_succ, List.set_cons_zero]
  refine wpAnyH_take_d 6 (some 9) (.int .i64 (k : Nat)) rfl (by kernel_rfl) (by kernel_rfl) (by kernel_rfl) (by kernel_rfl) rfl (fun _ _ _ h => h) (fun w' h => exec_load_cell rfl rfl (c1 _ h) Tryd.underlying3 rfl) (by exact hS) ?_
  simp only [Act.put, List.setIfInBounds_toArray, List.set_cons_succ, List.set_cons_zero]
  refine wpAnyH_call 1 (some 4) 33 #[.pointer (some ⟨rb, 0, none⟩), .int .i64 0] rfl (by kernel_rfl) (by kernel_rfl) rfl (by kernel_rfl) (HL.out) ?_
  rintro e w2 ⟨v2, rfl, o2, b2⟩
  obtain ⟨lo, lm, lc, rfl, hlm⟩ := o2.form'
  obtain rfl : m = lm := (hlm.out.trans HLEN.out).symm
  have hS : Below w.heap.size w w2 := hS.trans b2
  refine ⟨_, rfl, hS, ?_⟩
  simp only [Act.put, List.setIfInBounds_toArray, List.set_cons_succ, List.set_cons_zero]
  refine wpAnyH_take_d 2 (some 5) (.int .i64 (m : Nat)) rfl (by kernel_rfl) (by kernel_rfl) (by kernel_rfl) (by kernel_rfl) rfl (fun _ _ _ h => h) (fun _ _ => by kernel_rfl) (by exact hS) ?_
  simp only [Act.put, List.setIfInBounds_toArray, List.set_cons_succ, List.set_cons_zero]
  refine wpAnyH_take_d 7 (some 10) (.int .i64 ((m - k : Nat) : Int)) rfl (by kernel_rfl) (by kernel_rfl) (by kernel_rfl) (by kernel_rfl) rfl (fun _ _ _ h => h) (fun w' h => exec_sub rfl rfl rfl (by rw [IntKind.wrap_i64]; omega)) (by exact hS) ?_
  simp only [Act.put, List.setIfInBounds_toArray, List.set_cons_succ, List.set_cons_zero]
  refine wpAnyH_take_d 8 (some 2) (.int .i64 ((m - k : Nat) : Int)) rfl (by kernel_rfl) (by kernel_rfl) (by kernel_rfl) (by kernel_rfl) rfl (fun _ _ _ h => h) (fun _ _ => by kernel_rfl) (by exact hS) ?_
  simp only [Act.put, List.setIfInBounds_toArray, List.set_cons_succ, List.set_cons_zero]
  refine wpAnyH_done (by kernel_rfl) ?_ _
  have b2 : Below w.heap.size w w2 := hS
  clear hS o2
  go_wp2
  go_ret
  exact ⟨rfl, b2⟩
theorem dfree_any {B : Nat} {w : World} {rb : Nat} {A : Al} (h : RS B w rb A.n (stA A) A.k) (ok : A.Ok) : Calls Tryd.prog 32 #[.pointer (some ⟨rb, 0, none⟩)] w fun e w' => e = .returned (.int .i64 (A.free : Nat)) ∧ Below w.heap.size w w' := by
  have hl : (noughts A.n (stA A)).length = A.free + A.k := free_st ok
  have hf := rfree_any h (by omega)
  rw [hl, Nat.add_sub_cancel] at hf
  exact hf
set_option maxRecDepth 20000 in
set_option maxHeartbeats 1600000 in
theorem dtake_full {B : Nat} {w : World} {rb : Nat} {A : Al} (h : RS B w rb A.n (stA A) A.k) (ok : A.Ok) (hf : A.free = 0) : Calls Tryd.prog 16 #[.pointer (some ⟨rb, 0, none⟩)] w fun e w' => e = .returned (.tuple #[.int .i64 0, .int .i64 5]) ∧ Below w.heap.size w w' := by
  have hfr := dfree_any h ok
  rw [hf] at hfr
  clear h ok hf
  go_enter Tryd.func16, Tryd.ntmps16
  go_wp2_with fail
  refine Calls.mono hfr ?_
  rintro e w2 ⟨rfl, b2⟩
  clear hfr
  go_wp2
  go_returns
  exact ⟨rfl, b2⟩
/-- a block's state is stored: the world, and what stands then -/
theorem RS.turn {B : Nat} {w w1 : World} {rb n : Nat} {st : Nat → Int} {k : Nat} (h : RS B w rb n st k) (hb : Below w.heap.size w w1) {i : Nat} (hi : i < n) (x : Int) : ∃ g cap, w1.cell? ⟨rb, 0, none⟩ = some (.slice (some ⟨g, 0, none⟩) n cap) ∧ w1.cell? ⟨g, i, none⟩ = some (.int .i64 (st i)) ∧ w1.frozen? ⟨g, i, none⟩ = false ∧
    RS B (w1.setCell ⟨g, i, none⟩ (.int .i64 x)) rb n (upS st i x) k ∧ Fr KR B w (w1.setCell ⟨g, i, none⟩ (.int .i64 x)) := by
  have h1 := h.below hb
  obtain ⟨ao, cap, c0, -, -, cs⟩ := h1.cells
  obtain ⟨g, rfl, c, fz⟩ := cs i hi
  obtain ⟨r1, r2⟩ := h1.set hi x c0
  exact ⟨g, cap, c0, c, fz, r1, (Fr.of_below hb).trans r2⟩
set_option maxRecDepth 20000 in
set_option maxHeartbeats 1600000 in
theorem dtake_ok {B : Nat} {w : World} {rb : Nat} {A : Al} (h : RS B w rb A.n (stA A) A.k) (ok : A.Ok) (hf : A.free ≠ 0) {b : Nat} (hb : b < A.n) (hl : LeastF A b) : Calls Tryd.prog 16 #[.pointer (some ⟨rb, 0, none⟩)] w fun e w' => e = .returned (.tuple #[.int .i64 (b : Nat), .int .i64 0]) ∧ RS B w' rb (A.take b).n (stA (A.take b)) (A.take b).k ∧ Fr KR B w w' := by
  have hfr := dfree_any h ok
  obtain ⟨r, hr⟩ := least_first hb hl
  have hli := fun (w2 : World) (b2 : Below w.heap.size w w2) => rlist_any (h.below b2) 0
  rw [hr] at hli
  have hn2 := ok.n2
  have HST := fun (w3 : World) (b3 : Below w.heap.size w w3) => h.turn b3 hb 1
  have hcon : ∀ w3, RS B w3 rb A.n (upS (stA A) b 1) A.k → RS B w3 rb (A.take b).n (stA (A.take b)) (A.take b).k := fun w3 h3 => RS.congr (n := A.n) h3 (fun i _ => (stA_take i).symm)
  have hq : ¬ ((A.free : Nat) : Int) ≤ 0 := by omega
  have HC := Lib.hid hcon
  have HT := Lib.hid HST
  have HLI := Lib.hid hli
  generalize (A.take b).n = n' at *
  generalize (A.take b).k = k' at *
  generalize stA (A.take b) = st' at *
  generalize A.free = q at *
  generalize A.n = n at *
  generalize A.k = k at *
  generalize stA A = st at *
  clear h ok hl hr HST hli hcon hf
  go_enter Tryd.func16, Tryd.ntmps16
  go_wp2_with fail
  refine Calls.mono hfr ?_
  rintro e w2 ⟨rfl, b2⟩
  clear hfr
  have hli2 := HLI.out w2 b2
  go_wp2_with fail
  refine Calls.mono hli2 ?_
  rintro e w3 ⟨v3, rfl, o3, b3⟩
  have b3' := b2.trans (b3.mono b2.size)
  obtain ⟨lo, cap3, e3, -, -⟩ := ownsRow_form o3
  subst e3
  obtain ⟨g3, rfl, -, c3⟩ := ownsRow_cell o3 (j := 0) (u := iV (b : Int)) rfl
  obtain ⟨m3, hm3⟩ : ∃ m, ((b : Int) :: r).length = m := ⟨_, rfl⟩
  rw [hm3]
  have hpos : 0 < m3 := by rw [← hm3]; simp
  have c3' : w3.cell? ⟨g3, 0, none⟩ = some (.int .i64 (b : Int)) := c3
  obtain ⟨g, cap, c0, c1, fz, r1, r2⟩ := HT.out w3 b3'
  have FIN := Lib.hid (And.intro (HC.out _ r1) r2)
  clear hli2 o3 b3 b2 b3' c3 r1 r2 hm3
  go_wp2
  go_returns
  exact ⟨rfl, FIN.out⟩
end Go.Proofs.YtkmaikmbjebjeaaDoor
