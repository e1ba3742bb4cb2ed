/- The contracts of layer 5's same and sameAll. No statement of the seat is proved here. -/
import Derived.Test.YtegloiojhimoeaaQRefD
namespace Go.Proofs.Ytegloiojhimoeaa
open Go.RowKit

theorem exec_loadN {P : Program} {w : World} {ρ : Operand → Value} {o : Oper} {ty : TypeId} {x : Operand} {b off : Nat} (cs : List Value) {d : TypeDesc} (ho : o.op = .load ty x) (hx : ρ x = .pointer (some ⟨b, off, none⟩)) (hc : w.rangeAt b off cs) (hu : P.underlying ty = some d) (hd : d.isRow = true) (hi : (P.info? ty).map (·.size) = some cs.length) :
    (execOp ρ o).run P w = .ok (.value (.agg cs.toArray)) w := by
  unfold execOp
  simp only [ho, hx, Instr.loadAt, Instr.sureAddr, Sem.run_bind, Sem.run_pure, Result.andThen_ok, run_loadVar_mid w b off ty cs d hc hu hd hi]
theorem range2 {w : World} {b off : Nat} {u v : Value} (h0 : w.cell? ⟨b, off, none⟩ = some u) (h1 : w.cell? ⟨b, off + 1, none⟩ = some v) : w.rangeAt b off [u, v] := by
  intro j x hj
  match j, hj with
  | 0, hj => simp at hj; subst hj; exact h0
  | 1, hj => simp at hj; subst hj; exact h1
set_option maxRecDepth 20000 in
set_option maxHeartbeats 1600000 in
theorem sameE_any (i : Int) (p : Nat) (w : World) : Calls Try.prog 24 #[.agg #[.int .i64 i, .float .f64 p], .agg #[.int .i64 i, .float .f64 p]] w fun e w' => e = .returned (.bool true) ∧ Below w.heap.size w w' := by
  have SM := fun w => same_any p p w
  rw [same_refl] at SM
  go_enter Try.func24, Try.ntmps24
  go_wp2_with (with_reducible refine wpList_box_row rfl 43 (.tmp 0) rfl #[.int .i64 i, .float .f64 p] rfl ?_)
  intro w1 hg1 hb1 hs1
  go_wp2_with (with_reducible refine wpList_box_row rfl 60 (.tmp 1) rfl #[.int .i64 i, .float .f64 p] rfl ?_)
  intro w2 hg2 hb2 hs2
  have hg1' := (hb2.block _ hs1).trans hg1
  have x0 := cell_row hg1' 0 rfl
  have x1 := cell_row hg1' 1 rfl
  have y0 := cell_row hg2 0 rfl
  have y1 := cell_row hg2 1 rfl
  have B := Lib.hid (hb1.trans (hb2.mono hb1.size))
  clear hg1 hg1' hg2 hb1 hb2 hs1 hs2
  go_wp2_with fail
  refine (SM _).mono ?_
  rintro e _ ⟨rfl, rfl⟩
  clear SM x0 x1 y0 y1
  go_wp2
  go_ret
  exact ⟨rfl, B.out⟩
set_option maxRecDepth 20000 in
set_option maxHeartbeats 1600000 in
theorem sameAll_any {w : World} {M : List Wt} {ao ao' : Option Addr} {c c' n : Nat} (hn : n = M.length) (hl : n ≤ 10000) (h1 : OwnE 0 w (.slice ao n c) M) (h2 : w.ownsRow 0 60 2 (.slice ao' n c') M.length (cellsE M)) :
    Calls Try.prog 28 #[.slice ao n c, .slice ao' n c'] w fun e w' => e = .returned (.bool true) ∧ Below w.heap.size w w' := by
  have HR := Lib.hid (And.intro h1 (And.intro h2 hn))
  clear h1 h2 hn
  go_enter Try.func28, Try.ntmps28
  go_wp2
  go_loopw [5] (fun kv wx => ∃ k : Nat, k ≤ n ∧ kv = .int .i64 k ∧ Below w.heap.size w wx) (fun kv _ => n - (intOf kv).toNat)
  case atStart => exact ⟨0, Nat.zero_le _, rfl, Below.refl _ _⟩
  case round =>
    obtain ⟨k, hk, rfl, hbk⟩ := hrel
    obtain ⟨h1, h2, hn⟩ := HR.out
    by_cases hlk : k < n
    · have hlk' : (k : Int) < (n : Int) := by omega
      obtain ⟨ga, rfl, -, a0, a1⟩ := (h1.below hbk).get2 (k := k) (by omega)
      have e0 : (cellsE M)[2 * k + 0]? = some (.int .i64 (at' M k).id) := by rw [entCells_at M k 0 (by omega), at_some (by omega)]; rfl
      have e1 : (cellsE M)[2 * k + 1]? = some (.float .f64 (at' M k).pr) := by rw [entCells_at M k 1 (by omega), at_some (by omega)]; rfl
      have h2' := ownsRow_below h2 hbk
      obtain ⟨gb, rfl, -, c0⟩ := ownsRow_cell h2' e0
      obtain ⟨gb', eg, -, c1⟩ := ownsRow_cell h2' e1
      cases eg
      rw [Nat.mul_comm 2 k] at c0 c1
      rw [Nat.add_zero] at c0
      generalize (at' M k).id = xi at a0 c0
      generalize (at' M k).pr = xp at a1 c1
      have e3 : IntKind.i64.wrap ((k : Int) + 1) = ((k + 1 : Nat) : Int) := by rw [IntKind.wrap_i64]; omega
      clear h1 h2 h2' e0 e1 hn
      generalize hk1 : k + 1 = k1 at e3
      go_wp2_with fail
      have hS : (wr.drew.cell? ⟨ga, k * 2, none⟩ = some (.int .i64 xi) ∧ wr.drew.cell? ⟨ga, k * 2 + 1, none⟩ = some (.float .f64 xp)) ∧ wr.drew.cell? ⟨gb, k * 2, none⟩ = some (.int .i64 xi) ∧ wr.drew.cell? ⟨gb, k * 2 + 1, none⟩ = some (.float .f64 xp) := ⟨⟨a0, a1⟩, c0, c1⟩
      refine wp_region_held_drew (S := fun w' => (w'.cell? ⟨ga, k * 2, none⟩ = some (.int .i64 xi) ∧ w'.cell? ⟨ga, k * 2 + 1, none⟩ = some (.float .f64 xp)) ∧ w'.cell? ⟨gb, k * 2, none⟩ = some (.int .i64 xi) ∧ w'.cell? ⟨gb, k * 2 + 1, none⟩ = some (.float .f64 xp)) mixed hS (fun _ => ?_)
      show wpAnyH _ _ _ _ _ 10 (Array.replicate 10 false) _ _
      refine wpAnyH_take_d 0 (some 17) (.slice (some ⟨ga, 0, none⟩) n c) rfl (by kernel_rfl) (by kernel_rfl) (by kernel_rfl) (by kernel_rfl) rfl (fun _ _ _ h => h) (fun _ _ => by kernel_rfl) (by exact hS) ?_
      simp only [Act.put, List.setIfInBounds_toArray, List.set_cons_succ, List.set_cons_zero]
      refine wpAnyH_take_d 1 (some 18) (.int .i64 k) rfl (by kernel_rfl) (by kernel_rfl) (by kernel_rfl) (by kernel_rfl) rfl (fun _ _ _ h => h) (fun _ _ => by kernel_rfl) (by exact hS) ?_
      simp only [Act.put, List.setIfInBounds_toArray, List.set_cons_succ, List.set_cons_zero]
      refine wpAnyH_take_d 2 (some 19) (.pointer (some ⟨ga, 0 + k * 2, none⟩)) rfl (by kernel_rfl) (by kernel_rfl) (by kernel_rfl) (by kernel_rfl) rfl (fun _ _ _ h => h) (fun w' h => exec_indexAddrS rfl rfl rfl hlk Try.underlying39 (by kernel_rfl)) (by exact hS) ?_
      simp only [Act.put, List.setIfInBounds_toArray, List.set_cons_succ, List.set_cons_zero]
      rw [Nat.zero_add]
      refine wpAnyH_take_d 3 (some 20) (.agg #[.int .i64 xi, .float .f64 xp]) rfl (by kernel_rfl) (by kernel_rfl) (by kernel_rfl) (by kernel_rfl) rfl (fun _ _ _ h => h) (fun w' h => exec_loadN [.int .i64 xi, .float .f64 xp] rfl rfl (range2 h.1.1 h.1.2) Try.underlying43 rfl (by kernel_rfl)) (by exact hS) ?_
      simp only [Act.put, List.setIfInBounds_toArray, List.set_cons_succ, List.set_cons_zero]
      refine wpAnyH_take_d 4 (some 21) (.slice (some ⟨gb, 0, none⟩) n c') rfl (by kernel_rfl) (by kernel_rfl) (by kernel_rfl) (by kernel_rfl) rfl (fun _ _ _ h => h) (fun _ _ => by kernel_rfl) (by exact hS) ?_
      simp only [Act.put, List.setIfInBounds_toArray, List.set_cons_succ, List.set_cons_zero]
      refine wpAnyH_take_d 5 (some 22) (.int .i64 k) rfl (by kernel_rfl) (by kernel_rfl) (by kernel_rfl) (by kernel_rfl) rfl (fun _ _ _ h => h) (fun _ _ => by kernel_rfl) (by exact hS) ?_
      simp only [Act.put, List.setIfInBounds_toArray, List.set_cons_succ, List.set_cons_zero]
      refine wpAnyH_take_d 6 (some 23) (.pointer (some ⟨gb, 0 + k * 2, none⟩)) rfl (by kernel_rfl) (by kernel_rfl) (by kernel_rfl) (by kernel_rfl) rfl (fun _ _ _ h => h) (fun w' h => exec_indexAddrS rfl rfl rfl hlk Try.underlying27 (by kernel_rfl)) (by exact hS) ?_
      simp only [Act.put, List.setIfInBounds_toArray, List.set_cons_succ, List.set_cons_zero]
      rw [Nat.zero_add]
      refine wpAnyH_take_d 7 (some 24) (.agg #[.int .i64 xi, .float .f64 xp]) rfl (by kernel_rfl) (by kernel_rfl) (by kernel_rfl) (by kernel_rfl) rfl (fun _ _ _ h => h) (fun w' h => exec_loadN [.int .i64 xi, .float .f64 xp] rfl rfl (range2 h.2.1 h.2.2) Try.underlying60 rfl (by kernel_rfl)) (by exact hS) ?_
      simp only [Act.put, List.setIfInBounds_toArray, List.set_cons_succ, List.set_cons_zero]
      refine wpAnyH_call 8 (some 25) 24 #[.agg #[.int .i64 xi, .float .f64 xp], .agg #[.int .i64 xi, .float .f64 xp]] rfl (by kernel_rfl) (by kernel_rfl) rfl (by kernel_rfl) (sameE_any xi xp _) ?_
      rintro e w5 ⟨rfl, b5⟩
      have hS := And.intro (And.intro ((b5.cell (p := ⟨ga, k * 2, none⟩) (World.block_lt_of_cell? _ _ a0)).trans a0) ((b5.cell (p := ⟨ga, k * 2 + 1, none⟩) (World.block_lt_of_cell? _ _ a1)).trans a1)) (And.intro ((b5.cell (p := ⟨gb, k * 2, none⟩) (World.block_lt_of_cell? _ _ c0)).trans c0) ((b5.cell (p := ⟨gb, k * 2 + 1, none⟩) (World.block_lt_of_cell? _ _ c1)).trans c1))
      refine ⟨_, rfl, hS, ?_⟩
      simp only [Act.put, List.setIfInBounds_toArray, List.set_cons_succ, List.set_cons_zero]
      refine wpAnyH_one 9 (some 26) (.bool false) rfl (by kernel_rfl) (by kernel_rfl) rfl (by kernel_rfl) (by exact hS) ?_
      simp only [Act.put, List.setIfInBounds_toArray, List.set_cons_succ, List.set_cons_zero]
      refine wpAnyH_done (by kernel_rfl) ?_ _
      have B5 := hbk.drew.trans (b5.mono hbk.size)
      clear hS a0 a1 c0 c1 b5
      go_wp2
      go_roundw
      case rel => exact ⟨k1, by omega, rfl, B5⟩
      case measure => simp [intOf]; omega
    · obtain rfl : n = k := by omega
      clear h1 h2 hn
      go_wp2
      go_ret
      exact ⟨rfl, hbk⟩
end Go.Proofs.Ytegloiojhimoeaa
