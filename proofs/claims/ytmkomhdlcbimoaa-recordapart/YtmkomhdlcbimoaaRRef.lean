/- The contracts of the document's own Right, Encode, DocEncode of a record. No statement of the seat is proved here. -/
import Derived.Test.YtmkomhdlcbimoaaRKnown
import Derived.Test.YtmkomhdlcbimoaaPRefEnc
namespace Go.Proofs.Ytmkomhdlcbimoaa
set_option maxRecDepth 20000
open Go.RowKit

def cnt (k : Int) : Nat := if k = 1 then 3 else if k = 2 then 7 else 1
def rightB (k : Int) (zs : List Int) (t : ByteArray) : Bool := decide (zs.length = cnt k) && decide (t.size ≤ 160) && allNat zs && (if k = 1 then decide (t.size = 0) else if k = 2 then decide (zs.getD 0 0 = 1 ∨ zs.getD 0 0 = 2 ∧ zs.getD 6 0 = 0 ∧ t.size = 0) else true)
theorem count_any (k : Int) (hk : k = 1 ∨ k = 2 ∨ k = 3) (w : World) : Calls Try.prog 48 #[.int .i64 k] w fun e w' => e = .returned (.int .i64 (cnt k : Nat)) ∧ Below w.heap.size w w' := by
  have B := below_new w (.cells #[.int .i64 0, .int .i64 3, .int .i64 7, .int .i64 1] 3)
  rcases hk with rfl | rfl | rfl
  all_goals
    go_enter Try.func48, Try.ntmps48
    go_wp2
    go_ret
    exact ⟨rfl, B⟩
theorem texted_any (k : Int) (w : World) : Calls Try.prog 49 #[.int .i64 k] w fun e w' => e = .returned (.bool (k != 1)) ∧ w = w' := by
  go_enter Try.func49, Try.ntmps49
  go_wp2
  go_ret
  exact ⟨rfl, rfl⟩
abbrev recV (k : Int) (nv : Value) (t : ByteArray) : Value := .agg #[.int .i64 k, nv, .string t]
theorem exec_intneq {P : Program} {w : World} {ρ : Operand → Value} {o : Oper} {t t' : TypeId} {x y : Operand} {k : IntKind} {a b : Int} {c : Bool} (ho : o.op = .binOp .neq t x y t') (hx : ρ x = .int k a) (hy : ρ y = .int k b) (h : (a != b) = c) : (execOp ρ o).run P w = .ok (.value (.bool c)) w := by
  subst h
  unfold execOp
  simp only [ho, hx, hy, Sem.run_bind]
  have e1 : (eqGuard .neq t x y (.int k a) (.int k b)).run P w = .ok () w := by simp [eqGuard]
  have e2 : (binOp .neq t (.int k a) (.int k b)).run P w = .ok (.bool (a != b)) w := by simp [go_sem]
  rw [e1, Result.andThen_ok, e2]; rfl
theorem exec_intgtr {P : Program} {w : World} {ρ : Operand → Value} {o : Oper} {t t' : TypeId} {x y : Operand} {k : IntKind} {a b : Int} {c : Bool} (ho : o.op = .binOp .gtr t x y t') (hx : ρ x = .int k a) (hy : ρ y = .int k b) (h : decide (b < a) = c) : (execOp ρ o).run P w = .ok (.value (.bool c)) w := by
  subst h
  unfold execOp
  simp only [ho, hx, hy, Sem.run_bind]
  have e1 : (eqGuard .gtr t x y (.int k a) (.int k b)).run P w = .ok () w := by simp [eqGuard]
  have e2 : (binOp .gtr t (.int k a) (.int k b)).run P w = .ok (.bool (decide (b < a))) w := by simp [go_sem]
  rw [e1, Result.andThen_ok, e2]; rfl
theorem exec_intlss {P : Program} {w : World} {ρ : Operand → Value} {o : Oper} {t t' : TypeId} {x y : Operand} {k : IntKind} {a b : Int} {c : Bool} (ho : o.op = .binOp .lss t x y t') (hx : ρ x = .int k a) (hy : ρ y = .int k b) (h : decide (a < b) = c) : (execOp ρ o).run P w = .ok (.value (.bool c)) w := by
  subst h
  unfold execOp
  simp only [ho, hx, hy, Sem.run_bind]
  have e1 : (eqGuard .lss t x y (.int k a) (.int k b)).run P w = .ok () w := by simp [eqGuard]
  have e2 : (binOp .lss t (.int k a) (.int k b)).run P w = .ok (.bool (decide (a < b))) w := by simp [go_sem]
  rw [e1, Result.andThen_ok, e2]; rfl
theorem allNat_of {zs : List Int} (h : ∀ q, q < zs.length → 0 ≤ zs.getD q 0) : allNat zs = true := by
  unfold allNat
  rw [List.all_eq_true]
  intro x hx
  obtain ⟨j, hj, rfl⟩ := List.mem_iff_getElem.1 hx
  have := h j hj
  rw [List.getD_eq_getElem?_getD, List.getElem?_eq_getElem hj] at this
  simpa using this
theorem right_neg {k : Int} {zs : List Int} {t : ByteArray} {j : Nat} (hj : j < zs.length) (h : zs.getD j 0 < 0) : rightB k zs t = false := by
  have : allNat zs = false := by
    unfold allNat
    rw [List.all_eq_false]
    refine ⟨zs.getD j 0, ?_, by simpa using h⟩
    rw [List.getD_eq_getElem?_getD, List.getElem?_eq_getElem hj]; exact List.getElem_mem _
  unfold rightB
  rw [this]; simp
set_option maxRecDepth 20000 in
set_option maxHeartbeats 1600000 in
theorem right_any {w : World} {nv : Value} {zs : List Int} (h : IntC w nv zs) (k : Int) (hk : k = 1 ∨ k = 2 ∨ k = 3) (t : ByteArray) (ht : t.size ≤ maxLen) : Calls Try.prog 28 #[recV k nv t] w fun e w' => e = .returned (.bool (rightB k zs t)) ∧ Below w.heap.size w w' := by
  obtain ⟨ao, m, cap, hv, hm⟩ : ∃ ao m cap, nv = .slice ao m cap ∧ Hid (m = zs.length) := by
    obtain ⟨ao, cap, hv, _⟩ := h
    exact ⟨ao, _, cap, hv, Lib.hid rfl⟩
  have hmb : m ≤ 4000 := by rw [hm.out]; obtain ⟨_, _, _, _, hh, _⟩ := h; exact hh
  subst hv
  unfold maxLen at ht
  have B0 := below_new w (.cells #[.int .i64 k, .slice ao m cap, .string t] 34)
  have c0 := cell_new w #[.int .i64 k, .slice ao m cap, .string t] 34 0 _ rfl
  have c1 := cell_new w #[.int .i64 k, .slice ao m cap, .string t] 34 1 _ rfl
  have c2 := cell_new w #[.int .i64 k, .slice ao m cap, .string t] 34 2 _ rfl
  have hw0 : w.heap.size < (w.alloc (.cells #[.int .i64 k, .slice ao m cap, .string t] 34)).heap.size := by simp
  have hI := h.below B0
  have hk1 : ¬ k < 1 := by omega
  have hk3 : ¬ 3 < k := by omega
  have hcn := fun w' => count_any k hk w'
  go_enter Try.func28, Try.ntmps28
  go_wp2_with fail
  generalize w.alloc (.cells #[.int .i64 k, .slice ao m cap, .string t] 34) = wa at B0 c0 c1 c2 hw0 hI ⊢
  generalize hpb : w.heap.size = pb at c0 c1 c2 hw0 ⊢
  have hS : Below wa.heap.size wa wa.drew := (Below.refl _ _).drew
  refine wp_region_held_drew (S := fun w' => Below wa.heap.size wa w') mixed hS (fun _ => ?_)
  show wpAnyH _ _ _ _ _ 23 (Array.replicate 23 false) _ _
  refine wpAnyH_take_d 0 (some 5) (.pointer (some ⟨pb, 0, none⟩)) rfl (by kernel_rfl) (by kernel_rfl) (by kernel_rfl) (by kernel_rfl) rfl (fun _ _ _ h => h) (fun _ _ => by kernel_rfl) (by exact hS) ?_
  simp only [Act.put, List.setIfInBounds_toArray, List.set_cons_succ, List.set_cons_zero]
  refine wpAnyH_take_d 1 (some 6) (.int .i64 k) rfl (by kernel_rfl) (by kernel_rfl) (by kernel_rfl) (by kernel_rfl) rfl (fun _ _ _ h => h) (fun w' h => exec_load_cell rfl rfl ((h.cell hw0).trans c0) Try.underlying3 rfl) (by exact hS) ?_
  simp only [Act.put, List.setIfInBounds_toArray, List.set_cons_succ, List.set_cons_zero]
  refine wpAnyH_take_d 2 (some 7) (.bool false) rfl (by kernel_rfl) (by kernel_rfl) (by kernel_rfl) (by kernel_rfl) rfl (fun _ _ _ h => h) (fun w' h => exec_intlss rfl rfl rfl (decide_eq_false (by omega))) (by exact hS) ?_
  simp only [Act.put, List.setIfInBounds_toArray, List.set_cons_succ, List.set_cons_zero]
  refine wpAnyH_take_d 3 (some 8) (.bool false) rfl (by kernel_rfl) (by kernel_rfl) (by kernel_rfl) (by kernel_rfl) rfl (fun _ _ _ h => h) (fun _ _ => by kernel_rfl) (by exact hS) ?_
  simp only [Act.put, List.setIfInBounds_toArray, List.set_cons_succ, List.set_cons_zero]
  refine wpAnyH_take_d 4 (some 9) (.pointer (some ⟨pb, 0, none⟩)) rfl (by kernel_rfl) (by kernel_rfl) (by kernel_rfl) (by kernel_rfl) rfl (fun _ _ _ h => h) (fun _ _ => by kernel_rfl) (by exact hS) ?_
  simp only [Act.put, List.setIfInBounds_toArray, List.set_cons_succ, List.set_cons_zero]
  refine wpAnyH_take_d 5 (some 10) (.int .i64 k) rfl (by kernel_rfl) (by kernel_rfl) (by kernel_rfl) (by kernel_rfl) rfl (fun _ _ _ h => h) (fun w' h => exec_load_cell rfl rfl ((h.cell hw0).trans c0) Try.underlying3 rfl) (by exact hS) ?_
  simp only [Act.put, List.setIfInBounds_toArray, List.set_cons_succ, List.set_cons_zero]
  refine wpAnyH_take_d 6 (some 11) (.bool false) rfl (by kernel_rfl) (by kernel_rfl) (by kernel_rfl) (by kernel_rfl) rfl (fun _ _ _ h => h) (fun w' h => exec_intgtr rfl rfl rfl (decide_eq_false (by omega))) (by exact hS) ?_
  simp only [Act.put, List.setIfInBounds_toArray, List.set_cons_succ, List.set_cons_zero]
  refine wpAnyH_take_d 7 (some 12) (.bool false) rfl (by kernel_rfl) (by kernel_rfl) (by kernel_rfl) (by kernel_rfl) rfl (fun _ _ _ h => h) (fun _ _ => by kernel_rfl) (by exact hS) ?_
  simp only [Act.put, List.setIfInBounds_toArray, List.set_cons_succ, List.set_cons_zero]
  refine wpAnyH_take_d 8 (some 13) (.bool false) rfl (by kernel_rfl) (by kernel_rfl) (by kernel_rfl) (by kernel_rfl) rfl (fun _ _ _ h => h) (fun _ _ => by kernel_rfl) (by exact hS) ?_
  simp only [Act.put, List.setIfInBounds_toArray, List.set_cons_succ, List.set_cons_zero]
  refine wpAnyH_take_d 9 (some 14) (.pointer (some ⟨pb, 1, none⟩)) rfl (by kernel_rfl) (by kernel_rfl) (by kernel_rfl) (by kernel_rfl) rfl (fun _ _ _ h => h) (fun _ _ => by kernel_rfl) (by exact hS) ?_
  simp only [Act.put, List.setIfInBounds_toArray, List.set_cons_succ, List.set_cons_zero]
  refine wpAnyH_take_d 10 (some 15) (.slice ao m cap) rfl (by kernel_rfl) (by kernel_rfl) (by kernel_rfl) (by kernel_rfl) rfl (fun _ _ _ h => h) (fun w' h => exec_load_cell rfl rfl ((h.cell hw0).trans c1) Try.underlying32 rfl) (by exact hS) ?_
  simp only [Act.put, List.setIfInBounds_toArray, List.set_cons_succ, List.set_cons_zero]
  refine wpAnyH_take_d 11 (some 16) (.int .i64 (m : Nat)) rfl (by kernel_rfl) (by kernel_rfl) (by kernel_rfl) (by kernel_rfl) rfl (fun _ _ _ h => h) (fun _ _ => by kernel_rfl) (by exact hS) ?_
  simp only [Act.put, List.setIfInBounds_toArray, List.set_cons_succ, List.set_cons_zero]
  refine wpAnyH_take_d 12 (some 17) (.pointer (some ⟨pb, 0, none⟩)) rfl (by kernel_rfl) (by kernel_rfl) (by kernel_rfl) (by kernel_rfl) rfl (fun _ _ _ h => h) (fun _ _ => by kernel_rfl) (by exact hS) ?_
  simp only [Act.put, List.setIfInBounds_toArray, List.set_cons_succ, List.set_cons_zero]
  refine wpAnyH_take_d 13 (some 18) (.int .i64 k) rfl (by kernel_rfl) (by kernel_rfl) (by kernel_rfl) (by kernel_rfl) rfl (fun _ _ _ h => h) (fun w' h => exec_load_cell rfl rfl ((h.cell hw0).trans c0) Try.underlying3 rfl) (by exact hS) ?_
  simp only [Act.put, List.setIfInBounds_toArray, List.set_cons_succ, List.set_cons_zero]
  generalize wa.drew = w1 at hS ⊢
  refine wpAnyH_call 14 (some 19) 48 #[.int .i64 k] rfl (by kernel_rfl) (by kernel_rfl) rfl (by kernel_rfl) (hcn w1) ?_
  rintro e w2 ⟨rfl, b2⟩
  have hS : Below wa.heap.size wa w2 := hS.trans (b2.mono hS.size)
  refine ⟨_, rfl, hS, ?_⟩
  simp only [Act.put, List.setIfInBounds_toArray, List.set_cons_succ, List.set_cons_zero]
  by_cases d1 : m = cnt k
  · refine ?_
    refine wpAnyH_take_d 15 (some 20) (.bool false) rfl (by kernel_rfl) (by kernel_rfl) (by kernel_rfl) (by kernel_rfl) rfl (fun _ _ _ h => h) (fun w' h => exec_intneq rfl rfl rfl (by rw [d1]; simp)) (by exact hS) ?_
    simp only [Act.put, List.setIfInBounds_toArray, List.set_cons_succ, List.set_cons_zero]
    refine wpAnyH_take_d 16 (some 21) (.bool false) rfl (by kernel_rfl) (by kernel_rfl) (by kernel_rfl) (by kernel_rfl) rfl (fun _ _ _ h => h) (fun _ _ => by kernel_rfl) (by exact hS) ?_
    simp only [Act.put, List.setIfInBounds_toArray, List.set_cons_succ, List.set_cons_zero]
    refine wpAnyH_take_d 17 (some 22) (.bool false) rfl (by kernel_rfl) (by kernel_rfl) (by kernel_rfl) (by kernel_rfl) rfl (fun _ _ _ h => h) (fun _ _ => by kernel_rfl) (by exact hS) ?_
    simp only [Act.put, List.setIfInBounds_toArray, List.set_cons_succ, List.set_cons_zero]
    refine wpAnyH_take_d 18 (some 23) (.pointer (some ⟨pb, 2, none⟩)) rfl (by kernel_rfl) (by kernel_rfl) (by kernel_rfl) (by kernel_rfl) rfl (fun _ _ _ h => h) (fun _ _ => by kernel_rfl) (by exact hS) ?_
    simp only [Act.put, List.setIfInBounds_toArray, List.set_cons_succ, List.set_cons_zero]
    refine wpAnyH_take_d 19 (some 24) (.string t) rfl (by kernel_rfl) (by kernel_rfl) (by kernel_rfl) (by kernel_rfl) rfl (fun _ _ _ h => h) (fun w' h => exec_load_cell rfl rfl ((h.cell hw0).trans c2) Try.underlying9 rfl) (by exact hS) ?_
    simp only [Act.put, List.setIfInBounds_toArray, List.set_cons_succ, List.set_cons_zero]
    refine wpAnyH_take_d 20 (some 25) (.int .i64 (t.size : Nat)) rfl (by kernel_rfl) (by kernel_rfl) (by kernel_rfl) (by kernel_rfl) rfl (fun _ _ _ h => h) (fun _ _ => by kernel_rfl) (by exact hS) ?_
    simp only [Act.put, List.setIfInBounds_toArray, List.set_cons_succ, List.set_cons_zero]
    by_cases d2 : t.size ≤ 160
    · refine ?_
      refine wpAnyH_take_d 21 (some 26) (.bool false) rfl (by kernel_rfl) (by kernel_rfl) (by kernel_rfl) (by kernel_rfl) rfl (fun _ _ _ h => h) (fun w' h => exec_intgtr rfl rfl rfl (decide_eq_false (by omega))) (by exact hS) ?_
      simp only [Act.put, List.setIfInBounds_toArray, List.set_cons_succ, List.set_cons_zero]
      refine wpAnyH_take_d 22 (some 27) (.bool false) rfl (by kernel_rfl) (by kernel_rfl) (by kernel_rfl) (by kernel_rfl) rfl (fun _ _ _ h => h) (fun _ _ => by kernel_rfl) (by exact hS) ?_
      simp only [Act.put, List.setIfInBounds_toArray, List.set_cons_succ, List.set_cons_zero]
      refine wpAnyH_done (by kernel_rfl) ?_ _
      have e0 := (hS.cell hw0).trans c0
      have e1 := (hS.cell hw0).trans c1
      have e2 := (hS.cell hw0).trans c2
      have hI2 := hI.below hS
      have B2 := B0.trans (hS.mono B0.size)
      have D1 := Lib.hid d1
      clear d1
      rcases hk with rfl | rfl | rfl
      · go_wp2
        go_loop [3] (fun i => ∃ j : Nat, j ≤ m ∧ i = .int .i64 j ∧ Hid (∀ q, q < j → 0 ≤ zs.getD q 0)) (fun i => m - (intOf i).toNat)
        case atStart => exact ⟨0, Nat.zero_le _, rfl, Lib.hid (fun q hq => by omega)⟩
        case round =>
          obtain ⟨j, hj, rfl, hz⟩ := hrel
          by_cases hlt : j < m
          · have hlt' : j < zs.length := by rw [← hm.out]; exact hlt
            obtain ⟨b, off, rfl, hcell⟩ := hI2.get hlt'
            by_cases h0 : 0 ≤ zs.getD j 0
            · have h1 : ¬ zs.getD j 0 < 0 := by omega
              have HZ : Hid (∀ q, q < j + 1 → 0 ≤ zs.getD q 0) := Lib.hid (fun q hq => by
                by_cases e : q = j
                · subst e; exact h0
                · exact hz.out q (by omega))
              generalize zs.getD j 0 = x at h1 hcell
              clear h0 hz
              go_wp2
              go_round
              case rel => exact ⟨j + 1, by omega, by go_num, HZ⟩
              case measure => first | (simp [intOf]; omega) | omega
            · have h1 : zs.getD j 0 < 0 := by omega
              have HF := Lib.hid (right_neg (k := 1) (t := t) hlt' h1)
              generalize zs.getD j 0 = x at h1 hcell
              clear h0 hz
              go_wp2
              go_ret
              exact ⟨by rw [HF.out]; rfl, by first | exact B2 | (rw [← hpb]; exact B2)⟩
          · have HZ := Lib.hid (allNat_of (zs := zs) (fun q hq => hz.out q (by rw [← hm.out] at hq; omega)))
            have hml : zs.length = cnt 1 := by rw [← hm.out]; exact D1.out
            clear hz
            have hse := strempty_eq t
            have HR : Hid (rightB 1 zs t = decide (t.size = 0)) := Lib.hid (by unfold rightB; rw [hml, HZ.out, decide_eq_true d2]; simp)
            by_cases d3 : t.size = 0
            · rw [decide_eq_true d3] at hse
              rw [decide_eq_true d3] at HR
              clear d3 hml
              go_wp2
              go_ret
              exact ⟨by first | (rw [HR.out]; rfl) | (rw [HR.out, hse]; rfl), by first | exact B2 | (rw [← hpb]; exact B2)⟩
            · rw [decide_eq_false d3] at hse
              rw [decide_eq_false d3] at HR
              clear d3 hml
              go_wp2
              go_ret
              exact ⟨by first | (rw [HR.out]; rfl) | (rw [HR.out, hse]; rfl), by first | exact B2 | (rw [← hpb]; exact B2)⟩
      · go_wp2
        go_loop [3] (fun i => ∃ j : Nat, j ≤ m ∧ i = .int .i64 j ∧ Hid (∀ q, q < j → 0 ≤ zs.getD q 0)) (fun i => m - (intOf i).toNat)
        case atStart => exact ⟨0, Nat.zero_le _, rfl, Lib.hid (fun q hq => by omega)⟩
        case round =>
          obtain ⟨j, hj, rfl, hz⟩ := hrel
          by_cases hlt : j < m
          · have hlt' : j < zs.length := by rw [← hm.out]; exact hlt
            obtain ⟨b, off, rfl, hcell⟩ := hI2.get hlt'
            by_cases h0 : 0 ≤ zs.getD j 0
            · have h1 : ¬ zs.getD j 0 < 0 := by omega
              have HZ : Hid (∀ q, q < j + 1 → 0 ≤ zs.getD q 0) := Lib.hid (fun q hq => by
                by_cases e : q = j
                · subst e; exact h0
                · exact hz.out q (by omega))
              generalize zs.getD j 0 = x at h1 hcell
              clear h0 hz
              go_wp2
              go_round
              case rel => exact ⟨j + 1, by omega, by go_num, HZ⟩
              case measure => first | (simp [intOf]; omega) | omega
            · have h1 : zs.getD j 0 < 0 := by omega
              have HF := Lib.hid (right_neg (k := 2) (t := t) hlt' h1)
              generalize zs.getD j 0 = x at h1 hcell
              clear h0 hz
              go_wp2
              go_ret
              exact ⟨by rw [HF.out]; rfl, by first | exact B2 | (rw [← hpb]; exact B2)⟩
          · have HZ := Lib.hid (allNat_of (zs := zs) (fun q hq => hz.out q (by rw [← hm.out] at hq; omega)))
            have hml : zs.length = cnt 2 := by rw [← hm.out]; exact D1.out
            clear hz
            have h7 : zs.length = 7 := hml
            obtain rfl : m = 7 := by rw [hm.out]; exact h7
            obtain ⟨b, off, rfl, hc0⟩ := hI2.get (k := 0) (by omega)
            obtain ⟨b', off', he, hc6⟩ := hI2.get (k := 6) (by omega)
            cases he
            have HR : Hid (rightB 2 zs t = decide (zs.getD 0 0 = 1 ∨ zs.getD 0 0 = 2 ∧ zs.getD 6 0 = 0 ∧ t.size = 0)) := Lib.hid (by unfold rightB; rw [hml, HZ.out, decide_eq_true d2]; simp)
            have hse := strempty_eq t
            generalize zs.getD 0 0 = z0 at hc0 HR
            generalize zs.getD 6 0 = z6 at hc6 HR
            simp only [Nat.add_zero] at hc0
            clear hml h7
            by_cases d3 : z0 = 1
            · subst d3
              go_wp2
              go_ret
              exact ⟨by rw [HR.out]; simp, by first | exact B2 | (rw [← hpb]; exact B2)⟩
            · have d3' : (z0 == 1) = false := by simpa using d3
              have D3 := Lib.hid d3
              clear d3
              by_cases d4 : z0 = 2
              · subst d4
                by_cases d5 : z6 = 0
                · subst d5
                  by_cases d6 : t.size = 0
                  · rw [decide_eq_true d6] at hse
                    have HR2 : Hid (rightB 2 zs t = true) := Lib.hid (by rw [HR.out]; simp [d6])
                    clear d6
                    go_wp2
                    go_ret
                    exact ⟨by first | (rw [HR2.out]; rfl) | (rw [HR2.out, hse]; rfl), by first | exact B2 | (rw [← hpb]; exact B2)⟩
                  · rw [decide_eq_false d6] at hse
                    have HR2 : Hid (rightB 2 zs t = false) := Lib.hid (by rw [HR.out]; simp [d6])
                    clear d6
                    go_wp2
                    go_ret
                    exact ⟨by first | (rw [HR2.out]; rfl) | (rw [HR2.out, hse]; rfl), by first | exact B2 | (rw [← hpb]; exact B2)⟩
                · have d5' : (z6 == 0) = false := by simpa using d5
                  have HR2 : Hid (rightB 2 zs t = false) := Lib.hid (by rw [HR.out]; simp [d5])
                  clear d5
                  go_wp2
                  go_ret
                  exact ⟨by rw [HR2.out]; rfl, by first | exact B2 | (rw [← hpb]; exact B2)⟩
              · have d4' : (z0 == 2) = false := by simpa using d4
                have HR2 : Hid (rightB 2 zs t = false) := Lib.hid (by rw [HR.out]; have := D3.out; simp [d4, this])
                clear d4
                go_wp2
                go_ret
                exact ⟨by rw [HR2.out]; rfl, by first | exact B2 | (rw [← hpb]; exact B2)⟩
      · go_wp2
        go_loop [3] (fun i => ∃ j : Nat, j ≤ m ∧ i = .int .i64 j ∧ Hid (∀ q, q < j → 0 ≤ zs.getD q 0)) (fun i => m - (intOf i).toNat)
        case atStart => exact ⟨0, Nat.zero_le _, rfl, Lib.hid (fun q hq => by omega)⟩
        case round =>
          obtain ⟨j, hj, rfl, hz⟩ := hrel
          by_cases hlt : j < m
          · have hlt' : j < zs.length := by rw [← hm.out]; exact hlt
            obtain ⟨b, off, rfl, hcell⟩ := hI2.get hlt'
            by_cases h0 : 0 ≤ zs.getD j 0
            · have h1 : ¬ zs.getD j 0 < 0 := by omega
              have HZ : Hid (∀ q, q < j + 1 → 0 ≤ zs.getD q 0) := Lib.hid (fun q hq => by
                by_cases e : q = j
                · subst e; exact h0
                · exact hz.out q (by omega))
              generalize zs.getD j 0 = x at h1 hcell
              clear h0 hz
              go_wp2
              go_round
              case rel => exact ⟨j + 1, by omega, by go_num, HZ⟩
              case measure => first | (simp [intOf]; omega) | omega
            · have h1 : zs.getD j 0 < 0 := by omega
              have HF := Lib.hid (right_neg (k := 3) (t := t) hlt' h1)
              generalize zs.getD j 0 = x at h1 hcell
              clear h0 hz
              go_wp2
              go_ret
              exact ⟨by rw [HF.out]; rfl, by first | exact B2 | (rw [← hpb]; exact B2)⟩
          · have HZ := Lib.hid (allNat_of (zs := zs) (fun q hq => hz.out q (by rw [← hm.out] at hq; omega)))
            have hml : zs.length = cnt 3 := by rw [← hm.out]; exact D1.out
            clear hz
            have HR : Hid (rightB 3 zs t = true) := Lib.hid (by unfold rightB; rw [hml, HZ.out, decide_eq_true d2]; simp)
            clear hml
            go_wp2
            go_ret
            exact ⟨by rw [HR.out]; rfl, by first | exact B2 | (rw [← hpb]; exact B2)⟩
    · refine ?_
      refine wpAnyH_take_d 21 (some 26) (.bool true) rfl (by kernel_rfl) (by kernel_rfl) (by kernel_rfl) (by kernel_rfl) rfl (fun _ _ _ h => h) (fun w' h => exec_intgtr rfl rfl rfl (decide_eq_true (by omega))) (by exact hS) ?_
      simp only [Act.put, List.setIfInBounds_toArray, List.set_cons_succ, List.set_cons_zero]
      refine wpAnyH_take_d 22 (some 27) (.bool true) rfl (by kernel_rfl) (by kernel_rfl) (by kernel_rfl) (by kernel_rfl) rfl (fun _ _ _ h => h) (fun _ _ => by kernel_rfl) (by exact hS) ?_
      simp only [Act.put, List.setIfInBounds_toArray, List.set_cons_succ, List.set_cons_zero]
      refine wpAnyH_done (by kernel_rfl) ?_ _
      have B2 := B0.trans (hS.mono B0.size)
      have hr : rightB k zs t = false := by unfold rightB; rw [decide_eq_false d2]; simp
      have HR := Lib.hid hr
      clear hr
      go_wp2
      go_ret
      exact ⟨by rw [HR.out]; rfl, by first | exact B2 | (rw [← hpb]; exact B2)⟩
  · refine ?_
    refine wpAnyH_take_d 15 (some 20) (.bool true) rfl (by kernel_rfl) (by kernel_rfl) (by kernel_rfl) (by kernel_rfl) rfl (fun _ _ _ h => h) (fun w' h => exec_intneq rfl rfl rfl (by simp; omega)) (by exact hS) ?_
    simp only [Act.put, List.setIfInBounds_toArray, List.set_cons_succ, List.set_cons_zero]
    refine wpAnyH_take_d 16 (some 21) (.bool true) rfl (by kernel_rfl) (by kernel_rfl) (by kernel_rfl) (by kernel_rfl) rfl (fun _ _ _ h => h) (fun _ _ => by kernel_rfl) (by exact hS) ?_
    simp only [Act.put, List.setIfInBounds_toArray, List.set_cons_succ, List.set_cons_zero]
    refine wpAnyH_take_d 17 (some 22) (.bool true) rfl (by kernel_rfl) (by kernel_rfl) (by kernel_rfl) (by kernel_rfl) rfl (fun _ _ _ h => h) (fun _ _ => by kernel_rfl) (by exact hS) ?_
    simp only [Act.put, List.setIfInBounds_toArray, List.set_cons_succ, List.set_cons_zero]
    refine wpAnyH_skip_d 18 (some 23) rfl (by kernel_rfl) (by kernel_rfl) (by kernel_rfl) (by kernel_rfl) rfl (fun _ _ _ h => h) (by exact hS) ?_
    simp only [Act.put, List.setIfInBounds_toArray, List.set_cons_succ, List.set_cons_zero]
    refine wpAnyH_skip_d 19 (some 24) rfl (by kernel_rfl) (by kernel_rfl) (by kernel_rfl) (by kernel_rfl) rfl (fun _ _ _ h => h) (by exact hS) ?_
    simp only [Act.put, List.setIfInBounds_toArray, List.set_cons_succ, List.set_cons_zero]
    refine wpAnyH_skip_d 20 (some 25) rfl (by kernel_rfl) (by kernel_rfl) (by kernel_rfl) (by kernel_rfl) rfl (fun _ _ _ h => h) (by exact hS) ?_
    simp only [Act.put, List.setIfInBounds_toArray, List.set_cons_succ, List.set_cons_zero]
    refine wpAnyH_skip_d 21 (some 26) rfl (by kernel_rfl) (by kernel_rfl) (by kernel_rfl) (by kernel_rfl) rfl (fun _ _ _ h => h) (by exact hS) ?_
    simp only [Act.put, List.setIfInBounds_toArray, List.set_cons_succ, List.set_cons_zero]
    refine wpAnyH_take_d 22 (some 27) (.bool true) rfl (by kernel_rfl) (by kernel_rfl) (by kernel_rfl) (by kernel_rfl) rfl (fun _ _ _ h => h) (fun _ _ => by kernel_rfl) (by exact hS) ?_
    simp only [Act.put, List.setIfInBounds_toArray, List.set_cons_succ, List.set_cons_zero]
    refine wpAnyH_done (by kernel_rfl) ?_ _
    have B2 := B0.trans (hS.mono B0.size)
    have hr : rightB k zs t = false := by unfold rightB; rw [decide_eq_false (by rw [← hm.out]; exact d1)]; simp
    have HR := Lib.hid hr
    clear hr
    go_wp2
    go_ret
    exact ⟨by rw [HR.out]; rfl, by first | exact B2 | (rw [← hpb]; exact B2)⟩
end Go.Proofs.Ytmkomhdlcbimoaa
