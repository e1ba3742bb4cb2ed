/- The contracts of DecodeSuper, DecodeLog, DecodeHome. No statement of the seat is proved here. -/
import Derived.Test.YtmkomhdlcbimoaaREnc
namespace Go.Proofs.Ytmkomhdlcbimoaa
set_option maxRecDepth 20000
open Go.RowKit

theorem below_setRow {B : Nat} {a w : World} (h : Below B a w) {g : Nat} (hg : B ≤ g) (cs : Array Value) : Below B a (w.setRow g cs) :=
  ⟨h.os, h.tape, h.output, by have := h.size; simpa using this, fun k hk => by rw [setRow_other w g k cs (by omega)]; exact h.block k hk⟩
theorem exec_store_row {P : Program} {w : World} {ρ : Operand → Value} {o : Oper} {ty : TypeId} {x y : Operand} {g : Nat} {cells old : Array Value} {t : TypeId} (ho : o.op = .store ty x y) (hx : ρ x = .pointer (some ⟨g, 0, none⟩)) (hy : ρ y = .agg cells)
    (hg : w.heap[g]? = some (.cells old t (0, 0))) (hi : (P.info? ty).map (·.size) = some cells.size) (hold : old.size = cells.size) (h1 : cells.all (·.oneCell') = true) : (execOp ρ o).run P w = .ok .skip (w.setRow g cells) := by
  unfold execOp
  simp only [ho, hx, hy, Instr.storeAt, Instr.sureAddr, Sem.run_bind, Sem.run_pure, Result.andThen_ok, run_storeVar_row w g t ty old cells hg hi hold h1]
def StoreOk (ty : TypeId) (old cs : Array Value) : Prop := (Try.prog.info? ty).map (·.size) = some cs.size ∧ old.size = cs.size ∧ cs.all (·.oneCell') = true
theorem wpList_store_row2 {ops : Array Oper} {rest : List Oper} {o : Oper} {a : Act} {w : World} {Q : Exit → Act → World → Prop} (hgd : o.guard = none) (ty : TypeId) (x y : Operand) (ho : o.op = .store ty x y)
    (g : Nat) (cells : Array Value) (hx : a.eval x = .pointer (some ⟨g, 0, none⟩)) (hy : a.eval y = .agg cells) (t : TypeId) (old : Array Value) (hg : w.heap[g]? = some (.cells old t (0, 0))) (hs : StoreOk ty old cells)
    (h : wpList Try.prog ops Q rest (a.put o.dst undef) (w.setRow g cells)) : wpList Try.prog ops Q (o :: rest) a w :=
  Go.wpList_store_row hgd ty x y ho g cells hx hy t old hg hs.1 hs.2.1 hs.2.2 h
theorem wpAnyH_one_skip' {P : Program} {md : Region.Mode} {ops : Array Oper} {Q : Exit → Act → World → Prop} {S : World → Prop} {fuel : Nat} {L : Array Bool} {a : Act} {w w1 : World} (i : Nat) {o : Oper} (hi : ops[i]? = some o) (hr : Region.ready md ops L = [i]) (hw : Region.wanted o (yielded ops a.tmps) = true)
    (hy : (execOp a.eval o).run P w = .ok .skip w1) (hS : S w1) (h : wpAnyH P md ops Q S fuel (L.setIfInBounds i true) (a.put o.dst undef) w1) : wpAnyH P md ops Q S (fuel + 1) L a w := by
  refine wpAnyH_ready hr (by simp) (AllReadyH.cons hi (fun K hK => ?_) AllReadyH.nil)
  rw [if_pos hw]
  unfold Oper.wp
  rw [hy]; exact hK.out _ _ hS (fun _ => h)
theorem exec_alloc_row {P : Program} {w : World} {ρ : Operand → Value} {o : Oper} {ty : TypeId} {z : Array Value} (ho : o.op = .alloc ty) (hz : ∀ w, (zeroValue ty).run P w = .ok (.agg z) w) : (execOp ρ o).run P w = .ok (.value (.pointer (some ⟨w.heap.size, 0, none⟩))) (w.alloc (.cells z ty)) := by
  unfold execOp
  simp [ho, Instr.alloc, newVar, newRow, Value.cells, hz, go_sem]

theorem exec_indexAddr3r {P : Program} {w : World} {ρ : Operand → Value} {o : Oper} {t e : TypeId} {x ix : Operand} {b off len cap : Nat} {k : Nat} (ho : o.op = .indexAddr t x ix) (hx : ρ x = .slice (some ⟨b, off, none⟩) len cap) (hi : ρ ix = .int .i64 k) (hk : k < len)
    (hu : P.underlying t = some (.slice e)) (hs : (P.info? e).map (·.size) = some 3) : (execOp ρ o).run P w = .ok (.value (.pointer (some ⟨b, off + k * 3, none⟩))) w := by
  cases hq : P.info? e with
  | none => simp [hq] at hs
  | some i =>
    have h1 : i.size = 3 := by simpa [hq] using hs
    have e1 : (0 : Int) ≤ (k : Int) ∧ (k : Int) < (len : Int) := by omega
    have e2 : (⟨b, off, none⟩ : Addr).add (k * 3) = ⟨b, off + k * 3, none⟩ := by unfold Addr.add; split <;> simp_all
    unfold execOp
    simp [ho, hx, hi, Instr.indexAt, asIntOf, run_underlying hu, hk, sizeOf, typeInfo, hq, h1, e2]
theorem szItemR : (Try.prog.info? 77).map (·.size) = some 3 := by kernel_rfl
theorem zeroSuper (w : World) : (zeroValue 23).run Try.prog w = .ok (.agg #[.int .i64 0, .int .i64 0, .int .i64 0]) w := (zero_of_info (n := 3) (by kernel_rfl)).1 w
theorem zeroLog (w : World) : (zeroValue 25).run Try.prog w = .ok (.agg #[.int .i64 0, .int .i64 0, .int .i64 0, .int .i64 0, .int .i64 0, .int .i64 0, .int .i64 0, .string ⟨#[]⟩]) w := (zero_of_info (n := 8) (by kernel_rfl)).1 w
theorem zeroHome (w : World) : (zeroValue 27).run Try.prog w = .ok (.agg #[.int .i64 0, .string ⟨#[]⟩]) w := (zero_of_info (n := 2) (by kernel_rfl)).1 w


set_option maxRecDepth 20000 in
set_option maxHeartbeats 3200000 in
theorem decodeSuper_any {w : World} {v : Value} {bs : List UInt8} (h : ByC w v bs) (hcap : capOk v) : Calls Try.prog 18 #[v] w fun e w' => e = .returned (.tuple #[superV (supG bs 1) (supG bs 2) (supG bs 3), .int .i64 (supE bs)]) ∧ Below w.heap.size w w' := by
  have B0 := below_new w (.cells #[.int .i64 0, .int .i64 0, .int .i64 0] 23)
  have hg0 := heap_alloc_new w (.cells #[.int .i64 0, .int .i64 0, .int .i64 0] 23)
  have hb0 : ∀ w, (Instr.build 23 #[]).run Try.prog w = .ok (.agg #[.int .i64 0, .int .i64 0, .int .i64 0]) w := fun w => run_build w 23 _ _ (by kernel_rfl)
  have hu := unsector_any (h.below B0) hcap 1 4 0 4 0 rfl rfl (by decide) (by decide) (by decide)
  obtain ⟨ao, m, cap, hv, hm⟩ : ∃ ao m cap, v = .slice ao m cap ∧ Hid (m = bs.length) := by
    obtain ⟨ao, cap, hv, _⟩ := h
    exact ⟨ao, _, cap, hv, Lib.hid rfl⟩
  subst hv
  by_cases c1 : secE bs 1 4 0 = 0
  · obtain ⟨k1, k2, k3, k4, k5, k6⟩ := secE_zero c1
    have e1 : supE bs = if superOk (itAt (secR bs 1 4 0) 1).n (itAt (secR bs 1 4 0) 2).n (itAt (secR bs 1 4 0) 3).n then 0 else 2 := by unfold supE; rw [if_pos c1]
    rw [c1] at hu
    have g1 : ∀ i, supG bs i = if supE bs = 0 then (itAt (secR bs 1 4 0) i).n else 0 := fun _ => rfl
    have G1 := Lib.hid g1
    clear g1
    have HE1 := Lib.hid e1
    have K5 := Lib.hid k5
    clear k1 k3 k4 k6 e1 c1
    generalize secR bs 1 4 0 = l at *
    clear h
    go_enter Try.func18, Try.ntmps18
    go_wp2_with fail
    refine Calls.mono hu ?_
    rintro e w2 ⟨v2, rfl, h2, b2⟩
    have hg2 := (b2.block w.heap.size (by simp)).trans hg0
    have hws : w.heap.size < w2.heap.size := by have := b2.size; simp at this; omega
    have B2 := B0.trans (b2.mono B0.size)
    have hit := h2.items K5.out
    obtain ⟨ao2, cap2, hv2, hc2, hl2, -, hcells⟩ := hit
    rw [k2] at hv2 hcells
    obtain ⟨b, off, rfl, hB, hc⟩ := hcells (by decide)
    subst hv2
    have d1 : w2.cell? ⟨b, off + 1 * 3 + 1, none⟩ = some (.int .i64 (itAt l 1).n) := (hc 1 (by decide)).2.1
    have d2 : w2.cell? ⟨b, off + 2 * 3 + 1, none⟩ = some (.int .i64 (itAt l 2).n) := (hc 2 (by decide)).2.1
    have d3 : w2.cell? ⟨b, off + 3 * 3 + 1, none⟩ = some (.int .i64 (itAt l 3).n) := (hc 3 (by decide)).2.1
    have o1 := (itAt_ok K5.out (show 1 < l.length by omega)).2.1
    have o2 := (itAt_ok K5.out (show 2 < l.length by omega)).2.1
    have o3 := (itAt_ok K5.out (show 3 < l.length by omega)).2.1
    generalize hx1 : (itAt l 1).n = x1 at d1 o1
    generalize hx2 : (itAt l 2).n = x2 at d2 o2
    generalize hx3 : (itAt l 3).n = x3 at d3 o3
    clear hu hc hcells h2 b2 hg0
    go_wp2_with fail
    have hS : Below w2.heap.size w2 w2.drew := (Below.refl _ _).drew
    have hgD : w2.drew.heap[w.heap.size]? = some (.cells #[.int .i64 0, .int .i64 0, .int .i64 0] 23 (0, 0)) := hg2
    refine wp_region_held_drew (S := fun w' => Below w2.heap.size w2 w') mixed hS (fun _ => ?_)
    show wpAnyH _ _ _ _ _ 15 (Array.replicate 15 false) _ _
    refine wpAnyH_take_d 0 (some 16) (.slice (some ⟨b, off, none⟩) 4 cap2) rfl (by kernel_rfl) (by kernel_rfl) (by kernel_rfl) (by kernel_rfl) rfl (fun _ _ _ h => h) (fun _ _ => by kernel_rfl) (by exact hS) ?_
    simp only [Act.put, List.setIfInBounds_toArray, List.set_cons_succ, List.set_cons_zero]
    refine wpAnyH_take_d 1 (some 17) (.pointer (some ⟨b, off + 1 * 3, none⟩)) rfl (by kernel_rfl) (by kernel_rfl) (by kernel_rfl) (by kernel_rfl) rfl (fun _ _ _ h => h) (fun w' h => exec_indexAddr3r rfl rfl rfl (by decide) Try.underlying74 szItemR) (by exact hS) ?_
    simp only [Act.put, List.setIfInBounds_toArray, List.set_cons_succ, List.set_cons_zero]
    refine wpAnyH_take_d 2 (some 18) (.pointer (some ⟨b, off + 1 * 3 + 1, none⟩)) rfl (by kernel_rfl) (by kernel_rfl) (by kernel_rfl) (by kernel_rfl) rfl (fun _ _ _ h => h) (fun _ _ => by kernel_rfl) (by exact hS) ?_
    simp only [Act.put, List.setIfInBounds_toArray, List.set_cons_succ, List.set_cons_zero]
    refine wpAnyH_take_d 3 (some 19) (.int .i64 x1) rfl (by kernel_rfl) (by kernel_rfl) (by kernel_rfl) (by kernel_rfl) rfl (fun _ _ _ h => h) (fun w' h => exec_load_cell rfl rfl ((h.cell hB).trans d1) Try.underlying3 rfl) (by exact hS) ?_
    simp only [Act.put, List.setIfInBounds_toArray, List.set_cons_succ, List.set_cons_zero]
    refine wpAnyH_take_d 4 (some 20) (.slice (some ⟨b, off, none⟩) 4 cap2) rfl (by kernel_rfl) (by kernel_rfl) (by kernel_rfl) (by kernel_rfl) rfl (fun _ _ _ h => h) (fun _ _ => by kernel_rfl) (by exact hS) ?_
    simp only [Act.put, List.setIfInBounds_toArray, List.set_cons_succ, List.set_cons_zero]
    refine wpAnyH_take_d 5 (some 21) (.pointer (some ⟨b, off + 2 * 3, none⟩)) rfl (by kernel_rfl) (by kernel_rfl) (by kernel_rfl) (by kernel_rfl) rfl (fun _ _ _ h => h) (fun w' h => exec_indexAddr3r rfl rfl rfl (by decide) Try.underlying74 szItemR) (by exact hS) ?_
    simp only [Act.put, List.setIfInBounds_toArray, List.set_cons_succ, List.set_cons_zero]
    refine wpAnyH_take_d 6 (some 22) (.pointer (some ⟨b, off + 2 * 3 + 1, none⟩)) rfl (by kernel_rfl) (by kernel_rfl) (by kernel_rfl) (by kernel_rfl) rfl (fun _ _ _ h => h) (fun _ _ => by kernel_rfl) (by exact hS) ?_
    simp only [Act.put, List.setIfInBounds_toArray, List.set_cons_succ, List.set_cons_zero]
    refine wpAnyH_take_d 7 (some 23) (.int .i64 x2) rfl (by kernel_rfl) (by kernel_rfl) (by kernel_rfl) (by kernel_rfl) rfl (fun _ _ _ h => h) (fun w' h => exec_load_cell rfl rfl ((h.cell hB).trans d2) Try.underlying3 rfl) (by exact hS) ?_
    simp only [Act.put, List.setIfInBounds_toArray, List.set_cons_succ, List.set_cons_zero]
    refine wpAnyH_take_d 8 (some 24) (.slice (some ⟨b, off, none⟩) 4 cap2) rfl (by kernel_rfl) (by kernel_rfl) (by kernel_rfl) (by kernel_rfl) rfl (fun _ _ _ h => h) (fun _ _ => by kernel_rfl) (by exact hS) ?_
    simp only [Act.put, List.setIfInBounds_toArray, List.set_cons_succ, List.set_cons_zero]
    refine wpAnyH_take_d 9 (some 25) (.pointer (some ⟨b, off + 3 * 3, none⟩)) rfl (by kernel_rfl) (by kernel_rfl) (by kernel_rfl) (by kernel_rfl) rfl (fun _ _ _ h => h) (fun w' h => exec_indexAddr3r rfl rfl rfl (by decide) Try.underlying74 szItemR) (by exact hS) ?_
    simp only [Act.put, List.setIfInBounds_toArray, List.set_cons_succ, List.set_cons_zero]
    refine wpAnyH_take_d 10 (some 26) (.pointer (some ⟨b, off + 3 * 3 + 1, none⟩)) rfl (by kernel_rfl) (by kernel_rfl) (by kernel_rfl) (by kernel_rfl) rfl (fun _ _ _ h => h) (fun _ _ => by kernel_rfl) (by exact hS) ?_
    simp only [Act.put, List.setIfInBounds_toArray, List.set_cons_succ, List.set_cons_zero]
    refine wpAnyH_take_d 11 (some 27) (.int .i64 x3) rfl (by kernel_rfl) (by kernel_rfl) (by kernel_rfl) (by kernel_rfl) rfl (fun _ _ _ h => h) (fun w' h => exec_load_cell rfl rfl ((h.cell hB).trans d3) Try.underlying3 rfl) (by exact hS) ?_
    simp only [Act.put, List.setIfInBounds_toArray, List.set_cons_succ, List.set_cons_zero]
    refine wpAnyH_take_d 12 (some 28) (.agg #[.int .i64 x1, .int .i64 x2, .int .i64 x3]) rfl (by kernel_rfl) (by kernel_rfl) (by kernel_rfl) (by kernel_rfl) rfl (fun _ _ _ h => h) (fun _ _ => by kernel_rfl) (by exact hS) ?_
    simp only [Act.put, List.setIfInBounds_toArray, List.set_cons_succ, List.set_cons_zero]
    generalize w2.drew = w3 at hS hgD ⊢
    have hS : Below w2.heap.size w2 (w3.alloc (.cells #[.int .i64 0, .int .i64 0, .int .i64 0] 23)) := hS.alloc hS.size _
    refine wpAnyH_one 13 (some 6) (.pointer (some ⟨w3.heap.size, 0, none⟩)) rfl (by kernel_rfl) (by kernel_rfl) rfl (exec_alloc_row rfl zeroSuper) (by exact hS) ?_
    simp only [Act.put, List.setIfInBounds_toArray, List.set_cons_succ, List.set_cons_zero]
    have hgn := heap_alloc_new w3 (.cells #[.int .i64 0, .int .i64 0, .int .i64 0] 23)
    have hw3 : w.heap.size < w3.heap.size := (Array.getElem?_eq_some_iff.1 hgD).1
    have hgE : (w3.alloc (.cells #[.int .i64 0, .int .i64 0, .int .i64 0] 23)).heap[w.heap.size]? = some (.cells #[.int .i64 0, .int .i64 0, .int .i64 0] 23 (0, 0)) := (Below.heap_alloc w3 _ _ hw3).trans hgD
    generalize hbn : w3.heap.size = bn at hgn hw3 ⊢
    have hbn' : w2.heap.size ≤ bn := by have := (show Below w2.heap.size w2 w3 from ‹_›).size; omega
    generalize w3.alloc (.cells #[.int .i64 0, .int .i64 0, .int .i64 0] 23) = w4 at hgn hgE hS ⊢
    have hS : Below w2.heap.size w2 (w4.setRow bn #[.int .i64 x1, .int .i64 x2, .int .i64 x3]) := below_setRow hS hbn' _
    refine wpAnyH_one_skip' 14 rfl (by kernel_rfl) (by kernel_rfl) (exec_store_row rfl rfl rfl hgn (by kernel_rfl) rfl (by simp [Value.oneCell'])) (by exact hS) ?_
    simp only [Act.put, List.setIfInBounds_toArray, List.set_cons_succ, List.set_cons_zero]
    have hgF : (w4.setRow bn #[.int .i64 x1, .int .i64 x2, .int .i64 x3]).heap[bn]? = some (.cells #[.int .i64 x1, .int .i64 x2, .int .i64 x3] 23 (0, 0)) := setRow_heap w4 bn _ _ _ _ hgn
    have hgG : (w4.setRow bn #[.int .i64 x1, .int .i64 x2, .int .i64 x3]).heap[w.heap.size]? = some (.cells #[.int .i64 0, .int .i64 0, .int .i64 0] 23 (0, 0)) := (setRow_other w4 bn _ _ (by omega)).trans hgE
    generalize w4.setRow bn #[.int .i64 x1, .int .i64 x2, .int .i64 x3] = w5 at hgF hgG hS ⊢
    have hw5 : bn < w5.heap.size := (Array.getElem?_eq_some_iff.1 hgF).1
    have B5 := B2.trans (hS.mono B2.size)
    refine wpAnyH_done (by kernel_rfl) ?_ _
    have q0 : w5.cell? ⟨bn, 0, none⟩ = some (.int .i64 x1) := cell_row hgF 0 rfl
    have q1 : w5.cell? ⟨bn, 1, none⟩ = some (.int .i64 x2) := cell_row hgF 1 rfl
    have q2 : w5.cell? ⟨bn, 2, none⟩ = some (.int .i64 x3) := cell_row hgF 2 rfl
    have hfo := superFormed_any x1 x2 x3 w5
    clear hS hgn hgE hgD hg2
    clear d1 o1
    clear d2 o2
    clear d3 o3
    cases hs : superOk x1 x2 x3
    · rw [hs] at hfo
      have HS := Lib.hid hs
      clear hs
      go_wp2_with fail
      refine Calls.mono hfo ?_
      rintro e w6 ⟨rfl, b6⟩
      have B6 := B5.trans (b6.mono B5.size)
      have hg6 := (b6.block w.heap.size (by omega)).trans hgG
      have hg6' := (b6.block bn hw5).trans hgF
      have r0 : w6.cell? ⟨bn, 0, none⟩ = some (.int .i64 x1) := cell_row hg6' 0 rfl
      have r1 : w6.cell? ⟨bn, 1, none⟩ = some (.int .i64 x2) := cell_row hg6' 1 rfl
      have r2 : w6.cell? ⟨bn, 2, none⟩ = some (.int .i64 x3) := cell_row hg6' 2 rfl
      clear hfo
      have K1 : StoreOk 23 #[.int .i64 0, .int .i64 0, .int .i64 0] #[.int .i64 0, .int .i64 0, .int .i64 0] := ⟨by kernel_rfl, rfl, by simp [Value.oneCell']⟩
      go_wp2_with (with_reducible refine wpList_store_row2 rfl 23 (.tmp 2) (.tmp 32) rfl w.heap.size #[.int .i64 0, .int .i64 0, .int .i64 0] rfl rfl 23 #[.int .i64 0, .int .i64 0, .int .i64 0] hg6 K1 ?_)
      have hgR : (w6.setRow w.heap.size #[.int .i64 0, .int .i64 0, .int .i64 0]).heap[w.heap.size]? = some (.cells #[.int .i64 0, .int .i64 0, .int .i64 0] 23 (0, 0)) := setRow_heap w6 _ _ _ _ _ hg6
      have BR := below_setRow B6 (Nat.le_refl _) #[.int .i64 0, .int .i64 0, .int .i64 0]
      generalize w6.setRow w.heap.size #[.int .i64 0, .int .i64 0, .int .i64 0] = w7 at hgR BR ⊢
      have s0 : w7.cell? ⟨w.heap.size, 0, none⟩ = some (.int .i64 0) := cell_row hgR 0 rfl
      have s1 : w7.cell? ⟨w.heap.size, 1, none⟩ = some (.int .i64 0) := cell_row hgR 1 rfl
      have s2 : w7.cell? ⟨w.heap.size, 2, none⟩ = some (.int .i64 0) := cell_row hgR 2 rfl
      go_wp2
      exact bodyPost_ret (v := .tuple #[.agg #[.int .i64 0, .int .i64 0, .int .i64 0], .int .i64 2]) (by simp [results, Try.results18, go_sem, s0, s1, s2]) rfl ⟨by
        rw [hx1, hx2, hx3, HS.out] at HE1
        rw [G1.out, G1.out, G1.out, HE1.out]; rfl, BR⟩
    · rw [hs] at hfo
      have HS := Lib.hid hs
      clear hs
      go_wp2_with fail
      refine Calls.mono hfo ?_
      rintro e w6 ⟨rfl, b6⟩
      have B6 := B5.trans (b6.mono B5.size)
      have hg6 := (b6.block w.heap.size (by omega)).trans hgG
      have hg6' := (b6.block bn hw5).trans hgF
      have r0 : w6.cell? ⟨bn, 0, none⟩ = some (.int .i64 x1) := cell_row hg6' 0 rfl
      have r1 : w6.cell? ⟨bn, 1, none⟩ = some (.int .i64 x2) := cell_row hg6' 1 rfl
      have r2 : w6.cell? ⟨bn, 2, none⟩ = some (.int .i64 x3) := cell_row hg6' 2 rfl
      clear hfo
      have K1 : StoreOk 23 #[.int .i64 0, .int .i64 0, .int .i64 0] #[.int .i64 x1, .int .i64 x2, .int .i64 x3] := ⟨by kernel_rfl, rfl, by simp [Value.oneCell']⟩
      go_wp2_with (with_reducible refine wpList_store_row2 rfl 23 (.tmp 2) (.tmp 33) rfl w.heap.size #[.int .i64 x1, .int .i64 x2, .int .i64 x3] rfl rfl 23 #[.int .i64 0, .int .i64 0, .int .i64 0] hg6 K1 ?_)
      have hgR : (w6.setRow w.heap.size #[.int .i64 x1, .int .i64 x2, .int .i64 x3]).heap[w.heap.size]? = some (.cells #[.int .i64 x1, .int .i64 x2, .int .i64 x3] 23 (0, 0)) := setRow_heap w6 _ _ _ _ _ hg6
      have BR := below_setRow B6 (Nat.le_refl _) #[.int .i64 x1, .int .i64 x2, .int .i64 x3]
      generalize w6.setRow w.heap.size #[.int .i64 x1, .int .i64 x2, .int .i64 x3] = w7 at hgR BR ⊢
      have s0 : w7.cell? ⟨w.heap.size, 0, none⟩ = some (.int .i64 x1) := cell_row hgR 0 rfl
      have s1 : w7.cell? ⟨w.heap.size, 1, none⟩ = some (.int .i64 x2) := cell_row hgR 1 rfl
      have s2 : w7.cell? ⟨w.heap.size, 2, none⟩ = some (.int .i64 x3) := cell_row hgR 2 rfl
      go_wp2
      exact bodyPost_ret (v := .tuple #[.agg #[.int .i64 x1, .int .i64 x2, .int .i64 x3], .int .i64 0]) (by simp [results, Try.results18, go_sem, s0, s1, s2]) rfl ⟨by
        rw [hx1, hx2, hx3, HS.out] at HE1
        rw [G1.out, G1.out, G1.out, HE1.out, hx1, hx2, hx3]; rfl, BR⟩
  · have e1 : supE bs = secE bs 1 4 0 := by unfold supE; rw [if_neg c1]
    have e2 : ¬ supE bs = 0 := by rw [e1]; exact c1
    have e3 : ∀ i, supG bs i = 0 := fun i => if_neg e2
    rw [e3, e3, e3]
    rw [e1]
    have hq : (secE bs 1 4 0 != 0) = true := by simpa using c1
    generalize secE bs 1 4 0 = E at hq hu
    clear e1 e2 c1 h
    go_enter Try.func18, Try.ntmps18
    go_wp2_with fail
    refine Calls.mono hu ?_
    rintro e w2 ⟨v2, rfl, h2, b2⟩
    have hg2 := (b2.block w.heap.size (by simp)).trans hg0
    have B2 := B0.trans (b2.mono B0.size)
    obtain ⟨ao2, m2, cap2, hv2, hm2⟩ := h2.form'
    subst hv2
    clear hu h2 hg0 b2
    have K1 : StoreOk 23 #[.int .i64 0, .int .i64 0, .int .i64 0] #[.int .i64 0, .int .i64 0, .int .i64 0] := ⟨by kernel_rfl, rfl, by simp [Value.oneCell']⟩
    go_wp2_with (with_reducible refine wpList_store_row2 rfl 23 (.tmp 2) (.tmp 14) rfl w.heap.size #[.int .i64 0, .int .i64 0, .int .i64 0] rfl rfl 23 #[.int .i64 0, .int .i64 0, .int .i64 0] hg2 K1 ?_)
    have hgR : (w2.setRow w.heap.size #[.int .i64 0, .int .i64 0, .int .i64 0]).heap[w.heap.size]? = some (.cells #[.int .i64 0, .int .i64 0, .int .i64 0] 23 (0, 0)) := setRow_heap w2 _ _ _ _ _ hg2
    have BR := below_setRow B2 (Nat.le_refl _) #[.int .i64 0, .int .i64 0, .int .i64 0]
    generalize w2.setRow w.heap.size #[.int .i64 0, .int .i64 0, .int .i64 0] = w7 at hgR BR ⊢
    have s0 : w7.cell? ⟨w.heap.size, 0, none⟩ = some (.int .i64 0) := cell_row hgR 0 rfl
    have s1 : w7.cell? ⟨w.heap.size, 1, none⟩ = some (.int .i64 0) := cell_row hgR 1 rfl
    have s2 : w7.cell? ⟨w.heap.size, 2, none⟩ = some (.int .i64 0) := cell_row hgR 2 rfl
    go_wp2
    exact bodyPost_ret (v := .tuple #[.agg #[.int .i64 0, .int .i64 0, .int .i64 0], .int .i64 E]) (by simp [results, Try.results18, go_sem, s0, s1, s2]) rfl ⟨rfl, BR⟩

set_option maxRecDepth 20000 in
set_option maxHeartbeats 3200000 in
theorem decodeLog_any {w : World} {v : Value} {bs : List UInt8} (h : ByC w v bs) (hcap : capOk v) : Calls Try.prog 21 #[v] w fun e w' => e = .returned (.tuple #[logVal (logV bs), .int .i64 (logE bs)]) ∧ Below w.heap.size w w' := by
  have B0 := below_new w (.cells #[.int .i64 0, .int .i64 0, .int .i64 0, .int .i64 0, .int .i64 0, .int .i64 0, .int .i64 0, .string ⟨#[]⟩] 25)
  have hg0 := heap_alloc_new w (.cells #[.int .i64 0, .int .i64 0, .int .i64 0, .int .i64 0, .int .i64 0, .int .i64 0, .int .i64 0, .string ⟨#[]⟩] 25)
  have hb0 : ∀ w, (Instr.build 25 #[]).run Try.prog w = .ok (.agg #[.int .i64 0, .int .i64 0, .int .i64 0, .int .i64 0, .int .i64 0, .int .i64 0, .int .i64 0, .string ⟨#[]⟩]) w := fun w => run_build w 25 _ _ (by kernel_rfl)
  have hu := unsector_any (h.below B0) hcap 2 8 1 8 1 rfl rfl (by decide) (by decide) (by decide)
  obtain ⟨ao, m, cap, hv, hm⟩ : ∃ ao m cap, v = .slice ao m cap ∧ Hid (m = bs.length) := by
    obtain ⟨ao, cap, hv, _⟩ := h
    exact ⟨ao, _, cap, hv, Lib.hid rfl⟩
  subst hv
  by_cases c1 : secE bs 2 8 1 = 0
  · obtain ⟨k1, k2, k3, k4, k5, k6⟩ := secE_zero c1
    have e1 : logE bs = if logOk (lgOf (secR bs 2 8 1)) then 0 else 2 := by unfold logE; rw [if_pos c1]
    rw [c1] at hu
    have g1 : logV bs = if logE bs = 0 then lgOf (secR bs 2 8 1) else lgNone := rfl
    have G1 := Lib.hid g1
    clear g1
    have HE1 := Lib.hid e1
    have K5 := Lib.hid k5
    clear k1 k3 k4 k6 e1 c1
    generalize secR bs 2 8 1 = l at *
    clear h
    go_enter Try.func21, Try.ntmps21
    go_wp2_with fail
    refine Calls.mono hu ?_
    rintro e w2 ⟨v2, rfl, h2, b2⟩
    have hg2 := (b2.block w.heap.size (by simp)).trans hg0
    have hws : w.heap.size < w2.heap.size := by have := b2.size; simp at this; omega
    have B2 := B0.trans (b2.mono B0.size)
    have hit := h2.items K5.out
    obtain ⟨ao2, cap2, hv2, hc2, hl2, -, hcells⟩ := hit
    rw [k2] at hv2 hcells
    obtain ⟨b, off, rfl, hB, hc⟩ := hcells (by decide)
    subst hv2
    have d1 : w2.cell? ⟨b, off + 1 * 3 + 1, none⟩ = some (.int .i64 (itAt l 1).n) := (hc 1 (by decide)).2.1
    have d2 : w2.cell? ⟨b, off + 2 * 3 + 1, none⟩ = some (.int .i64 (itAt l 2).n) := (hc 2 (by decide)).2.1
    have d3 : w2.cell? ⟨b, off + 3 * 3 + 1, none⟩ = some (.int .i64 (itAt l 3).n) := (hc 3 (by decide)).2.1
    have d4 : w2.cell? ⟨b, off + 4 * 3 + 1, none⟩ = some (.int .i64 (itAt l 4).n) := (hc 4 (by decide)).2.1
    have d5 : w2.cell? ⟨b, off + 5 * 3 + 1, none⟩ = some (.int .i64 (itAt l 5).n) := (hc 5 (by decide)).2.1
    have d6 : w2.cell? ⟨b, off + 6 * 3 + 1, none⟩ = some (.int .i64 (itAt l 6).n) := (hc 6 (by decide)).2.1
    have d7 : w2.cell? ⟨b, off + 7 * 3 + 1, none⟩ = some (.int .i64 (itAt l 7).n) := (hc 7 (by decide)).2.1
    have d8 : w2.cell? ⟨b, off + 8 * 3 + 2, none⟩ = some (.string (itAt l 8).s) := (hc 8 (by decide)).2.2
    have o1 := (itAt_ok K5.out (show 1 < l.length by omega)).2.1
    have o2 := (itAt_ok K5.out (show 2 < l.length by omega)).2.1
    have o3 := (itAt_ok K5.out (show 3 < l.length by omega)).2.1
    have o4 := (itAt_ok K5.out (show 4 < l.length by omega)).2.1
    have o5 := (itAt_ok K5.out (show 5 < l.length by omega)).2.1
    have o6 := (itAt_ok K5.out (show 6 < l.length by omega)).2.1
    have o7 := (itAt_ok K5.out (show 7 < l.length by omega)).2.1
    have o8 := (itAt_ok K5.out (show 8 < l.length by omega)).2.2
    generalize hx1 : (itAt l 1).n = x1 at d1 o1
    generalize hx2 : (itAt l 2).n = x2 at d2 o2
    generalize hx3 : (itAt l 3).n = x3 at d3 o3
    generalize hx4 : (itAt l 4).n = x4 at d4 o4
    generalize hx5 : (itAt l 5).n = x5 at d5 o5
    generalize hx6 : (itAt l 6).n = x6 at d6 o6
    generalize hx7 : (itAt l 7).n = x7 at d7 o7
    generalize hx8 : (itAt l 8).s = x8 at d8 o8
    clear hu hc hcells h2 b2 hg0
    go_wp2_with fail
    have hS : Below w2.heap.size w2 w2.drew := (Below.refl _ _).drew
    have hgD : w2.drew.heap[w.heap.size]? = some (.cells #[.int .i64 0, .int .i64 0, .int .i64 0, .int .i64 0, .int .i64 0, .int .i64 0, .int .i64 0, .string ⟨#[]⟩] 25 (0, 0)) := hg2
    refine wp_region_held_drew (S := fun w' => Below w2.heap.size w2 w') mixed hS (fun _ => ?_)
    show wpAnyH _ _ _ _ _ 35 (Array.replicate 35 false) _ _
    refine wpAnyH_take_d 0 (some 16) (.slice (some ⟨b, off, none⟩) 9 cap2) rfl (by kernel_rfl) (by kernel_rfl) (by kernel_rfl) (by kernel_rfl) rfl (fun _ _ _ h => h) (fun _ _ => by kernel_rfl) (by exact hS) ?_
    simp only [Act.put, List.setIfInBounds_toArray, List.set_cons_succ, List.set_cons_zero]
    refine wpAnyH_take_d 1 (some 17) (.pointer (some ⟨b, off + 1 * 3, none⟩)) rfl (by kernel_rfl) (by kernel_rfl) (by kernel_rfl) (by kernel_rfl) rfl (fun _ _ _ h => h) (fun w' h => exec_indexAddr3r rfl rfl rfl (by decide) Try.underlying74 szItemR) (by exact hS) ?_
    simp only [Act.put, List.setIfInBounds_toArray, List.set_cons_succ, List.set_cons_zero]
    refine wpAnyH_take_d 2 (some 18) (.pointer (some ⟨b, off + 1 * 3 + 1, none⟩)) rfl (by kernel_rfl) (by kernel_rfl) (by kernel_rfl) (by kernel_rfl) rfl (fun _ _ _ h => h) (fun _ _ => by kernel_rfl) (by exact hS) ?_
    simp only [Act.put, List.setIfInBounds_toArray, List.set_cons_succ, List.set_cons_zero]
    refine wpAnyH_take_d 3 (some 19) (.int .i64 x1) rfl (by kernel_rfl) (by kernel_rfl) (by kernel_rfl) (by kernel_rfl) rfl (fun _ _ _ h => h) (fun w' h => exec_load_cell rfl rfl ((h.cell hB).trans d1) Try.underlying3 rfl) (by exact hS) ?_
    simp only [Act.put, List.setIfInBounds_toArray, List.set_cons_succ, List.set_cons_zero]
    refine wpAnyH_take_d 4 (some 20) (.slice (some ⟨b, off, none⟩) 9 cap2) rfl (by kernel_rfl) (by kernel_rfl) (by kernel_rfl) (by kernel_rfl) rfl (fun _ _ _ h => h) (fun _ _ => by kernel_rfl) (by exact hS) ?_
    simp only [Act.put, List.setIfInBounds_toArray, List.set_cons_succ, List.set_cons_zero]
    refine wpAnyH_take_d 5 (some 21) (.pointer (some ⟨b, off + 2 * 3, none⟩)) rfl (by kernel_rfl) (by kernel_rfl) (by kernel_rfl) (by kernel_rfl) rfl (fun _ _ _ h => h) (fun w' h => exec_indexAddr3r rfl rfl rfl (by decide) Try.underlying74 szItemR) (by exact hS) ?_
    simp only [Act.put, List.setIfInBounds_toArray, List.set_cons_succ, List.set_cons_zero]
    refine wpAnyH_take_d 6 (some 22) (.pointer (some ⟨b, off + 2 * 3 + 1, none⟩)) rfl (by kernel_rfl) (by kernel_rfl) (by kernel_rfl) (by kernel_rfl) rfl (fun _ _ _ h => h) (fun _ _ => by kernel_rfl) (by exact hS) ?_
    simp only [Act.put, List.setIfInBounds_toArray, List.set_cons_succ, List.set_cons_zero]
    refine wpAnyH_take_d 7 (some 23) (.int .i64 x2) rfl (by kernel_rfl) (by kernel_rfl) (by kernel_rfl) (by kernel_rfl) rfl (fun _ _ _ h => h) (fun w' h => exec_load_cell rfl rfl ((h.cell hB).trans d2) Try.underlying3 rfl) (by exact hS) ?_
    simp only [Act.put, List.setIfInBounds_toArray, List.set_cons_succ, List.set_cons_zero]
    refine wpAnyH_take_d 8 (some 24) (.slice (some ⟨b, off, none⟩) 9 cap2) rfl (by kernel_rfl) (by kernel_rfl) (by kernel_rfl) (by kernel_rfl) rfl (fun _ _ _ h => h) (fun _ _ => by kernel_rfl) (by exact hS) ?_
    simp only [Act.put, List.setIfInBounds_toArray, List.set_cons_succ, List.set_cons_zero]
    refine wpAnyH_take_d 9 (some 25) (.pointer (some ⟨b, off + 3 * 3, none⟩)) rfl (by kernel_rfl) (by kernel_rfl) (by kernel_rfl) (by kernel_rfl) rfl (fun _ _ _ h => h) (fun w' h => exec_indexAddr3r rfl rfl rfl (by decide) Try.underlying74 szItemR) (by exact hS) ?_
    simp only [Act.put, List.setIfInBounds_toArray, List.set_cons_succ, List.set_cons_zero]
    refine wpAnyH_take_d 10 (some 26) (.pointer (some ⟨b, off + 3 * 3 + 1, none⟩)) rfl (by kernel_rfl) (by kernel_rfl) (by kernel_rfl) (by kernel_rfl) rfl (fun _ _ _ h => h) (fun _ _ => by kernel_rfl) (by exact hS) ?_
    simp only [Act.put, List.setIfInBounds_toArray, List.set_cons_succ, List.set_cons_zero]
    refine wpAnyH_take_d 11 (some 27) (.int .i64 x3) rfl (by kernel_rfl) (by kernel_rfl) (by kernel_rfl) (by kernel_rfl) rfl (fun _ _ _ h => h) (fun w' h => exec_load_cell rfl rfl ((h.cell hB).trans d3) Try.underlying3 rfl) (by exact hS) ?_
    simp only [Act.put, List.setIfInBounds_toArray, List.set_cons_succ, List.set_cons_zero]
    refine wpAnyH_take_d 12 (some 28) (.slice (some ⟨b, off, none⟩) 9 cap2) rfl (by kernel_rfl) (by kernel_rfl) (by kernel_rfl) (by kernel_rfl) rfl (fun _ _ _ h => h) (fun _ _ => by kernel_rfl) (by exact hS) ?_
    simp only [Act.put, List.setIfInBounds_toArray, List.set_cons_succ, List.set_cons_zero]
    refine wpAnyH_take_d 13 (some 29) (.pointer (some ⟨b, off + 4 * 3, none⟩)) rfl (by kernel_rfl) (by kernel_rfl) (by kernel_rfl) (by kernel_rfl) rfl (fun _ _ _ h => h) (fun w' h => exec_indexAddr3r rfl rfl rfl (by decide) Try.underlying74 szItemR) (by exact hS) ?_
    simp only [Act.put, List.setIfInBounds_toArray, List.set_cons_succ, List.set_cons_zero]
    refine wpAnyH_take_d 14 (some 30) (.pointer (some ⟨b, off + 4 * 3 + 1, none⟩)) rfl (by kernel_rfl) (by kernel_rfl) (by kernel_rfl) (by kernel_rfl) rfl (fun _ _ _ h => h) (fun _ _ => by kernel_rfl) (by exact hS) ?_
    simp only [Act.put, List.setIfInBounds_toArray, List.set_cons_succ, List.set_cons_zero]
    refine wpAnyH_take_d 15 (some 31) (.int .i64 x4) rfl (by kernel_rfl) (by kernel_rfl) (by kernel_rfl) (by kernel_rfl) rfl (fun _ _ _ h => h) (fun w' h => exec_load_cell rfl rfl ((h.cell hB).trans d4) Try.underlying3 rfl) (by exact hS) ?_
    simp only [Act.put, List.setIfInBounds_toArray, List.set_cons_succ, List.set_cons_zero]
    refine wpAnyH_take_d 16 (some 32) (.slice (some ⟨b, off, none⟩) 9 cap2) rfl (by kernel_rfl) (by kernel_rfl) (by kernel_rfl) (by kernel_rfl) rfl (fun _ _ _ h => h) (fun _ _ => by kernel_rfl) (by exact hS) ?_
    simp only [Act.put, List.setIfInBounds_toArray, List.set_cons_succ, List.set_cons_zero]
    refine wpAnyH_take_d 17 (some 33) (.pointer (some ⟨b, off + 5 * 3, none⟩)) rfl (by kernel_rfl) (by kernel_rfl) (by kernel_rfl) (by kernel_rfl) rfl (fun _ _ _ h => h) (fun w' h => exec_indexAddr3r rfl rfl rfl (by decide) Try.underlying74 szItemR) (by exact hS) ?_
    simp only [Act.put, List.setIfInBounds_toArray, List.set_cons_succ, List.set_cons_zero]
    refine wpAnyH_take_d 18 (some 34) (.pointer (some ⟨b, off + 5 * 3 + 1, none⟩)) rfl (by kernel_rfl) (by kernel_rfl) (by kernel_rfl) (by kernel_rfl) rfl (fun _ _ _ h => h) (fun _ _ => by kernel_rfl) (by exact hS) ?_
    simp only [Act.put, List.setIfInBounds_toArray, List.set_cons_succ, List.set_cons_zero]
    refine wpAnyH_take_d 19 (some 35) (.int .i64 x5) rfl (by kernel_rfl) (by kernel_rfl) (by kernel_rfl) (by kernel_rfl) rfl (fun _ _ _ h => h) (fun w' h => exec_load_cell rfl rfl ((h.cell hB).trans d5) Try.underlying3 rfl) (by exact hS) ?_
    simp only [Act.put, List.setIfInBounds_toArray, List.set_cons_succ, List.set_cons_zero]
    refine wpAnyH_take_d 20 (some 36) (.slice (some ⟨b, off, none⟩) 9 cap2) rfl (by kernel_rfl) (by kernel_rfl) (by kernel_rfl) (by kernel_rfl) rfl (fun _ _ _ h => h) (fun _ _ => by kernel_rfl) (by exact hS) ?_
    simp only [Act.put, List.setIfInBounds_toArray, List.set_cons_succ, List.set_cons_zero]
    refine wpAnyH_take_d 21 (some 37) (.pointer (some ⟨b, off + 6 * 3, none⟩)) rfl (by kernel_rfl) (by kernel_rfl) (by kernel_rfl) (by kernel_rfl) rfl (fun _ _ _ h => h) (fun w' h => exec_indexAddr3r rfl rfl rfl (by decide) Try.underlying74 szItemR) (by exact hS) ?_
    simp only [Act.put, List.setIfInBounds_toArray, List.set_cons_succ, List.set_cons_zero]
    refine wpAnyH_take_d 22 (some 38) (.pointer (some ⟨b, off + 6 * 3 + 1, none⟩)) rfl (by kernel_rfl) (by kernel_rfl) (by kernel_rfl) (by kernel_rfl) rfl (fun _ _ _ h => h) (fun _ _ => by kernel_rfl) (by exact hS) ?_
    simp only [Act.put, List.setIfInBounds_toArray, List.set_cons_succ, List.set_cons_zero]
    refine wpAnyH_take_d 23 (some 39) (.int .i64 x6) rfl (by kernel_rfl) (by kernel_rfl) (by kernel_rfl) (by kernel_rfl) rfl (fun _ _ _ h => h) (fun w' h => exec_load_cell rfl rfl ((h.cell hB).trans d6) Try.underlying3 rfl) (by exact hS) ?_
    simp only [Act.put, List.setIfInBounds_toArray, List.set_cons_succ, List.set_cons_zero]
    refine wpAnyH_take_d 24 (some 40) (.slice (some ⟨b, off, none⟩) 9 cap2) rfl (by kernel_rfl) (by kernel_rfl) (by kernel_rfl) (by kernel_rfl) rfl (fun _ _ _ h => h) (fun _ _ => by kernel_rfl) (by exact hS) ?_
    simp only [Act.put, List.setIfInBounds_toArray, List.set_cons_succ, List.set_cons_zero]
    refine wpAnyH_take_d 25 (some 41) (.pointer (some ⟨b, off + 7 * 3, none⟩)) rfl (by kernel_rfl) (by kernel_rfl) (by kernel_rfl) (by kernel_rfl) rfl (fun _ _ _ h => h) (fun w' h => exec_indexAddr3r rfl rfl rfl (by decide) Try.underlying74 szItemR) (by exact hS) ?_
    simp only [Act.put, List.setIfInBounds_toArray, List.set_cons_succ, List.set_cons_zero]
    refine wpAnyH_take_d 26 (some 42) (.pointer (some ⟨b, off + 7 * 3 + 1, none⟩)) rfl (by kernel_rfl) (by kernel_rfl) (by kernel_rfl) (by kernel_rfl) rfl (fun _ _ _ h => h) (fun _ _ => by kernel_rfl) (by exact hS) ?_
    simp only [Act.put, List.setIfInBounds_toArray, List.set_cons_succ, List.set_cons_zero]
    refine wpAnyH_take_d 27 (some 43) (.int .i64 x7) rfl (by kernel_rfl) (by kernel_rfl) (by kernel_rfl) (by kernel_rfl) rfl (fun _ _ _ h => h) (fun w' h => exec_load_cell rfl rfl ((h.cell hB).trans d7) Try.underlying3 rfl) (by exact hS) ?_
    simp only [Act.put, List.setIfInBounds_toArray, List.set_cons_succ, List.set_cons_zero]
    refine wpAnyH_take_d 28 (some 44) (.slice (some ⟨b, off, none⟩) 9 cap2) rfl (by kernel_rfl) (by kernel_rfl) (by kernel_rfl) (by kernel_rfl) rfl (fun _ _ _ h => h) (fun _ _ => by kernel_rfl) (by exact hS) ?_
    simp only [Act.put, List.setIfInBounds_toArray, List.set_cons_succ, List.set_cons_zero]
    refine wpAnyH_take_d 29 (some 45) (.pointer (some ⟨b, off + 8 * 3, none⟩)) rfl (by kernel_rfl) (by kernel_rfl) (by kernel_rfl) (by kernel_rfl) rfl (fun _ _ _ h => h) (fun w' h => exec_indexAddr3r rfl rfl rfl (by decide) Try.underlying74 szItemR) (by exact hS) ?_
    simp only [Act.put, List.setIfInBounds_toArray, List.set_cons_succ, List.set_cons_zero]
    refine wpAnyH_take_d 30 (some 46) (.pointer (some ⟨b, off + 8 * 3 + 2, none⟩)) rfl (by kernel_rfl) (by kernel_rfl) (by kernel_rfl) (by kernel_rfl) rfl (fun _ _ _ h => h) (fun _ _ => by kernel_rfl) (by exact hS) ?_
    simp only [Act.put, List.setIfInBounds_toArray, List.set_cons_succ, List.set_cons_zero]
    refine wpAnyH_take_d 31 (some 47) (.string x8) rfl (by kernel_rfl) (by kernel_rfl) (by kernel_rfl) (by kernel_rfl) rfl (fun _ _ _ h => h) (fun w' h => exec_load_cell rfl rfl ((h.cell hB).trans d8) Try.underlying9 rfl) (by exact hS) ?_
    simp only [Act.put, List.setIfInBounds_toArray, List.set_cons_succ, List.set_cons_zero]
    refine wpAnyH_take_d 32 (some 48) (.agg #[.int .i64 x1, .int .i64 x2, .int .i64 x3, .int .i64 x4, .int .i64 x5, .int .i64 x6, .int .i64 x7, .string x8]) rfl (by kernel_rfl) (by kernel_rfl) (by kernel_rfl) (by kernel_rfl) rfl (fun _ _ _ h => h) (fun _ _ => by kernel_rfl) (by exact hS) ?_
    simp only [Act.put, List.setIfInBounds_toArray, List.set_cons_succ, List.set_cons_zero]
    generalize w2.drew = w3 at hS hgD ⊢
    have hS : Below w2.heap.size w2 (w3.alloc (.cells #[.int .i64 0, .int .i64 0, .int .i64 0, .int .i64 0, .int .i64 0, .int .i64 0, .int .i64 0, .string ⟨#[]⟩] 25)) := hS.alloc hS.size _
    refine wpAnyH_one 33 (some 6) (.pointer (some ⟨w3.heap.size, 0, none⟩)) rfl (by kernel_rfl) (by kernel_rfl) rfl (exec_alloc_row rfl zeroLog) (by exact hS) ?_
    simp only [Act.put, List.setIfInBounds_toArray, List.set_cons_succ, List.set_cons_zero]
    have hgn := heap_alloc_new w3 (.cells #[.int .i64 0, .int .i64 0, .int .i64 0, .int .i64 0, .int .i64 0, .int .i64 0, .int .i64 0, .string ⟨#[]⟩] 25)
    have hw3 : w.heap.size < w3.heap.size := (Array.getElem?_eq_some_iff.1 hgD).1
    have hgE : (w3.alloc (.cells #[.int .i64 0, .int .i64 0, .int .i64 0, .int .i64 0, .int .i64 0, .int .i64 0, .int .i64 0, .string ⟨#[]⟩] 25)).heap[w.heap.size]? = some (.cells #[.int .i64 0, .int .i64 0, .int .i64 0, .int .i64 0, .int .i64 0, .int .i64 0, .int .i64 0, .string ⟨#[]⟩] 25 (0, 0)) := (Below.heap_alloc w3 _ _ hw3).trans hgD
    generalize hbn : w3.heap.size = bn at hgn hw3 ⊢
    have hbn' : w2.heap.size ≤ bn := by have := (show Below w2.heap.size w2 w3 from ‹_›).size; omega
    generalize w3.alloc (.cells #[.int .i64 0, .int .i64 0, .int .i64 0, .int .i64 0, .int .i64 0, .int .i64 0, .int .i64 0, .string ⟨#[]⟩] 25) = w4 at hgn hgE hS ⊢
    have hS : Below w2.heap.size w2 (w4.setRow bn #[.int .i64 x1, .int .i64 x2, .int .i64 x3, .int .i64 x4, .int .i64 x5, .int .i64 x6, .int .i64 x7, .string x8]) := below_setRow hS hbn' _
    refine wpAnyH_one_skip' 34 rfl (by kernel_rfl) (by kernel_rfl) (exec_store_row rfl rfl rfl hgn (by kernel_rfl) rfl (by simp [Value.oneCell'])) (by exact hS) ?_
    simp only [Act.put, List.setIfInBounds_toArray, List.set_cons_succ, List.set_cons_zero]
    have hgF : (w4.setRow bn #[.int .i64 x1, .int .i64 x2, .int .i64 x3, .int .i64 x4, .int .i64 x5, .int .i64 x6, .int .i64 x7, .string x8]).heap[bn]? = some (.cells #[.int .i64 x1, .int .i64 x2, .int .i64 x3, .int .i64 x4, .int .i64 x5, .int .i64 x6, .int .i64 x7, .string x8] 25 (0, 0)) := setRow_heap w4 bn _ _ _ _ hgn
    have hgG : (w4.setRow bn #[.int .i64 x1, .int .i64 x2, .int .i64 x3, .int .i64 x4, .int .i64 x5, .int .i64 x6, .int .i64 x7, .string x8]).heap[w.heap.size]? = some (.cells #[.int .i64 0, .int .i64 0, .int .i64 0, .int .i64 0, .int .i64 0, .int .i64 0, .int .i64 0, .string ⟨#[]⟩] 25 (0, 0)) := (setRow_other w4 bn _ _ (by omega)).trans hgE
    generalize w4.setRow bn #[.int .i64 x1, .int .i64 x2, .int .i64 x3, .int .i64 x4, .int .i64 x5, .int .i64 x6, .int .i64 x7, .string x8] = w5 at hgF hgG hS ⊢
    have hw5 : bn < w5.heap.size := (Array.getElem?_eq_some_iff.1 hgF).1
    have B5 := B2.trans (hS.mono B2.size)
    refine wpAnyH_done (by kernel_rfl) ?_ _
    have q0 : w5.cell? ⟨bn, 0, none⟩ = some (.int .i64 x1) := cell_row hgF 0 rfl
    have q1 : w5.cell? ⟨bn, 1, none⟩ = some (.int .i64 x2) := cell_row hgF 1 rfl
    have q2 : w5.cell? ⟨bn, 2, none⟩ = some (.int .i64 x3) := cell_row hgF 2 rfl
    have q3 : w5.cell? ⟨bn, 3, none⟩ = some (.int .i64 x4) := cell_row hgF 3 rfl
    have q4 : w5.cell? ⟨bn, 4, none⟩ = some (.int .i64 x5) := cell_row hgF 4 rfl
    have q5 : w5.cell? ⟨bn, 5, none⟩ = some (.int .i64 x6) := cell_row hgF 5 rfl
    have q6 : w5.cell? ⟨bn, 6, none⟩ = some (.int .i64 x7) := cell_row hgF 6 rfl
    have q7 : w5.cell? ⟨bn, 7, none⟩ = some (.string x8) := cell_row hgF 7 rfl
    have hfo := logFormed_any ⟨x1, x2, x3, x4, x5, x6, x7, x8⟩ ⟨o1, o2, o3, o4, o5, o6, o7, o8⟩ w5
    clear hS hgn hgE hgD hg2
    clear d1 o1
    clear d2 o2
    clear d3 o3
    clear d4 o4
    clear d5 o5
    clear d6 o6
    clear d7 o7
    clear d8 o8
    cases hs : logOk ⟨x1, x2, x3, x4, x5, x6, x7, x8⟩
    · rw [hs] at hfo
      have HS := Lib.hid hs
      clear hs
      go_wp2_with fail
      refine Calls.mono hfo ?_
      rintro e w6 ⟨rfl, b6⟩
      have B6 := B5.trans (b6.mono B5.size)
      have hg6 := (b6.block w.heap.size (by omega)).trans hgG
      have hg6' := (b6.block bn hw5).trans hgF
      have r0 : w6.cell? ⟨bn, 0, none⟩ = some (.int .i64 x1) := cell_row hg6' 0 rfl
      have r1 : w6.cell? ⟨bn, 1, none⟩ = some (.int .i64 x2) := cell_row hg6' 1 rfl
      have r2 : w6.cell? ⟨bn, 2, none⟩ = some (.int .i64 x3) := cell_row hg6' 2 rfl
      have r3 : w6.cell? ⟨bn, 3, none⟩ = some (.int .i64 x4) := cell_row hg6' 3 rfl
      have r4 : w6.cell? ⟨bn, 4, none⟩ = some (.int .i64 x5) := cell_row hg6' 4 rfl
      have r5 : w6.cell? ⟨bn, 5, none⟩ = some (.int .i64 x6) := cell_row hg6' 5 rfl
      have r6 : w6.cell? ⟨bn, 6, none⟩ = some (.int .i64 x7) := cell_row hg6' 6 rfl
      have r7 : w6.cell? ⟨bn, 7, none⟩ = some (.string x8) := cell_row hg6' 7 rfl
      clear hfo
      have K1 : StoreOk 25 #[.int .i64 0, .int .i64 0, .int .i64 0, .int .i64 0, .int .i64 0, .int .i64 0, .int .i64 0, .string ⟨#[]⟩] #[.int .i64 0, .int .i64 0, .int .i64 0, .int .i64 0, .int .i64 0, .int .i64 0, .int .i64 0, .string ⟨#[]⟩] := ⟨by kernel_rfl, rfl, by simp [Value.oneCell']⟩
      go_wp2_with (with_reducible refine wpList_store_row2 rfl 25 (.tmp 2) (.tmp 52) rfl w.heap.size #[.int .i64 0, .int .i64 0, .int .i64 0, .int .i64 0, .int .i64 0, .int .i64 0, .int .i64 0, .string ⟨#[]⟩] rfl rfl 25 #[.int .i64 0, .int .i64 0, .int .i64 0, .int .i64 0, .int .i64 0, .int .i64 0, .int .i64 0, .string ⟨#[]⟩] hg6 K1 ?_)
      have hgR : (w6.setRow w.heap.size #[.int .i64 0, .int .i64 0, .int .i64 0, .int .i64 0, .int .i64 0, .int .i64 0, .int .i64 0, .string ⟨#[]⟩]).heap[w.heap.size]? = some (.cells #[.int .i64 0, .int .i64 0, .int .i64 0, .int .i64 0, .int .i64 0, .int .i64 0, .int .i64 0, .string ⟨#[]⟩] 25 (0, 0)) := setRow_heap w6 _ _ _ _ _ hg6
      have BR := below_setRow B6 (Nat.le_refl _) #[.int .i64 0, .int .i64 0, .int .i64 0, .int .i64 0, .int .i64 0, .int .i64 0, .int .i64 0, .string ⟨#[]⟩]
      generalize w6.setRow w.heap.size #[.int .i64 0, .int .i64 0, .int .i64 0, .int .i64 0, .int .i64 0, .int .i64 0, .int .i64 0, .string ⟨#[]⟩] = w7 at hgR BR ⊢
      have s0 : w7.cell? ⟨w.heap.size, 0, none⟩ = some (.int .i64 0) := cell_row hgR 0 rfl
      have s1 : w7.cell? ⟨w.heap.size, 1, none⟩ = some (.int .i64 0) := cell_row hgR 1 rfl
      have s2 : w7.cell? ⟨w.heap.size, 2, none⟩ = some (.int .i64 0) := cell_row hgR 2 rfl
      have s3 : w7.cell? ⟨w.heap.size, 3, none⟩ = some (.int .i64 0) := cell_row hgR 3 rfl
      have s4 : w7.cell? ⟨w.heap.size, 4, none⟩ = some (.int .i64 0) := cell_row hgR 4 rfl
      have s5 : w7.cell? ⟨w.heap.size, 5, none⟩ = some (.int .i64 0) := cell_row hgR 5 rfl
      have s6 : w7.cell? ⟨w.heap.size, 6, none⟩ = some (.int .i64 0) := cell_row hgR 6 rfl
      have s7 : w7.cell? ⟨w.heap.size, 7, none⟩ = some (.string ⟨#[]⟩) := cell_row hgR 7 rfl
      go_wp2
      exact bodyPost_ret (v := .tuple #[.agg #[.int .i64 0, .int .i64 0, .int .i64 0, .int .i64 0, .int .i64 0, .int .i64 0, .int .i64 0, .string ⟨#[]⟩], .int .i64 2]) (by simp [results, Try.results21, go_sem, s0, s1, s2, s3, s4, s5, s6, s7]) rfl ⟨by
        have e9 : lgOf l = ⟨x1, x2, x3, x4, x5, x6, x7, x8⟩ := by unfold lgOf; rw [hx1, hx2, hx3, hx4, hx5, hx6, hx7, hx8]
        rw [e9, HS.out] at HE1
        rw [G1.out, HE1.out]; rfl, BR⟩
    · rw [hs] at hfo
      have HS := Lib.hid hs
      clear hs
      go_wp2_with fail
      refine Calls.mono hfo ?_
      rintro e w6 ⟨rfl, b6⟩
      have B6 := B5.trans (b6.mono B5.size)
      have hg6 := (b6.block w.heap.size (by omega)).trans hgG
      have hg6' := (b6.block bn hw5).trans hgF
      have r0 : w6.cell? ⟨bn, 0, none⟩ = some (.int .i64 x1) := cell_row hg6' 0 rfl
      have r1 : w6.cell? ⟨bn, 1, none⟩ = some (.int .i64 x2) := cell_row hg6' 1 rfl
      have r2 : w6.cell? ⟨bn, 2, none⟩ = some (.int .i64 x3) := cell_row hg6' 2 rfl
      have r3 : w6.cell? ⟨bn, 3, none⟩ = some (.int .i64 x4) := cell_row hg6' 3 rfl
      have r4 : w6.cell? ⟨bn, 4, none⟩ = some (.int .i64 x5) := cell_row hg6' 4 rfl
      have r5 : w6.cell? ⟨bn, 5, none⟩ = some (.int .i64 x6) := cell_row hg6' 5 rfl
      have r6 : w6.cell? ⟨bn, 6, none⟩ = some (.int .i64 x7) := cell_row hg6' 6 rfl
      have r7 : w6.cell? ⟨bn, 7, none⟩ = some (.string x8) := cell_row hg6' 7 rfl
      clear hfo
      have K1 : StoreOk 25 #[.int .i64 0, .int .i64 0, .int .i64 0, .int .i64 0, .int .i64 0, .int .i64 0, .int .i64 0, .string ⟨#[]⟩] #[.int .i64 x1, .int .i64 x2, .int .i64 x3, .int .i64 x4, .int .i64 x5, .int .i64 x6, .int .i64 x7, .string x8] := ⟨by kernel_rfl, rfl, by simp [Value.oneCell']⟩
      go_wp2_with (with_reducible refine wpList_store_row2 rfl 25 (.tmp 2) (.tmp 53) rfl w.heap.size #[.int .i64 x1, .int .i64 x2, .int .i64 x3, .int .i64 x4, .int .i64 x5, .int .i64 x6, .int .i64 x7, .string x8] rfl rfl 25 #[.int .i64 0, .int .i64 0, .int .i64 0, .int .i64 0, .int .i64 0, .int .i64 0, .int .i64 0, .string ⟨#[]⟩] hg6 K1 ?_)
      have hgR : (w6.setRow w.heap.size #[.int .i64 x1, .int .i64 x2, .int .i64 x3, .int .i64 x4, .int .i64 x5, .int .i64 x6, .int .i64 x7, .string x8]).heap[w.heap.size]? = some (.cells #[.int .i64 x1, .int .i64 x2, .int .i64 x3, .int .i64 x4, .int .i64 x5, .int .i64 x6, .int .i64 x7, .string x8] 25 (0, 0)) := setRow_heap w6 _ _ _ _ _ hg6
      have BR := below_setRow B6 (Nat.le_refl _) #[.int .i64 x1, .int .i64 x2, .int .i64 x3, .int .i64 x4, .int .i64 x5, .int .i64 x6, .int .i64 x7, .string x8]
      generalize w6.setRow w.heap.size #[.int .i64 x1, .int .i64 x2, .int .i64 x3, .int .i64 x4, .int .i64 x5, .int .i64 x6, .int .i64 x7, .string x8] = w7 at hgR BR ⊢
      have s0 : w7.cell? ⟨w.heap.size, 0, none⟩ = some (.int .i64 x1) := cell_row hgR 0 rfl
      have s1 : w7.cell? ⟨w.heap.size, 1, none⟩ = some (.int .i64 x2) := cell_row hgR 1 rfl
      have s2 : w7.cell? ⟨w.heap.size, 2, none⟩ = some (.int .i64 x3) := cell_row hgR 2 rfl
      have s3 : w7.cell? ⟨w.heap.size, 3, none⟩ = some (.int .i64 x4) := cell_row hgR 3 rfl
      have s4 : w7.cell? ⟨w.heap.size, 4, none⟩ = some (.int .i64 x5) := cell_row hgR 4 rfl
      have s5 : w7.cell? ⟨w.heap.size, 5, none⟩ = some (.int .i64 x6) := cell_row hgR 5 rfl
      have s6 : w7.cell? ⟨w.heap.size, 6, none⟩ = some (.int .i64 x7) := cell_row hgR 6 rfl
      have s7 : w7.cell? ⟨w.heap.size, 7, none⟩ = some (.string x8) := cell_row hgR 7 rfl
      go_wp2
      exact bodyPost_ret (v := .tuple #[.agg #[.int .i64 x1, .int .i64 x2, .int .i64 x3, .int .i64 x4, .int .i64 x5, .int .i64 x6, .int .i64 x7, .string x8], .int .i64 0]) (by simp [results, Try.results21, go_sem, s0, s1, s2, s3, s4, s5, s6, s7]) rfl ⟨by
        have e9 : lgOf l = ⟨x1, x2, x3, x4, x5, x6, x7, x8⟩ := by unfold lgOf; rw [hx1, hx2, hx3, hx4, hx5, hx6, hx7, hx8]
        rw [e9, HS.out] at HE1
        rw [G1.out, HE1.out, e9]; rfl, BR⟩
  · have e1 : logE bs = secE bs 2 8 1 := by unfold logE; rw [if_neg c1]
    have e2 : ¬ logE bs = 0 := by rw [e1]; exact c1
    have e3 : logV bs = lgNone := if_neg e2
    rw [e3]
    rw [e1]
    have hq : (secE bs 2 8 1 != 0) = true := by simpa using c1
    generalize secE bs 2 8 1 = E at hq hu
    clear e1 e2 c1 h
    go_enter Try.func21, Try.ntmps21
    go_wp2_with fail
    refine Calls.mono hu ?_
    rintro e w2 ⟨v2, rfl, h2, b2⟩
    have hg2 := (b2.block w.heap.size (by simp)).trans hg0
    have B2 := B0.trans (b2.mono B0.size)
    obtain ⟨ao2, m2, cap2, hv2, hm2⟩ := h2.form'
    subst hv2
    clear hu h2 hg0 b2
    have K1 : StoreOk 25 #[.int .i64 0, .int .i64 0, .int .i64 0, .int .i64 0, .int .i64 0, .int .i64 0, .int .i64 0, .string ⟨#[]⟩] #[.int .i64 0, .int .i64 0, .int .i64 0, .int .i64 0, .int .i64 0, .int .i64 0, .int .i64 0, .string ⟨#[]⟩] := ⟨by kernel_rfl, rfl, by simp [Value.oneCell']⟩
    go_wp2_with (with_reducible refine wpList_store_row2 rfl 25 (.tmp 2) (.tmp 14) rfl w.heap.size #[.int .i64 0, .int .i64 0, .int .i64 0, .int .i64 0, .int .i64 0, .int .i64 0, .int .i64 0, .string ⟨#[]⟩] rfl rfl 25 #[.int .i64 0, .int .i64 0, .int .i64 0, .int .i64 0, .int .i64 0, .int .i64 0, .int .i64 0, .string ⟨#[]⟩] hg2 K1 ?_)
    have hgR : (w2.setRow w.heap.size #[.int .i64 0, .int .i64 0, .int .i64 0, .int .i64 0, .int .i64 0, .int .i64 0, .int .i64 0, .string ⟨#[]⟩]).heap[w.heap.size]? = some (.cells #[.int .i64 0, .int .i64 0, .int .i64 0, .int .i64 0, .int .i64 0, .int .i64 0, .int .i64 0, .string ⟨#[]⟩] 25 (0, 0)) := setRow_heap w2 _ _ _ _ _ hg2
    have BR := below_setRow B2 (Nat.le_refl _) #[.int .i64 0, .int .i64 0, .int .i64 0, .int .i64 0, .int .i64 0, .int .i64 0, .int .i64 0, .string ⟨#[]⟩]
    generalize w2.setRow w.heap.size #[.int .i64 0, .int .i64 0, .int .i64 0, .int .i64 0, .int .i64 0, .int .i64 0, .int .i64 0, .string ⟨#[]⟩] = w7 at hgR BR ⊢
    have s0 : w7.cell? ⟨w.heap.size, 0, none⟩ = some (.int .i64 0) := cell_row hgR 0 rfl
    have s1 : w7.cell? ⟨w.heap.size, 1, none⟩ = some (.int .i64 0) := cell_row hgR 1 rfl
    have s2 : w7.cell? ⟨w.heap.size, 2, none⟩ = some (.int .i64 0) := cell_row hgR 2 rfl
    have s3 : w7.cell? ⟨w.heap.size, 3, none⟩ = some (.int .i64 0) := cell_row hgR 3 rfl
    have s4 : w7.cell? ⟨w.heap.size, 4, none⟩ = some (.int .i64 0) := cell_row hgR 4 rfl
    have s5 : w7.cell? ⟨w.heap.size, 5, none⟩ = some (.int .i64 0) := cell_row hgR 5 rfl
    have s6 : w7.cell? ⟨w.heap.size, 6, none⟩ = some (.int .i64 0) := cell_row hgR 6 rfl
    have s7 : w7.cell? ⟨w.heap.size, 7, none⟩ = some (.string ⟨#[]⟩) := cell_row hgR 7 rfl
    go_wp2
    exact bodyPost_ret (v := .tuple #[.agg #[.int .i64 0, .int .i64 0, .int .i64 0, .int .i64 0, .int .i64 0, .int .i64 0, .int .i64 0, .string ⟨#[]⟩], .int .i64 E]) (by simp [results, Try.results21, go_sem, s0, s1, s2, s3, s4, s5, s6, s7]) rfl ⟨rfl, BR⟩

set_option maxRecDepth 20000 in
set_option maxHeartbeats 3200000 in
theorem decodeHome_any {w : World} {v : Value} {bs : List UInt8} (h : ByC w v bs) (hcap : capOk v) : Calls Try.prog 22 #[v] w fun e w' => e = .returned (.tuple #[homeV (homP bs) (homD bs), .int .i64 (homE bs)]) ∧ Below w.heap.size w w' := by
  have B0 := below_new w (.cells #[.int .i64 0, .string ⟨#[]⟩] 27)
  have hg0 := heap_alloc_new w (.cells #[.int .i64 0, .string ⟨#[]⟩] 27)
  have hb0 : ∀ w, (Instr.build 27 #[]).run Try.prog w = .ok (.agg #[.int .i64 0, .string ⟨#[]⟩]) w := fun w => run_build w 27 _ _ (by kernel_rfl)
  have hu := unsector_any (h.below B0) hcap 3 2 1 2 1 rfl rfl (by decide) (by decide) (by decide)
  obtain ⟨ao, m, cap, hv, hm⟩ : ∃ ao m cap, v = .slice ao m cap ∧ Hid (m = bs.length) := by
    obtain ⟨ao, cap, hv, _⟩ := h
    exact ⟨ao, _, cap, hv, Lib.hid rfl⟩
  subst hv
  by_cases c1 : secE bs 3 2 1 = 0
  · obtain ⟨k1, k2, k3, k4, k5, k6⟩ := secE_zero c1
    have e1 : homE bs = if homeOk (itAt (secR bs 3 2 1) 1).n (itAt (secR bs 3 2 1) 2).s then 0 else 2 := by unfold homE; rw [if_pos c1]
    rw [c1] at hu
    have g1 : homP bs = (if homE bs = 0 then (itAt (secR bs 3 2 1) 1).n else 0) ∧ homD bs = (if homE bs = 0 then (itAt (secR bs 3 2 1) 2).s else ByteArray.empty) := ⟨rfl, rfl⟩
    have G1 := Lib.hid g1
    clear g1
    have HE1 := Lib.hid e1
    have K5 := Lib.hid k5
    clear k1 k3 k4 k6 e1 c1
    generalize secR bs 3 2 1 = l at *
    clear h
    go_enter Try.func22, Try.ntmps22
    go_wp2_with fail
    refine Calls.mono hu ?_
    rintro e w2 ⟨v2, rfl, h2, b2⟩
    have hg2 := (b2.block w.heap.size (by simp)).trans hg0
    have hws : w.heap.size < w2.heap.size := by have := b2.size; simp at this; omega
    have B2 := B0.trans (b2.mono B0.size)
    have hit := h2.items K5.out
    obtain ⟨ao2, cap2, hv2, hc2, hl2, -, hcells⟩ := hit
    rw [k2] at hv2 hcells
    obtain ⟨b, off, rfl, hB, hc⟩ := hcells (by decide)
    subst hv2
    have d1 : w2.cell? ⟨b, off + 1 * 3 + 1, none⟩ = some (.int .i64 (itAt l 1).n) := (hc 1 (by decide)).2.1
    have d2 : w2.cell? ⟨b, off + 2 * 3 + 2, none⟩ = some (.string (itAt l 2).s) := (hc 2 (by decide)).2.2
    have o1 := (itAt_ok K5.out (show 1 < l.length by omega)).2.1
    have o2 := (itAt_ok K5.out (show 2 < l.length by omega)).2.2
    generalize hx1 : (itAt l 1).n = x1 at d1 o1
    generalize hx2 : (itAt l 2).s = x2 at d2 o2
    clear hu hc hcells h2 b2 hg0
    go_wp2_with fail
    have hS : Below w2.heap.size w2 w2.drew := (Below.refl _ _).drew
    have hgD : w2.drew.heap[w.heap.size]? = some (.cells #[.int .i64 0, .string ⟨#[]⟩] 27 (0, 0)) := hg2
    refine wp_region_held_drew (S := fun w' => Below w2.heap.size w2 w') mixed hS (fun _ => ?_)
    show wpAnyH _ _ _ _ _ 11 (Array.replicate 11 false) _ _
    refine wpAnyH_take_d 0 (some 16) (.slice (some ⟨b, off, none⟩) 3 cap2) rfl (by kernel_rfl) (by kernel_rfl) (by kernel_rfl) (by kernel_rfl) rfl (fun _ _ _ h => h) (fun _ _ => by kernel_rfl) (by exact hS) ?_
    simp only [Act.put, List.setIfInBounds_toArray, List.set_cons_succ, List.set_cons_zero]
    refine wpAnyH_take_d 1 (some 17) (.pointer (some ⟨b, off + 1 * 3, none⟩)) rfl (by kernel_rfl) (by kernel_rfl) (by kernel_rfl) (by kernel_rfl) rfl (fun _ _ _ h => h) (fun w' h => exec_indexAddr3r rfl rfl rfl (by decide) Try.underlying74 szItemR) (by exact hS) ?_
    simp only [Act.put, List.setIfInBounds_toArray, List.set_cons_succ, List.set_cons_zero]
    refine wpAnyH_take_d 2 (some 18) (.pointer (some ⟨b, off + 1 * 3 + 1, none⟩)) rfl (by kernel_rfl) (by kernel_rfl) (by kernel_rfl) (by kernel_rfl) rfl (fun _ _ _ h => h) (fun _ _ => by kernel_rfl) (by exact hS) ?_
    simp only [Act.put, List.setIfInBounds_toArray, List.set_cons_succ, List.set_cons_zero]
    refine wpAnyH_take_d 3 (some 19) (.int .i64 x1) rfl (by kernel_rfl) (by kernel_rfl) (by kernel_rfl) (by kernel_rfl) rfl (fun _ _ _ h => h) (fun w' h => exec_load_cell rfl rfl ((h.cell hB).trans d1) Try.underlying3 rfl) (by exact hS) ?_
    simp only [Act.put, List.setIfInBounds_toArray, List.set_cons_succ, List.set_cons_zero]
    refine wpAnyH_take_d 4 (some 20) (.slice (some ⟨b, off, none⟩) 3 cap2) rfl (by kernel_rfl) (by kernel_rfl) (by kernel_rfl) (by kernel_rfl) rfl (fun _ _ _ h => h) (fun _ _ => by kernel_rfl) (by exact hS) ?_
    simp only [Act.put, List.setIfInBounds_toArray, List.set_cons_succ, List.set_cons_zero]
    refine wpAnyH_take_d 5 (some 21) (.pointer (some ⟨b, off + 2 * 3, none⟩)) rfl (by kernel_rfl) (by kernel_rfl) (by kernel_rfl) (by kernel_rfl) rfl (fun _ _ _ h => h) (fun w' h => exec_indexAddr3r rfl rfl rfl (by decide) Try.underlying74 szItemR) (by exact hS) ?_
    simp only [Act.put, List.setIfInBounds_toArray, List.set_cons_succ, List.set_cons_zero]
    refine wpAnyH_take_d 6 (some 22) (.pointer (some ⟨b, off + 2 * 3 + 2, none⟩)) rfl (by kernel_rfl) (by kernel_rfl) (by kernel_rfl) (by kernel_rfl) rfl (fun _ _ _ h => h) (fun _ _ => by kernel_rfl) (by exact hS) ?_
    simp only [Act.put, List.setIfInBounds_toArray, List.set_cons_succ, List.set_cons_zero]
    refine wpAnyH_take_d 7 (some 23) (.string x2) rfl (by kernel_rfl) (by kernel_rfl) (by kernel_rfl) (by kernel_rfl) rfl (fun _ _ _ h => h) (fun w' h => exec_load_cell rfl rfl ((h.cell hB).trans d2) Try.underlying9 rfl) (by exact hS) ?_
    simp only [Act.put, List.setIfInBounds_toArray, List.set_cons_succ, List.set_cons_zero]
    refine wpAnyH_take_d 8 (some 24) (.agg #[.int .i64 x1, .string x2]) rfl (by kernel_rfl) (by kernel_rfl) (by kernel_rfl) (by kernel_rfl) rfl (fun _ _ _ h => h) (fun _ _ => by kernel_rfl) (by exact hS) ?_
    simp only [Act.put, List.setIfInBounds_toArray, List.set_cons_succ, List.set_cons_zero]
    generalize w2.drew = w3 at hS hgD ⊢
    have hS : Below w2.heap.size w2 (w3.alloc (.cells #[.int .i64 0, .string ⟨#[]⟩] 27)) := hS.alloc hS.size _
    refine wpAnyH_one 9 (some 6) (.pointer (some ⟨w3.heap.size, 0, none⟩)) rfl (by kernel_rfl) (by kernel_rfl) rfl (exec_alloc_row rfl zeroHome) (by exact hS) ?_
    simp only [Act.put, List.setIfInBounds_toArray, List.set_cons_succ, List.set_cons_zero]
    have hgn := heap_alloc_new w3 (.cells #[.int .i64 0, .string ⟨#[]⟩] 27)
    have hw3 : w.heap.size < w3.heap.size := (Array.getElem?_eq_some_iff.1 hgD).1
    have hgE : (w3.alloc (.cells #[.int .i64 0, .string ⟨#[]⟩] 27)).heap[w.heap.size]? = some (.cells #[.int .i64 0, .string ⟨#[]⟩] 27 (0, 0)) := (Below.heap_alloc w3 _ _ hw3).trans hgD
    generalize hbn : w3.heap.size = bn at hgn hw3 ⊢
    have hbn' : w2.heap.size ≤ bn := by have := (show Below w2.heap.size w2 w3 from ‹_›).size; omega
    generalize w3.alloc (.cells #[.int .i64 0, .string ⟨#[]⟩] 27) = w4 at hgn hgE hS ⊢
    have hS : Below w2.heap.size w2 (w4.setRow bn #[.int .i64 x1, .string x2]) := below_setRow hS hbn' _
    refine wpAnyH_one_skip' 10 rfl (by kernel_rfl) (by kernel_rfl) (exec_store_row rfl rfl rfl hgn (by kernel_rfl) rfl (by simp [Value.oneCell'])) (by exact hS) ?_
    simp only [Act.put, List.setIfInBounds_toArray, List.set_cons_succ, List.set_cons_zero]
    have hgF : (w4.setRow bn #[.int .i64 x1, .string x2]).heap[bn]? = some (.cells #[.int .i64 x1, .string x2] 27 (0, 0)) := setRow_heap w4 bn _ _ _ _ hgn
    have hgG : (w4.setRow bn #[.int .i64 x1, .string x2]).heap[w.heap.size]? = some (.cells #[.int .i64 0, .string ⟨#[]⟩] 27 (0, 0)) := (setRow_other w4 bn _ _ (by omega)).trans hgE
    generalize w4.setRow bn #[.int .i64 x1, .string x2] = w5 at hgF hgG hS ⊢
    have hw5 : bn < w5.heap.size := (Array.getElem?_eq_some_iff.1 hgF).1
    have B5 := B2.trans (hS.mono B2.size)
    refine wpAnyH_done (by kernel_rfl) ?_ _
    have q0 : w5.cell? ⟨bn, 0, none⟩ = some (.int .i64 x1) := cell_row hgF 0 rfl
    have q1 : w5.cell? ⟨bn, 1, none⟩ = some (.string x2) := cell_row hgF 1 rfl
    have hfo := homeFormed_any x1 x2 o2 w5
    clear hS hgn hgE hgD hg2
    clear d1 o1
    clear d2 o2
    cases hs : homeOk x1 x2
    · rw [hs] at hfo
      have HS := Lib.hid hs
      clear hs
      go_wp2_with fail
      refine Calls.mono hfo ?_
      rintro e w6 ⟨rfl, b6⟩
      have B6 := B5.trans (b6.mono B5.size)
      have hg6 := (b6.block w.heap.size (by omega)).trans hgG
      have hg6' := (b6.block bn hw5).trans hgF
      have r0 : w6.cell? ⟨bn, 0, none⟩ = some (.int .i64 x1) := cell_row hg6' 0 rfl
      have r1 : w6.cell? ⟨bn, 1, none⟩ = some (.string x2) := cell_row hg6' 1 rfl
      clear hfo
      have K1 : StoreOk 27 #[.int .i64 0, .string ⟨#[]⟩] #[.int .i64 0, .string ⟨#[]⟩] := ⟨by kernel_rfl, rfl, by simp [Value.oneCell']⟩
      go_wp2_with (with_reducible refine wpList_store_row2 rfl 27 (.tmp 2) (.tmp 28) rfl w.heap.size #[.int .i64 0, .string ⟨#[]⟩] rfl rfl 27 #[.int .i64 0, .string ⟨#[]⟩] hg6 K1 ?_)
      have hgR : (w6.setRow w.heap.size #[.int .i64 0, .string ⟨#[]⟩]).heap[w.heap.size]? = some (.cells #[.int .i64 0, .string ⟨#[]⟩] 27 (0, 0)) := setRow_heap w6 _ _ _ _ _ hg6
      have BR := below_setRow B6 (Nat.le_refl _) #[.int .i64 0, .string ⟨#[]⟩]
      generalize w6.setRow w.heap.size #[.int .i64 0, .string ⟨#[]⟩] = w7 at hgR BR ⊢
      have s0 : w7.cell? ⟨w.heap.size, 0, none⟩ = some (.int .i64 0) := cell_row hgR 0 rfl
      have s1 : w7.cell? ⟨w.heap.size, 1, none⟩ = some (.string ⟨#[]⟩) := cell_row hgR 1 rfl
      go_wp2
      exact bodyPost_ret (v := .tuple #[.agg #[.int .i64 0, .string ⟨#[]⟩], .int .i64 2]) (by simp [results, Try.results22, go_sem, s0, s1]) rfl ⟨by
        rw [hx1, hx2, HS.out] at HE1
        rw [G1.out.1, G1.out.2, HE1.out]; rfl, BR⟩
    · rw [hs] at hfo
      have HS := Lib.hid hs
      clear hs
      go_wp2_with fail
      refine Calls.mono hfo ?_
      rintro e w6 ⟨rfl, b6⟩
      have B6 := B5.trans (b6.mono B5.size)
      have hg6 := (b6.block w.heap.size (by omega)).trans hgG
      have hg6' := (b6.block bn hw5).trans hgF
      have r0 : w6.cell? ⟨bn, 0, none⟩ = some (.int .i64 x1) := cell_row hg6' 0 rfl
      have r1 : w6.cell? ⟨bn, 1, none⟩ = some (.string x2) := cell_row hg6' 1 rfl
      clear hfo
      have K1 : StoreOk 27 #[.int .i64 0, .string ⟨#[]⟩] #[.int .i64 x1, .string x2] := ⟨by kernel_rfl, rfl, by simp [Value.oneCell']⟩
      go_wp2_with (with_reducible refine wpList_store_row2 rfl 27 (.tmp 2) (.tmp 29) rfl w.heap.size #[.int .i64 x1, .string x2] rfl rfl 27 #[.int .i64 0, .string ⟨#[]⟩] hg6 K1 ?_)
      have hgR : (w6.setRow w.heap.size #[.int .i64 x1, .string x2]).heap[w.heap.size]? = some (.cells #[.int .i64 x1, .string x2] 27 (0, 0)) := setRow_heap w6 _ _ _ _ _ hg6
      have BR := below_setRow B6 (Nat.le_refl _) #[.int .i64 x1, .string x2]
      generalize w6.setRow w.heap.size #[.int .i64 x1, .string x2] = w7 at hgR BR ⊢
      have s0 : w7.cell? ⟨w.heap.size, 0, none⟩ = some (.int .i64 x1) := cell_row hgR 0 rfl
      have s1 : w7.cell? ⟨w.heap.size, 1, none⟩ = some (.string x2) := cell_row hgR 1 rfl
      go_wp2
      exact bodyPost_ret (v := .tuple #[.agg #[.int .i64 x1, .string x2], .int .i64 0]) (by simp [results, Try.results22, go_sem, s0, s1]) rfl ⟨by
        rw [hx1, hx2, HS.out] at HE1
        rw [G1.out.1, G1.out.2, HE1.out, hx1, hx2]; rfl, BR⟩
  · have e1 : homE bs = secE bs 3 2 1 := by unfold homE; rw [if_neg c1]
    have e2 : ¬ homE bs = 0 := by rw [e1]; exact c1
    have e3 : homP bs = 0 := if_neg e2
    have e4 : homD bs = ByteArray.empty := if_neg e2
    rw [e3, e4]
    rw [e1]
    have hq : (secE bs 3 2 1 != 0) = true := by simpa using c1
    generalize secE bs 3 2 1 = E at hq hu
    clear e1 e2 c1 h
    go_enter Try.func22, Try.ntmps22
    go_wp2_with fail
    refine Calls.mono hu ?_
    rintro e w2 ⟨v2, rfl, h2, b2⟩
    have hg2 := (b2.block w.heap.size (by simp)).trans hg0
    have B2 := B0.trans (b2.mono B0.size)
    obtain ⟨ao2, m2, cap2, hv2, hm2⟩ := h2.form'
    subst hv2
    clear hu h2 hg0 b2
    have K1 : StoreOk 27 #[.int .i64 0, .string ⟨#[]⟩] #[.int .i64 0, .string ⟨#[]⟩] := ⟨by kernel_rfl, rfl, by simp [Value.oneCell']⟩
    go_wp2_with (with_reducible refine wpList_store_row2 rfl 27 (.tmp 2) (.tmp 14) rfl w.heap.size #[.int .i64 0, .string ⟨#[]⟩] rfl rfl 27 #[.int .i64 0, .string ⟨#[]⟩] hg2 K1 ?_)
    have hgR : (w2.setRow w.heap.size #[.int .i64 0, .string ⟨#[]⟩]).heap[w.heap.size]? = some (.cells #[.int .i64 0, .string ⟨#[]⟩] 27 (0, 0)) := setRow_heap w2 _ _ _ _ _ hg2
    have BR := below_setRow B2 (Nat.le_refl _) #[.int .i64 0, .string ⟨#[]⟩]
    generalize w2.setRow w.heap.size #[.int .i64 0, .string ⟨#[]⟩] = w7 at hgR BR ⊢
    have s0 : w7.cell? ⟨w.heap.size, 0, none⟩ = some (.int .i64 0) := cell_row hgR 0 rfl
    have s1 : w7.cell? ⟨w.heap.size, 1, none⟩ = some (.string ⟨#[]⟩) := cell_row hgR 1 rfl
    go_wp2
    exact bodyPost_ret (v := .tuple #[.agg #[.int .i64 0, .string ⟨#[]⟩], .int .i64 E]) (by simp [results, Try.results22, go_sem, s0, s1]) rfl ⟨rfl, BR⟩
end Go.Proofs.Ytmkomhdlcbimoaa
