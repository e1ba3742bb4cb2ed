/- The contract of the document's own Same, at nodes that are the same; of the law's back. No statement of the seat is proved here. -/
import Derived.Test.YtdkmfcmndncmcaaNHalf
namespace Go.Proofs.Ytdkmfcmndncmcaa
set_option maxRecDepth 20000
open Go.RowKit

set_option maxHeartbeats 6400000 in
theorem same_any {w : World} {v u : Value} {n : Nd} (h : NdAt w.heap.size w v n) (g : NdAt w.heap.size w u n) : Calls Try.prog 22 #[v, u] w fun e w' => e = .returned (.bool true) ∧ Below w.heap.size w w' := by
  obtain ⟨pv, kv, iv, rfl, h1, h2, h3⟩ := h
  obtain ⟨pa, pm, pc, rfl, hpm⟩ := h1.form
  obtain ⟨ka, km, kc, rfl, hkm⟩ := h2.form
  obtain ⟨ia, im, ic, rfl, him⟩ := h3.form
  obtain ⟨pv2, kv2, iv2, rfl, g1, g2, g3⟩ := g
  obtain ⟨qa, pm2, qc, rfl, hpm2⟩ := g1.form
  obtain ⟨ra, km2, rc, rfl, hkm2⟩ := g2.form
  obtain ⟨sa, im2, sc, rfl, him2⟩ := g3.form
  obtain rfl : pm = pm2 := hpm.out.trans hpm2.out.symm
  obtain rfl : km = km2 := hkm.out.trans hkm2.out.symm
  obtain rfl : im = im2 := him.out.trans him2.out.symm
  generalize n.leaf = lf at *
  have i1 := h1.len okP
  have i2 := h2.len okS
  have i3 := h3.len okZ
  rw [← hpm.out] at i1
  rw [← hkm.out] at i2
  rw [← him.out] at i3
  have hW : ∃ W0, (w.alloc (rbO lf (.slice pa pm pc) (.slice ka km kc) (.slice ia im ic))).alloc (rbO lf (.slice qa pm qc) (.slice ra km rc) (.slice sa im sc)) = W0 := ⟨_, rfl⟩
  obtain ⟨W0, hW0⟩ := hW
  have hA : W0.heap[w.heap.size]? = some (rbO lf (.slice pa pm pc) (.slice ka km kc) (.slice ia im ic)) := by
    rw [← hW0, Below.heap_alloc _ _ _ (by simp)]; exact heap_alloc_new _ _
  have hB : W0.heap[w.heap.size + 1]? = some (rbO lf (.slice qa pm qc) (.slice ra km rc) (.slice sa im sc)) := by
    rw [← hW0]
    have := heap_alloc_new (w.alloc (rbO lf (.slice pa pm pc) (.slice ka km kc) (.slice ia im ic))) (rbO lf (.slice qa pm qc) (.slice ra km rc) (.slice sa im sc))
    rwa [show (w.alloc (rbO lf (.slice pa pm pc) (.slice ka km kc) (.slice ia im ic))).heap.size = w.heap.size + 1 by simp] at this
  have hbw : Below w.heap.size w W0 := by rw [← hW0]; exact (below_new _ _).trans ((below_new _ _).mono (by simp))
  have hAl := lt_of_heap hA
  have hBl := lt_of_heap hB
  have AX := Lib.hid (fun (w' : World) (b : Below W0.heap.size W0 w') => NdCells.of ((b.block w.heap.size hAl).trans hA))
  have BX := Lib.hid (fun (w' : World) (b : Below W0.heap.size W0 w') => NdCells.of ((b.block (w.heap.size + 1) hBl).trans hB))
  have BW := Lib.hid (fun (w' : World) (b : Below W0.heap.size W0 w') => hbw.trans (b.mono hbw.size))
  have P1 := Lib.hid h1
  have P2 := Lib.hid g1
  have K1 := Lib.hid h2
  have K2 := Lib.hid g2
  have I1 := Lib.hid h3
  have I2 := Lib.hid g3
  have bb : Below W0.heap.size W0 W0 := Below.refl _ _
  obtain ⟨q0, q1, q2, q3⟩ := AX.out _ bb
  obtain ⟨t0, t1, t2, t3⟩ := BX.out _ bb
  have hlf : (lf != lf) = false := by simp
  clear h1 h2 h3 g1 g2 g3 hpm2 hkm2 him2 hA hB hbw hAl hBl
  go_enter Try.func22, Try.ntmps22
  go_wp2
  go_loopw [5] (fun iv wr => ∃ k : Nat, k ≤ pm ∧ iv = .int .i64 k ∧ Below W0.heap.size W0 wr) (fun iv _ => pm - (intOf iv).toNat)
  case atStart => exact ⟨0, Nat.zero_le _, rfl, bb⟩
  case round =>
    obtain ⟨k, hk, rfl, hb⟩ := hrel
    obtain ⟨q0, q1, q2, q3⟩ := AX.out _ hb
    obtain ⟨t0, t1, t2, t3⟩ := BX.out _ hb
    have hbw := BW.out _ hb
    by_cases hlt : k < pm
    · have hl1 : k < n.ps.length := by rw [← hpm.out]; exact hlt
      obtain ⟨b, off, c1, hv, hB1, hc1, hc1'⟩ := P1.out.getP hl1
      obtain ⟨b2, off2, c2, hv2, hB2, hc2, hc2'⟩ := P2.out.getP hl1
      obtain ⟨rfl, -, rfl⟩ : pa = some ⟨b, off, none⟩ ∧ pm = n.ps.length ∧ pc = c1 := by cases hv; exact ⟨rfl, rfl, rfl⟩
      obtain ⟨rfl, -, rfl⟩ : qa = some ⟨b2, off2, none⟩ ∧ pm = n.ps.length ∧ qc = c2 := by cases hv2; exact ⟨rfl, rfl, rfl⟩
      have E1 := Lib.hid (fun (w' : World) (h : Below w.heap.size w w') => range2 ((h.cell (p := ⟨b, off + k * 2, none⟩) hB1).trans hc1) ((h.cell (p := ⟨b, off + k * 2 + 1, none⟩) hB1).trans hc1'))
      have E2 := Lib.hid (fun (w' : World) (h : Below w.heap.size w w') => range2 ((h.cell (p := ⟨b2, off2 + k * 2, none⟩) hB2).trans hc2) ((h.cell (p := ⟨b2, off2 + k * 2 + 1, none⟩) hB2).trans hc2'))
      generalize prAt n.ps k = x at *
      obtain ⟨xk, xv⟩ := x
      clear hv hv2 hc1 hc1' hc2 hc2'
      go_wp2_with fail
      have hS : Below W0.heap.size W0 wr.drew := hb.drew
      refine wp_region_held_drew (S := fun w' => Below W0.heap.size W0 w') mixed hS (fun _ => ?_)
      show wpAnyH _ _ _ _ _ 11 (Array.replicate 11 false) _ _
      refine wpAnyH_take_d 0 (some 47) (.pointer (some ⟨w.heap.size, 1, none⟩)) rfl (by kernel_rfl) (by kernel_rfl) (by kernel_rfl) (by kernel_rfl) rfl (fun _ _ _ h => h) (fun _ _ => by kernel_rfl) (by exact hS) ?_
      simp only [Act.put, List.setIfInBounds_toArray, List.set_cons_succ, List.set_cons_zero]
      refine wpAnyH_take_d 1 (some 48) (.slice (some ⟨b, off, none⟩) pm pc) rfl (by kernel_rfl) (by kernel_rfl) (by kernel_rfl) (by kernel_rfl) rfl (fun _ _ _ h => h) (fun w' h => exec_load_cell rfl rfl (AX.out _ h).c1 Try.underlying22 rfl) (by exact hS) ?_
      simp only [Act.put, List.setIfInBounds_toArray, List.set_cons_succ, List.set_cons_zero]
      refine wpAnyH_take_d 2 (some 49) (.int .i64 k) rfl (by kernel_rfl) (by kernel_rfl) (by kernel_rfl) (by kernel_rfl) rfl (fun _ _ _ h => h) (fun _ _ => by kernel_rfl) (by exact hS) ?_
      simp only [Act.put, List.setIfInBounds_toArray, List.set_cons_succ, List.set_cons_zero]
      refine wpAnyH_take_d 3 (some 50) (.pointer (some ⟨b, off + k * 2, none⟩)) rfl (by kernel_rfl) (by kernel_rfl) (by kernel_rfl) (by kernel_rfl) rfl (fun _ _ _ h => h) (fun _ _ => ex_index 2 rfl rfl rfl hlt Try.underlying22 szPr) (by exact hS) ?_
      simp only [Act.put, List.setIfInBounds_toArray, List.set_cons_succ, List.set_cons_zero]
      refine wpAnyH_take_d 4 (some 51) (prV ⟨xk, xv⟩) rfl (by kernel_rfl) (by kernel_rfl) (by kernel_rfl) (by kernel_rfl) rfl (fun _ _ _ h => h) (fun w' h => ex_row rfl rfl (E1.out _ (BW.out _ h)) Try.underlying50 rfl (by kernel_rfl)) (by exact hS) ?_
      simp only [Act.put, List.setIfInBounds_toArray, List.set_cons_succ, List.set_cons_zero]
      refine wpAnyH_take_d 5 (some 52) (.pointer (some ⟨w.heap.size + 1, 1, none⟩)) rfl (by kernel_rfl) (by kernel_rfl) (by kernel_rfl) (by kernel_rfl) rfl (fun _ _ _ h => h) (fun _ _ => by kernel_rfl) (by exact hS) ?_
      simp only [Act.put, List.setIfInBounds_toArray, List.set_cons_succ, List.set_cons_zero]
      refine wpAnyH_take_d 6 (some 53) (.slice (some ⟨b2, off2, none⟩) pm qc) rfl (by kernel_rfl) (by kernel_rfl) (by kernel_rfl) (by kernel_rfl) rfl (fun _ _ _ h => h) (fun w' h => exec_load_cell rfl rfl (BX.out _ h).c1 Try.underlying22 rfl) (by exact hS) ?_
      simp only [Act.put, List.setIfInBounds_toArray, List.set_cons_succ, List.set_cons_zero]
      refine wpAnyH_take_d 7 (some 54) (.int .i64 k) rfl (by kernel_rfl) (by kernel_rfl) (by kernel_rfl) (by kernel_rfl) rfl (fun _ _ _ h => h) (fun _ _ => by kernel_rfl) (by exact hS) ?_
      simp only [Act.put, List.setIfInBounds_toArray, List.set_cons_succ, List.set_cons_zero]
      refine wpAnyH_take_d 8 (some 55) (.pointer (some ⟨b2, off2 + k * 2, none⟩)) rfl (by kernel_rfl) (by kernel_rfl) (by kernel_rfl) (by kernel_rfl) rfl (fun _ _ _ h => h) (fun _ _ => ex_index 2 rfl rfl rfl hlt Try.underlying22 szPr) (by exact hS) ?_
      simp only [Act.put, List.setIfInBounds_toArray, List.set_cons_succ, List.set_cons_zero]
      refine wpAnyH_take_d 9 (some 56) (prV ⟨xk, xv⟩) rfl (by kernel_rfl) (by kernel_rfl) (by kernel_rfl) (by kernel_rfl) rfl (fun _ _ _ h => h) (fun w' h => ex_row rfl rfl (E2.out _ (BW.out _ h)) Try.underlying50 rfl (by kernel_rfl)) (by exact hS) ?_
      simp only [Act.put, List.setIfInBounds_toArray, List.set_cons_succ, List.set_cons_zero]
      refine wpAnyH_take_d 10 (some 57) (.bool false) rfl (by kernel_rfl) (by kernel_rfl) (by kernel_rfl) (by kernel_rfl) rfl (fun _ _ _ h => h) (fun w' _ => ex_bin rfl rfl rfl (by kernel_rfl) (neq_pr xk xv w')) (by exact hS) ?_
      simp only [Act.put, List.setIfInBounds_toArray, List.set_cons_succ, List.set_cons_zero]
      refine wpAnyH_done (by kernel_rfl) ?_ _
      clear q0 q1 q2 q3 t0 t1 t2 t3
      go_wp2
      go_roundw
      case rel => exact ⟨k + 1, by omega, by go_num, hS⟩
      case measure => simp [intOf]; omega
    · clear hk
      go_wp2
      go_loopw [6] (fun iv wr => ∃ k : Nat, k ≤ km ∧ iv = .int .i64 k ∧ Below W0.heap.size W0 wr) (fun iv _ => km - (intOf iv).toNat)
      case atStart => exact ⟨0, Nat.zero_le _, rfl, hb⟩
      case round =>
        obtain ⟨k, hk, rfl, hb⟩ := hrel
        obtain ⟨q0, q1, q2, q3⟩ := AX.out _ hb
        obtain ⟨t0, t1, t2, t3⟩ := BX.out _ hb
        have hbw := BW.out _ hb
        by_cases hlt : k < km
        · have hl1 : k < n.ks.length := by rw [← hkm.out]; exact hlt
          obtain ⟨b, off, c1, hv, hB1, hc1⟩ := K1.out.getS hl1
          obtain ⟨b2, off2, c2, hv2, hB2, hc2⟩ := K2.out.getS hl1
          obtain ⟨rfl, -, rfl⟩ : ka = some ⟨b, off, none⟩ ∧ km = n.ks.length ∧ kc = c1 := by cases hv; exact ⟨rfl, rfl, rfl⟩
          obtain ⟨rfl, -, rfl⟩ : ra = some ⟨b2, off2, none⟩ ∧ km = n.ks.length ∧ rc = c2 := by cases hv2; exact ⟨rfl, rfl, rfl⟩
          have E1 := Lib.hid (fun (w' : World) (h : Below w.heap.size w w') => (h.cell (p := ⟨b, off + k, none⟩) hB1).trans hc1)
          have E2 := Lib.hid (fun (w' : World) (h : Below w.heap.size w w') => (h.cell (p := ⟨b2, off2 + k, none⟩) hB2).trans hc2)
          generalize kAt n.ks k = x at *
          clear hv hv2 hc1 hc2
          go_wp2_with fail
          have hS : Below W0.heap.size W0 wr.drew := hb.drew
          refine wp_region_held_drew (S := fun w' => Below W0.heap.size W0 w') mixed hS (fun _ => ?_)
          show wpAnyH _ _ _ _ _ 11 (Array.replicate 11 false) _ _
          refine wpAnyH_take_d 0 (some 65) (.pointer (some ⟨w.heap.size, 2, none⟩)) rfl (by kernel_rfl) (by kernel_rfl) (by kernel_rfl) (by kernel_rfl) rfl (fun _ _ _ h => h) (fun _ _ => by kernel_rfl) (by exact hS) ?_
          simp only [Act.put, List.setIfInBounds_toArray, List.set_cons_succ, List.set_cons_zero]
          refine wpAnyH_take_d 1 (some 66) (.slice (some ⟨b, off, none⟩) km kc) rfl (by kernel_rfl) (by kernel_rfl) (by kernel_rfl) (by kernel_rfl) rfl (fun _ _ _ h => h) (fun w' h => exec_load_cell rfl rfl (AX.out _ h).c2 Try.underlying23 rfl) (by exact hS) ?_
          simp only [Act.put, List.setIfInBounds_toArray, List.set_cons_succ, List.set_cons_zero]
          refine wpAnyH_take_d 2 (some 67) (.int .i64 k) rfl (by kernel_rfl) (by kernel_rfl) (by kernel_rfl) (by kernel_rfl) rfl (fun _ _ _ h => h) (fun _ _ => by kernel_rfl) (by exact hS) ?_
          simp only [Act.put, List.setIfInBounds_toArray, List.set_cons_succ, List.set_cons_zero]
          refine wpAnyH_take_d 3 (some 68) (.pointer (some ⟨b, off + k, none⟩)) rfl (by kernel_rfl) (by kernel_rfl) (by kernel_rfl) (by kernel_rfl) rfl (fun _ _ _ h => h) (fun _ _ => ex_index1 rfl rfl rfl hlt Try.underlying23 (by kernel_rfl)) (by exact hS) ?_
          simp only [Act.put, List.setIfInBounds_toArray, List.set_cons_succ, List.set_cons_zero]
          refine wpAnyH_take_d 4 (some 69) (.string x) rfl (by kernel_rfl) (by kernel_rfl) (by kernel_rfl) (by kernel_rfl) rfl (fun _ _ _ h => h) (fun w' h => exec_load_cell rfl rfl (E1.out _ (BW.out _ h)) Try.underlying9 rfl) (by exact hS) ?_
          simp only [Act.put, List.setIfInBounds_toArray, List.set_cons_succ, List.set_cons_zero]
          refine wpAnyH_take_d 5 (some 70) (.pointer (some ⟨w.heap.size + 1, 2, none⟩)) rfl (by kernel_rfl) (by kernel_rfl) (by kernel_rfl) (by kernel_rfl) rfl (fun _ _ _ h => h) (fun _ _ => by kernel_rfl) (by exact hS) ?_
          simp only [Act.put, List.setIfInBounds_toArray, List.set_cons_succ, List.set_cons_zero]
          refine wpAnyH_take_d 6 (some 71) (.slice (some ⟨b2, off2, none⟩) km rc) rfl (by kernel_rfl) (by kernel_rfl) (by kernel_rfl) (by kernel_rfl) rfl (fun _ _ _ h => h) (fun w' h => exec_load_cell rfl rfl (BX.out _ h).c2 Try.underlying23 rfl) (by exact hS) ?_
          simp only [Act.put, List.setIfInBounds_toArray, List.set_cons_succ, List.set_cons_zero]
          refine wpAnyH_take_d 7 (some 72) (.int .i64 k) rfl (by kernel_rfl) (by kernel_rfl) (by kernel_rfl) (by kernel_rfl) rfl (fun _ _ _ h => h) (fun _ _ => by kernel_rfl) (by exact hS) ?_
          simp only [Act.put, List.setIfInBounds_toArray, List.set_cons_succ, List.set_cons_zero]
          refine wpAnyH_take_d 8 (some 73) (.pointer (some ⟨b2, off2 + k, none⟩)) rfl (by kernel_rfl) (by kernel_rfl) (by kernel_rfl) (by kernel_rfl) rfl (fun _ _ _ h => h) (fun _ _ => ex_index1 rfl rfl rfl hlt Try.underlying23 (by kernel_rfl)) (by exact hS) ?_
          simp only [Act.put, List.setIfInBounds_toArray, List.set_cons_succ, List.set_cons_zero]
          refine wpAnyH_take_d 9 (some 74) (.string x) rfl (by kernel_rfl) (by kernel_rfl) (by kernel_rfl) (by kernel_rfl) rfl (fun _ _ _ h => h) (fun w' h => exec_load_cell rfl rfl (E2.out _ (BW.out _ h)) Try.underlying9 rfl) (by exact hS) ?_
          simp only [Act.put, List.setIfInBounds_toArray, List.set_cons_succ, List.set_cons_zero]
          refine wpAnyH_take_d 10 (some 75) (.bool false) rfl (by kernel_rfl) (by kernel_rfl) (by kernel_rfl) (by kernel_rfl) rfl (fun _ _ _ h => h) (fun _ _ => ex_sne rfl rfl rfl (by simp)) (by exact hS) ?_
          simp only [Act.put, List.setIfInBounds_toArray, List.set_cons_succ, List.set_cons_zero]
          refine wpAnyH_done (by kernel_rfl) ?_ _
          clear q0 q1 q2 q3 t0 t1 t2 t3
          go_wp2
          go_roundw
          case rel => exact ⟨k + 1, by omega, by go_num, hS⟩
          case measure => simp [intOf]; omega
        · clear hk
          go_wp2
          go_loopw [7] (fun iv wr => ∃ k : Nat, k ≤ im ∧ iv = .int .i64 k ∧ Below W0.heap.size W0 wr) (fun iv _ => im - (intOf iv).toNat)
          case atStart => exact ⟨0, Nat.zero_le _, rfl, hb⟩
          case round =>
            obtain ⟨k, hk, rfl, hb⟩ := hrel
            obtain ⟨q0, q1, q2, q3⟩ := AX.out _ hb
            obtain ⟨t0, t1, t2, t3⟩ := BX.out _ hb
            have hbw := BW.out _ hb
            by_cases hlt : k < im
            · have hl1 : k < n.is.length := by rw [← him.out]; exact hlt
              obtain ⟨b, off, c1, hv, hB1, hc1⟩ := I1.out.getI hl1
              obtain ⟨b2, off2, c2, hv2, hB2, hc2⟩ := I2.out.getI hl1
              obtain ⟨rfl, -, rfl⟩ : ia = some ⟨b, off, none⟩ ∧ im = n.is.length ∧ ic = c1 := by cases hv; exact ⟨rfl, rfl, rfl⟩
              obtain ⟨rfl, -, rfl⟩ : sa = some ⟨b2, off2, none⟩ ∧ im = n.is.length ∧ sc = c2 := by cases hv2; exact ⟨rfl, rfl, rfl⟩
              have E1 := Lib.hid (fun (w' : World) (h : Below w.heap.size w w') => (h.cell (p := ⟨b, off + k, none⟩) hB1).trans hc1)
              have E2 := Lib.hid (fun (w' : World) (h : Below w.heap.size w w') => (h.cell (p := ⟨b2, off2 + k, none⟩) hB2).trans hc2)
              generalize n.is.getD k 0 = x at *
              clear hv hv2 hc1 hc2
              go_wp2_with fail
              have hS : Below W0.heap.size W0 wr.drew := hb.drew
              refine wp_region_held_drew (S := fun w' => Below W0.heap.size W0 w') mixed hS (fun _ => ?_)
              show wpAnyH _ _ _ _ _ 11 (Array.replicate 11 false) _ _
              refine wpAnyH_take_d 0 (some 83) (.pointer (some ⟨w.heap.size, 3, none⟩)) rfl (by kernel_rfl) (by kernel_rfl) (by kernel_rfl) (by kernel_rfl) rfl (fun _ _ _ h => h) (fun _ _ => by kernel_rfl) (by exact hS) ?_
              simp only [Act.put, List.setIfInBounds_toArray, List.set_cons_succ, List.set_cons_zero]
              refine wpAnyH_take_d 1 (some 84) (.slice (some ⟨b, off, none⟩) im ic) rfl (by kernel_rfl) (by kernel_rfl) (by kernel_rfl) (by kernel_rfl) rfl (fun _ _ _ h => h) (fun w' h => exec_load_cell rfl rfl (AX.out _ h).c3 Try.underlying24 rfl) (by exact hS) ?_
              simp only [Act.put, List.setIfInBounds_toArray, List.set_cons_succ, List.set_cons_zero]
              refine wpAnyH_take_d 2 (some 85) (.int .i64 k) rfl (by kernel_rfl) (by kernel_rfl) (by kernel_rfl) (by kernel_rfl) rfl (fun _ _ _ h => h) (fun _ _ => by kernel_rfl) (by exact hS) ?_
              simp only [Act.put, List.setIfInBounds_toArray, List.set_cons_succ, List.set_cons_zero]
              refine wpAnyH_take_d 3 (some 86) (.pointer (some ⟨b, off + k, none⟩)) rfl (by kernel_rfl) (by kernel_rfl) (by kernel_rfl) (by kernel_rfl) rfl (fun _ _ _ h => h) (fun _ _ => ex_index1 rfl rfl rfl hlt Try.underlying24 (by kernel_rfl)) (by exact hS) ?_
              simp only [Act.put, List.setIfInBounds_toArray, List.set_cons_succ, List.set_cons_zero]
              refine wpAnyH_take_d 4 (some 87) (.int .i64 x) rfl (by kernel_rfl) (by kernel_rfl) (by kernel_rfl) (by kernel_rfl) rfl (fun _ _ _ h => h) (fun w' h => exec_load_cell rfl rfl (E1.out _ (BW.out _ h)) Try.underlying3 rfl) (by exact hS) ?_
              simp only [Act.put, List.setIfInBounds_toArray, List.set_cons_succ, List.set_cons_zero]
              refine wpAnyH_take_d 5 (some 88) (.pointer (some ⟨w.heap.size + 1, 3, none⟩)) rfl (by kernel_rfl) (by kernel_rfl) (by kernel_rfl) (by kernel_rfl) rfl (fun _ _ _ h => h) (fun _ _ => by kernel_rfl) (by exact hS) ?_
              simp only [Act.put, List.setIfInBounds_toArray, List.set_cons_succ, List.set_cons_zero]
              refine wpAnyH_take_d 6 (some 89) (.slice (some ⟨b2, off2, none⟩) im sc) rfl (by kernel_rfl) (by kernel_rfl) (by kernel_rfl) (by kernel_rfl) rfl (fun _ _ _ h => h) (fun w' h => exec_load_cell rfl rfl (BX.out _ h).c3 Try.underlying24 rfl) (by exact hS) ?_
              simp only [Act.put, List.setIfInBounds_toArray, List.set_cons_succ, List.set_cons_zero]
              refine wpAnyH_take_d 7 (some 90) (.int .i64 k) rfl (by kernel_rfl) (by kernel_rfl) (by kernel_rfl) (by kernel_rfl) rfl (fun _ _ _ h => h) (fun _ _ => by kernel_rfl) (by exact hS) ?_
              simp only [Act.put, List.setIfInBounds_toArray, List.set_cons_succ, List.set_cons_zero]
              refine wpAnyH_take_d 8 (some 91) (.pointer (some ⟨b2, off2 + k, none⟩)) rfl (by kernel_rfl) (by kernel_rfl) (by kernel_rfl) (by kernel_rfl) rfl (fun _ _ _ h => h) (fun _ _ => ex_index1 rfl rfl rfl hlt Try.underlying24 (by kernel_rfl)) (by exact hS) ?_
              simp only [Act.put, List.setIfInBounds_toArray, List.set_cons_succ, List.set_cons_zero]
              refine wpAnyH_take_d 9 (some 92) (.int .i64 x) rfl (by kernel_rfl) (by kernel_rfl) (by kernel_rfl) (by kernel_rfl) rfl (fun _ _ _ h => h) (fun w' h => exec_load_cell rfl rfl (E2.out _ (BW.out _ h)) Try.underlying3 rfl) (by exact hS) ?_
              simp only [Act.put, List.setIfInBounds_toArray, List.set_cons_succ, List.set_cons_zero]
              refine wpAnyH_take_d 10 (some 93) (.bool false) rfl (by kernel_rfl) (by kernel_rfl) (by kernel_rfl) (by kernel_rfl) rfl (fun _ _ _ h => h) (fun _ _ => ex_ne rfl rfl rfl (by simp)) (by exact hS) ?_
              simp only [Act.put, List.setIfInBounds_toArray, List.set_cons_succ, List.set_cons_zero]
              refine wpAnyH_done (by kernel_rfl) ?_ _
              clear q0 q1 q2 q3 t0 t1 t2 t3
              go_wp2
              go_roundw
              case rel => exact ⟨k + 1, by omega, by go_num, hS⟩
              case measure => simp [intOf]; omega
            · clear hk
              go_wp2
              go_ret
              exact ⟨rfl, hbw⟩
end Go.Proofs.Ytdkmfcmndncmcaa
