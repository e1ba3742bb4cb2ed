/- Texts that belong together, joined. No statement of the seat is proved here. -/
import Derived.Test.YtdkmfcmndncmcaaNHalf
/- The contract of the document's own Same, at nodes that are the same; of the law's back. No statement of the seat is proved here. -/
namespace Go.Proofs.Ytdkmfcmndncmcaa
set_option maxRecDepth 20000
open Go.RowKit

set_option maxHeartbeats 6400000 in
theorem same_any {w : World} {v u : Value} {n : Nd} (h : NdAt w.heap.size w v n) (g : NdAt w.heap.size w u n) : Calls Try.prog 22 #[v, u] w fun e w' => e = .returned (.bool true) ∧ Below w.heap.size w w' := by
  obtain ⟨pv, kv, iv, rfl, h1, h2, h3⟩ := h
  obtain ⟨pa, pm, pc, rfl, hpm⟩ := h1.form
  obtain ⟨ka, km, kc, rfl, hkm⟩ := h2.form
  obtain ⟨ia, im, ic, rfl, him⟩ := h3.form
  obtain ⟨pv2, kv2, iv2, rfl, g1, g2, g3⟩ := g
  obtain ⟨qa, pm2, qc, rfl, hpm2⟩ := g1.form
  obtain ⟨ra, km2, rc, rfl, hkm2⟩ := g2.form
  obtain ⟨sa, im2, sc, rfl, him2⟩ := g3.form
  obtain rfl : pm = pm2 := hpm.out.trans hpm2.out.symm
  obtain rfl : km = km2 := hkm.out.trans hkm2.out.symm
  obtain rfl : im = im2 := him.out.trans him2.out.symm
  generalize n.leaf = lf at *
  have i1 := h1.len okP
  have i2 := h2.len okS
  have i3 := h3.len okZ
  rw [← hpm.out] at i1
  rw [← hkm.out] at i2
  rw [← him.out] at i3
  have hW : ∃ W0, (w.alloc (rbO lf (.slice pa pm pc) (.slice ka km kc) (.slice ia im ic))).alloc (rbO lf (.slice qa pm qc) (.slice ra km rc) (.slice sa im sc)) = W0 := ⟨_, rfl⟩
  obtain ⟨W0, hW0⟩ := hW
  have hA : W0.heap[w.heap.size]? = some (rbO lf (.slice pa pm pc) (.slice ka km kc) (.slice ia im ic)) := by
    rw [← hW0, Below.heap_alloc _ _ _ (by simp)]; exact heap_alloc_new _ _
  have hB : W0.heap[w.heap.size + 1]? = some (rbO lf (.slice qa pm qc) (.slice ra km rc) (.slice sa im sc)) := by
    rw [← hW0]
    have := heap_alloc_new (w.alloc (rbO lf (.slice pa pm pc) (.slice ka km kc) (.slice ia im ic))) (rbO lf (.slice qa pm qc) (.slice ra km rc) (.slice sa im sc))
    rwa [show (w.alloc (rbO lf (.slice pa pm pc) (.slice ka km kc) (.slice ia im ic))).heap.size = w.heap.size + 1 by simp] at this
  have hbw : Below w.heap.size w W0 := by rw [← hW0]; exact (below_new _ _).trans ((below_new _ _).mono (by simp))
  have hAl := lt_of_heap hA
  have hBl := lt_of_heap hB
  have AX := Lib.hid (fun (w' : World) (b : Below W0.heap.size W0 w') => NdCells.of ((b.block w.heap.size hAl).trans hA))
  have BX := Lib.hid (fun (w' : World) (b : Below W0.heap.size W0 w') => NdCells.of ((b.block (w.heap.size + 1) hBl).trans hB))
  have BW := Lib.hid (fun (w' : World) (b : Below W0.heap.size W0 w') => hbw.trans (b.mono hbw.size))
  have P1 := Lib.hid h1
  have P2 := Lib.hid g1
  have K1 := Lib.hid h2
  have K2 := Lib.hid g2
  have I1 := Lib.hid h3
  have I2 := Lib.hid g3
  have bb : Below W0.heap.size W0 W0 := Below.refl _ _
  obtain ⟨q0, q1, q2, q3⟩ := AX.out _ bb
  obtain ⟨t0, t1, t2, t3⟩ := BX.out _ bb
  have hlf : (lf != lf) = false := by simp
  clear h1 h2 h3 g1 g2 g3 hpm2 hkm2 him2 hA hB hbw hAl hBl
  go_enter Try.func22, Try.ntmps22
  go_wp2
  go_loopw [5] (fun iv wr => ∃ k : Nat, k ≤ pm ∧ iv = .int .i64 k ∧ Below W0.heap.size W0 wr) (fun iv _ => pm - (intOf iv).toNat)
  case atStart => exact ⟨0, Nat.zero_le _, rfl, bb⟩
  case round =>
    obtain ⟨k, hk, rfl, hb⟩ := hrel
    obtain ⟨q0, q1, q2, q3⟩ := AX.out _ hb
    obtain ⟨t0, t1, t2, t3⟩ := BX.out _ hb
    have hbw := BW.out _ hb
    by_cases hlt : k < pm
    · have hl1 : k < n.ps.length := by rw [← hpm.out]; exact hlt
      obtain ⟨b, off, c1, hv, hB1, hc1, hc1'⟩ := P1.out.getP hl1
      obtain ⟨b2, off2, c2, hv2, hB2, hc2, hc2'⟩ := P2.out.getP hl1
      obtain ⟨rfl, -, rfl⟩ : pa = some ⟨b, off, none⟩ ∧ pm = n.ps.length ∧ pc = c1 := by cases hv; exact ⟨rfl, rfl, rfl⟩
      obtain ⟨rfl, -, rfl⟩ : qa = some ⟨b2, off2, none⟩ ∧ pm = n.ps.length ∧ qc = c2 := by cases hv2; exact ⟨rfl, rfl, rfl⟩
      have E1 := Lib.hid (fun (w' : World) (h : Below w.heap.size w w') => range2 ((h.cell (p := ⟨b, off + k * 2, none⟩) hB1).trans hc1) ((h.cell (p := ⟨b, off + k * 2 + 1, none⟩) hB1).trans hc1'))
      have E2 := Lib.hid (fun (w' : World) (h : Below w.heap.size w w') => range2 ((h.cell (p := ⟨b2, off2 + k * 2, none⟩) hB2).trans hc2) ((h.cell (p := ⟨b2, off2 + k * 2 + 1, none⟩) hB2).trans hc2'))
      generalize prAt n.ps k = x at *
      obtain ⟨xk, xv⟩ := x
      clear hv hv2 hc1 hc1' hc2 hc2'
      go_wp2_with fail
      have hS : Below W0.heap.size W0 wr.drew := hb.drew
      refine wp_region_held_drew (S := fun w' => Below W0.heap.size W0 w') mixed hS (fun _ => ?_)
      show wpAnyH _ _ _ _ _ 11 (Array.replicate 11 false) _ _
      refine wpAnyH_take_d 0 (some 47) (.pointer (some ⟨w.heap.size, 1, none⟩)) rfl (by kernel_rfl) (by kernel_rfl) (by kernel_rfl) (by kernel_rfl) rfl (fun _ _ _ h => h) (fun _ _ => by kernel_rfl) (by exact hS) ?_
      simp only [Act.put, List.setIfInBounds_toArray, List.set_cons_succ, List.set_cons_zero]
      refine wpAnyH_take_d 1 (some 48) (.slice (some ⟨b, off, none⟩) pm pc) rfl (by kernel_rfl) (by kernel_rfl) (by kernel_rfl) (by kernel_rfl) rfl (fun _ _ _ h => h) (fun w' h => exec_load_cell rfl rfl (AX.out _ h).c1 Try.underlying22 rfl) (by exact hS) ?_
      simp only [Act.put, List.setIfInBounds_toArray, List.set_cons_succ, List.set_cons_zero]
      refine wpAnyH_take_d 2 (some 49) (.int .i64 k) rfl (by kernel_rfl) (by kernel_rfl) (by kernel_rfl) (by kernel_rfl) rfl (fun _ _ _ h => h) (fun _ _ => by kernel_rfl) (by exact hS) ?_
      simp only [Act.put, List.setIfInBounds_toArray, List.set_cons_succ, List.set_cons_zero]
      refine wpAnyH_take_d 3 (some 50) (.pointer (some ⟨b, off + k * 2, none⟩)) rfl (by kernel_rfl) (by kernel_rfl) (by kernel_rfl) (by kernel_rfl) rfl (fun _ _ _ h => h) (fun _ _ => ex_index 2 rfl rfl rfl hlt Try.underlying22 szPr) (by exact hS) ?_
      simp only [Act.put, List.setIfInBounds_toArray, List.set_cons_succ, List.set_cons_zero]
      refine wpAnyH_take_d 4 (some 51) (prV ⟨xk, xv⟩) rfl (by kernel_rfl) (by kernel_rfl) (by kernel_rfl) (by kernel_rfl) rfl (fun _ _ _ h => h) (fun w' h => ex_row rfl rfl (E1.out _ (BW.out _ h)) Try.underlying50 rfl (by kernel_rfl)) (by exact hS) ?_
      simp only [Act.put, List.setIfInBounds_toArray, List.set_cons_succ, List.set_cons_zero]
      refine wpAnyH_take_d 5 (some 52) (.pointer (some ⟨w.heap.size + 1, 1, none⟩)) rfl (by kernel_rfl) (by kernel_rfl) (by kernel_rfl) (by kernel_rfl) rfl (fun _ _ _ h => h) (fun _ _ => by kernel_rfl) (by exact hS) ?_
      simp only [Act.put, List.setIfInBounds_toArray, List.set_cons_succ, List.set_cons_zero]
      refine wpAnyH_take_d 6 (some 53) (.slice (some ⟨b2, off2, none⟩) pm qc) rfl (by kernel_rfl) (by kernel_rfl) (by kernel_rfl) (by kernel_rfl) rfl (fun _ _ _ h => h) (fun w' h => exec_load_cell rfl rfl (BX.out _ h).c1 Try.underlying22 rfl) (by exact hS) ?_
      simp only [Act.put, List.setIfInBounds_toArray, List.set_cons_succ, List.set_cons_zero]
      refine wpAnyH_take_d 7 (some 54) (.int .i64 k) rfl (by kernel_rfl) (by kernel_rfl) (by kernel_rfl) (by kernel_rfl) rfl (fun _ _ _ h => h) (fun _ _ => by kernel_rfl) (by exact hS) ?_
      simp only [Act.put, List.setIfInBounds_toArray, List.set_cons_succ, List.set_cons_zero]
      refine wpAnyH_take_d 8 (some 55) (.pointer (some ⟨b2, off2 + k * 2, none⟩)) rfl (by kernel_rfl) (by kernel_rfl) (by kernel_rfl) (by kernel_rfl) rfl (fun _ _ _ h => h) (fun _ _ => ex_index 2 rfl rfl rfl hlt Try.underlying22 szPr) (by exact hS) ?_
      simp only [Act.put, List.setIfInBounds_toArray, List.set_cons_succ, List.set_cons_zero]
      refine wpAnyH_take_d 9 (some 56) (prV ⟨xk, xv⟩) rfl (by kernel_rfl) (by kernel_rfl) (by kernel_rfl) (by kernel_rfl) rfl (fun _ _ _ h => h) (fun w' h => ex_row rfl rfl (E2.out _ (BW.out _ h)) Try.underlying50 rfl (by kernel_rfl)) (by exact hS) ?_
      simp only [Act.put, List.setIfInBounds_toArray, List.set_cons_succ, List.set_cons_zero]
      refine wpAnyH_take_d 10 (some 57) (.bool false) rfl (by kernel_rfl) (by kernel_rfl) (by kernel_rfl) (by kernel_rfl) rfl (fun _ _ _ h => h) (fun w' _ => ex_bin rfl rfl rfl (by kernel_rfl) (neq_pr xk xv w')) (by exact hS) ?_
      simp only [Act.put, List.setIfInBounds_toArray, List.set_cons_succ, List.set_cons_zero]
      refine wpAnyH_done (by kernel_rfl) ?_ _
      clear q0 q1 q2 q3 t0 t1 t2 t3
      go_wp2
      go_roundw
      case rel => exact ⟨k + 1, by omega, by go_num, hS⟩
      case measure => simp [intOf]; omega
    · clear hk
      go_wp2
      go_loopw [6] (fun iv wr => ∃ k : Nat, k ≤ km ∧ iv = .int .i64 k ∧ Below W0.heap.size W0 wr) (fun iv _ => km - (intOf iv).toNat)
      case atStart => exact ⟨0, Nat.zero_le _, rfl, hb⟩
      case round =>
        obtain ⟨k, hk, rfl, hb⟩ := hrel
        obtain ⟨q0, q1, q2, q3⟩ := AX.out _ hb
        obtain ⟨t0, t1, t2, t3⟩ := BX.out _ hb
        have hbw := BW.out _ hb
        by_cases hlt : k < km
        · have hl1 : k < n.ks.length := by rw [← hkm.out]; exact hlt
          obtain ⟨b, off, c1, hv, hB1, hc1⟩ := K1.out.getS hl1
          obtain ⟨b2, off2, c2, hv2, hB2, hc2⟩ := K2.out.getS hl1
          obtain ⟨rfl, -, rfl⟩ : ka = some ⟨b, off, none⟩ ∧ km = n.ks.length ∧ kc = c1 := by cases hv; exact ⟨rfl, rfl, rfl⟩
          obtain ⟨rfl, -, rfl⟩ : ra = some ⟨b2, off2, none⟩ ∧ km = n.ks.length ∧ rc = c2 := by cases hv2; exact ⟨rfl, rfl, rfl⟩
          have E1 := Lib.hid (fun (w' : World) (h : Below w.heap.size w w') => (h.cell (p := ⟨b, off + k, none⟩) hB1).trans hc1)
          have E2 := Lib.hid (fun (w' : World) (h : Below w.heap.size w w') => (h.cell (p := ⟨b2, off2 + k, none⟩) hB2).trans hc2)
          generalize kAt n.ks k = x at *
          clear hv hv2 hc1 hc2
          go_wp2_with fail
          have hS : Below W0.heap.size W0 wr.drew := hb.drew
          refine wp_region_held_drew (S := fun w' => Below W0.heap.size W0 w') mixed hS (fun _ => ?_)
          show wpAnyH _ _ _ _ _ 11 (Array.replicate 11 false) _ _
          refine wpAnyH_take_d 0 (some 65) (.pointer (some ⟨w.heap.size, 2, none⟩)) rfl (by kernel_rfl) (by kernel_rfl) (by kernel_rfl) (by kernel_rfl) rfl (fun _ _ _ h => h) (fun _ _ => by kernel_rfl) (by exact hS) ?_
          simp only [Act.put, List.setIfInBounds_toArray, List.set_cons_succ, List.set_cons_zero]
          refine wpAnyH_take_d 1 (some 66) (.slice (some ⟨b, off, none⟩) km kc) rfl (by kernel_rfl) (by kernel_rfl) (by kernel_rfl) (by kernel_rfl) rfl (fun _ _ _ h => h) (fun w' h => exec_load_cell rfl rfl (AX.out _ h).c2 Try.underlying23 rfl) (by exact hS) ?_
          simp only [Act.put, List.setIfInBounds_toArray, List.set_cons_succ, List.set_cons_zero]
          refine wpAnyH_take_d 2 (some 67) (.int .i64 k) rfl (by kernel_rfl) (by kernel_rfl) (by kernel_rfl) (by kernel_rfl) rfl (fun _ _ _ h => h) (fun _ _ => by kernel_rfl) (by exact hS) ?_
          simp only [Act.put, List.setIfInBounds_toArray, List.set_cons_succ, List.set_cons_zero]
          refine wpAnyH_take_d 3 (some 68) (.pointer (some ⟨b, off + k, none⟩)) rfl (by kernel_rfl) (by kernel_rfl) (by kernel_rfl) (by kernel_rfl) rfl (fun _ _ _ h => h) (fun _ _ => ex_index1 rfl rfl rfl hlt Try.underlying23 (by kernel_rfl)) (by exact hS) ?_
          simp only [Act.put, List.setIfInBounds_toArray, List.set_cons_succ, List.set_cons_zero]
          refine wpAnyH_take_d 4 (some 69) (.string x) rfl (by kernel_rfl) (by kernel_rfl) (by kernel_rfl) (by kernel_rfl) rfl (fun _ _ _ h => h) (fun w' h => exec_load_cell rfl rfl (E1.out _ (BW.out _ h)) Try.underlying9 rfl) (by exact hS) ?_
          simp only [Act.put, List.setIfInBounds_toArray, List.set_cons_succ, List.set_cons_zero]
          refine wpAnyH_take_d 5 (some 70) (.pointer (some ⟨w.heap.size + 1, 2, none⟩)) rfl (by kernel_rfl) (by kernel_rfl) (by kernel_rfl) (by kernel_rfl) rfl (fun _ _ _ h => h) (fun _ _ => by kernel_rfl) (by exact hS) ?_
          simp only [Act.put, List.setIfInBounds_toArray, List.set_cons_succ, List.set_cons_zero]
          refine wpAnyH_take_d 6 (some 71) (.slice (some ⟨b2, off2, none⟩) km rc) rfl (by kernel_rfl) (by kernel_rfl) (by kernel_rfl) (by kernel_rfl) rfl (fun _ _ _ h => h) (fun w' h => exec_load_cell rfl rfl (BX.out _ h).c2 Try.underlying23 rfl) (by exact hS) ?_
          simp only [Act.put, List.setIfInBounds_toArray, List.set_cons_succ, List.set_cons_zero]
          refine wpAnyH_take_d 7 (some 72) (.int .i64 k) rfl (by kernel_rfl) (by kernel_rfl) (by kernel_rfl) (by kernel_rfl) rfl (fun _ _ _ h => h) (fun _ _ => by kernel_rfl) (by exact hS) ?_
          simp only [Act.put, List.setIfInBounds_toArray, List.set_cons_succ, List.set_cons_zero]
          refine wpAnyH_take_d 8 (some 73) (.pointer (some ⟨b2, off2 + k, none⟩)) rfl (by kernel_rfl) (by kernel_rfl) (by kernel_rfl) (by kernel_rfl) rfl (fun _ _ _ h => h) (fun _ _ => ex_index1 rfl rfl rfl hlt Try.underlying23 (by kernel_rfl)) (by exact hS) ?_
          simp only [Act.put, List.setIfInBounds_toArray, List.set_cons_succ, List.set_cons_zero]
          refine wpAnyH_take_d 9 (some 74) (.string x) rfl (by kernel_rfl) (by kernel_rfl) (by kernel_rfl) (by kernel_rfl) rfl (fun _ _ _ h => h) (fun w' h => exec_load_cell rfl rfl (E2.out _ (BW.out _ h)) Try.underlying9 rfl) (by exact hS) ?_
          simp only [Act.put, List.setIfInBounds_toArray, List.set_cons_succ, List.set_cons_zero]
          refine wpAnyH_take_d 10 (some 75) (.bool false) rfl (by kernel_rfl) (by kernel_rfl) (by kernel_rfl) (by kernel_rfl) rfl (fun _ _ _ h => h) (fun _ _ => ex_sne rfl rfl rfl (by simp)) (by exact hS) ?_
          simp only [Act.put, List.setIfInBounds_toArray, List.set_cons_succ, List.set_cons_zero]
          refine wpAnyH_done (by kernel_rfl) ?_ _
          clear q0 q1 q2 q3 t0 t1 t2 t3
          go_wp2
          go_roundw
          case rel => exact ⟨k + 1, by omega, by go_num, hS⟩
          case measure => simp [intOf]; omega
        · clear hk
          go_wp2
          go_loopw [7] (fun iv wr => ∃ k : Nat, k ≤ im ∧ iv = .int .i64 k ∧ Below W0.heap.size W0 wr) (fun iv _ => im - (intOf iv).toNat)
          case atStart => exact ⟨0, Nat.zero_le _, rfl, hb⟩
          case round =>
            obtain ⟨k, hk, rfl, hb⟩ := hrel
            obtain ⟨q0, q1, q2, q3⟩ := AX.out _ hb
            obtain ⟨t0, t1, t2, t3⟩ := BX.out _ hb
            have hbw := BW.out _ hb
            by_cases hlt : k < im
            · have hl1 : k < n.is.length := by rw [← him.out]; exact hlt
              obtain ⟨b, off, c1, hv, hB1, hc1⟩ := I1.out.getI hl1
              obtain ⟨b2, off2, c2, hv2, hB2, hc2⟩ := I2.out.getI hl1
              obtain ⟨rfl, -, rfl⟩ : ia = some ⟨b, off, none⟩ ∧ im = n.is.length ∧ ic = c1 := by cases hv; exact ⟨rfl, rfl, rfl⟩
              obtain ⟨rfl, -, rfl⟩ : sa = some ⟨b2, off2, none⟩ ∧ im = n.is.length ∧ sc = c2 := by cases hv2; exact ⟨rfl, rfl, rfl⟩
              have E1 := Lib.hid (fun (w' : World) (h : Below w.heap.size w w') => (h.cell (p := ⟨b, off + k, none⟩) hB1).trans hc1)
              have E2 := Lib.hid (fun (w' : World) (h : Below w.heap.size w w') => (h.cell (p := ⟨b2, off2 + k, none⟩) hB2).trans hc2)
              generalize n.is.getD k 0 = x at *
              clear hv hv2 hc1 hc2
              go_wp2_with fail
              have hS : Below W0.heap.size W0 wr.drew := hb.drew
              refine wp_region_held_drew (S := fun w' => Below W0.heap.size W0 w') mixed hS (fun _ => ?_)
              show wpAnyH _ _ _ _ _ 11 (Array.replicate 11 false) _ _
              refine wpAnyH_take_d 0 (some 83) (.pointer (some ⟨w.heap.size, 3, none⟩)) rfl (by kernel_rfl) (by kernel_rfl) (by kernel_rfl) (by kernel_rfl) rfl (fun _ _ _ h => h) (fun _ _ => by kernel_rfl) (by exact hS) ?_
              simp only [Act.put, List.setIfInBounds_toArray, List.set_cons_succ, List.set_cons_zero]
              refine wpAnyH_take_d 1 (some 84) (.slice (some ⟨b, off, none⟩) im ic) rfl (by kernel_rfl) (by kernel_rfl) (by kernel_rfl) (by kernel_rfl) rfl (fun _ _ _ h => h) (fun w' h => exec_load_cell rfl rfl (AX.out _ h).c3 Try.underlying24 rfl) (by exact hS) ?_
              simp only [Act.put, List.setIfInBounds_toArray, List.set_cons_succ, List.set_cons_zero]
              refine wpAnyH_take_d 2 (some 85) (.int .i64 k) rfl (by kernel_rfl) (by kernel_rfl) (by kernel_rfl) (by kernel_rfl) rfl (fun _ _ _ h => h) (fun _ _ => by kernel_rfl) (by exact hS) ?_
              simp only [Act.put, List.setIfInBounds_toArray, List.set_cons_succ, List.set_cons_zero]
              refine wpAnyH_take_d 3 (some 86) (.pointer (some ⟨b, off + k, none⟩)) rfl (by kernel_rfl) (by kernel_rfl) (by kernel_rfl) (by kernel_rfl) rfl (fun _ _ _ h => h) (fun _ _ => ex_index1 rfl rfl rfl hlt Try.underlying24 (by kernel_rfl)) (by exact hS) ?_
              simp only [Act.put, List.setIfInBounds_toArray, List.set_cons_succ, List.set_cons_zero]
              refine wpAnyH_take_d 4 (some 87) (.int .i64 x) rfl (by kernel_rfl) (by kernel_rfl) (by kernel_rfl) (by kernel_rfl) rfl (fun _ _ _ h => h) (fun w' h => exec_load_cell rfl rfl (E1.out _ (BW.out _ h)) Try.underlying3 rfl) (by exact hS) ?_
              simp only [Act.put, List.setIfInBounds_toArray, List.set_cons_succ, List.set_cons_zero]
              refine wpAnyH_take_d 5 (some 88) (.pointer (some ⟨w.heap.size + 1, 3, none⟩)) rfl (by kernel_rfl) (by kernel_rfl) (by kernel_rfl) (by kernel_rfl) rfl (fun _ _ _ h => h) (fun _ _ => by kernel_rfl) (by exact hS) ?_
              simp only [Act.put, List.setIfInBounds_toArray, List.set_cons_succ, List.set_cons_zero]
              refine wpAnyH_take_d 6 (some 89) (.slice (some ⟨b2, off2, none⟩) im sc) rfl (by kernel_rfl) (by kernel_rfl) (by kernel_rfl) (by kernel_rfl) rfl (fun _ _ _ h => h) (fun w' h => exec_load_cell rfl rfl (BX.out _ h).c3 Try.underlying24 rfl) (by exact hS) ?_
              simp only [Act.put, List.setIfInBounds_toArray, List.set_cons_succ, List.set_cons_zero]
              refine wpAnyH_take_d 7 (some 90) (.int .i64 k) rfl (by kernel_rfl) (by kernel_rfl) (by kernel_rfl) (by kernel_rfl) rfl (fun _ _ _ h => h) (fun _ _ => by kernel_rfl) (by exact hS) ?_
              simp only [Act.put, List.setIfInBounds_toArray, List.set_cons_succ, List.set_cons_zero]
              refine wpAnyH_take_d 8 (some 91) (.pointer (some ⟨b2, off2 + k, none⟩)) rfl (by kernel_rfl) (by kernel_rfl) (by kernel_rfl) (by kernel_rfl) rfl (fun _ _ _ h => h) (fun _ _ => ex_index1 rfl rfl rfl hlt Try.underlying24 (by kernel_rfl)) (by exact hS) ?_
              simp only [Act.put, List.setIfInBounds_toArray, List.set_cons_succ, List.set_cons_zero]
              refine wpAnyH_take_d 9 (some 92) (.int .i64 x) rfl (by kernel_rfl) (by kernel_rfl) (by kernel_rfl) (by kernel_rfl) rfl (fun _ _ _ h => h) (fun w' h => exec_load_cell rfl rfl (E2.out _ (BW.out _ h)) Try.underlying3 rfl) (by exact hS) ?_
              simp only [Act.put, List.setIfInBounds_toArray, List.set_cons_succ, List.set_cons_zero]
              refine wpAnyH_take_d 10 (some 93) (.bool false) rfl (by kernel_rfl) (by kernel_rfl) (by kernel_rfl) (by kernel_rfl) rfl (fun _ _ _ h => h) (fun _ _ => ex_ne rfl rfl rfl (by simp)) (by exact hS) ?_
              simp only [Act.put, List.setIfInBounds_toArray, List.set_cons_succ, List.set_cons_zero]
              refine wpAnyH_done (by kernel_rfl) ?_ _
              clear q0 q1 q2 q3 t0 t1 t2 t3
              go_wp2
              go_roundw
              case rel => exact ⟨k + 1, by omega, by go_num, hS⟩
              case measure => simp [intOf]; omega
            · clear hk
              go_wp2
              go_ret
              exact ⟨rfl, hbw⟩
end Go.Proofs.Ytdkmfcmndncmcaa

/- The contract of the law's back. No statement of the seat is proved here. -/
namespace Go.Proofs.Ytdkmfcmndncmcaa
set_option maxRecDepth 20000
open Go.RowKit

theorem wpList_store_rn {ops : Array Oper} {rest : List Oper} {o : Oper} {a : Act} {w a0 : World} {B : Nat} {Q : Exit → Act → World → Prop} (hgd : o.guard = none) (x y : Operand) (ho : o.op = .store 26 x y)
    (g : Nat) (lf : Bool) (pv kv iv : Value) (hx : a.eval x = .pointer (some ⟨g, 0, none⟩)) (hy : a.eval y = .agg #[.bool lf, pv, kv, iv]) (old : Array Value) (hg : w.heap[g]? = some (.cells old 26 (0, 0))) (hold : old.size = 4) (h1 : SlV pv) (h2 : SlV kv) (h3 : SlV iv) (hb : Below B a0 w) (hB : B ≤ g)
    (h : ∀ w1, NdCells w1 g lf pv kv iv → w1.heap[g]? = some (rbO lf pv kv iv) → Below B a0 w1 → (∀ k, k ≠ g → w1.heap[k]? = w.heap[k]?) → wpList Try.prog ops Q rest (a.put o.dst undef) w1) : wpList Try.prog ops Q (o :: rest) a w := by
  have hn := setRow_heap w g old #[.bool lf, pv, kv, iv] _ _ hg
  obtain ⟨_, _, _, rfl⟩ := h1
  obtain ⟨_, _, _, rfl⟩ := h2
  obtain ⟨_, _, _, rfl⟩ := h3
  refine Go.wpList_store_row hgd 26 x y ho g _ hx hy 26 old hg (by kernel_rfl) (by rw [hold]; rfl) (by simp [Value.oneCell']) (h _ (NdCells.of hn) hn ?_ (fun k hk => setRow_other w g k _ hk))
  exact ⟨hb.os, hb.tape, hb.output, by have := hb.size; simpa using this, fun k hk => by rw [setRow_other w g k _ (by omega)]; exact hb.block k hk⟩
theorem build_rn (lf : Bool) (pv kv iv : Value) (h1 : SlV pv) (h2 : SlV kv) (h3 : SlV iv) (w : World) : (Instr.build 26 #[(0, .bool lf), (1, pv), (2, kv), (3, iv)]).run Try.prog w = .ok (.agg #[.bool lf, pv, kv, iv]) w := by
  obtain ⟨_, _, _, rfl⟩ := h1
  obtain ⟨_, _, _, rfl⟩ := h2
  obtain ⟨_, _, _, rfl⟩ := h3
  exact run_build w 26 _ _ (by kernel_rfl)
set_option maxHeartbeats 1600000 in
theorem back_any {w : World} {lf : Bool} {pv kv iv : Value} (h1 : SlV pv) (h2 : SlV kv) (h3 : SlV iv) : Calls Try.prog 23 #[.agg #[.bool lf, pv, kv, iv]] w fun e w' => e = .returned (.agg #[.bool lf, pv, kv, iv]) ∧ Below w.heap.size w w' := by
  obtain ⟨pa, pm, pc, rfl⟩ := h1
  obtain ⟨ka, km, kc, rfl⟩ := h2
  obtain ⟨ia, im, ic, rfl⟩ := h3
  have hg : ((w.alloc (ndO lf (.slice pa pm pc) (.slice ka km kc) (.slice ia im ic))).alloc (rbO false (.slice none 0 0) (.slice none 0 0) (.slice none 0 0))).heap[w.heap.size + 1]? = some (rbO false (.slice none 0 0) (.slice none 0 0) (.slice none 0 0)) := by
    have := heap_alloc_new (w.alloc (ndO lf (.slice pa pm pc) (.slice ka km kc) (.slice ia im ic))) (rbO false (.slice none 0 0) (.slice none 0 0) (.slice none 0 0))
    rwa [show (w.alloc (ndO lf (.slice pa pm pc) (.slice ka km kc) (.slice ia im ic))).heap.size = w.heap.size + 1 by simp] at this
  have hb : Below w.heap.size w ((w.alloc (ndO lf (.slice pa pm pc) (.slice ka km kc) (.slice ia im ic))).alloc (rbO false (.slice none 0 0) (.slice none 0 0) (.slice none 0 0))) := (below_new _ _).trans ((below_new _ _).mono (by simp))
  have hbu := build_rn lf (.slice pa pm pc) (.slice ka km kc) (.slice ia im ic) (.mk _ _ _) (.mk _ _ _) (.mk _ _ _) ((w.alloc (ndO lf (.slice pa pm pc) (.slice ka km kc) (.slice ia im ic))).alloc (rbO false (.slice none 0 0) (.slice none 0 0) (.slice none 0 0)))
  go_enter Try.func23, Try.ntmps23
  go_wp2_with (with_reducible refine wpList_store_rn rfl (.tmp 2) (.tmp 11) rfl (w.heap.size + 1) lf (.slice pa pm pc) (.slice ka km kc) (.slice ia im ic) rfl rfl #[.bool false, .slice none 0 0, .slice none 0 0, .slice none 0 0] hg rfl (.mk _ _ _) (.mk _ _ _) (.mk _ _ _) hb (Nat.le_succ _) ?_)
  rintro w2 ⟨s0, s1, s2, s3⟩ - B2 -
  go_wp2
  exact bodyPost_ret (v := .agg #[.bool lf, .slice pa pm pc, .slice ka km kc, .slice ia im ic]) (by simp [results, Try.results23, go_sem, s0, s1, s2, s3]) rfl ⟨rfl, B2⟩
end Go.Proofs.Ytdkmfcmndncmcaa
