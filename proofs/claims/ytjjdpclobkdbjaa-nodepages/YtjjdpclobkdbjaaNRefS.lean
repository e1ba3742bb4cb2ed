/- The contract of the document's Size. No statement of the seat is proved here. -/
import Derived.Test.YtjjdpclobkdbjaaNRight
namespace Go.Proofs.Ytjjdpclobkdbjaa
set_option maxRecDepth 20000
open Go.RowKit

theorem w64 (z : Int) : wrap64 z = IntKind.i64.wrap z := by
  first
    | rfl
    | (rw [IntKind.wrap_i64]; unfold wrap64; omega)
set_option maxHeartbeats 3200000 in
theorem refSize_any {w : World} {v : Value} {n : Nd} (h : NdAt w.heap.size w v n) (hok : n.ok) : Calls Try.prog 21 #[v] w fun e w' => e = .returned (.int .i64 (IntKind.i64.wrap (sizN n : Nat))) ∧ Below w.heap.size w w' := by
  obtain ⟨pv, kv, iv, rfl, h1, h2, h3⟩ := h
  obtain ⟨pa, pm, pc, rfl, hpm⟩ := h1.form
  obtain ⟨ka, km, kc, rfl, hkm⟩ := h2.form
  obtain ⟨ia, im, ic, rfl, him⟩ := h3.form
  have i1 := h1.len okP
  have i2 := h2.len okS
  have i3 := h3.len okZ
  have HP := Lib.hid h1
  have HK2 := Lib.hid h2
  have HO1 := Lib.hid hok.1
  have HO := Lib.hid hok.2
  have RB := Lib.hid (fun (w1 : World) b => rbox_facts (W := w) (lf := n.leaf) (pv := .slice pa pm pc) (kv := .slice ka km kc) (iv := .slice ia im ic) (w1 := w1) b)
  have hsN : sizN n = if n.leaf then 2 + sizPs n.ps else 2 + 2 * n.is.length + sizKs n.ks := rfl
  obtain ⟨lf, hlf⟩ : ∃ b, n.leaf = b := ⟨_, rfl⟩
  rw [hlf] at RB hsN
  obtain ⟨SB, hb0, SBd, br, fin⟩ : ∃ SB : World → Prop, SB (w.alloc (rbO lf (.slice pa pm pc) (.slice ka km kc) (.slice ia im ic))) ∧ (∀ w', SB w' → SB w'.drew) ∧ (∀ w', SB w' → NdCells w' w.heap.size lf (.slice pa pm pc) (.slice ka km kc) (.slice ia im ic)) ∧ ∀ w', SB w' → Below w.heap.size w w' :=
    ⟨fun w' => Below (w.heap.size + 1) (w.alloc (rbO lf (.slice pa pm pc) (.slice ka km kc) (.slice ia im ic))) w', Below.refl _ _, fun _ h => h.drew, fun _ h => (RB.out _ h).1, fun _ h => (RB.out _ h).2.1⟩
  have BR := Lib.hid br
  have FIN := Lib.hid fin
  obtain ⟨q0, q1, q2, q3⟩ := br _ hb0
  rw [hlf]
  clear h1 h2 h3 RB br fin hok hlf
  cases lf
  · simp only [Bool.false_eq_true, if_false] at hsN
    rw [← him.out] at hsN i3
    rw [← hkm.out] at i2
    have HN := Lib.hid hsN
    have e1 : IntKind.i64.wrap (2 * (im : Int)) = 2 * im := wrap_small (by omega) (by omega)
    have e2 : IntKind.i64.wrap (2 + 2 * (im : Int)) = 2 + 2 * im := wrap_small (by omega) (by omega)
    clear hsN him hpm
    go_enter Try.func21, Try.ntmps21
    go_wp2
    clear q0 q1 q2 q3
    go_loopw [3, 5] (fun sv iv wr => ∃ (k : Nat) (s : Int), k ≤ km ∧ iv = .int .i64 k ∧ sv = .int .i64 s ∧ Hid (s = IntKind.i64.wrap ((2 + 2 * im + sizKs (n.ks.take k) : Nat) : Int)) ∧ SB wr) (fun _ iv _ => km - (intOf iv).toNat)
    case atStart => exact ⟨0, 2 + 2 * (im : Int), Nat.zero_le _, rfl, rfl, Lib.hid (by rw [wrap_small (by omega) (by simp [sizKs]; omega)]; simp [sizKs]), hb0⟩
    case round =>
      obtain ⟨k, s, hk, rfl, rfl, hs, hb⟩ := hrel
      obtain ⟨q0, q1, q2, q3⟩ := BR.out _ hb
      by_cases hlt : k < km
      · have hlt' : k < n.ks.length := by rw [← hkm.out]; exact hlt
        obtain ⟨b, off, cap', hv, hB, hc1⟩ := HK2.out.getS hlt'
        obtain ⟨rfl, -, rfl⟩ : ka = some ⟨b, off, none⟩ ∧ km = n.ks.length ∧ kc = cap' := by cases hv; exact ⟨rfl, rfl, rfl⟩
        have d1 := ((FIN.out _ hb).cell (p := ⟨b, off + k, none⟩) hB).trans hc1
        clear hv hc1
        have hst := sizKs_take n.ks hlt'
        have hxo := HO.out _ (kAt_mem hlt')
        generalize kAt n.ks k = x at *
        obtain ⟨s', hs'⟩ : ∃ s', wrap64 (wrap64 (s + 1) + (x.size : Int)) = s' := ⟨_, rfl⟩
        have HS : Hid (s' = IntKind.i64.wrap ((2 + 2 * im + sizKs (n.ks.take (k + 1)) : Nat) : Int)) := Lib.hid (by
          rw [hst, ← hs', hs.out]
          rw [w64, w64, wrap_idem ((2 + 2 * im + sizKs (n.ks.take k) : Nat) : Int) 1, wrap_idem]
          congr 1; push_cast; omega)
        clear hs hst e1 e2
        go_wp2
        go_roundw
        case rel => exact ⟨k + 1, s', by omega, by go_num, by first | rfl | exact congrArg (Value.int .i64) hs', HS, hb⟩
        case measure => simp [intOf]; omega
      · have HS : Hid (s = IntKind.i64.wrap (sizN n : Nat)) := Lib.hid (by rw [hs.out, HN.out, List.take_of_length_le (by have := hkm.out; omega)])
        clear hs
        go_wp2
        go_ret
        exact ⟨by rw [← HS.out]; rfl, FIN.out _ hb⟩
  · simp only [if_true] at hsN
    rw [← hpm.out] at i1
    have HN := Lib.hid hsN
    clear hsN
    go_enter Try.func21, Try.ntmps21
    go_wp2
    clear q0 q1 q2 q3
    go_loopw [3, 4] (fun sv iv wr => ∃ (k : Nat) (s : Int), k ≤ pm ∧ iv = .int .i64 k ∧ sv = .int .i64 s ∧ Hid (s = IntKind.i64.wrap ((2 + sizPs (n.ps.take k) : Nat) : Int)) ∧ SB wr) (fun _ iv _ => pm - (intOf iv).toNat)
    case atStart => exact ⟨0, 2, Nat.zero_le _, rfl, rfl, Lib.hid (by simp [sizPs]; rfl), hb0⟩
    case round =>
      obtain ⟨k, s, hk, rfl, rfl, hs, hb⟩ := hrel
      obtain ⟨q0, q1, q2, q3⟩ := BR.out _ hb
      by_cases hlt : k < pm
      · have hlt' : k < n.ps.length := by rw [← hpm.out]; exact hlt
        obtain ⟨pb, poff, cap', hv, hB, hc1, hc2⟩ := HP.out.getP hlt'
        obtain ⟨rfl, -, rfl⟩ : pa = some ⟨pb, poff, none⟩ ∧ pm = n.ps.length ∧ pc = cap' := by cases hv; exact ⟨rfl, rfl, rfl⟩
        have D1 := Lib.hid (fun w' (h : SB w') => ((FIN.out _ h).cell (p := ⟨pb, poff + k * 2, none⟩) hB).trans hc1)
        have D2 := Lib.hid (fun w' (h : SB w') => ((FIN.out _ h).cell (p := ⟨pb, poff + k * 2 + 1, none⟩) hB).trans hc2)
        have hst := sizPs_take n.ps hlt'
        have hxo := HO1.out _ (prAt_mem hlt')
        clear hv hc1 hc2
        generalize prAt n.ps k = x at *
        obtain ⟨xk, xv⟩ := x
        obtain ⟨o1, o2⟩ := hxo
        simp only at o1 o2 hst
        obtain ⟨s1, hs1⟩ : ∃ s1, IntKind.i64.wrap (s + 2) = s1 := ⟨_, rfl⟩
        obtain ⟨s2, hs2⟩ : ∃ s2, IntKind.i64.wrap (s1 + (xk.size : Int)) = s2 := ⟨_, rfl⟩
        obtain ⟨s3, hs3⟩ : ∃ s3, IntKind.i64.wrap (s2 + (xv.size : Int)) = s3 := ⟨_, rfl⟩
        have HS : Hid (s3 = IntKind.i64.wrap ((2 + sizPs (n.ps.take (k + 1)) : Nat) : Int)) := Lib.hid (by
          rw [hst, ← hs3, ← hs2, ← hs1, hs.out, wrap_idem ((2 + sizPs (n.ps.take k) : Nat) : Int) 2, wrap_idem (((2 + sizPs (n.ps.take k) : Nat) : Int) + 2) (xk.size : Int), wrap_idem]
          congr 1; push_cast; omega)
        clear hs hst
        go_wp2_with fail
        clear q0 q1 q2 q3
        have hS := SBd _ hb
        refine wp_region_held_drew (S := SB) mixed hS (fun _ => ?_)
        show wpAnyH _ _ _ _ _ 19 (Array.replicate 19 false) _ _
        refine wpAnyH_take_d 0 (some 15) (.int .i64 s) rfl (by kernel_rfl) (by kernel_rfl) (by kernel_rfl) (by kernel_rfl) rfl (fun _ _ _ h => h) (fun _ _ => by kernel_rfl) (by exact hS) ?_
        simp only [Act.put, List.setIfInBounds_toArray, List.set_cons_succ, List.set_cons_zero]
        refine wpAnyH_take_d 1 (some 16) (.int .i64 s1) rfl (by kernel_rfl) (by kernel_rfl) (by kernel_rfl) (by kernel_rfl) rfl (fun _ _ _ h => h) (fun _ _ => ex_add rfl rfl rfl hs1) (by exact hS) ?_
        simp only [Act.put, List.setIfInBounds_toArray, List.set_cons_succ, List.set_cons_zero]
        refine wpAnyH_take_d 2 (some 17) (.pointer (some ⟨w.heap.size, 1, none⟩)) rfl (by kernel_rfl) (by kernel_rfl) (by kernel_rfl) (by kernel_rfl) rfl (fun _ _ _ h => h) (fun _ _ => by kernel_rfl) (by exact hS) ?_
        simp only [Act.put, List.setIfInBounds_toArray, List.set_cons_succ, List.set_cons_zero]
        refine wpAnyH_take_d 3 (some 18) (.slice (some ⟨pb, poff, none⟩) pm pc) rfl (by kernel_rfl) (by kernel_rfl) (by kernel_rfl) (by kernel_rfl) rfl (fun _ _ _ h => h) (fun w' h => exec_load_cell rfl rfl (BR.out _ h).c1 Try.underlying22 rfl) (by exact hS) ?_
        simp only [Act.put, List.setIfInBounds_toArray, List.set_cons_succ, List.set_cons_zero]
        refine wpAnyH_take_d 4 (some 19) (.int .i64 k) rfl (by kernel_rfl) (by kernel_rfl) (by kernel_rfl) (by kernel_rfl) rfl (fun _ _ _ h => h) (fun _ _ => by kernel_rfl) (by exact hS) ?_
        simp only [Act.put, List.setIfInBounds_toArray, List.set_cons_succ, List.set_cons_zero]
        refine wpAnyH_take_d 5 (some 20) (.pointer (some ⟨pb, poff + k * 2, none⟩)) rfl (by kernel_rfl) (by kernel_rfl) (by kernel_rfl) (by kernel_rfl) rfl (fun _ _ _ h => h) (fun _ _ => ex_index 2 rfl rfl rfl hlt Try.underlying22 szPr) (by exact hS) ?_
        simp only [Act.put, List.setIfInBounds_toArray, List.set_cons_succ, List.set_cons_zero]
        refine wpAnyH_take_d 6 (some 21) (.pointer (some ⟨pb, poff + k * 2, none⟩)) rfl (by kernel_rfl) (by kernel_rfl) (by kernel_rfl) (by kernel_rfl) rfl (fun _ _ _ h => h) (fun _ _ => by kernel_rfl) (by exact hS) ?_
        simp only [Act.put, List.setIfInBounds_toArray, List.set_cons_succ, List.set_cons_zero]
        refine wpAnyH_take_d 7 (some 22) (.string xk) rfl (by kernel_rfl) (by kernel_rfl) (by kernel_rfl) (by kernel_rfl) rfl (fun _ _ _ h => h) (fun w' h => exec_load_cell rfl rfl (D1.out _ h) Try.underlying9 rfl) (by exact hS) ?_
        simp only [Act.put, List.setIfInBounds_toArray, List.set_cons_succ, List.set_cons_zero]
        refine wpAnyH_take_d 8 (some 23) (.int .i64 (xk.size : Nat)) rfl (by kernel_rfl) (by kernel_rfl) (by kernel_rfl) (by kernel_rfl) rfl (fun _ _ _ h => h) (fun _ _ => ex_slen rfl rfl Try.underlying9) (by exact hS) ?_
        simp only [Act.put, List.setIfInBounds_toArray, List.set_cons_succ, List.set_cons_zero]
        refine wpAnyH_take_d 9 (some 24) (.int .i64 s2) rfl (by kernel_rfl) (by kernel_rfl) (by kernel_rfl) (by kernel_rfl) rfl (fun _ _ _ h => h) (fun _ _ => ex_add rfl rfl rfl hs2) (by exact hS) ?_
        simp only [Act.put, List.setIfInBounds_toArray, List.set_cons_succ, List.set_cons_zero]
        refine wpAnyH_take_d 10 (some 25) (.pointer (some ⟨w.heap.size, 1, none⟩)) rfl (by kernel_rfl) (by kernel_rfl) (by kernel_rfl) (by kernel_rfl) rfl (fun _ _ _ h => h) (fun _ _ => by kernel_rfl) (by exact hS) ?_
        simp only [Act.put, List.setIfInBounds_toArray, List.set_cons_succ, List.set_cons_zero]
        refine wpAnyH_take_d 11 (some 26) (.slice (some ⟨pb, poff, none⟩) pm pc) rfl (by kernel_rfl) (by kernel_rfl) (by kernel_rfl) (by kernel_rfl) rfl (fun _ _ _ h => h) (fun w' h => exec_load_cell rfl rfl (BR.out _ h).c1 Try.underlying22 rfl) (by exact hS) ?_
        simp only [Act.put, List.setIfInBounds_toArray, List.set_cons_succ, List.set_cons_zero]
        refine wpAnyH_take_d 12 (some 27) (.int .i64 k) rfl (by kernel_rfl) (by kernel_rfl) (by kernel_rfl) (by kernel_rfl) rfl (fun _ _ _ h => h) (fun _ _ => by kernel_rfl) (by exact hS) ?_
        simp only [Act.put, List.setIfInBounds_toArray, List.set_cons_succ, List.set_cons_zero]
        refine wpAnyH_take_d 13 (some 28) (.pointer (some ⟨pb, poff + k * 2, none⟩)) rfl (by kernel_rfl) (by kernel_rfl) (by kernel_rfl) (by kernel_rfl) rfl (fun _ _ _ h => h) (fun _ _ => ex_index 2 rfl rfl rfl hlt Try.underlying22 szPr) (by exact hS) ?_
        simp only [Act.put, List.setIfInBounds_toArray, List.set_cons_succ, List.set_cons_zero]
        refine wpAnyH_take_d 14 (some 29) (.pointer (some ⟨pb, poff + k * 2 + 1, none⟩)) rfl (by kernel_rfl) (by kernel_rfl) (by kernel_rfl) (by kernel_rfl) rfl (fun _ _ _ h => h) (fun _ _ => by kernel_rfl) (by exact hS) ?_
        simp only [Act.put, List.setIfInBounds_toArray, List.set_cons_succ, List.set_cons_zero]
        refine wpAnyH_take_d 15 (some 30) (.string xv) rfl (by kernel_rfl) (by kernel_rfl) (by kernel_rfl) (by kernel_rfl) rfl (fun _ _ _ h => h) (fun w' h => exec_load_cell rfl rfl (D2.out _ h) Try.underlying9 rfl) (by exact hS) ?_
        simp only [Act.put, List.setIfInBounds_toArray, List.set_cons_succ, List.set_cons_zero]
        refine wpAnyH_take_d 16 (some 31) (.int .i64 (xv.size : Nat)) rfl (by kernel_rfl) (by kernel_rfl) (by kernel_rfl) (by kernel_rfl) rfl (fun _ _ _ h => h) (fun _ _ => ex_slen rfl rfl Try.underlying9) (by exact hS) ?_
        simp only [Act.put, List.setIfInBounds_toArray, List.set_cons_succ, List.set_cons_zero]
        refine wpAnyH_take_d 17 (some 32) (.int .i64 s3) rfl (by kernel_rfl) (by kernel_rfl) (by kernel_rfl) (by kernel_rfl) rfl (fun _ _ _ h => h) (fun _ _ => ex_add rfl rfl rfl hs3) (by exact hS) ?_
        simp only [Act.put, List.setIfInBounds_toArray, List.set_cons_succ, List.set_cons_zero]
        refine wpAnyH_take_d 18 (some 3) (.int .i64 s3) rfl (by kernel_rfl) (by kernel_rfl) (by kernel_rfl) (by kernel_rfl) rfl (fun _ _ _ h => h) (fun _ _ => by kernel_rfl) (by exact hS) ?_
        simp only [Act.put, List.setIfInBounds_toArray, List.set_cons_succ, List.set_cons_zero]
        refine wpAnyH_done (by kernel_rfl) ?_ _
        clear hs1 hs2 hs3 D1 D2
        go_wp2
        go_roundw
        case rel => exact ⟨k + 1, s3, by omega, by go_num, rfl, HS, hS⟩
        case measure => simp [intOf]; omega
      · have HS : Hid (s = IntKind.i64.wrap (sizN n : Nat)) := Lib.hid (by rw [hs.out, HN.out, List.take_of_length_le (by have := hpm.out; omega)])
        clear hs
        go_wp2
        go_ret
        exact ⟨by rw [← HS.out]; rfl, FIN.out _ hb⟩
end Go.Proofs.Ytjjdpclobkdbjaa
