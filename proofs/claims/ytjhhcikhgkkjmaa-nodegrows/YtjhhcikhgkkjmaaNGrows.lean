/- Keys that are put one by one stand in their order, each found where Find says: the law cisternlaw11.NodeGrows returns true at every input. No condition. -/
import Derived.Test.YtjhhcikhgkkjmaaNMapL
namespace Go.Proofs.Ytjhhcikhgkkjmaa.nodeGrows
set_option maxRecDepth 20000
open Go.RowKit Go.ChangeShapes Go.WideShapes Go.ChangeAt

theorem own : ownKnob Try.prog.godebug = none := by kernel_rfl
theorem range4 {w : World} {g : Nat} {lf : Bool} {pv kv iv : Value} (h : w.heap[g]? = some (ndO lf pv kv iv)) : w.rangeAt g 0 [.bool lf, pv, kv, iv] := by
  intro j y hj
  rw [Nat.zero_add, cell_of_row _ _ _ _ _ _ h]
  simpa using hj
theorem ex_ext {P : Program} {w : World} {ρ : Operand → Value} {o : Oper} {x : Operand} {l : Array Value} {i : Nat} {v : Value} (ho : o.op = .extract x i) (hx : ρ x = .tuple l) (hv : l[i]? = some v) : (execOp ρ o).run P w = .ok (.value v) w := by
  unfold execOp
  simp [ho, hx, hv, Instr.extract]
theorem exec_alloc_row {P : Program} {w : World} {ρ : Operand → Value} {o : Oper} {ty : TypeId} {z : Array Value} (ho : o.op = .alloc ty) (hz : ∀ w, (zeroValue ty).run P w = .ok (.agg z) w) : (execOp ρ o).run P w = .ok (.value (.pointer (some ⟨w.heap.size, 0, none⟩))) (w.alloc (.cells z ty)) := by
  unfold execOp
  simp [ho, Instr.alloc, newVar, newRow, Value.cells, hz, go_sem]
theorem zeroNd (w : World) : (zeroValue 32).run Try.prog w = .ok (.agg #[.bool false, .slice none 0 0, .slice none 0 0, .slice none 0 0]) w := (zero_of_info (n := 4) (by kernel_rfl)).1 w
section
variable {P : Program} {md : Region.Mode} {ops : Array Oper} {Q : Exit → Act → World → Prop} {S : World → Prop} {fuel : Nat} {L : Array Bool} {a : Act} {w : World}
theorem wpAnyH_call_or (i j : Nat) (di dj : Option Tmp) (f : FuncId) (args : Array Value) (vj : Value) {w2 : World} {oi oj : Oper} (hi : ops[i]? = some oi) (hj : ops[j]? = some oj) (hr : Region.ready md ops L = [i, j])
    (hwi : Region.wanted oi (yielded ops a.tmps) = true) (hwj : Region.wanted oj (yielded ops a.tmps) = true) (hdi : oi.dst = di) (hdj : oj.dst = dj) (hyi : (execOp a.eval oi).run P w = .ok (.enter f args) w) {R : Ending → World → Prop} (hc : Calls P f args w R)
    (hyj : (execOp a.eval oj).run P w = .ok (.value vj) w2) (hS2 : S w2)
    (h1 : ∀ e w1, R e w1 → ∃ v, e = .returned v ∧ S w1 ∧ wpAnyH P md ops Q S fuel (L.setIfInBounds i true) (a.put di v) w1) (h2 : wpAnyH P md ops Q S fuel (L.setIfInBounds j true) (a.put dj vj) w2) : wpAnyH P md ops Q S (fuel + 1) L a w := by
  subst hdi
  subst hdj
  refine wpAnyH_ready hr (by simp) (AllReadyH.cons hi (fun K hK => ?_) (AllReadyH.cons hj (fun K hK => ?_) AllReadyH.nil))
  · rw [if_pos hwi]
    unfold Oper.wp
    rw [hyi, Oper.upon_enter]
    refine hc.mono fun e w1 hR => ?_
    obtain ⟨v, rfl, hS, h3⟩ := h1 e w1 hR
    exact hK.out _ _ hS (fun _ => h3)
  · rw [if_pos hwj]
    unfold Oper.wp
    rw [hyj]; exact hK.out _ _ hS2 (fun _ => h2)
end
theorem find_self {w : World} {v : Value} {L : List Pr} (h : NdAt w.heap.size w v (Go.Proofs.Ytjhhcikhgkkjmaa.lf L)) (hok : okN (Go.Proofs.Ytjhhcikhgkkjmaa.lf L) = true) {j : Nat} (hj : j < L.length) : Calls Try.prog 25 #[v, .string (prAt L j).k] w fun e w' => e = .returned (.tuple #[.int .i64 (j : Nat), .int .i64 0]) ∧ Below w.heap.size w w' := by
  have hr : risB (ksOf L) = true := (okL_true hok).2.2.2.1
  have h6 := place_self hr (k := j) (by rw [ksOf_length]; exact hj)
  rw [ksOf_at L hj] at h6
  refine (find_any h (prAt L j).k).mono ?_
  rintro e w' ⟨i, E, rfl, h2, h3⟩
  unfold FindPost at h2
  rw [hok, if_pos rfl] at h2
  obtain ⟨rfl, h4⟩ := h2
  unfold FindAt at h4
  have h5 : PlaceAt (ksOf L) (prAt L j).k i := h4
  obtain rfl := h5.uniq h6
  exact ⟨rfl, h3⟩
set_option maxHeartbeats 25600000 in
set_option maxRecDepth 400000 in
theorem walk (v0 : Value) (z0 : List ByteArray) (v1 : Value) (z1 : List ByteArray) (W : World) (w0 : StrlArg W v0 z0) (w1 : StrlArg W v1 z1) :
    Calls Try.prog 10 #[v0, v1] W fun e w' => e = .returned (.bool true) ∧ Below W.heap.size W w' := by
  unfold StrlArg at w0 w1
  obtain ⟨ka, km, kc, rfl, hkm⟩ := w0.form
  obtain ⟨va, vm, vc, rfl, hvm⟩ := w1.form
  have i0 := w0.len okS
  have i1 := w1.len okS
  rw [← hkm.out] at i0
  rw [← hvm.out] at i1
  have H0 := Lib.hid w0
  have H1 := Lib.hid w1
  clear w0 w1
  go_enter Try.func10, Try.ntmps10
  go_wp2_with fail
  refine Calls.mono (nknown_any _) ?_
  rintro e wa ⟨rfl, ba⟩
  go_wp2
  have hP := heap_alloc_new wa (.cells #[.bool true, .slice none 0 0, .slice none 0 0, .slice none 0 0] 32)
  have hsa := ba.size
  obtain ⟨P, hPe⟩ : ∃ P, wa.heap.size = P := ⟨_, rfl⟩
  have bb : Below W.heap.size W (wa.alloc (.cells #[.bool true, .slice none 0 0, .slice none 0 0, .slice none 0 0] 32)) := ba.alloc hsa _
  rw [hPe] at hP hsa ⊢
  have hzP : P + 1 ≤ (wa.alloc (.cells #[.bool true, .slice none 0 0, .slice none 0 0, .slice none 0 0] 32)).heap.size := by simp; omega
  have hok0 : okN (Go.Proofs.Ytjhhcikhgkkjmaa.lf []) = true := by kernel_rfl
  go_loopw [6] (fun iv wr => ∃ (k : Nat) (l : List Pr) (pa : Option Addr) (pm pc : Nat) (ea : Option Addr) (em ec : Nat) (fa : Option Addr) (fm fc : Nat), k ≤ 60 ∧ iv = .int .i64 k ∧ Hid (okN (Go.Proofs.Ytjhhcikhgkkjmaa.lf l) = true) ∧ l.length ≤ k ∧ wr.heap[P]? = some (ndO true (.slice pa pm pc) (.slice ea em ec) (.slice fa fm fc)) ∧ Hid (NdAt wr.heap.size wr (.agg #[.bool true, .slice pa pm pc, .slice ea em ec, .slice fa fm fc]) (Go.Proofs.Ytjhhcikhgkkjmaa.lf l)) ∧ Below W.heap.size W wr) (fun iv _ => 60 - (intOf iv).toNat)
  case atStart => exact ⟨0, [], _, _, _, _, _, _, _, _, _, Nat.zero_le _, rfl, Lib.hid hok0, Nat.le_refl _, hP, Lib.hid ⟨_, _, _, rfl, SlAt.nil _ _ _, SlAt.nil _ _ _, SlAt.nil _ _ _⟩, bb⟩
  case round =>
    clear hP bb hzP hok0 ba hPe
    obtain ⟨k, l, pa, pm, pc, ea, em, ec, fa, fm, fc, hk, rfl, hok, hlk, hP, ND, hb⟩ := hrel
    by_cases c1 : k < km
    · by_cases c2 : k < 60
      · have hlt' : k < z0.length := by rw [← hkm.out]; exact c1
        obtain ⟨b, off, cap', hv, hB, hc1⟩ := H0.out.getS hlt'
        obtain ⟨rfl, -, rfl⟩ : ka = some ⟨b, off, none⟩ ∧ km = z0.length ∧ kc = cap' := by cases hv; exact ⟨rfl, rfl, rfl⟩
        have d1 := (hb.cell (p := ⟨b, off + k, none⟩) hB).trans hc1
        have hBr : b < wr.heap.size := Nat.lt_of_lt_of_le hB hb.size
        have hPr := lt_of_heap hP
        have hd60 : decide ((k : Int) < 60) = true := by simp; omega
        have PL := Lib.hid (fun x => put_lf hok.out (by omega) x)
        have PLL := Lib.hid (fun x => put_lf_len hok.out x)
        generalize kAt z0 k = x at *
        clear hv hc1
        by_cases c3 : k < vm
        · have hlv : k < z1.length := by rw [← hvm.out]; exact c3
          obtain ⟨b2, off2, cap2, hv2, hB2, hc2⟩ := H1.out.getS hlv
          obtain ⟨rfl, -, rfl⟩ : va = some ⟨b2, off2, none⟩ ∧ vm = z1.length ∧ vc = cap2 := by cases hv2; exact ⟨rfl, rfl, rfl⟩
          have d2 := (hb.cell (p := ⟨b2, off2 + k, none⟩) hB2).trans hc2
          generalize kAt z1 k = y at *
          clear hv2 hc2
          have PLv := PL.out ⟨x, y⟩
          have PC := Lib.hid (fun (w' : World) (h : Below wr.heap.size wr w') => put_any ((ND.out.below h).more h.size) ⟨x, y⟩)
          have RG := Lib.hid (fun (w' : World) (h : Below wr.heap.size wr w') => range4 ((h.block P hPr).trans hP))
          have C1 := Lib.hid (fun (w' : World) (h : Below wr.heap.size wr w') => (h.cell (p := ⟨b, off + k, none⟩) hBr).trans d1)
          have hS0 : Below wr.heap.size wr wr.drew := (Below.refl _ _).drew
          simp only at PLv
          cases hgood : (okK x && decide ((y : ByteArray).size ≤ 48))
          · rw [hgood] at PLv
            simp only [Bool.false_eq_true, if_false] at PLv
            rw [PLv] at PC
            clear PLv
            go_wp2_with fail
            have hS := hS0
            refine wp_region_held_drew (S := fun w' => Below wr.heap.size wr w') mixed hS (fun _ => ?_)
            show wpAnyH _ _ _ _ _ 14 (Array.replicate 14 false) _ _
            refine wpAnyH_take_d 0 (some 35) (.agg #[.bool true, .slice pa pm pc, .slice ea em ec, .slice fa fm fc]) rfl (by kernel_rfl) (by kernel_rfl) (by kernel_rfl) (by kernel_rfl) rfl (fun _ _ _ h => h) (fun w' h => ex_row rfl rfl (RG.out _ h) Try.underlying32 rfl (by kernel_rfl)) (by exact hS) ?_
            simp only [Act.put, List.setIfInBounds_toArray, List.set_cons_succ, List.set_cons_zero]
            refine wpAnyH_take_d 1 (some 36) (.slice (some ⟨b, off, none⟩) km kc) rfl (by kernel_rfl) (by kernel_rfl) (by kernel_rfl) (by kernel_rfl) rfl (fun _ _ _ h => h) (fun _ _ => by kernel_rfl) (by exact hS) ?_
            simp only [Act.put, List.setIfInBounds_toArray, List.set_cons_succ, List.set_cons_zero]
            refine wpAnyH_take_d 2 (some 37) (.int .i64 k) rfl (by kernel_rfl) (by kernel_rfl) (by kernel_rfl) (by kernel_rfl) rfl (fun _ _ _ h => h) (fun _ _ => by kernel_rfl) (by exact hS) ?_
            simp only [Act.put, List.setIfInBounds_toArray, List.set_cons_succ, List.set_cons_zero]
            refine wpAnyH_take_d 3 (some 38) (.pointer (some ⟨b, off + k, none⟩)) rfl (by kernel_rfl) (by kernel_rfl) (by kernel_rfl) (by kernel_rfl) rfl (fun _ _ _ h => h) (fun _ _ => ex_index1 rfl rfl rfl c1 Try.underlying23 (by kernel_rfl)) (by exact hS) ?_
            simp only [Act.put, List.setIfInBounds_toArray, List.set_cons_succ, List.set_cons_zero]
            refine wpAnyH_take_d 4 (some 39) (.string x) rfl (by kernel_rfl) (by kernel_rfl) (by kernel_rfl) (by kernel_rfl) rfl (fun _ _ _ h => h) (fun w' h => exec_load_cell rfl rfl (C1.out _ h) Try.underlying9 rfl) (by exact hS) ?_
            simp only [Act.put, List.setIfInBounds_toArray, List.set_cons_succ, List.set_cons_zero]
            refine wpAnyH_take_d 5 (some 40) (.string y) rfl (by kernel_rfl) (by kernel_rfl) (by kernel_rfl) (by kernel_rfl) rfl (fun _ _ _ h => h) (fun _ _ => by kernel_rfl) (by exact hS) ?_
            simp only [Act.put, List.setIfInBounds_toArray, List.set_cons_succ, List.set_cons_zero]
            refine wpAnyH_take_d 6 (some 41) (prV ⟨x, y⟩) rfl (by kernel_rfl) (by kernel_rfl) (by kernel_rfl) (by kernel_rfl) rfl (fun _ _ _ h => h) (fun w' _ => ex_buildl rfl rfl rfl (build_pr x y w')) (by exact hS) ?_
            simp only [Act.put, List.setIfInBounds_toArray, List.set_cons_succ, List.set_cons_zero]
            -- left: [(7, ('42', 'Op.call { value (Operand.func 27), args := #[t35, t41], argTypes := #[32, 50] }', None)), (8, ('34', 'Op.move t42', None)), (9, ('43', 'Op.extract t34 0', None)), (10, ('44', 'Op.extract t34 1', None)), (11, ('8', 'Op.alloc 32', None)), (12, ('none', 'Op.store 32 t8 t43', None)), (13, ('9', 'Op.assign t44', None))]
            refine wpAnyH_call_or 7 11 (some 42) (some 8) 27 #[.agg #[.bool true, .slice pa pm pc, .slice ea em ec, .slice fa fm fc], prV ⟨x, y⟩] (.pointer (some ⟨wr.drew.heap.size, 0, none⟩)) rfl rfl (by kernel_rfl) (by kernel_rfl) (by kernel_rfl) rfl rfl (by kernel_rfl) (PC.out _ hS0) (exec_alloc_row rfl zeroNd) (hS0.alloc (Nat.le_refl _) zNdO) ?_ ?_
            · rintro e w4 ⟨v4, rfl, ⟨pq, kq, iq, rfl, ob1, ob2, ob3⟩, b4'⟩
              obtain ⟨qa, qm, qc, rfl⟩ := ob1.slv
              obtain ⟨ra, rm, rc, rfl⟩ := ob2.slv
              obtain ⟨sa, sm, sc, rfl⟩ := ob3.slv
              have hS : Below wr.heap.size wr w4 := hS0.trans b4'
              refine ⟨_, rfl, hS, ?_⟩
              simp only [Act.put, List.setIfInBounds_toArray, List.set_cons_succ, List.set_cons_zero]
              refine wpAnyH_take_d 8 (some 34) (.tuple #[.agg #[.bool false, .slice qa qm qc, .slice ra rm rc, .slice sa sm sc], .int .i64 2]) rfl (by kernel_rfl) (by kernel_rfl) (by kernel_rfl) (by kernel_rfl) rfl (fun _ _ _ h => h) (fun _ _ => by kernel_rfl) (by exact hS) ?_
              simp only [Act.put, List.setIfInBounds_toArray, List.set_cons_succ, List.set_cons_zero]
              refine wpAnyH_take_d 9 (some 43) (.agg #[.bool false, .slice qa qm qc, .slice ra rm rc, .slice sa sm sc]) rfl (by kernel_rfl) (by kernel_rfl) (by kernel_rfl) (by kernel_rfl) rfl (fun _ _ _ h => h) (fun _ _ => ex_ext rfl rfl rfl) (by exact hS) ?_
              simp only [Act.put, List.setIfInBounds_toArray, List.set_cons_succ, List.set_cons_zero]
              refine wpAnyH_take_d 10 (some 44) (.int .i64 2) rfl (by kernel_rfl) (by kernel_rfl) (by kernel_rfl) (by kernel_rfl) rfl (fun _ _ _ h => h) (fun _ _ => ex_ext rfl rfl rfl) (by exact hS) ?_
              simp only [Act.put, List.setIfInBounds_toArray, List.set_cons_succ, List.set_cons_zero]
              -- left: [(11, ('8', 'Op.alloc 32', None)), (12, ('none', 'Op.store 32 t8 t43', None)), (13, ('9', 'Op.assign t44', None))]
              obtain ⟨Q, hQe⟩ : ∃ Q, w4.heap.size = Q := ⟨_, rfl⟩
              obtain ⟨w5, hw5⟩ : ∃ w5, w4.alloc zNdO = w5 := ⟨_, rfl⟩
              have hal : ∀ {ρ : Operand → Value} {o : Oper}, o.op = .alloc 32 → (execOp ρ o).run Try.prog w4 = .ok (.value (.pointer (some ⟨Q, 0, none⟩))) w5 := fun ho => by rw [← hw5, ← hQe]; exact exec_alloc_row ho zeroNd
              have hQ5 : w5.heap[Q]? = some zNdO := by rw [← hw5, ← hQe]; exact heap_alloc_new w4 _
              have b45 : Below w4.heap.size w4 w5 := by rw [← hw5]; exact below_new w4 _
              have hS5 : Below wr.heap.size wr w5 := hS.trans (b45.mono hS.size)
              have hwQ : wr.heap.size ≤ Q := by rw [← hQe]; exact hS.size
              have own4 : NdOwn wr.heap.size w4 (.agg #[.bool false, .slice qa qm qc, .slice ra rm rc, .slice sa sm sc]) .none := ⟨_, _, _, rfl, ob1, ob2, ob3⟩
              have own5 : ∀ cs, NdOwn wr.heap.size (w5.setRow Q cs) (.agg #[.bool false, .slice qa qm qc, .slice ra rm rc, .slice sa sm sc]) .none := fun cs => own4.below (below_setRow' b45 (by rw [hQe]; exact Nat.le_refl _) cs)
              have hS := hS5
              refine wpAnyH_one 11 (some 8) (.pointer (some ⟨Q, 0, none⟩)) rfl (by kernel_rfl) (by kernel_rfl) rfl (hal rfl) (by exact hS) ?_
              simp only [Act.put, List.setIfInBounds_toArray, List.set_cons_succ, List.set_cons_zero]
              clear hw5 hQe ob1 ob2 ob3 b4' b45 hS5 own4
              refine wpAnyH_one_skip 12 rfl (by kernel_rfl) (by kernel_rfl) (ex_store_row rfl rfl rfl hQ5 (by kernel_rfl) rfl (by simp [Value.oneCell'])) (below_setRow' hS hwQ _) ?_
              simp only [Act.put, List.setIfInBounds_toArray]
              have hS := below_setRow' hS hwQ #[.bool false, .slice qa qm qc, .slice ra rm rc, .slice sa sm sc]
              refine wpAnyH_take_d 13 (some 9) (.int .i64 2) rfl (by kernel_rfl) (by kernel_rfl) (by kernel_rfl) (by kernel_rfl) rfl (fun _ _ _ h => h) (fun _ _ => by kernel_rfl) (by exact hS) ?_
              refine wpAnyH_done (by kernel_rfl) ?_ _
              have hQ6' := setRow_heap w5 Q _ #[.bool false, .slice qa qm qc, .slice ra rm rc, .slice sa sm sc] _ _ hQ5
              have own6 : NdOwn wr.heap.size (w5.setRow Q #[.bool false, .slice qa qm qc, .slice ra rm rc, .slice sa sm sc]) (.agg #[.bool false, .slice qa qm qc, .slice ra rm rc, .slice sa sm sc]) .none := own5 _
              obtain ⟨w6, hw6⟩ : ∃ w6, w5.setRow Q #[.bool false, .slice qa qm qc, .slice ra rm rc, .slice sa sm sc] = w6 := ⟨_, rfl⟩
              rw [hw6] at hS hQ6' own6 ⊢
              clear hQ5 own5 hwQ hw6
              have hP6 := (hS.block P hPr).trans hP
              have d6 := C1.out _ hS
              have hb6 := hb.trans (hS.mono hb.size)
              have nd6 : Hid (NdAt w6.heap.size w6 (.agg #[.bool true, .slice pa pm pc, .slice ea em ec, .slice fa fm fc]) (Go.Proofs.Ytjhhcikhgkkjmaa.lf l)) := Lib.hid ((ND.out.below hS).more hS.size)
              clear hS own6
              cases hkx : okK x
              · have rk := refKey_any x w6
                rw [hkx] at rk
                clear hgood hkx
                go_wp2_with fail
                refine Calls.mono rk ?_
                rintro e _ ⟨rfl, rfl⟩
                go_wp2
                go_roundw
                case rel => exact ⟨k + 1, l, _, _, _, _, _, _, _, _, _, by omega, by go_num, hok, by omega, hP6, nd6, hb6⟩
                case measure => simp [intOf]; omega
              · have rk := refKey_any x w6
                rw [hkx] at rk
                rw [hkx, Bool.true_and, decide_eq_false_iff_not] at hgood
                have hgt : (48 : Int) < (y.size : Int) := by omega
                clear hgood hkx
                go_wp2_with fail
                refine Calls.mono rk ?_
                rintro e _ ⟨rfl, rfl⟩
                go_wp2
                go_roundw
                case rel => exact ⟨k + 1, l, _, _, _, _, _, _, _, _, _, by omega, by go_num, hok, by omega, hP6, nd6, hb6⟩
                case measure => simp [intOf]; omega
            · skip
              simp only [Act.put, List.setIfInBounds_toArray, List.set_cons_succ, List.set_cons_zero]
              have hQ4 := heap_alloc_new wr.drew zNdO
              have bA : Below wr.heap.size wr (wr.drew.alloc zNdO) := hS0.alloc (Nat.le_refl _) zNdO
              have hS := bA
              refine wpAnyH_call 7 (some 42) 27 #[.agg #[.bool true, .slice pa pm pc, .slice ea em ec, .slice fa fm fc], prV ⟨x, y⟩] rfl (by kernel_rfl) (by kernel_rfl) rfl (by kernel_rfl) (PC.out _ bA) ?_
              rintro e w5 ⟨v4, rfl, ⟨pq, kq, iq, rfl, ob1, ob2, ob3⟩, b4'⟩
              obtain ⟨qa, qm, qc, rfl⟩ := ob1.slv
              obtain ⟨ra, rm, rc, rfl⟩ := ob2.slv
              obtain ⟨sa, sm, sc, rfl⟩ := ob3.slv
              have hS : Below wr.heap.size wr w5 := bA.trans (b4'.mono bA.size)
              refine ⟨_, rfl, hS, ?_⟩
              simp only [Act.put, List.setIfInBounds_toArray, List.set_cons_succ, List.set_cons_zero]
              have hQ5 : w5.heap[wr.drew.heap.size]? = some zNdO := (b4'.block _ (lt_of_heap hQ4)).trans hQ4
              have hbs : wr.drew.heap.size < (wr.drew.alloc zNdO).heap.size := lt_of_heap hQ4
              obtain ⟨Q, hQe⟩ : ∃ Q, wr.drew.heap.size = Q := ⟨_, rfl⟩
              rw [hQe] at hQ5 hbs ⊢
              have hwQ : wr.heap.size ≤ Q := by rw [← hQe]; exact Nat.le_refl _
              have own5 : ∀ cs, NdOwn wr.heap.size (w5.setRow Q cs) (.agg #[.bool false, .slice qa qm qc, .slice ra rm rc, .slice sa sm sc]) .none := fun cs => ⟨_, _, _, rfl, (ob1.keepg hbs (fun k hk => setRow_other w5 Q k cs hk)).base bA.size, (ob2.keepg hbs (fun k hk => setRow_other w5 Q k cs hk)).base bA.size, (ob3.keepg hbs (fun k hk => setRow_other w5 Q k cs hk)).base bA.size⟩
              refine wpAnyH_take_d 8 (some 34) (.tuple #[.agg #[.bool false, .slice qa qm qc, .slice ra rm rc, .slice sa sm sc], .int .i64 2]) rfl (by kernel_rfl) (by kernel_rfl) (by kernel_rfl) (by kernel_rfl) rfl (fun _ _ _ h => h) (fun _ _ => by kernel_rfl) (by exact hS) ?_
              simp only [Act.put, List.setIfInBounds_toArray, List.set_cons_succ, List.set_cons_zero]
              refine wpAnyH_take_d 9 (some 43) (.agg #[.bool false, .slice qa qm qc, .slice ra rm rc, .slice sa sm sc]) rfl (by kernel_rfl) (by kernel_rfl) (by kernel_rfl) (by kernel_rfl) rfl (fun _ _ _ h => h) (fun _ _ => ex_ext rfl rfl rfl) (by exact hS) ?_
              simp only [Act.put, List.setIfInBounds_toArray, List.set_cons_succ, List.set_cons_zero]
              refine wpAnyH_take_d 10 (some 44) (.int .i64 2) rfl (by kernel_rfl) (by kernel_rfl) (by kernel_rfl) (by kernel_rfl) rfl (fun _ _ _ h => h) (fun _ _ => ex_ext rfl rfl rfl) (by exact hS) ?_
              simp only [Act.put, List.setIfInBounds_toArray, List.set_cons_succ, List.set_cons_zero]
              -- left: [(12, ('none', 'Op.store 32 t8 t43', None)), (13, ('9', 'Op.assign t44', None))]
              clear hQ4 bA b4' ob1 ob2 ob3 hbs hQe
              refine wpAnyH_one_skip 12 rfl (by kernel_rfl) (by kernel_rfl) (ex_store_row rfl rfl rfl hQ5 (by kernel_rfl) rfl (by simp [Value.oneCell'])) (below_setRow' hS hwQ _) ?_
              simp only [Act.put, List.setIfInBounds_toArray]
              have hS := below_setRow' hS hwQ #[.bool false, .slice qa qm qc, .slice ra rm rc, .slice sa sm sc]
              refine wpAnyH_take_d 13 (some 9) (.int .i64 2) rfl (by kernel_rfl) (by kernel_rfl) (by kernel_rfl) (by kernel_rfl) rfl (fun _ _ _ h => h) (fun _ _ => by kernel_rfl) (by exact hS) ?_
              refine wpAnyH_done (by kernel_rfl) ?_ _
              have hQ6' := setRow_heap w5 Q _ #[.bool false, .slice qa qm qc, .slice ra rm rc, .slice sa sm sc] _ _ hQ5
              have own6 : NdOwn wr.heap.size (w5.setRow Q #[.bool false, .slice qa qm qc, .slice ra rm rc, .slice sa sm sc]) (.agg #[.bool false, .slice qa qm qc, .slice ra rm rc, .slice sa sm sc]) .none := own5 _
              obtain ⟨w6, hw6⟩ : ∃ w6, w5.setRow Q #[.bool false, .slice qa qm qc, .slice ra rm rc, .slice sa sm sc] = w6 := ⟨_, rfl⟩
              rw [hw6] at hS hQ6' own6 ⊢
              clear hQ5 own5 hwQ hw6
              have hP6 := (hS.block P hPr).trans hP
              have d6 := C1.out _ hS
              have hb6 := hb.trans (hS.mono hb.size)
              have nd6 : Hid (NdAt w6.heap.size w6 (.agg #[.bool true, .slice pa pm pc, .slice ea em ec, .slice fa fm fc]) (Go.Proofs.Ytjhhcikhgkkjmaa.lf l)) := Lib.hid ((ND.out.below hS).more hS.size)
              clear hS own6
              cases hkx : okK x
              · have rk := refKey_any x w6
                rw [hkx] at rk
                clear hgood hkx
                go_wp2_with fail
                refine Calls.mono rk ?_
                rintro e _ ⟨rfl, rfl⟩
                go_wp2
                go_roundw
                case rel => exact ⟨k + 1, l, _, _, _, _, _, _, _, _, _, by omega, by go_num, hok, by omega, hP6, nd6, hb6⟩
                case measure => simp [intOf]; omega
              · have rk := refKey_any x w6
                rw [hkx] at rk
                rw [hkx, Bool.true_and, decide_eq_false_iff_not] at hgood
                have hgt : (48 : Int) < (y.size : Int) := by omega
                clear hgood hkx
                go_wp2_with fail
                refine Calls.mono rk ?_
                rintro e _ ⟨rfl, rfl⟩
                go_wp2
                go_roundw
                case rel => exact ⟨k + 1, l, _, _, _, _, _, _, _, _, _, by omega, by go_num, hok, by omega, hP6, nd6, hb6⟩
                case measure => simp [intOf]; omega
          · rw [hgood] at PLv
            simp only [if_true] at PLv
            rw [PLv] at PC
            have hokp : okN (Go.Proofs.Ytjhhcikhgkkjmaa.lf (putL l ⟨x, y⟩)) = true := by
              rcases putN_cases (Go.Proofs.Ytjhhcikhgkkjmaa.lf l) ⟨x, y⟩ with h | ⟨-, -, h, -⟩
              · rw [h] at PLv; cases PLv
              · exact h
            have hlp := PLL.out ⟨x, y⟩
            rw [Bool.and_eq_true, decide_eq_true_eq] at hgood
            obtain ⟨hkx, hv48⟩ := hgood
            have hgt : ¬ (48 : Int) < ((y : ByteArray).size : Int) := by omega
            obtain ⟨L, hL⟩ : ∃ L, putL l ⟨x, y⟩ = L := ⟨_, rfl⟩
            rw [hL] at hokp hlp PC
            have HOKP := Lib.hid hokp
            clear PLv hL hokp
            go_wp2_with fail
            have hS := hS0
            refine wp_region_held_drew (S := fun w' => Below wr.heap.size wr w') mixed hS (fun _ => ?_)
            show wpAnyH _ _ _ _ _ 14 (Array.replicate 14 false) _ _
            refine wpAnyH_take_d 0 (some 35) (.agg #[.bool true, .slice pa pm pc, .slice ea em ec, .slice fa fm fc]) rfl (by kernel_rfl) (by kernel_rfl) (by kernel_rfl) (by kernel_rfl) rfl (fun _ _ _ h => h) (fun w' h => ex_row rfl rfl (RG.out _ h) Try.underlying32 rfl (by kernel_rfl)) (by exact hS) ?_
            simp only [Act.put, List.setIfInBounds_toArray, List.set_cons_succ, List.set_cons_zero]
            refine wpAnyH_take_d 1 (some 36) (.slice (some ⟨b, off, none⟩) km kc) rfl (by kernel_rfl) (by kernel_rfl) (by kernel_rfl) (by kernel_rfl) rfl (fun _ _ _ h => h) (fun _ _ => by kernel_rfl) (by exact hS) ?_
            simp only [Act.put, List.setIfInBounds_toArray, List.set_cons_succ, List.set_cons_zero]
            refine wpAnyH_take_d 2 (some 37) (.int .i64 k) rfl (by kernel_rfl) (by kernel_rfl) (by kernel_rfl) (by kernel_rfl) rfl (fun _ _ _ h => h) (fun _ _ => by kernel_rfl) (by exact hS) ?_
            simp only [Act.put, List.setIfInBounds_toArray, List.set_cons_succ, List.set_cons_zero]
            refine wpAnyH_take_d 3 (some 38) (.pointer (some ⟨b, off + k, none⟩)) rfl (by kernel_rfl) (by kernel_rfl) (by kernel_rfl) (by kernel_rfl) rfl (fun _ _ _ h => h) (fun _ _ => ex_index1 rfl rfl rfl c1 Try.underlying23 (by kernel_rfl)) (by exact hS) ?_
            simp only [Act.put, List.setIfInBounds_toArray, List.set_cons_succ, List.set_cons_zero]
            refine wpAnyH_take_d 4 (some 39) (.string x) rfl (by kernel_rfl) (by kernel_rfl) (by kernel_rfl) (by kernel_rfl) rfl (fun _ _ _ h => h) (fun w' h => exec_load_cell rfl rfl (C1.out _ h) Try.underlying9 rfl) (by exact hS) ?_
            simp only [Act.put, List.setIfInBounds_toArray, List.set_cons_succ, List.set_cons_zero]
            refine wpAnyH_take_d 5 (some 40) (.string y) rfl (by kernel_rfl) (by kernel_rfl) (by kernel_rfl) (by kernel_rfl) rfl (fun _ _ _ h => h) (fun _ _ => by kernel_rfl) (by exact hS) ?_
            simp only [Act.put, List.setIfInBounds_toArray, List.set_cons_succ, List.set_cons_zero]
            refine wpAnyH_take_d 6 (some 41) (prV ⟨x, y⟩) rfl (by kernel_rfl) (by kernel_rfl) (by kernel_rfl) (by kernel_rfl) rfl (fun _ _ _ h => h) (fun w' _ => ex_buildl rfl rfl rfl (build_pr x y w')) (by exact hS) ?_
            simp only [Act.put, List.setIfInBounds_toArray, List.set_cons_succ, List.set_cons_zero]
            -- left: [(7, ('42', 'Op.call { value (Operand.func 27), args := #[t35, t41], argTypes := #[32, 50] }', None)), (8, ('34', 'Op.move t42', None)), (9, ('43', 'Op.extract t34 0', None)), (10, ('44', 'Op.extract t34 1', None)), (11, ('8', 'Op.alloc 32', None)), (12, ('none', 'Op.store 32 t8 t43', None)), (13, ('9', 'Op.assign t44', None))]
            refine wpAnyH_call_or 7 11 (some 42) (some 8) 27 #[.agg #[.bool true, .slice pa pm pc, .slice ea em ec, .slice fa fm fc], prV ⟨x, y⟩] (.pointer (some ⟨wr.drew.heap.size, 0, none⟩)) rfl rfl (by kernel_rfl) (by kernel_rfl) (by kernel_rfl) rfl rfl (by kernel_rfl) (PC.out _ hS0) (exec_alloc_row rfl zeroNd) (hS0.alloc (Nat.le_refl _) zNdO) ?_ ?_
            · rintro e w4 ⟨v4, rfl, ⟨pq, kq, iq, rfl, ob1, ob2, ob3⟩, b4'⟩
              obtain ⟨qa, qm, qc, rfl⟩ := ob1.slv
              obtain ⟨ra, rm, rc, rfl⟩ := ob2.slv
              obtain ⟨sa, sm, sc, rfl⟩ := ob3.slv
              have hS : Below wr.heap.size wr w4 := hS0.trans b4'
              refine ⟨_, rfl, hS, ?_⟩
              simp only [Act.put, List.setIfInBounds_toArray, List.set_cons_succ, List.set_cons_zero]
              refine wpAnyH_take_d 8 (some 34) (.tuple #[.agg #[.bool true, .slice qa qm qc, .slice ra rm rc, .slice sa sm sc], .int .i64 0]) rfl (by kernel_rfl) (by kernel_rfl) (by kernel_rfl) (by kernel_rfl) rfl (fun _ _ _ h => h) (fun _ _ => by kernel_rfl) (by exact hS) ?_
              simp only [Act.put, List.setIfInBounds_toArray, List.set_cons_succ, List.set_cons_zero]
              refine wpAnyH_take_d 9 (some 43) (.agg #[.bool true, .slice qa qm qc, .slice ra rm rc, .slice sa sm sc]) rfl (by kernel_rfl) (by kernel_rfl) (by kernel_rfl) (by kernel_rfl) rfl (fun _ _ _ h => h) (fun _ _ => ex_ext rfl rfl rfl) (by exact hS) ?_
              simp only [Act.put, List.setIfInBounds_toArray, List.set_cons_succ, List.set_cons_zero]
              refine wpAnyH_take_d 10 (some 44) (.int .i64 0) rfl (by kernel_rfl) (by kernel_rfl) (by kernel_rfl) (by kernel_rfl) rfl (fun _ _ _ h => h) (fun _ _ => ex_ext rfl rfl rfl) (by exact hS) ?_
              simp only [Act.put, List.setIfInBounds_toArray, List.set_cons_succ, List.set_cons_zero]
              -- left: [(11, ('8', 'Op.alloc 32', None)), (12, ('none', 'Op.store 32 t8 t43', None)), (13, ('9', 'Op.assign t44', None))]
              obtain ⟨Q, hQe⟩ : ∃ Q, w4.heap.size = Q := ⟨_, rfl⟩
              obtain ⟨w5, hw5⟩ : ∃ w5, w4.alloc zNdO = w5 := ⟨_, rfl⟩
              have hal : ∀ {ρ : Operand → Value} {o : Oper}, o.op = .alloc 32 → (execOp ρ o).run Try.prog w4 = .ok (.value (.pointer (some ⟨Q, 0, none⟩))) w5 := fun ho => by rw [← hw5, ← hQe]; exact exec_alloc_row ho zeroNd
              have hQ5 : w5.heap[Q]? = some zNdO := by rw [← hw5, ← hQe]; exact heap_alloc_new w4 _
              have b45 : Below w4.heap.size w4 w5 := by rw [← hw5]; exact below_new w4 _
              have hS5 : Below wr.heap.size wr w5 := hS.trans (b45.mono hS.size)
              have hwQ : wr.heap.size ≤ Q := by rw [← hQe]; exact hS.size
              have own4 : NdOwn wr.heap.size w4 (.agg #[.bool true, .slice qa qm qc, .slice ra rm rc, .slice sa sm sc]) (Go.Proofs.Ytjhhcikhgkkjmaa.lf L) := ⟨_, _, _, rfl, ob1, ob2, ob3⟩
              have own5 : ∀ cs, NdOwn wr.heap.size (w5.setRow Q cs) (.agg #[.bool true, .slice qa qm qc, .slice ra rm rc, .slice sa sm sc]) (Go.Proofs.Ytjhhcikhgkkjmaa.lf L) := fun cs => own4.below (below_setRow' b45 (by rw [hQe]; exact Nat.le_refl _) cs)
              have hS := hS5
              refine wpAnyH_one 11 (some 8) (.pointer (some ⟨Q, 0, none⟩)) rfl (by kernel_rfl) (by kernel_rfl) rfl (hal rfl) (by exact hS) ?_
              simp only [Act.put, List.setIfInBounds_toArray, List.set_cons_succ, List.set_cons_zero]
              clear hw5 hQe ob1 ob2 ob3 b4' b45 hS5 own4
              refine wpAnyH_one_skip 12 rfl (by kernel_rfl) (by kernel_rfl) (ex_store_row rfl rfl rfl hQ5 (by kernel_rfl) rfl (by simp [Value.oneCell'])) (below_setRow' hS hwQ _) ?_
              simp only [Act.put, List.setIfInBounds_toArray]
              have hS := below_setRow' hS hwQ #[.bool true, .slice qa qm qc, .slice ra rm rc, .slice sa sm sc]
              refine wpAnyH_take_d 13 (some 9) (.int .i64 0) rfl (by kernel_rfl) (by kernel_rfl) (by kernel_rfl) (by kernel_rfl) rfl (fun _ _ _ h => h) (fun _ _ => by kernel_rfl) (by exact hS) ?_
              refine wpAnyH_done (by kernel_rfl) ?_ _
              have hQ6' := setRow_heap w5 Q _ #[.bool true, .slice qa qm qc, .slice ra rm rc, .slice sa sm sc] _ _ hQ5
              have own6 : NdOwn wr.heap.size (w5.setRow Q #[.bool true, .slice qa qm qc, .slice ra rm rc, .slice sa sm sc]) (.agg #[.bool true, .slice qa qm qc, .slice ra rm rc, .slice sa sm sc]) (Go.Proofs.Ytjhhcikhgkkjmaa.lf L) := own5 _
              obtain ⟨w6, hw6⟩ : ∃ w6, w5.setRow Q #[.bool true, .slice qa qm qc, .slice ra rm rc, .slice sa sm sc] = w6 := ⟨_, rfl⟩
              rw [hw6] at hS hQ6' own6 ⊢
              clear hQ5 own5 hwQ hw6
              have hsm : (Go.Proofs.Ytjhhcikhgkkjmaa.lf L).small := leaf_small (by omega)
              have nd6 := own6.at hsm
              have hP6 := (hS.block P hPr).trans hP
              have d6 := C1.out _ hS
              have hb6 := hb.trans (hS.mono hb.size)
              obtain ⟨t0, t1, t2, t3⟩ := NdCells.of hQ6'
              have rk := refKey_any x w6
              rw [hkx] at rk
              have ck := check_any nd6
              rw [HOKP.out] at ck
              clear hS hkx nd6
              go_wp2_with fail
              refine Calls.mono rk ?_
              rintro e _ ⟨rfl, rfl⟩
              go_wp2_with fail
              refine Calls.mono ck ?_
              rintro e w7 ⟨rfl, b7⟩
              have hP7 := (b7.block P (lt_of_heap hP6)).trans hP6
              have hQ7 := (b7.block Q (lt_of_heap hQ6')).trans hQ6'
              have own7 := own6.below b7
              have hb7 := hb6.trans (b7.mono hb6.size)
              clear rk ck b7 hP6 hQ6' own6 hb6 t0 t1 t2 t3 d6
              obtain ⟨t0, t1, t2, t3⟩ := NdCells.of hQ7
              have ND0 := ND
              have HB0 := Lib.hid hb
              have HP0 := Lib.hid hP
              clear hP hb d1 ND
              go_wp2_with (with_reducible refine wpList_store_nd rfl (.tmp 5) (.tmp 65) rfl P true (.slice qa qm qc) (.slice ra rm rc) (.slice sa sm sc) rfl rfl #[.bool true, .slice pa pm pc, .slice ea em ec, .slice fa fm fc] hP7 rfl (.mk _ _ _) (.mk _ _ _) (.mk _ _ _) hb7 hsa ?_)
              rintro w8 - hP8 hb8 hkk
              have nd8 : NdAt w8.heap.size w8 (.agg #[.bool true, .slice qa qm qc, .slice ra rm rc, .slice sa sm sc]) (Go.Proofs.Ytjhhcikhgkkjmaa.lf L) := by
                obtain ⟨p9, k9, j9, he9, o1, o2, o3⟩ := own7
                exact NdOwn.at ⟨p9, k9, j9, he9, o1.keepg hPr hkk, o2.keepg hPr hkk, o3.keepg hPr hkk⟩ hsm
              have N8 := Lib.hid nd8
              obtain ⟨p9, k9, j9, he9, hs9, -, -⟩ := nd8
              have e9 : p9 = .slice qa qm qc := by injection he9 with he9; have := congrArg (fun a => a[1]?) he9; simpa using this.symm
              rw [e9] at hs9
              have hs9' : SlAt elP w8.heap.size w8 (.slice qa qm qc) L := hs9
              have HQM : Hid (qm = L.length) := Lib.hid (by obtain ⟨_, _, e8, _⟩ := hs9'; cases e8; rfl)
              have hqm255 : qm ≤ 255 := by rw [HQM.out]; omega
              have HS9 := Lib.hid hs9'
              have hP8l := lt_of_heap hP8
              have PX := Lib.hid (fun (w' : World) (b : Below w8.heap.size w8 w') => (b.block P hP8l).trans hP8)
              have FD := Lib.hid (fun (w' : World) (j : Nat) (hj : j < L.length) (b : Below w8.heap.size w8 w') => find_self ((N8.out.below b).more b.size) HOKP.out hj)
              obtain ⟨t0, t1, t2, t3⟩ := NdCells.of hP8
              have h88 : Below w8.heap.size w8 w8 := Below.refl _ _
              have HB8 := Lib.hid hb8
              have HLK : Hid (L.length ≤ k + 1) := Lib.hid (by omega)
              clear hs9 hs9' he9 e9 own7 hQ7 hP7 hb7 hkk hP8 hlp hv48 hP8l hb8
              go_wp2
              go_loopw [10] (fun jv wr' => ∃ j : Nat, j ≤ qm ∧ jv = .int .i64 j ∧ Below w8.heap.size w8 wr') (fun jv _ => qm - (intOf jv).toNat)
              case atStart => exact ⟨0, Nat.zero_le _, rfl, h88⟩
              case round =>
                clear h88 t0 t1 t2 t3
                obtain ⟨j, hj, rfl, bj⟩ := hrel
                have hPj := PX.out _ bj
                obtain ⟨t0, t1, t2, t3⟩ := NdCells.of hPj
                by_cases hlt : j < qm
                · have hjl : j < L.length := by rw [← HQM.out]; exact hlt
                  obtain ⟨gb, goff, gcap, hv9, hB9, hc9, -⟩ := HS9.out.getP hjl
                  obtain ⟨rfl, -, rfl⟩ : qa = some ⟨gb, goff, none⟩ ∧ qm = L.length ∧ qc = gcap := by cases hv9; exact ⟨rfl, rfl, rfl⟩
                  have fd := FD.out wr.drew j hjl (bj.drew)
                  have g1 := (bj.cell (p := ⟨gb, goff + j * 2, none⟩) hB9).trans hc9
                  have hgb : gb < wr.heap.size := Nat.lt_of_lt_of_le hB9 bj.size
                  have hPl := lt_of_heap hPj
                  generalize (prAt L j).k = kk at *
                  have RG2 := Lib.hid (fun (w' : World) (h : Below wr.heap.size wr w') => range4 ((h.block P hPl).trans hPj))
                  have CC := Lib.hid (fun (w' : World) (h : Below wr.heap.size wr w') => NdCells.of ((h.block P hPl).trans hPj))
                  have KK := Lib.hid (fun (w' : World) (h : Below wr.heap.size wr w') => (h.cell (p := ⟨gb, goff + j * 2, none⟩) hgb).trans g1)
                  have FDH := Lib.hid fd
                  clear hv9 hc9 fd t0 t2 t3 g1 hPj
                  go_wp2_with fail
                  have hS : Below wr.heap.size wr wr.drew := (Below.refl _ _).drew
                  refine wp_region_held_drew (S := fun w' => Below wr.heap.size wr w') mixed hS (fun _ => ?_)
                  show wpAnyH _ _ _ _ _ 13 (Array.replicate 13 false) _ _
                  refine wpAnyH_take_d 0 (some 74) (.agg #[.bool true, .slice (some ⟨gb, goff, none⟩) qm qc, .slice ra rm rc, .slice sa sm sc]) rfl (by kernel_rfl) (by kernel_rfl) (by kernel_rfl) (by kernel_rfl) rfl (fun _ _ _ h => h) (fun w' h => ex_row rfl rfl (RG2.out _ h) Try.underlying32 rfl (by kernel_rfl)) (by exact hS) ?_
                  simp only [Act.put, List.setIfInBounds_toArray, List.set_cons_succ, List.set_cons_zero]
                  refine wpAnyH_take_d 1 (some 75) (.pointer (some ⟨P, 1, none⟩)) rfl (by kernel_rfl) (by kernel_rfl) (by kernel_rfl) (by kernel_rfl) rfl (fun _ _ _ h => h) (fun _ _ => by kernel_rfl) (by exact hS) ?_
                  simp only [Act.put, List.setIfInBounds_toArray, List.set_cons_succ, List.set_cons_zero]
                  refine wpAnyH_take_d 2 (some 76) (.slice (some ⟨gb, goff, none⟩) qm qc) rfl (by kernel_rfl) (by kernel_rfl) (by kernel_rfl) (by kernel_rfl) rfl (fun _ _ _ h => h) (fun w' h => exec_load_cell rfl rfl (CC.out _ h).c1 Try.underlying22 rfl) (by exact hS) ?_
                  simp only [Act.put, List.setIfInBounds_toArray, List.set_cons_succ, List.set_cons_zero]
                  refine wpAnyH_take_d 3 (some 77) (.int .i64 j) rfl (by kernel_rfl) (by kernel_rfl) (by kernel_rfl) (by kernel_rfl) rfl (fun _ _ _ h => h) (fun _ _ => by kernel_rfl) (by exact hS) ?_
                  simp only [Act.put, List.setIfInBounds_toArray, List.set_cons_succ, List.set_cons_zero]
                  refine wpAnyH_take_d 4 (some 78) (.pointer (some ⟨gb, goff + j * 2, none⟩)) rfl (by kernel_rfl) (by kernel_rfl) (by kernel_rfl) (by kernel_rfl) rfl (fun _ _ _ h => h) (fun _ _ => ex_index 2 rfl rfl rfl hlt Try.underlying22 szPr) (by exact hS) ?_
                  simp only [Act.put, List.setIfInBounds_toArray, List.set_cons_succ, List.set_cons_zero]
                  refine wpAnyH_take_d 5 (some 79) (.pointer (some ⟨gb, goff + j * 2, none⟩)) rfl (by kernel_rfl) (by kernel_rfl) (by kernel_rfl) (by kernel_rfl) rfl (fun _ _ _ h => h) (fun _ _ => by kernel_rfl) (by exact hS) ?_
                  simp only [Act.put, List.setIfInBounds_toArray, List.set_cons_succ, List.set_cons_zero]
                  refine wpAnyH_take_d 6 (some 80) (.string kk) rfl (by kernel_rfl) (by kernel_rfl) (by kernel_rfl) (by kernel_rfl) rfl (fun _ _ _ h => h) (fun w' h => exec_load_cell rfl rfl (KK.out _ h) Try.underlying9 rfl) (by exact hS) ?_
                  simp only [Act.put, List.setIfInBounds_toArray, List.set_cons_succ, List.set_cons_zero]
                  refine wpAnyH_call 7 (some 81) 25 #[.agg #[.bool true, .slice (some ⟨gb, goff, none⟩) qm qc, .slice ra rm rc, .slice sa sm sc], .string kk] rfl (by kernel_rfl) (by kernel_rfl) rfl (by kernel_rfl) (FDH.out) ?_
                  rintro e w10 ⟨rfl, b10⟩
                  have hS : Below wr.heap.size wr w10 := hS.trans b10
                  refine ⟨_, rfl, hS, ?_⟩
                  simp only [Act.put, List.setIfInBounds_toArray, List.set_cons_succ, List.set_cons_zero]
                  refine wpAnyH_take_d 8 (some 73) (.tuple #[.int .i64 j, .int .i64 0]) rfl (by kernel_rfl) (by kernel_rfl) (by kernel_rfl) (by kernel_rfl) rfl (fun _ _ _ h => h) (fun _ _ => by kernel_rfl) (by exact hS) ?_
                  simp only [Act.put, List.setIfInBounds_toArray, List.set_cons_succ, List.set_cons_zero]
                  refine wpAnyH_take_d 9 (some 82) (.int .i64 j) rfl (by kernel_rfl) (by kernel_rfl) (by kernel_rfl) (by kernel_rfl) rfl (fun _ _ _ h => h) (fun _ _ => ex_ext rfl rfl rfl) (by exact hS) ?_
                  simp only [Act.put, List.setIfInBounds_toArray, List.set_cons_succ, List.set_cons_zero]
                  refine wpAnyH_take_d 10 (some 83) (.int .i64 0) rfl (by kernel_rfl) (by kernel_rfl) (by kernel_rfl) (by kernel_rfl) rfl (fun _ _ _ h => h) (fun _ _ => ex_ext rfl rfl rfl) (by exact hS) ?_
                  simp only [Act.put, List.setIfInBounds_toArray, List.set_cons_succ, List.set_cons_zero]
                  refine wpAnyH_take_d 11 (some 11) (.int .i64 j) rfl (by kernel_rfl) (by kernel_rfl) (by kernel_rfl) (by kernel_rfl) rfl (fun _ _ _ h => h) (fun _ _ => by kernel_rfl) (by exact hS) ?_
                  simp only [Act.put, List.setIfInBounds_toArray, List.set_cons_succ, List.set_cons_zero]
                  refine wpAnyH_take_d 12 (some 12) (.int .i64 0) rfl (by kernel_rfl) (by kernel_rfl) (by kernel_rfl) (by kernel_rfl) rfl (fun _ _ _ h => h) (fun _ _ => by kernel_rfl) (by exact hS) ?_
                  simp only [Act.put, List.setIfInBounds_toArray, List.set_cons_succ, List.set_cons_zero]
                  refine wpAnyH_done (by kernel_rfl) ?_ _
                  have bj' := bj.trans (hS.mono bj.size)
                  clear hS b10
                  go_wp2
                  go_roundw
                  case rel => exact ⟨j + 1, by omega, by go_num, bj'⟩
                  case measure => simp [intOf]; omega
                · have hbF := HB8.out.trans (bj.mono HB8.out.size)
                  have nF := Lib.hid ((N8.out.below bj).more bj.size)
                  clear bj
                  go_wp2
                  go_roundw
                  case rel => exact ⟨k + 1, L, _, _, _, _, _, _, _, _, _, by omega, by go_num, HOKP, HLK.out, hPj, nF, hbF⟩
                  case measure => simp [intOf]; omega
            · skip
              simp only [Act.put, List.setIfInBounds_toArray, List.set_cons_succ, List.set_cons_zero]
              have hQ4 := heap_alloc_new wr.drew zNdO
              have bA : Below wr.heap.size wr (wr.drew.alloc zNdO) := hS0.alloc (Nat.le_refl _) zNdO
              have hS := bA
              refine wpAnyH_call 7 (some 42) 27 #[.agg #[.bool true, .slice pa pm pc, .slice ea em ec, .slice fa fm fc], prV ⟨x, y⟩] rfl (by kernel_rfl) (by kernel_rfl) rfl (by kernel_rfl) (PC.out _ bA) ?_
              rintro e w5 ⟨v4, rfl, ⟨pq, kq, iq, rfl, ob1, ob2, ob3⟩, b4'⟩
              obtain ⟨qa, qm, qc, rfl⟩ := ob1.slv
              obtain ⟨ra, rm, rc, rfl⟩ := ob2.slv
              obtain ⟨sa, sm, sc, rfl⟩ := ob3.slv
              have hS : Below wr.heap.size wr w5 := bA.trans (b4'.mono bA.size)
              refine ⟨_, rfl, hS, ?_⟩
              simp only [Act.put, List.setIfInBounds_toArray, List.set_cons_succ, List.set_cons_zero]
              have hQ5 : w5.heap[wr.drew.heap.size]? = some zNdO := (b4'.block _ (lt_of_heap hQ4)).trans hQ4
              have hbs : wr.drew.heap.size < (wr.drew.alloc zNdO).heap.size := lt_of_heap hQ4
              obtain ⟨Q, hQe⟩ : ∃ Q, wr.drew.heap.size = Q := ⟨_, rfl⟩
              rw [hQe] at hQ5 hbs ⊢
              have hwQ : wr.heap.size ≤ Q := by rw [← hQe]; exact Nat.le_refl _
              have own5 : ∀ cs, NdOwn wr.heap.size (w5.setRow Q cs) (.agg #[.bool true, .slice qa qm qc, .slice ra rm rc, .slice sa sm sc]) (Go.Proofs.Ytjhhcikhgkkjmaa.lf L) := fun cs => ⟨_, _, _, rfl, (ob1.keepg hbs (fun k hk => setRow_other w5 Q k cs hk)).base bA.size, (ob2.keepg hbs (fun k hk => setRow_other w5 Q k cs hk)).base bA.size, (ob3.keepg hbs (fun k hk => setRow_other w5 Q k cs hk)).base bA.size⟩
              refine wpAnyH_take_d 8 (some 34) (.tuple #[.agg #[.bool true, .slice qa qm qc, .slice ra rm rc, .slice sa sm sc], .int .i64 0]) rfl (by kernel_rfl) (by kernel_rfl) (by kernel_rfl) (by kernel_rfl) rfl (fun _ _ _ h => h) (fun _ _ => by kernel_rfl) (by exact hS) ?_
              simp only [Act.put, List.setIfInBounds_toArray, List.set_cons_succ, List.set_cons_zero]
              refine wpAnyH_take_d 9 (some 43) (.agg #[.bool true, .slice qa qm qc, .slice ra rm rc, .slice sa sm sc]) rfl (by kernel_rfl) (by kernel_rfl) (by kernel_rfl) (by kernel_rfl) rfl (fun _ _ _ h => h) (fun _ _ => ex_ext rfl rfl rfl) (by exact hS) ?_
              simp only [Act.put, List.setIfInBounds_toArray, List.set_cons_succ, List.set_cons_zero]
              refine wpAnyH_take_d 10 (some 44) (.int .i64 0) rfl (by kernel_rfl) (by kernel_rfl) (by kernel_rfl) (by kernel_rfl) rfl (fun _ _ _ h => h) (fun _ _ => ex_ext rfl rfl rfl) (by exact hS) ?_
              simp only [Act.put, List.setIfInBounds_toArray, List.set_cons_succ, List.set_cons_zero]
              -- left: [(12, ('none', 'Op.store 32 t8 t43', None)), (13, ('9', 'Op.assign t44', None))]
              clear hQ4 bA b4' ob1 ob2 ob3 hbs hQe
              refine wpAnyH_one_skip 12 rfl (by kernel_rfl) (by kernel_rfl) (ex_store_row rfl rfl rfl hQ5 (by kernel_rfl) rfl (by simp [Value.oneCell'])) (below_setRow' hS hwQ _) ?_
              simp only [Act.put, List.setIfInBounds_toArray]
              have hS := below_setRow' hS hwQ #[.bool true, .slice qa qm qc, .slice ra rm rc, .slice sa sm sc]
              refine wpAnyH_take_d 13 (some 9) (.int .i64 0) rfl (by kernel_rfl) (by kernel_rfl) (by kernel_rfl) (by kernel_rfl) rfl (fun _ _ _ h => h) (fun _ _ => by kernel_rfl) (by exact hS) ?_
              refine wpAnyH_done (by kernel_rfl) ?_ _
              have hQ6' := setRow_heap w5 Q _ #[.bool true, .slice qa qm qc, .slice ra rm rc, .slice sa sm sc] _ _ hQ5
              have own6 : NdOwn wr.heap.size (w5.setRow Q #[.bool true, .slice qa qm qc, .slice ra rm rc, .slice sa sm sc]) (.agg #[.bool true, .slice qa qm qc, .slice ra rm rc, .slice sa sm sc]) (Go.Proofs.Ytjhhcikhgkkjmaa.lf L) := own5 _
              obtain ⟨w6, hw6⟩ : ∃ w6, w5.setRow Q #[.bool true, .slice qa qm qc, .slice ra rm rc, .slice sa sm sc] = w6 := ⟨_, rfl⟩
              rw [hw6] at hS hQ6' own6 ⊢
              clear hQ5 own5 hwQ hw6
              have hsm : (Go.Proofs.Ytjhhcikhgkkjmaa.lf L).small := leaf_small (by omega)
              have nd6 := own6.at hsm
              have hP6 := (hS.block P hPr).trans hP
              have d6 := C1.out _ hS
              have hb6 := hb.trans (hS.mono hb.size)
              obtain ⟨t0, t1, t2, t3⟩ := NdCells.of hQ6'
              have rk := refKey_any x w6
              rw [hkx] at rk
              have ck := check_any nd6
              rw [HOKP.out] at ck
              clear hS hkx nd6
              go_wp2_with fail
              refine Calls.mono rk ?_
              rintro e _ ⟨rfl, rfl⟩
              go_wp2_with fail
              refine Calls.mono ck ?_
              rintro e w7 ⟨rfl, b7⟩
              have hP7 := (b7.block P (lt_of_heap hP6)).trans hP6
              have hQ7 := (b7.block Q (lt_of_heap hQ6')).trans hQ6'
              have own7 := own6.below b7
              have hb7 := hb6.trans (b7.mono hb6.size)
              clear rk ck b7 hP6 hQ6' own6 hb6 t0 t1 t2 t3 d6
              obtain ⟨t0, t1, t2, t3⟩ := NdCells.of hQ7
              have ND0 := ND
              have HB0 := Lib.hid hb
              have HP0 := Lib.hid hP
              clear hP hb d1 ND
              go_wp2_with (with_reducible refine wpList_store_nd rfl (.tmp 5) (.tmp 65) rfl P true (.slice qa qm qc) (.slice ra rm rc) (.slice sa sm sc) rfl rfl #[.bool true, .slice pa pm pc, .slice ea em ec, .slice fa fm fc] hP7 rfl (.mk _ _ _) (.mk _ _ _) (.mk _ _ _) hb7 hsa ?_)
              rintro w8 - hP8 hb8 hkk
              have nd8 : NdAt w8.heap.size w8 (.agg #[.bool true, .slice qa qm qc, .slice ra rm rc, .slice sa sm sc]) (Go.Proofs.Ytjhhcikhgkkjmaa.lf L) := by
                obtain ⟨p9, k9, j9, he9, o1, o2, o3⟩ := own7
                exact NdOwn.at ⟨p9, k9, j9, he9, o1.keepg hPr hkk, o2.keepg hPr hkk, o3.keepg hPr hkk⟩ hsm
              have N8 := Lib.hid nd8
              obtain ⟨p9, k9, j9, he9, hs9, -, -⟩ := nd8
              have e9 : p9 = .slice qa qm qc := by injection he9 with he9; have := congrArg (fun a => a[1]?) he9; simpa using this.symm
              rw [e9] at hs9
              have hs9' : SlAt elP w8.heap.size w8 (.slice qa qm qc) L := hs9
              have HQM : Hid (qm = L.length) := Lib.hid (by obtain ⟨_, _, e8, _⟩ := hs9'; cases e8; rfl)
              have hqm255 : qm ≤ 255 := by rw [HQM.out]; omega
              have HS9 := Lib.hid hs9'
              have hP8l := lt_of_heap hP8
              have PX := Lib.hid (fun (w' : World) (b : Below w8.heap.size w8 w') => (b.block P hP8l).trans hP8)
              have FD := Lib.hid (fun (w' : World) (j : Nat) (hj : j < L.length) (b : Below w8.heap.size w8 w') => find_self ((N8.out.below b).more b.size) HOKP.out hj)
              obtain ⟨t0, t1, t2, t3⟩ := NdCells.of hP8
              have h88 : Below w8.heap.size w8 w8 := Below.refl _ _
              have HB8 := Lib.hid hb8
              have HLK : Hid (L.length ≤ k + 1) := Lib.hid (by omega)
              clear hs9 hs9' he9 e9 own7 hQ7 hP7 hb7 hkk hP8 hlp hv48 hP8l hb8
              go_wp2
              go_loopw [10] (fun jv wr' => ∃ j : Nat, j ≤ qm ∧ jv = .int .i64 j ∧ Below w8.heap.size w8 wr') (fun jv _ => qm - (intOf jv).toNat)
              case atStart => exact ⟨0, Nat.zero_le _, rfl, h88⟩
              case round =>
                clear h88 t0 t1 t2 t3
                obtain ⟨j, hj, rfl, bj⟩ := hrel
                have hPj := PX.out _ bj
                obtain ⟨t0, t1, t2, t3⟩ := NdCells.of hPj
                by_cases hlt : j < qm
                · have hjl : j < L.length := by rw [← HQM.out]; exact hlt
                  obtain ⟨gb, goff, gcap, hv9, hB9, hc9, -⟩ := HS9.out.getP hjl
                  obtain ⟨rfl, -, rfl⟩ : qa = some ⟨gb, goff, none⟩ ∧ qm = L.length ∧ qc = gcap := by cases hv9; exact ⟨rfl, rfl, rfl⟩
                  have fd := FD.out wr.drew j hjl (bj.drew)
                  have g1 := (bj.cell (p := ⟨gb, goff + j * 2, none⟩) hB9).trans hc9
                  have hgb : gb < wr.heap.size := Nat.lt_of_lt_of_le hB9 bj.size
                  have hPl := lt_of_heap hPj
                  generalize (prAt L j).k = kk at *
                  have RG2 := Lib.hid (fun (w' : World) (h : Below wr.heap.size wr w') => range4 ((h.block P hPl).trans hPj))
                  have CC := Lib.hid (fun (w' : World) (h : Below wr.heap.size wr w') => NdCells.of ((h.block P hPl).trans hPj))
                  have KK := Lib.hid (fun (w' : World) (h : Below wr.heap.size wr w') => (h.cell (p := ⟨gb, goff + j * 2, none⟩) hgb).trans g1)
                  have FDH := Lib.hid fd
                  clear hv9 hc9 fd t0 t2 t3 g1 hPj
                  go_wp2_with fail
                  have hS : Below wr.heap.size wr wr.drew := (Below.refl _ _).drew
                  refine wp_region_held_drew (S := fun w' => Below wr.heap.size wr w') mixed hS (fun _ => ?_)
                  show wpAnyH _ _ _ _ _ 13 (Array.replicate 13 false) _ _
                  refine wpAnyH_take_d 0 (some 74) (.agg #[.bool true, .slice (some ⟨gb, goff, none⟩) qm qc, .slice ra rm rc, .slice sa sm sc]) rfl (by kernel_rfl) (by kernel_rfl) (by kernel_rfl) (by kernel_rfl) rfl (fun _ _ _ h => h) (fun w' h => ex_row rfl rfl (RG2.out _ h) Try.underlying32 rfl (by kernel_rfl)) (by exact hS) ?_
                  simp only [Act.put, List.setIfInBounds_toArray, List.set_cons_succ, List.set_cons_zero]
                  refine wpAnyH_take_d 1 (some 75) (.pointer (some ⟨P, 1, none⟩)) rfl (by kernel_rfl) (by kernel_rfl) (by kernel_rfl) (by kernel_rfl) rfl (fun _ _ _ h => h) (fun _ _ => by kernel_rfl) (by exact hS) ?_
                  simp only [Act.put, List.setIfInBounds_toArray, List.set_cons_succ, List.set_cons_zero]
                  refine wpAnyH_take_d 2 (some 76) (.slice (some ⟨gb, goff, none⟩) qm qc) rfl (by kernel_rfl) (by kernel_rfl) (by kernel_rfl) (by kernel_rfl) rfl (fun _ _ _ h => h) (fun w' h => exec_load_cell rfl rfl (CC.out _ h).c1 Try.underlying22 rfl) (by exact hS) ?_
                  simp only [Act.put, List.setIfInBounds_toArray, List.set_cons_succ, List.set_cons_zero]
                  refine wpAnyH_take_d 3 (some 77) (.int .i64 j) rfl (by kernel_rfl) (by kernel_rfl) (by kernel_rfl) (by kernel_rfl) rfl (fun _ _ _ h => h) (fun _ _ => by kernel_rfl) (by exact hS) ?_
                  simp only [Act.put, List.setIfInBounds_toArray, List.set_cons_succ, List.set_cons_zero]
                  refine wpAnyH_take_d 4 (some 78) (.pointer (some ⟨gb, goff + j * 2, none⟩)) rfl (by kernel_rfl) (by kernel_rfl) (by kernel_rfl) (by kernel_rfl) rfl (fun _ _ _ h => h) (fun _ _ => ex_index 2 rfl rfl rfl hlt Try.underlying22 szPr) (by exact hS) ?_
                  simp only [Act.put, List.setIfInBounds_toArray, List.set_cons_succ, List.set_cons_zero]
                  refine wpAnyH_take_d 5 (some 79) (.pointer (some ⟨gb, goff + j * 2, none⟩)) rfl (by kernel_rfl) (by kernel_rfl) (by kernel_rfl) (by kernel_rfl) rfl (fun _ _ _ h => h) (fun _ _ => by kernel_rfl) (by exact hS) ?_
                  simp only [Act.put, List.setIfInBounds_toArray, List.set_cons_succ, List.set_cons_zero]
                  refine wpAnyH_take_d 6 (some 80) (.string kk) rfl (by kernel_rfl) (by kernel_rfl) (by kernel_rfl) (by kernel_rfl) rfl (fun _ _ _ h => h) (fun w' h => exec_load_cell rfl rfl (KK.out _ h) Try.underlying9 rfl) (by exact hS) ?_
                  simp only [Act.put, List.setIfInBounds_toArray, List.set_cons_succ, List.set_cons_zero]
                  refine wpAnyH_call 7 (some 81) 25 #[.agg #[.bool true, .slice (some ⟨gb, goff, none⟩) qm qc, .slice ra rm rc, .slice sa sm sc], .string kk] rfl (by kernel_rfl) (by kernel_rfl) rfl (by kernel_rfl) (FDH.out) ?_
                  rintro e w10 ⟨rfl, b10⟩
                  have hS : Below wr.heap.size wr w10 := hS.trans b10
                  refine ⟨_, rfl, hS, ?_⟩
                  simp only [Act.put, List.setIfInBounds_toArray, List.set_cons_succ, List.set_cons_zero]
                  refine wpAnyH_take_d 8 (some 73) (.tuple #[.int .i64 j, .int .i64 0]) rfl (by kernel_rfl) (by kernel_rfl) (by kernel_rfl) (by kernel_rfl) rfl (fun _ _ _ h => h) (fun _ _ => by kernel_rfl) (by exact hS) ?_
                  simp only [Act.put, List.setIfInBounds_toArray, List.set_cons_succ, List.set_cons_zero]
                  refine wpAnyH_take_d 9 (some 82) (.int .i64 j) rfl (by kernel_rfl) (by kernel_rfl) (by kernel_rfl) (by kernel_rfl) rfl (fun _ _ _ h => h) (fun _ _ => ex_ext rfl rfl rfl) (by exact hS) ?_
                  simp only [Act.put, List.setIfInBounds_toArray, List.set_cons_succ, List.set_cons_zero]
                  refine wpAnyH_take_d 10 (some 83) (.int .i64 0) rfl (by kernel_rfl) (by kernel_rfl) (by kernel_rfl) (by kernel_rfl) rfl (fun _ _ _ h => h) (fun _ _ => ex_ext rfl rfl rfl) (by exact hS) ?_
                  simp only [Act.put, List.setIfInBounds_toArray, List.set_cons_succ, List.set_cons_zero]
                  refine wpAnyH_take_d 11 (some 11) (.int .i64 j) rfl (by kernel_rfl) (by kernel_rfl) (by kernel_rfl) (by kernel_rfl) rfl (fun _ _ _ h => h) (fun _ _ => by kernel_rfl) (by exact hS) ?_
                  simp only [Act.put, List.setIfInBounds_toArray, List.set_cons_succ, List.set_cons_zero]
                  refine wpAnyH_take_d 12 (some 12) (.int .i64 0) rfl (by kernel_rfl) (by kernel_rfl) (by kernel_rfl) (by kernel_rfl) rfl (fun _ _ _ h => h) (fun _ _ => by kernel_rfl) (by exact hS) ?_
                  simp only [Act.put, List.setIfInBounds_toArray, List.set_cons_succ, List.set_cons_zero]
                  refine wpAnyH_done (by kernel_rfl) ?_ _
                  have bj' := bj.trans (hS.mono bj.size)
                  clear hS b10
                  go_wp2
                  go_roundw
                  case rel => exact ⟨j + 1, by omega, by go_num, bj'⟩
                  case measure => simp [intOf]; omega
                · have hbF := HB8.out.trans (bj.mono HB8.out.size)
                  have nF := Lib.hid ((N8.out.below bj).more bj.size)
                  clear bj
                  go_wp2
                  go_roundw
                  case rel => exact ⟨k + 1, L, _, _, _, _, _, _, _, _, _, by omega, by go_num, HOKP, HLK.out, hPj, nF, hbF⟩
                  case measure => simp [intOf]; omega
        · have PLv := PL.out ⟨x, ⟨#[]⟩⟩
          have PC := Lib.hid (fun (w' : World) (h : Below wr.heap.size wr w') => put_any ((ND.out.below h).more h.size) ⟨x, ⟨#[]⟩⟩)
          have RG := Lib.hid (fun (w' : World) (h : Below wr.heap.size wr w') => range4 ((h.block P hPr).trans hP))
          have C1 := Lib.hid (fun (w' : World) (h : Below wr.heap.size wr w') => (h.cell (p := ⟨b, off + k, none⟩) hBr).trans d1)
          have hS0 : Below wr.heap.size wr wr.drew := (Below.refl _ _).drew
          simp only at PLv
          cases hgood : (okK x && decide ((⟨#[]⟩ : ByteArray).size ≤ 48))
          · rw [hgood] at PLv
            simp only [Bool.false_eq_true, if_false] at PLv
            rw [PLv] at PC
            clear PLv
            go_wp2_with fail
            have hS := hS0
            refine wp_region_held_drew (S := fun w' => Below wr.heap.size wr w') mixed hS (fun _ => ?_)
            show wpAnyH _ _ _ _ _ 14 (Array.replicate 14 false) _ _
            refine wpAnyH_take_d 0 (some 35) (.agg #[.bool true, .slice pa pm pc, .slice ea em ec, .slice fa fm fc]) rfl (by kernel_rfl) (by kernel_rfl) (by kernel_rfl) (by kernel_rfl) rfl (fun _ _ _ h => h) (fun w' h => ex_row rfl rfl (RG.out _ h) Try.underlying32 rfl (by kernel_rfl)) (by exact hS) ?_
            simp only [Act.put, List.setIfInBounds_toArray, List.set_cons_succ, List.set_cons_zero]
            refine wpAnyH_take_d 1 (some 36) (.slice (some ⟨b, off, none⟩) km kc) rfl (by kernel_rfl) (by kernel_rfl) (by kernel_rfl) (by kernel_rfl) rfl (fun _ _ _ h => h) (fun _ _ => by kernel_rfl) (by exact hS) ?_
            simp only [Act.put, List.setIfInBounds_toArray, List.set_cons_succ, List.set_cons_zero]
            refine wpAnyH_take_d 2 (some 37) (.int .i64 k) rfl (by kernel_rfl) (by kernel_rfl) (by kernel_rfl) (by kernel_rfl) rfl (fun _ _ _ h => h) (fun _ _ => by kernel_rfl) (by exact hS) ?_
            simp only [Act.put, List.setIfInBounds_toArray, List.set_cons_succ, List.set_cons_zero]
            refine wpAnyH_take_d 3 (some 38) (.pointer (some ⟨b, off + k, none⟩)) rfl (by kernel_rfl) (by kernel_rfl) (by kernel_rfl) (by kernel_rfl) rfl (fun _ _ _ h => h) (fun _ _ => ex_index1 rfl rfl rfl c1 Try.underlying23 (by kernel_rfl)) (by exact hS) ?_
            simp only [Act.put, List.setIfInBounds_toArray, List.set_cons_succ, List.set_cons_zero]
            refine wpAnyH_take_d 4 (some 39) (.string x) rfl (by kernel_rfl) (by kernel_rfl) (by kernel_rfl) (by kernel_rfl) rfl (fun _ _ _ h => h) (fun w' h => exec_load_cell rfl rfl (C1.out _ h) Try.underlying9 rfl) (by exact hS) ?_
            simp only [Act.put, List.setIfInBounds_toArray, List.set_cons_succ, List.set_cons_zero]
            refine wpAnyH_take_d 5 (some 40) (.string ⟨#[]⟩) rfl (by kernel_rfl) (by kernel_rfl) (by kernel_rfl) (by kernel_rfl) rfl (fun _ _ _ h => h) (fun _ _ => by kernel_rfl) (by exact hS) ?_
            simp only [Act.put, List.setIfInBounds_toArray, List.set_cons_succ, List.set_cons_zero]
            refine wpAnyH_take_d 6 (some 41) (prV ⟨x, ⟨#[]⟩⟩) rfl (by kernel_rfl) (by kernel_rfl) (by kernel_rfl) (by kernel_rfl) rfl (fun _ _ _ h => h) (fun w' _ => ex_buildl rfl rfl rfl (build_pr x ⟨#[]⟩ w')) (by exact hS) ?_
            simp only [Act.put, List.setIfInBounds_toArray, List.set_cons_succ, List.set_cons_zero]
            -- left: [(7, ('42', 'Op.call { value (Operand.func 27), args := #[t35, t41], argTypes := #[32, 50] }', None)), (8, ('34', 'Op.move t42', None)), (9, ('43', 'Op.extract t34 0', None)), (10, ('44', 'Op.extract t34 1', None)), (11, ('8', 'Op.alloc 32', None)), (12, ('none', 'Op.store 32 t8 t43', None)), (13, ('9', 'Op.assign t44', None))]
            refine wpAnyH_call_or 7 11 (some 42) (some 8) 27 #[.agg #[.bool true, .slice pa pm pc, .slice ea em ec, .slice fa fm fc], prV ⟨x, ⟨#[]⟩⟩] (.pointer (some ⟨wr.drew.heap.size, 0, none⟩)) rfl rfl (by kernel_rfl) (by kernel_rfl) (by kernel_rfl) rfl rfl (by kernel_rfl) (PC.out _ hS0) (exec_alloc_row rfl zeroNd) (hS0.alloc (Nat.le_refl _) zNdO) ?_ ?_
            · rintro e w4 ⟨v4, rfl, ⟨pq, kq, iq, rfl, ob1, ob2, ob3⟩, b4'⟩
              obtain ⟨qa, qm, qc, rfl⟩ := ob1.slv
              obtain ⟨ra, rm, rc, rfl⟩ := ob2.slv
              obtain ⟨sa, sm, sc, rfl⟩ := ob3.slv
              have hS : Below wr.heap.size wr w4 := hS0.trans b4'
              refine ⟨_, rfl, hS, ?_⟩
              simp only [Act.put, List.setIfInBounds_toArray, List.set_cons_succ, List.set_cons_zero]
              refine wpAnyH_take_d 8 (some 34) (.tuple #[.agg #[.bool false, .slice qa qm qc, .slice ra rm rc, .slice sa sm sc], .int .i64 2]) rfl (by kernel_rfl) (by kernel_rfl) (by kernel_rfl) (by kernel_rfl) rfl (fun _ _ _ h => h) (fun _ _ => by kernel_rfl) (by exact hS) ?_
              simp only [Act.put, List.setIfInBounds_toArray, List.set_cons_succ, List.set_cons_zero]
              refine wpAnyH_take_d 9 (some 43) (.agg #[.bool false, .slice qa qm qc, .slice ra rm rc, .slice sa sm sc]) rfl (by kernel_rfl) (by kernel_rfl) (by kernel_rfl) (by kernel_rfl) rfl (fun _ _ _ h => h) (fun _ _ => ex_ext rfl rfl rfl) (by exact hS) ?_
              simp only [Act.put, List.setIfInBounds_toArray, List.set_cons_succ, List.set_cons_zero]
              refine wpAnyH_take_d 10 (some 44) (.int .i64 2) rfl (by kernel_rfl) (by kernel_rfl) (by kernel_rfl) (by kernel_rfl) rfl (fun _ _ _ h => h) (fun _ _ => ex_ext rfl rfl rfl) (by exact hS) ?_
              simp only [Act.put, List.setIfInBounds_toArray, List.set_cons_succ, List.set_cons_zero]
              -- left: [(11, ('8', 'Op.alloc 32', None)), (12, ('none', 'Op.store 32 t8 t43', None)), (13, ('9', 'Op.assign t44', None))]
              obtain ⟨Q, hQe⟩ : ∃ Q, w4.heap.size = Q := ⟨_, rfl⟩
              obtain ⟨w5, hw5⟩ : ∃ w5, w4.alloc zNdO = w5 := ⟨_, rfl⟩
              have hal : ∀ {ρ : Operand → Value} {o : Oper}, o.op = .alloc 32 → (execOp ρ o).run Try.prog w4 = .ok (.value (.pointer (some ⟨Q, 0, none⟩))) w5 := fun ho => by rw [← hw5, ← hQe]; exact exec_alloc_row ho zeroNd
              have hQ5 : w5.heap[Q]? = some zNdO := by rw [← hw5, ← hQe]; exact heap_alloc_new w4 _
              have b45 : Below w4.heap.size w4 w5 := by rw [← hw5]; exact below_new w4 _
              have hS5 : Below wr.heap.size wr w5 := hS.trans (b45.mono hS.size)
              have hwQ : wr.heap.size ≤ Q := by rw [← hQe]; exact hS.size
              have own4 : NdOwn wr.heap.size w4 (.agg #[.bool false, .slice qa qm qc, .slice ra rm rc, .slice sa sm sc]) .none := ⟨_, _, _, rfl, ob1, ob2, ob3⟩
              have own5 : ∀ cs, NdOwn wr.heap.size (w5.setRow Q cs) (.agg #[.bool false, .slice qa qm qc, .slice ra rm rc, .slice sa sm sc]) .none := fun cs => own4.below (below_setRow' b45 (by rw [hQe]; exact Nat.le_refl _) cs)
              have hS := hS5
              refine wpAnyH_one 11 (some 8) (.pointer (some ⟨Q, 0, none⟩)) rfl (by kernel_rfl) (by kernel_rfl) rfl (hal rfl) (by exact hS) ?_
              simp only [Act.put, List.setIfInBounds_toArray, List.set_cons_succ, List.set_cons_zero]
              clear hw5 hQe ob1 ob2 ob3 b4' b45 hS5 own4
              refine wpAnyH_one_skip 12 rfl (by kernel_rfl) (by kernel_rfl) (ex_store_row rfl rfl rfl hQ5 (by kernel_rfl) rfl (by simp [Value.oneCell'])) (below_setRow' hS hwQ _) ?_
              simp only [Act.put, List.setIfInBounds_toArray]
              have hS := below_setRow' hS hwQ #[.bool false, .slice qa qm qc, .slice ra rm rc, .slice sa sm sc]
              refine wpAnyH_take_d 13 (some 9) (.int .i64 2) rfl (by kernel_rfl) (by kernel_rfl) (by kernel_rfl) (by kernel_rfl) rfl (fun _ _ _ h => h) (fun _ _ => by kernel_rfl) (by exact hS) ?_
              refine wpAnyH_done (by kernel_rfl) ?_ _
              have hQ6' := setRow_heap w5 Q _ #[.bool false, .slice qa qm qc, .slice ra rm rc, .slice sa sm sc] _ _ hQ5
              have own6 : NdOwn wr.heap.size (w5.setRow Q #[.bool false, .slice qa qm qc, .slice ra rm rc, .slice sa sm sc]) (.agg #[.bool false, .slice qa qm qc, .slice ra rm rc, .slice sa sm sc]) .none := own5 _
              obtain ⟨w6, hw6⟩ : ∃ w6, w5.setRow Q #[.bool false, .slice qa qm qc, .slice ra rm rc, .slice sa sm sc] = w6 := ⟨_, rfl⟩
              rw [hw6] at hS hQ6' own6 ⊢
              clear hQ5 own5 hwQ hw6
              have hP6 := (hS.block P hPr).trans hP
              have d6 := C1.out _ hS
              have hb6 := hb.trans (hS.mono hb.size)
              have nd6 : Hid (NdAt w6.heap.size w6 (.agg #[.bool true, .slice pa pm pc, .slice ea em ec, .slice fa fm fc]) (Go.Proofs.Ytjhhcikhgkkjmaa.lf l)) := Lib.hid ((ND.out.below hS).more hS.size)
              clear hS own6
              cases hkx : okK x
              · have rk := refKey_any x w6
                rw [hkx] at rk
                clear hgood hkx
                go_wp2_with fail
                refine Calls.mono rk ?_
                rintro e _ ⟨rfl, rfl⟩
                go_wp2
                go_roundw
                case rel => exact ⟨k + 1, l, _, _, _, _, _, _, _, _, _, by omega, by go_num, hok, by omega, hP6, nd6, hb6⟩
                case measure => simp [intOf]; omega
              · rw [hkx] at hgood
                exact absurd hgood (by decide)
            · skip
              simp only [Act.put, List.setIfInBounds_toArray, List.set_cons_succ, List.set_cons_zero]
              have hQ4 := heap_alloc_new wr.drew zNdO
              have bA : Below wr.heap.size wr (wr.drew.alloc zNdO) := hS0.alloc (Nat.le_refl _) zNdO
              have hS := bA
              refine wpAnyH_call 7 (some 42) 27 #[.agg #[.bool true, .slice pa pm pc, .slice ea em ec, .slice fa fm fc], prV ⟨x, ⟨#[]⟩⟩] rfl (by kernel_rfl) (by kernel_rfl) rfl (by kernel_rfl) (PC.out _ bA) ?_
              rintro e w5 ⟨v4, rfl, ⟨pq, kq, iq, rfl, ob1, ob2, ob3⟩, b4'⟩
              obtain ⟨qa, qm, qc, rfl⟩ := ob1.slv
              obtain ⟨ra, rm, rc, rfl⟩ := ob2.slv
              obtain ⟨sa, sm, sc, rfl⟩ := ob3.slv
              have hS : Below wr.heap.size wr w5 := bA.trans (b4'.mono bA.size)
              refine ⟨_, rfl, hS, ?_⟩
              simp only [Act.put, List.setIfInBounds_toArray, List.set_cons_succ, List.set_cons_zero]
              have hQ5 : w5.heap[wr.drew.heap.size]? = some zNdO := (b4'.block _ (lt_of_heap hQ4)).trans hQ4
              have hbs : wr.drew.heap.size < (wr.drew.alloc zNdO).heap.size := lt_of_heap hQ4
              obtain ⟨Q, hQe⟩ : ∃ Q, wr.drew.heap.size = Q := ⟨_, rfl⟩
              rw [hQe] at hQ5 hbs ⊢
              have hwQ : wr.heap.size ≤ Q := by rw [← hQe]; exact Nat.le_refl _
              have own5 : ∀ cs, NdOwn wr.heap.size (w5.setRow Q cs) (.agg #[.bool false, .slice qa qm qc, .slice ra rm rc, .slice sa sm sc]) .none := fun cs => ⟨_, _, _, rfl, (ob1.keepg hbs (fun k hk => setRow_other w5 Q k cs hk)).base bA.size, (ob2.keepg hbs (fun k hk => setRow_other w5 Q k cs hk)).base bA.size, (ob3.keepg hbs (fun k hk => setRow_other w5 Q k cs hk)).base bA.size⟩
              refine wpAnyH_take_d 8 (some 34) (.tuple #[.agg #[.bool false, .slice qa qm qc, .slice ra rm rc, .slice sa sm sc], .int .i64 2]) rfl (by kernel_rfl) (by kernel_rfl) (by kernel_rfl) (by kernel_rfl) rfl (fun _ _ _ h => h) (fun _ _ => by kernel_rfl) (by exact hS) ?_
              simp only [Act.put, List.setIfInBounds_toArray, List.set_cons_succ, List.set_cons_zero]
              refine wpAnyH_take_d 9 (some 43) (.agg #[.bool false, .slice qa qm qc, .slice ra rm rc, .slice sa sm sc]) rfl (by kernel_rfl) (by kernel_rfl) (by kernel_rfl) (by kernel_rfl) rfl (fun _ _ _ h => h) (fun _ _ => ex_ext rfl rfl rfl) (by exact hS) ?_
              simp only [Act.put, List.setIfInBounds_toArray, List.set_cons_succ, List.set_cons_zero]
              refine wpAnyH_take_d 10 (some 44) (.int .i64 2) rfl (by kernel_rfl) (by kernel_rfl) (by kernel_rfl) (by kernel_rfl) rfl (fun _ _ _ h => h) (fun _ _ => ex_ext rfl rfl rfl) (by exact hS) ?_
              simp only [Act.put, List.setIfInBounds_toArray, List.set_cons_succ, List.set_cons_zero]
              -- left: [(12, ('none', 'Op.store 32 t8 t43', None)), (13, ('9', 'Op.assign t44', None))]
              clear hQ4 bA b4' ob1 ob2 ob3 hbs hQe
              refine wpAnyH_one_skip 12 rfl (by kernel_rfl) (by kernel_rfl) (ex_store_row rfl rfl rfl hQ5 (by kernel_rfl) rfl (by simp [Value.oneCell'])) (below_setRow' hS hwQ _) ?_
              simp only [Act.put, List.setIfInBounds_toArray]
              have hS := below_setRow' hS hwQ #[.bool false, .slice qa qm qc, .slice ra rm rc, .slice sa sm sc]
              refine wpAnyH_take_d 13 (some 9) (.int .i64 2) rfl (by kernel_rfl) (by kernel_rfl) (by kernel_rfl) (by kernel_rfl) rfl (fun _ _ _ h => h) (fun _ _ => by kernel_rfl) (by exact hS) ?_
              refine wpAnyH_done (by kernel_rfl) ?_ _
              have hQ6' := setRow_heap w5 Q _ #[.bool false, .slice qa qm qc, .slice ra rm rc, .slice sa sm sc] _ _ hQ5
              have own6 : NdOwn wr.heap.size (w5.setRow Q #[.bool false, .slice qa qm qc, .slice ra rm rc, .slice sa sm sc]) (.agg #[.bool false, .slice qa qm qc, .slice ra rm rc, .slice sa sm sc]) .none := own5 _
              obtain ⟨w6, hw6⟩ : ∃ w6, w5.setRow Q #[.bool false, .slice qa qm qc, .slice ra rm rc, .slice sa sm sc] = w6 := ⟨_, rfl⟩
              rw [hw6] at hS hQ6' own6 ⊢
              clear hQ5 own5 hwQ hw6
              have hP6 := (hS.block P hPr).trans hP
              have d6 := C1.out _ hS
              have hb6 := hb.trans (hS.mono hb.size)
              have nd6 : Hid (NdAt w6.heap.size w6 (.agg #[.bool true, .slice pa pm pc, .slice ea em ec, .slice fa fm fc]) (Go.Proofs.Ytjhhcikhgkkjmaa.lf l)) := Lib.hid ((ND.out.below hS).more hS.size)
              clear hS own6
              cases hkx : okK x
              · have rk := refKey_any x w6
                rw [hkx] at rk
                clear hgood hkx
                go_wp2_with fail
                refine Calls.mono rk ?_
                rintro e _ ⟨rfl, rfl⟩
                go_wp2
                go_roundw
                case rel => exact ⟨k + 1, l, _, _, _, _, _, _, _, _, _, by omega, by go_num, hok, by omega, hP6, nd6, hb6⟩
                case measure => simp [intOf]; omega
              · rw [hkx] at hgood
                exact absurd hgood (by decide)
          · rw [hgood] at PLv
            simp only [if_true] at PLv
            rw [PLv] at PC
            have hokp : okN (Go.Proofs.Ytjhhcikhgkkjmaa.lf (putL l ⟨x, ⟨#[]⟩⟩)) = true := by
              rcases putN_cases (Go.Proofs.Ytjhhcikhgkkjmaa.lf l) ⟨x, ⟨#[]⟩⟩ with h | ⟨-, -, h, -⟩
              · rw [h] at PLv; cases PLv
              · exact h
            have hlp := PLL.out ⟨x, ⟨#[]⟩⟩
            rw [Bool.and_eq_true, decide_eq_true_eq] at hgood
            obtain ⟨hkx, hv48⟩ := hgood
            have hgt : ¬ (48 : Int) < ((⟨#[]⟩ : ByteArray).size : Int) := by omega
            obtain ⟨L, hL⟩ : ∃ L, putL l ⟨x, ⟨#[]⟩⟩ = L := ⟨_, rfl⟩
            rw [hL] at hokp hlp PC
            have HOKP := Lib.hid hokp
            clear PLv hL hokp
            go_wp2_with fail
            have hS := hS0
            refine wp_region_held_drew (S := fun w' => Below wr.heap.size wr w') mixed hS (fun _ => ?_)
            show wpAnyH _ _ _ _ _ 14 (Array.replicate 14 false) _ _
            refine wpAnyH_take_d 0 (some 35) (.agg #[.bool true, .slice pa pm pc, .slice ea em ec, .slice fa fm fc]) rfl (by kernel_rfl) (by kernel_rfl) (by kernel_rfl) (by kernel_rfl) rfl (fun _ _ _ h => h) (fun w' h => ex_row rfl rfl (RG.out _ h) Try.underlying32 rfl (by kernel_rfl)) (by exact hS) ?_
            simp only [Act.put, List.setIfInBounds_toArray, List.set_cons_succ, List.set_cons_zero]
            refine wpAnyH_take_d 1 (some 36) (.slice (some ⟨b, off, none⟩) km kc) rfl (by kernel_rfl) (by kernel_rfl) (by kernel_rfl) (by kernel_rfl) rfl (fun _ _ _ h => h) (fun _ _ => by kernel_rfl) (by exact hS) ?_
            simp only [Act.put, List.setIfInBounds_toArray, List.set_cons_succ, List.set_cons_zero]
            refine wpAnyH_take_d 2 (some 37) (.int .i64 k) rfl (by kernel_rfl) (by kernel_rfl) (by kernel_rfl) (by kernel_rfl) rfl (fun _ _ _ h => h) (fun _ _ => by kernel_rfl) (by exact hS) ?_
            simp only [Act.put, List.setIfInBounds_toArray, List.set_cons_succ, List.set_cons_zero]
            refine wpAnyH_take_d 3 (some 38) (.pointer (some ⟨b, off + k, none⟩)) rfl (by kernel_rfl) (by kernel_rfl) (by kernel_rfl) (by kernel_rfl) rfl (fun _ _ _ h => h) (fun _ _ => ex_index1 rfl rfl rfl c1 Try.underlying23 (by kernel_rfl)) (by exact hS) ?_
            simp only [Act.put, List.setIfInBounds_toArray, List.set_cons_succ, List.set_cons_zero]
            refine wpAnyH_take_d 4 (some 39) (.string x) rfl (by kernel_rfl) (by kernel_rfl) (by kernel_rfl) (by kernel_rfl) rfl (fun _ _ _ h => h) (fun w' h => exec_load_cell rfl rfl (C1.out _ h) Try.underlying9 rfl) (by exact hS) ?_
            simp only [Act.put, List.setIfInBounds_toArray, List.set_cons_succ, List.set_cons_zero]
            refine wpAnyH_take_d 5 (some 40) (.string ⟨#[]⟩) rfl (by kernel_rfl) (by kernel_rfl) (by kernel_rfl) (by kernel_rfl) rfl (fun _ _ _ h => h) (fun _ _ => by kernel_rfl) (by exact hS) ?_
            simp only [Act.put, List.setIfInBounds_toArray, List.set_cons_succ, List.set_cons_zero]
            refine wpAnyH_take_d 6 (some 41) (prV ⟨x, ⟨#[]⟩⟩) rfl (by kernel_rfl) (by kernel_rfl) (by kernel_rfl) (by kernel_rfl) rfl (fun _ _ _ h => h) (fun w' _ => ex_buildl rfl rfl rfl (build_pr x ⟨#[]⟩ w')) (by exact hS) ?_
            simp only [Act.put, List.setIfInBounds_toArray, List.set_cons_succ, List.set_cons_zero]
            -- left: [(7, ('42', 'Op.call { value (Operand.func 27), args := #[t35, t41], argTypes := #[32, 50] }', None)), (8, ('34', 'Op.move t42', None)), (9, ('43', 'Op.extract t34 0', None)), (10, ('44', 'Op.extract t34 1', None)), (11, ('8', 'Op.alloc 32', None)), (12, ('none', 'Op.store 32 t8 t43', None)), (13, ('9', 'Op.assign t44', None))]
            refine wpAnyH_call_or 7 11 (some 42) (some 8) 27 #[.agg #[.bool true, .slice pa pm pc, .slice ea em ec, .slice fa fm fc], prV ⟨x, ⟨#[]⟩⟩] (.pointer (some ⟨wr.drew.heap.size, 0, none⟩)) rfl rfl (by kernel_rfl) (by kernel_rfl) (by kernel_rfl) rfl rfl (by kernel_rfl) (PC.out _ hS0) (exec_alloc_row rfl zeroNd) (hS0.alloc (Nat.le_refl _) zNdO) ?_ ?_
            · rintro e w4 ⟨v4, rfl, ⟨pq, kq, iq, rfl, ob1, ob2, ob3⟩, b4'⟩
              obtain ⟨qa, qm, qc, rfl⟩ := ob1.slv
              obtain ⟨ra, rm, rc, rfl⟩ := ob2.slv
              obtain ⟨sa, sm, sc, rfl⟩ := ob3.slv
              have hS : Below wr.heap.size wr w4 := hS0.trans b4'
              refine ⟨_, rfl, hS, ?_⟩
              simp only [Act.put, List.setIfInBounds_toArray, List.set_cons_succ, List.set_cons_zero]
              refine wpAnyH_take_d 8 (some 34) (.tuple #[.agg #[.bool true, .slice qa qm qc, .slice ra rm rc, .slice sa sm sc], .int .i64 0]) rfl (by kernel_rfl) (by kernel_rfl) (by kernel_rfl) (by kernel_rfl) rfl (fun _ _ _ h => h) (fun _ _ => by kernel_rfl) (by exact hS) ?_
              simp only [Act.put, List.setIfInBounds_toArray, List.set_cons_succ, List.set_cons_zero]
              refine wpAnyH_take_d 9 (some 43) (.agg #[.bool true, .slice qa qm qc, .slice ra rm rc, .slice sa sm sc]) rfl (by kernel_rfl) (by kernel_rfl) (by kernel_rfl) (by kernel_rfl) rfl (fun _ _ _ h => h) (fun _ _ => ex_ext rfl rfl rfl) (by exact hS) ?_
              simp only [Act.put, List.setIfInBounds_toArray, List.set_cons_succ, List.set_cons_zero]
              refine wpAnyH_take_d 10 (some 44) (.int .i64 0) rfl (by kernel_rfl) (by kernel_rfl) (by kernel_rfl) (by kernel_rfl) rfl (fun _ _ _ h => h) (fun _ _ => ex_ext rfl rfl rfl) (by exact hS) ?_
              simp only [Act.put, List.setIfInBounds_toArray, List.set_cons_succ, List.set_cons_zero]
              -- left: [(11, ('8', 'Op.alloc 32', None)), (12, ('none', 'Op.store 32 t8 t43', None)), (13, ('9', 'Op.assign t44', None))]
              obtain ⟨Q, hQe⟩ : ∃ Q, w4.heap.size = Q := ⟨_, rfl⟩
              obtain ⟨w5, hw5⟩ : ∃ w5, w4.alloc zNdO = w5 := ⟨_, rfl⟩
              have hal : ∀ {ρ : Operand → Value} {o : Oper}, o.op = .alloc 32 → (execOp ρ o).run Try.prog w4 = .ok (.value (.pointer (some ⟨Q, 0, none⟩))) w5 := fun ho => by rw [← hw5, ← hQe]; exact exec_alloc_row ho zeroNd
              have hQ5 : w5.heap[Q]? = some zNdO := by rw [← hw5, ← hQe]; exact heap_alloc_new w4 _
              have b45 : Below w4.heap.size w4 w5 := by rw [← hw5]; exact below_new w4 _
              have hS5 : Below wr.heap.size wr w5 := hS.trans (b45.mono hS.size)
              have hwQ : wr.heap.size ≤ Q := by rw [← hQe]; exact hS.size
              have own4 : NdOwn wr.heap.size w4 (.agg #[.bool true, .slice qa qm qc, .slice ra rm rc, .slice sa sm sc]) (Go.Proofs.Ytjhhcikhgkkjmaa.lf L) := ⟨_, _, _, rfl, ob1, ob2, ob3⟩
              have own5 : ∀ cs, NdOwn wr.heap.size (w5.setRow Q cs) (.agg #[.bool true, .slice qa qm qc, .slice ra rm rc, .slice sa sm sc]) (Go.Proofs.Ytjhhcikhgkkjmaa.lf L) := fun cs => own4.below (below_setRow' b45 (by rw [hQe]; exact Nat.le_refl _) cs)
              have hS := hS5
              refine wpAnyH_one 11 (some 8) (.pointer (some ⟨Q, 0, none⟩)) rfl (by kernel_rfl) (by kernel_rfl) rfl (hal rfl) (by exact hS) ?_
              simp only [Act.put, List.setIfInBounds_toArray, List.set_cons_succ, List.set_cons_zero]
              clear hw5 hQe ob1 ob2 ob3 b4' b45 hS5 own4
              refine wpAnyH_one_skip 12 rfl (by kernel_rfl) (by kernel_rfl) (ex_store_row rfl rfl rfl hQ5 (by kernel_rfl) rfl (by simp [Value.oneCell'])) (below_setRow' hS hwQ _) ?_
              simp only [Act.put, List.setIfInBounds_toArray]
              have hS := below_setRow' hS hwQ #[.bool true, .slice qa qm qc, .slice ra rm rc, .slice sa sm sc]
              refine wpAnyH_take_d 13 (some 9) (.int .i64 0) rfl (by kernel_rfl) (by kernel_rfl) (by kernel_rfl) (by kernel_rfl) rfl (fun _ _ _ h => h) (fun _ _ => by kernel_rfl) (by exact hS) ?_
              refine wpAnyH_done (by kernel_rfl) ?_ _
              have hQ6' := setRow_heap w5 Q _ #[.bool true, .slice qa qm qc, .slice ra rm rc, .slice sa sm sc] _ _ hQ5
              have own6 : NdOwn wr.heap.size (w5.setRow Q #[.bool true, .slice qa qm qc, .slice ra rm rc, .slice sa sm sc]) (.agg #[.bool true, .slice qa qm qc, .slice ra rm rc, .slice sa sm sc]) (Go.Proofs.Ytjhhcikhgkkjmaa.lf L) := own5 _
              obtain ⟨w6, hw6⟩ : ∃ w6, w5.setRow Q #[.bool true, .slice qa qm qc, .slice ra rm rc, .slice sa sm sc] = w6 := ⟨_, rfl⟩
              rw [hw6] at hS hQ6' own6 ⊢
              clear hQ5 own5 hwQ hw6
              have hsm : (Go.Proofs.Ytjhhcikhgkkjmaa.lf L).small := leaf_small (by omega)
              have nd6 := own6.at hsm
              have hP6 := (hS.block P hPr).trans hP
              have d6 := C1.out _ hS
              have hb6 := hb.trans (hS.mono hb.size)
              obtain ⟨t0, t1, t2, t3⟩ := NdCells.of hQ6'
              have rk := refKey_any x w6
              rw [hkx] at rk
              have ck := check_any nd6
              rw [HOKP.out] at ck
              clear hS hkx nd6
              go_wp2_with fail
              refine Calls.mono rk ?_
              rintro e _ ⟨rfl, rfl⟩
              go_wp2_with fail
              refine Calls.mono ck ?_
              rintro e w7 ⟨rfl, b7⟩
              have hP7 := (b7.block P (lt_of_heap hP6)).trans hP6
              have hQ7 := (b7.block Q (lt_of_heap hQ6')).trans hQ6'
              have own7 := own6.below b7
              have hb7 := hb6.trans (b7.mono hb6.size)
              clear rk ck b7 hP6 hQ6' own6 hb6 t0 t1 t2 t3 d6
              obtain ⟨t0, t1, t2, t3⟩ := NdCells.of hQ7
              have ND0 := ND
              have HB0 := Lib.hid hb
              have HP0 := Lib.hid hP
              clear hP hb d1 ND
              go_wp2_with (with_reducible refine wpList_store_nd rfl (.tmp 5) (.tmp 65) rfl P true (.slice qa qm qc) (.slice ra rm rc) (.slice sa sm sc) rfl rfl #[.bool true, .slice pa pm pc, .slice ea em ec, .slice fa fm fc] hP7 rfl (.mk _ _ _) (.mk _ _ _) (.mk _ _ _) hb7 hsa ?_)
              rintro w8 - hP8 hb8 hkk
              have nd8 : NdAt w8.heap.size w8 (.agg #[.bool true, .slice qa qm qc, .slice ra rm rc, .slice sa sm sc]) (Go.Proofs.Ytjhhcikhgkkjmaa.lf L) := by
                obtain ⟨p9, k9, j9, he9, o1, o2, o3⟩ := own7
                exact NdOwn.at ⟨p9, k9, j9, he9, o1.keepg hPr hkk, o2.keepg hPr hkk, o3.keepg hPr hkk⟩ hsm
              have N8 := Lib.hid nd8
              obtain ⟨p9, k9, j9, he9, hs9, -, -⟩ := nd8
              have e9 : p9 = .slice qa qm qc := by injection he9 with he9; have := congrArg (fun a => a[1]?) he9; simpa using this.symm
              rw [e9] at hs9
              have hs9' : SlAt elP w8.heap.size w8 (.slice qa qm qc) L := hs9
              have HQM : Hid (qm = L.length) := Lib.hid (by obtain ⟨_, _, e8, _⟩ := hs9'; cases e8; rfl)
              have hqm255 : qm ≤ 255 := by rw [HQM.out]; omega
              have HS9 := Lib.hid hs9'
              have hP8l := lt_of_heap hP8
              have PX := Lib.hid (fun (w' : World) (b : Below w8.heap.size w8 w') => (b.block P hP8l).trans hP8)
              have FD := Lib.hid (fun (w' : World) (j : Nat) (hj : j < L.length) (b : Below w8.heap.size w8 w') => find_self ((N8.out.below b).more b.size) HOKP.out hj)
              obtain ⟨t0, t1, t2, t3⟩ := NdCells.of hP8
              have h88 : Below w8.heap.size w8 w8 := Below.refl _ _
              have HB8 := Lib.hid hb8
              have HLK : Hid (L.length ≤ k + 1) := Lib.hid (by omega)
              clear hs9 hs9' he9 e9 own7 hQ7 hP7 hb7 hkk hP8 hlp hv48 hP8l hb8
              go_wp2
              go_loopw [10] (fun jv wr' => ∃ j : Nat, j ≤ qm ∧ jv = .int .i64 j ∧ Below w8.heap.size w8 wr') (fun jv _ => qm - (intOf jv).toNat)
              case atStart => exact ⟨0, Nat.zero_le _, rfl, h88⟩
              case round =>
                clear h88 t0 t1 t2 t3
                obtain ⟨j, hj, rfl, bj⟩ := hrel
                have hPj := PX.out _ bj
                obtain ⟨t0, t1, t2, t3⟩ := NdCells.of hPj
                by_cases hlt : j < qm
                · have hjl : j < L.length := by rw [← HQM.out]; exact hlt
                  obtain ⟨gb, goff, gcap, hv9, hB9, hc9, -⟩ := HS9.out.getP hjl
                  obtain ⟨rfl, -, rfl⟩ : qa = some ⟨gb, goff, none⟩ ∧ qm = L.length ∧ qc = gcap := by cases hv9; exact ⟨rfl, rfl, rfl⟩
                  have fd := FD.out wr.drew j hjl (bj.drew)
                  have g1 := (bj.cell (p := ⟨gb, goff + j * 2, none⟩) hB9).trans hc9
                  have hgb : gb < wr.heap.size := Nat.lt_of_lt_of_le hB9 bj.size
                  have hPl := lt_of_heap hPj
                  generalize (prAt L j).k = kk at *
                  have RG2 := Lib.hid (fun (w' : World) (h : Below wr.heap.size wr w') => range4 ((h.block P hPl).trans hPj))
                  have CC := Lib.hid (fun (w' : World) (h : Below wr.heap.size wr w') => NdCells.of ((h.block P hPl).trans hPj))
                  have KK := Lib.hid (fun (w' : World) (h : Below wr.heap.size wr w') => (h.cell (p := ⟨gb, goff + j * 2, none⟩) hgb).trans g1)
                  have FDH := Lib.hid fd
                  clear hv9 hc9 fd t0 t2 t3 g1 hPj
                  go_wp2_with fail
                  have hS : Below wr.heap.size wr wr.drew := (Below.refl _ _).drew
                  refine wp_region_held_drew (S := fun w' => Below wr.heap.size wr w') mixed hS (fun _ => ?_)
                  show wpAnyH _ _ _ _ _ 13 (Array.replicate 13 false) _ _
                  refine wpAnyH_take_d 0 (some 74) (.agg #[.bool true, .slice (some ⟨gb, goff, none⟩) qm qc, .slice ra rm rc, .slice sa sm sc]) rfl (by kernel_rfl) (by kernel_rfl) (by kernel_rfl) (by kernel_rfl) rfl (fun _ _ _ h => h) (fun w' h => ex_row rfl rfl (RG2.out _ h) Try.underlying32 rfl (by kernel_rfl)) (by exact hS) ?_
                  simp only [Act.put, List.setIfInBounds_toArray, List.set_cons_succ, List.set_cons_zero]
                  refine wpAnyH_take_d 1 (some 75) (.pointer (some ⟨P, 1, none⟩)) rfl (by kernel_rfl) (by kernel_rfl) (by kernel_rfl) (by kernel_rfl) rfl (fun _ _ _ h => h) (fun _ _ => by kernel_rfl) (by exact hS) ?_
                  simp only [Act.put, List.setIfInBounds_toArray, List.set_cons_succ, List.set_cons_zero]
                  refine wpAnyH_take_d 2 (some 76) (.slice (some ⟨gb, goff, none⟩) qm qc) rfl (by kernel_rfl) (by kernel_rfl) (by kernel_rfl) (by kernel_rfl) rfl (fun _ _ _ h => h) (fun w' h => exec_load_cell rfl rfl (CC.out _ h).c1 Try.underlying22 rfl) (by exact hS) ?_
                  simp only [Act.put, List.setIfInBounds_toArray, List.set_cons_succ, List.set_cons_zero]
                  refine wpAnyH_take_d 3 (some 77) (.int .i64 j) rfl (by kernel_rfl) (by kernel_rfl) (by kernel_rfl) (by kernel_rfl) rfl (fun _ _ _ h => h) (fun _ _ => by kernel_rfl) (by exact hS) ?_
                  simp only [Act.put, List.setIfInBounds_toArray, List.set_cons_succ, List.set_cons_zero]
                  refine wpAnyH_take_d 4 (some 78) (.pointer (some ⟨gb, goff + j * 2, none⟩)) rfl (by kernel_rfl) (by kernel_rfl) (by kernel_rfl) (by kernel_rfl) rfl (fun _ _ _ h => h) (fun _ _ => ex_index 2 rfl rfl rfl hlt Try.underlying22 szPr) (by exact hS) ?_
                  simp only [Act.put, List.setIfInBounds_toArray, List.set_cons_succ, List.set_cons_zero]
                  refine wpAnyH_take_d 5 (some 79) (.pointer (some ⟨gb, goff + j * 2, none⟩)) rfl (by kernel_rfl) (by kernel_rfl) (by kernel_rfl) (by kernel_rfl) rfl (fun _ _ _ h => h) (fun _ _ => by kernel_rfl) (by exact hS) ?_
                  simp only [Act.put, List.setIfInBounds_toArray, List.set_cons_succ, List.set_cons_zero]
                  refine wpAnyH_take_d 6 (some 80) (.string kk) rfl (by kernel_rfl) (by kernel_rfl) (by kernel_rfl) (by kernel_rfl) rfl (fun _ _ _ h => h) (fun w' h => exec_load_cell rfl rfl (KK.out _ h) Try.underlying9 rfl) (by exact hS) ?_
                  simp only [Act.put, List.setIfInBounds_toArray, List.set_cons_succ, List.set_cons_zero]
                  refine wpAnyH_call 7 (some 81) 25 #[.agg #[.bool true, .slice (some ⟨gb, goff, none⟩) qm qc, .slice ra rm rc, .slice sa sm sc], .string kk] rfl (by kernel_rfl) (by kernel_rfl) rfl (by kernel_rfl) (FDH.out) ?_
                  rintro e w10 ⟨rfl, b10⟩
                  have hS : Below wr.heap.size wr w10 := hS.trans b10
                  refine ⟨_, rfl, hS, ?_⟩
                  simp only [Act.put, List.setIfInBounds_toArray, List.set_cons_succ, List.set_cons_zero]
                  refine wpAnyH_take_d 8 (some 73) (.tuple #[.int .i64 j, .int .i64 0]) rfl (by kernel_rfl) (by kernel_rfl) (by kernel_rfl) (by kernel_rfl) rfl (fun _ _ _ h => h) (fun _ _ => by kernel_rfl) (by exact hS) ?_
                  simp only [Act.put, List.setIfInBounds_toArray, List.set_cons_succ, List.set_cons_zero]
                  refine wpAnyH_take_d 9 (some 82) (.int .i64 j) rfl (by kernel_rfl) (by kernel_rfl) (by kernel_rfl) (by kernel_rfl) rfl (fun _ _ _ h => h) (fun _ _ => ex_ext rfl rfl rfl) (by exact hS) ?_
                  simp only [Act.put, List.setIfInBounds_toArray, List.set_cons_succ, List.set_cons_zero]
                  refine wpAnyH_take_d 10 (some 83) (.int .i64 0) rfl (by kernel_rfl) (by kernel_rfl) (by kernel_rfl) (by kernel_rfl) rfl (fun _ _ _ h => h) (fun _ _ => ex_ext rfl rfl rfl) (by exact hS) ?_
                  simp only [Act.put, List.setIfInBounds_toArray, List.set_cons_succ, List.set_cons_zero]
                  refine wpAnyH_take_d 11 (some 11) (.int .i64 j) rfl (by kernel_rfl) (by kernel_rfl) (by kernel_rfl) (by kernel_rfl) rfl (fun _ _ _ h => h) (fun _ _ => by kernel_rfl) (by exact hS) ?_
                  simp only [Act.put, List.setIfInBounds_toArray, List.set_cons_succ, List.set_cons_zero]
                  refine wpAnyH_take_d 12 (some 12) (.int .i64 0) rfl (by kernel_rfl) (by kernel_rfl) (by kernel_rfl) (by kernel_rfl) rfl (fun _ _ _ h => h) (fun _ _ => by kernel_rfl) (by exact hS) ?_
                  simp only [Act.put, List.setIfInBounds_toArray, List.set_cons_succ, List.set_cons_zero]
                  refine wpAnyH_done (by kernel_rfl) ?_ _
                  have bj' := bj.trans (hS.mono bj.size)
                  clear hS b10
                  go_wp2
                  go_roundw
                  case rel => exact ⟨j + 1, by omega, by go_num, bj'⟩
                  case measure => simp [intOf]; omega
                · have hbF := HB8.out.trans (bj.mono HB8.out.size)
                  have nF := Lib.hid ((N8.out.below bj).more bj.size)
                  clear bj
                  go_wp2
                  go_roundw
                  case rel => exact ⟨k + 1, L, _, _, _, _, _, _, _, _, _, by omega, by go_num, HOKP, HLK.out, hPj, nF, hbF⟩
                  case measure => simp [intOf]; omega
            · skip
              simp only [Act.put, List.setIfInBounds_toArray, List.set_cons_succ, List.set_cons_zero]
              have hQ4 := heap_alloc_new wr.drew zNdO
              have bA : Below wr.heap.size wr (wr.drew.alloc zNdO) := hS0.alloc (Nat.le_refl _) zNdO
              have hS := bA
              refine wpAnyH_call 7 (some 42) 27 #[.agg #[.bool true, .slice pa pm pc, .slice ea em ec, .slice fa fm fc], prV ⟨x, ⟨#[]⟩⟩] rfl (by kernel_rfl) (by kernel_rfl) rfl (by kernel_rfl) (PC.out _ bA) ?_
              rintro e w5 ⟨v4, rfl, ⟨pq, kq, iq, rfl, ob1, ob2, ob3⟩, b4'⟩
              obtain ⟨qa, qm, qc, rfl⟩ := ob1.slv
              obtain ⟨ra, rm, rc, rfl⟩ := ob2.slv
              obtain ⟨sa, sm, sc, rfl⟩ := ob3.slv
              have hS : Below wr.heap.size wr w5 := bA.trans (b4'.mono bA.size)
              refine ⟨_, rfl, hS, ?_⟩
              simp only [Act.put, List.setIfInBounds_toArray, List.set_cons_succ, List.set_cons_zero]
              have hQ5 : w5.heap[wr.drew.heap.size]? = some zNdO := (b4'.block _ (lt_of_heap hQ4)).trans hQ4
              have hbs : wr.drew.heap.size < (wr.drew.alloc zNdO).heap.size := lt_of_heap hQ4
              obtain ⟨Q, hQe⟩ : ∃ Q, wr.drew.heap.size = Q := ⟨_, rfl⟩
              rw [hQe] at hQ5 hbs ⊢
              have hwQ : wr.heap.size ≤ Q := by rw [← hQe]; exact Nat.le_refl _
              have own5 : ∀ cs, NdOwn wr.heap.size (w5.setRow Q cs) (.agg #[.bool true, .slice qa qm qc, .slice ra rm rc, .slice sa sm sc]) (Go.Proofs.Ytjhhcikhgkkjmaa.lf L) := fun cs => ⟨_, _, _, rfl, (ob1.keepg hbs (fun k hk => setRow_other w5 Q k cs hk)).base bA.size, (ob2.keepg hbs (fun k hk => setRow_other w5 Q k cs hk)).base bA.size, (ob3.keepg hbs (fun k hk => setRow_other w5 Q k cs hk)).base bA.size⟩
              refine wpAnyH_take_d 8 (some 34) (.tuple #[.agg #[.bool true, .slice qa qm qc, .slice ra rm rc, .slice sa sm sc], .int .i64 0]) rfl (by kernel_rfl) (by kernel_rfl) (by kernel_rfl) (by kernel_rfl) rfl (fun _ _ _ h => h) (fun _ _ => by kernel_rfl) (by exact hS) ?_
              simp only [Act.put, List.setIfInBounds_toArray, List.set_cons_succ, List.set_cons_zero]
              refine wpAnyH_take_d 9 (some 43) (.agg #[.bool true, .slice qa qm qc, .slice ra rm rc, .slice sa sm sc]) rfl (by kernel_rfl) (by kernel_rfl) (by kernel_rfl) (by kernel_rfl) rfl (fun _ _ _ h => h) (fun _ _ => ex_ext rfl rfl rfl) (by exact hS) ?_
              simp only [Act.put, List.setIfInBounds_toArray, List.set_cons_succ, List.set_cons_zero]
              refine wpAnyH_take_d 10 (some 44) (.int .i64 0) rfl (by kernel_rfl) (by kernel_rfl) (by kernel_rfl) (by kernel_rfl) rfl (fun _ _ _ h => h) (fun _ _ => ex_ext rfl rfl rfl) (by exact hS) ?_
              simp only [Act.put, List.setIfInBounds_toArray, List.set_cons_succ, List.set_cons_zero]
              -- left: [(12, ('none', 'Op.store 32 t8 t43', None)), (13, ('9', 'Op.assign t44', None))]
              clear hQ4 bA b4' ob1 ob2 ob3 hbs hQe
              refine wpAnyH_one_skip 12 rfl (by kernel_rfl) (by kernel_rfl) (ex_store_row rfl rfl rfl hQ5 (by kernel_rfl) rfl (by simp [Value.oneCell'])) (below_setRow' hS hwQ _) ?_
              simp only [Act.put, List.setIfInBounds_toArray]
              have hS := below_setRow' hS hwQ #[.bool true, .slice qa qm qc, .slice ra rm rc, .slice sa sm sc]
              refine wpAnyH_take_d 13 (some 9) (.int .i64 0) rfl (by kernel_rfl) (by kernel_rfl) (by kernel_rfl) (by kernel_rfl) rfl (fun _ _ _ h => h) (fun _ _ => by kernel_rfl) (by exact hS) ?_
              refine wpAnyH_done (by kernel_rfl) ?_ _
              have hQ6' := setRow_heap w5 Q _ #[.bool true, .slice qa qm qc, .slice ra rm rc, .slice sa sm sc] _ _ hQ5
              have own6 : NdOwn wr.heap.size (w5.setRow Q #[.bool true, .slice qa qm qc, .slice ra rm rc, .slice sa sm sc]) (.agg #[.bool true, .slice qa qm qc, .slice ra rm rc, .slice sa sm sc]) (Go.Proofs.Ytjhhcikhgkkjmaa.lf L) := own5 _
              obtain ⟨w6, hw6⟩ : ∃ w6, w5.setRow Q #[.bool true, .slice qa qm qc, .slice ra rm rc, .slice sa sm sc] = w6 := ⟨_, rfl⟩
              rw [hw6] at hS hQ6' own6 ⊢
              clear hQ5 own5 hwQ hw6
              have hsm : (Go.Proofs.Ytjhhcikhgkkjmaa.lf L).small := leaf_small (by omega)
              have nd6 := own6.at hsm
              have hP6 := (hS.block P hPr).trans hP
              have d6 := C1.out _ hS
              have hb6 := hb.trans (hS.mono hb.size)
              obtain ⟨t0, t1, t2, t3⟩ := NdCells.of hQ6'
              have rk := refKey_any x w6
              rw [hkx] at rk
              have ck := check_any nd6
              rw [HOKP.out] at ck
              clear hS hkx nd6
              go_wp2_with fail
              refine Calls.mono rk ?_
              rintro e _ ⟨rfl, rfl⟩
              go_wp2_with fail
              refine Calls.mono ck ?_
              rintro e w7 ⟨rfl, b7⟩
              have hP7 := (b7.block P (lt_of_heap hP6)).trans hP6
              have hQ7 := (b7.block Q (lt_of_heap hQ6')).trans hQ6'
              have own7 := own6.below b7
              have hb7 := hb6.trans (b7.mono hb6.size)
              clear rk ck b7 hP6 hQ6' own6 hb6 t0 t1 t2 t3 d6
              obtain ⟨t0, t1, t2, t3⟩ := NdCells.of hQ7
              have ND0 := ND
              have HB0 := Lib.hid hb
              have HP0 := Lib.hid hP
              clear hP hb d1 ND
              go_wp2_with (with_reducible refine wpList_store_nd rfl (.tmp 5) (.tmp 65) rfl P true (.slice qa qm qc) (.slice ra rm rc) (.slice sa sm sc) rfl rfl #[.bool true, .slice pa pm pc, .slice ea em ec, .slice fa fm fc] hP7 rfl (.mk _ _ _) (.mk _ _ _) (.mk _ _ _) hb7 hsa ?_)
              rintro w8 - hP8 hb8 hkk
              have nd8 : NdAt w8.heap.size w8 (.agg #[.bool true, .slice qa qm qc, .slice ra rm rc, .slice sa sm sc]) (Go.Proofs.Ytjhhcikhgkkjmaa.lf L) := by
                obtain ⟨p9, k9, j9, he9, o1, o2, o3⟩ := own7
                exact NdOwn.at ⟨p9, k9, j9, he9, o1.keepg hPr hkk, o2.keepg hPr hkk, o3.keepg hPr hkk⟩ hsm
              have N8 := Lib.hid nd8
              obtain ⟨p9, k9, j9, he9, hs9, -, -⟩ := nd8
              have e9 : p9 = .slice qa qm qc := by injection he9 with he9; have := congrArg (fun a => a[1]?) he9; simpa using this.symm
              rw [e9] at hs9
              have hs9' : SlAt elP w8.heap.size w8 (.slice qa qm qc) L := hs9
              have HQM : Hid (qm = L.length) := Lib.hid (by obtain ⟨_, _, e8, _⟩ := hs9'; cases e8; rfl)
              have hqm255 : qm ≤ 255 := by rw [HQM.out]; omega
              have HS9 := Lib.hid hs9'
              have hP8l := lt_of_heap hP8
              have PX := Lib.hid (fun (w' : World) (b : Below w8.heap.size w8 w') => (b.block P hP8l).trans hP8)
              have FD := Lib.hid (fun (w' : World) (j : Nat) (hj : j < L.length) (b : Below w8.heap.size w8 w') => find_self ((N8.out.below b).more b.size) HOKP.out hj)
              obtain ⟨t0, t1, t2, t3⟩ := NdCells.of hP8
              have h88 : Below w8.heap.size w8 w8 := Below.refl _ _
              have HB8 := Lib.hid hb8
              have HLK : Hid (L.length ≤ k + 1) := Lib.hid (by omega)
              clear hs9 hs9' he9 e9 own7 hQ7 hP7 hb7 hkk hP8 hlp hv48 hP8l hb8
              go_wp2
              go_loopw [10] (fun jv wr' => ∃ j : Nat, j ≤ qm ∧ jv = .int .i64 j ∧ Below w8.heap.size w8 wr') (fun jv _ => qm - (intOf jv).toNat)
              case atStart => exact ⟨0, Nat.zero_le _, rfl, h88⟩
              case round =>
                clear h88 t0 t1 t2 t3
                obtain ⟨j, hj, rfl, bj⟩ := hrel
                have hPj := PX.out _ bj
                obtain ⟨t0, t1, t2, t3⟩ := NdCells.of hPj
                by_cases hlt : j < qm
                · have hjl : j < L.length := by rw [← HQM.out]; exact hlt
                  obtain ⟨gb, goff, gcap, hv9, hB9, hc9, -⟩ := HS9.out.getP hjl
                  obtain ⟨rfl, -, rfl⟩ : qa = some ⟨gb, goff, none⟩ ∧ qm = L.length ∧ qc = gcap := by cases hv9; exact ⟨rfl, rfl, rfl⟩
                  have fd := FD.out wr.drew j hjl (bj.drew)
                  have g1 := (bj.cell (p := ⟨gb, goff + j * 2, none⟩) hB9).trans hc9
                  have hgb : gb < wr.heap.size := Nat.lt_of_lt_of_le hB9 bj.size
                  have hPl := lt_of_heap hPj
                  generalize (prAt L j).k = kk at *
                  have RG2 := Lib.hid (fun (w' : World) (h : Below wr.heap.size wr w') => range4 ((h.block P hPl).trans hPj))
                  have CC := Lib.hid (fun (w' : World) (h : Below wr.heap.size wr w') => NdCells.of ((h.block P hPl).trans hPj))
                  have KK := Lib.hid (fun (w' : World) (h : Below wr.heap.size wr w') => (h.cell (p := ⟨gb, goff + j * 2, none⟩) hgb).trans g1)
                  have FDH := Lib.hid fd
                  clear hv9 hc9 fd t0 t2 t3 g1 hPj
                  go_wp2_with fail
                  have hS : Below wr.heap.size wr wr.drew := (Below.refl _ _).drew
                  refine wp_region_held_drew (S := fun w' => Below wr.heap.size wr w') mixed hS (fun _ => ?_)
                  show wpAnyH _ _ _ _ _ 13 (Array.replicate 13 false) _ _
                  refine wpAnyH_take_d 0 (some 74) (.agg #[.bool true, .slice (some ⟨gb, goff, none⟩) qm qc, .slice ra rm rc, .slice sa sm sc]) rfl (by kernel_rfl) (by kernel_rfl) (by kernel_rfl) (by kernel_rfl) rfl (fun _ _ _ h => h) (fun w' h => ex_row rfl rfl (RG2.out _ h) Try.underlying32 rfl (by kernel_rfl)) (by exact hS) ?_
                  simp only [Act.put, List.setIfInBounds_toArray, List.set_cons_succ, List.set_cons_zero]
                  refine wpAnyH_take_d 1 (some 75) (.pointer (some ⟨P, 1, none⟩)) rfl (by kernel_rfl) (by kernel_rfl) (by kernel_rfl) (by kernel_rfl) rfl (fun _ _ _ h => h) (fun _ _ => by kernel_rfl) (by exact hS) ?_
                  simp only [Act.put, List.setIfInBounds_toArray, List.set_cons_succ, List.set_cons_zero]
                  refine wpAnyH_take_d 2 (some 76) (.slice (some ⟨gb, goff, none⟩) qm qc) rfl (by kernel_rfl) (by kernel_rfl) (by kernel_rfl) (by kernel_rfl) rfl (fun _ _ _ h => h) (fun w' h => exec_load_cell rfl rfl (CC.out _ h).c1 Try.underlying22 rfl) (by exact hS) ?_
                  simp only [Act.put, List.setIfInBounds_toArray, List.set_cons_succ, List.set_cons_zero]
                  refine wpAnyH_take_d 3 (some 77) (.int .i64 j) rfl (by kernel_rfl) (by kernel_rfl) (by kernel_rfl) (by kernel_rfl) rfl (fun _ _ _ h => h) (fun _ _ => by kernel_rfl) (by exact hS) ?_
                  simp only [Act.put, List.setIfInBounds_toArray, List.set_cons_succ, List.set_cons_zero]
                  refine wpAnyH_take_d 4 (some 78) (.pointer (some ⟨gb, goff + j * 2, none⟩)) rfl (by kernel_rfl) (by kernel_rfl) (by kernel_rfl) (by kernel_rfl) rfl (fun _ _ _ h => h) (fun _ _ => ex_index 2 rfl rfl rfl hlt Try.underlying22 szPr) (by exact hS) ?_
                  simp only [Act.put, List.setIfInBounds_toArray, List.set_cons_succ, List.set_cons_zero]
                  refine wpAnyH_take_d 5 (some 79) (.pointer (some ⟨gb, goff + j * 2, none⟩)) rfl (by kernel_rfl) (by kernel_rfl) (by kernel_rfl) (by kernel_rfl) rfl (fun _ _ _ h => h) (fun _ _ => by kernel_rfl) (by exact hS) ?_
                  simp only [Act.put, List.setIfInBounds_toArray, List.set_cons_succ, List.set_cons_zero]
                  refine wpAnyH_take_d 6 (some 80) (.string kk) rfl (by kernel_rfl) (by kernel_rfl) (by kernel_rfl) (by kernel_rfl) rfl (fun _ _ _ h => h) (fun w' h => exec_load_cell rfl rfl (KK.out _ h) Try.underlying9 rfl) (by exact hS) ?_
                  simp only [Act.put, List.setIfInBounds_toArray, List.set_cons_succ, List.set_cons_zero]
                  refine wpAnyH_call 7 (some 81) 25 #[.agg #[.bool true, .slice (some ⟨gb, goff, none⟩) qm qc, .slice ra rm rc, .slice sa sm sc], .string kk] rfl (by kernel_rfl) (by kernel_rfl) rfl (by kernel_rfl) (FDH.out) ?_
                  rintro e w10 ⟨rfl, b10⟩
                  have hS : Below wr.heap.size wr w10 := hS.trans b10
                  refine ⟨_, rfl, hS, ?_⟩
                  simp only [Act.put, List.setIfInBounds_toArray, List.set_cons_succ, List.set_cons_zero]
                  refine wpAnyH_take_d 8 (some 73) (.tuple #[.int .i64 j, .int .i64 0]) rfl (by kernel_rfl) (by kernel_rfl) (by kernel_rfl) (by kernel_rfl) rfl (fun _ _ _ h => h) (fun _ _ => by kernel_rfl) (by exact hS) ?_
                  simp only [Act.put, List.setIfInBounds_toArray, List.set_cons_succ, List.set_cons_zero]
                  refine wpAnyH_take_d 9 (some 82) (.int .i64 j) rfl (by kernel_rfl) (by kernel_rfl) (by kernel_rfl) (by kernel_rfl) rfl (fun _ _ _ h => h) (fun _ _ => ex_ext rfl rfl rfl) (by exact hS) ?_
                  simp only [Act.put, List.setIfInBounds_toArray, List.set_cons_succ, List.set_cons_zero]
                  refine wpAnyH_take_d 10 (some 83) (.int .i64 0) rfl (by kernel_rfl) (by kernel_rfl) (by kernel_rfl) (by kernel_rfl) rfl (fun _ _ _ h => h) (fun _ _ => ex_ext rfl rfl rfl) (by exact hS) ?_
                  simp only [Act.put, List.setIfInBounds_toArray, List.set_cons_succ, List.set_cons_zero]
                  refine wpAnyH_take_d 11 (some 11) (.int .i64 j) rfl (by kernel_rfl) (by kernel_rfl) (by kernel_rfl) (by kernel_rfl) rfl (fun _ _ _ h => h) (fun _ _ => by kernel_rfl) (by exact hS) ?_
                  simp only [Act.put, List.setIfInBounds_toArray, List.set_cons_succ, List.set_cons_zero]
                  refine wpAnyH_take_d 12 (some 12) (.int .i64 0) rfl (by kernel_rfl) (by kernel_rfl) (by kernel_rfl) (by kernel_rfl) rfl (fun _ _ _ h => h) (fun _ _ => by kernel_rfl) (by exact hS) ?_
                  simp only [Act.put, List.setIfInBounds_toArray, List.set_cons_succ, List.set_cons_zero]
                  refine wpAnyH_done (by kernel_rfl) ?_ _
                  have bj' := bj.trans (hS.mono bj.size)
                  clear hS b10
                  go_wp2
                  go_roundw
                  case rel => exact ⟨j + 1, by omega, by go_num, bj'⟩
                  case measure => simp [intOf]; omega
                · have hbF := HB8.out.trans (bj.mono HB8.out.size)
                  have nF := Lib.hid ((N8.out.below bj).more bj.size)
                  clear bj
                  go_wp2
                  go_roundw
                  case rel => exact ⟨k + 1, L, _, _, _, _, _, _, _, _, _, by omega, by go_num, HOKP, HLK.out, hPj, nF, hbF⟩
                  case measure => simp [intOf]; omega
      · have hd60 : decide ((k : Int) < 60) = false := by simp; omega
        go_wp2
        go_ret
        exact ⟨rfl, hb⟩
    · go_wp2
      go_ret
      exact ⟨rfl, hb⟩

/-! ### the row -/
theorem laidOut : laidOutB Try.prog = true := by kernel_rfl
theorem bytesInt : Try.prog.bytesOf 3 = 8 := by kernel_rfl
set_option maxRecDepth 100000 in
theorem lifted (os : Os) (started : os.Started) (H : Type) (enc : TypeId × Value → H) :
    ReturnsInHanded {} Try.checked os 10 .any (Rows.nodeGrowsSpec.pre6 enc Try.prog Try.f10 Rows.nodeGrowsRow.domain false) (Rows.nodeGrowsSpec.post enc Try.prog Try.f10 false true false false) := by
  refine returnsInHanded_of_change_sized (C := Try.checked) own started (by kernel_rfl) Try.func10
    (ChangeSpec.witness6 (enc := enc) (C := Try.checked) false ⟨#[], #[.slice none 0 0, .slice none 0 0], []⟩ 8 (by kernel_rfl) (by kernel_rfl) (by kernel_rfl) (by kernel_rfl)) ?_
  intro W base args ds gs before hval0 hW hcnd hsz0 _
  have hval : ∀ (j : Nat) t v, Try.f10.params[j]? = some t → args[j]? = some v → Value.okWide Try.prog W .any base t v := hval0
  have hW' := hW
  obtain ⟨p, q, hA0, hV, rfl, hfz, hnd⟩ := hW
  have hA : DataW.TrodAll enc Try.prog W 0 (fun _ => true) true Try.f10.params.toList args.toList ds p := hA0
  have hsz : (DataW.weightsEach Try.prog (Try.f10.params.toList ++ Rows.nodeGrowsSpec.plain.varTypes Try.prog) (ds ++ gs)).all (· ≤ reachBytes) = true := hsz0
  rw [Try.params10] at hA hval hsz
  obtain ⟨v0, vs0, d0, ds0, p0, q0, hargs, rfl, rfl, h0, r0⟩ := trodAll_cons hA
  obtain ⟨v1, vs1, d1, ds1, p1, q1, rfl, rfl, rfl, h1, r1⟩ := trodAll_cons r0
  obtain ⟨rfl, rfl, rfl⟩ := trodAll_nil r1
  obtain rfl : args = #[v0, v1] := by cases args; simp_all
  obtain ⟨rfl, rfl⟩ := trodVars_none hV
  have k0 := h0
  have lt0 := args_lt k0
  obtain ⟨z0, w0⟩ := strl_arg (hval 0 23 v0 rfl rfl) (fun k hk => of_decide_eq_true (List.all_eq_true.1 hsz _ (DataW.weights_mem_each (j := 0) (t := 23) (d := d0) rfl rfl k hk))) h0
  have k1 := h1
  have lt1 := args_lt k1
  obtain ⟨z1, w1⟩ := strl_arg (hval 1 23 v1 rfl rfl) (fun k hk => of_decide_eq_true (List.all_eq_true.1 hsz _ (DataW.weights_mem_each (j := 1) (t := 23) (d := d1) rfl rfl k hk))) h1
  clear hA0 hval0 hsz0
  refine (walk v0 z0 v1 z1 W w0 w1).mono fun e W' ⟨he, bel⟩ => ?_
  subst he
  exact ⟨_, rfl, _, _, _, [], _, [], hW', trodAll_mk1 (shut_bool Try.underlying4 _), (trodAll_cons_mk (Below.trod laidOut (by kernel_rfl) (of_decide_eq_true (by kernel_rfl)) k0 bel lt0) (trodAll_cons_mk (Below.trod laidOut (by kernel_rfl) (of_decide_eq_true (by kernel_rfl)) k1 bel lt1) trodAll_mk0)), rfl, bel.frame _, fun h => by cases h⟩

theorem over : Rows.nodeGrowsRow.holds Try.pinned (OpenSpec.ofChange Rows.nodeGrowsSpec) :=
  OpenClaim.holds_of_wide 10 Try.f10 rfl rfl rfl rfl rfl rfl rfl ⟨rfl, rfl, rfl, rfl, rfl⟩ rfl rfl rfl rfl rfl (by kernel_rfl) Try.func10 (by kernel_rfl)
    (of_decide_eq_true (by kernel_rfl)) (by unfold Func.isWrapper; first | (rw [if_pos (by decide +kernel)]; kernel_rfl) | (rw [if_neg (by decide +kernel)]; exact ⟨rfl, rfl⟩))
    (fun os started H enc _ => lifted os started H enc)
end Go.Proofs.Ytjhhcikhgkkjmaa.nodeGrows

namespace Go.Proofs.Ytjhhcikhgkkjmaa
/-- The law returns true at every input. -/
theorem nodeGrows_holds : Rows.NodeGrowsSaid := nodeGrows.over
end Go.Proofs.Ytjhhcikhgkkjmaa

