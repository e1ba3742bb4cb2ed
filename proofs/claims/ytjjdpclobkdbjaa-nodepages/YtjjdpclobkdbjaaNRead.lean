/- The contract of the reader's node. No statement of the seat is proved here. -/
import Derived.Test.YtjjdpclobkdbjaaNRdL
namespace Go.Proofs.Ytjjdpclobkdbjaa
set_option maxRecDepth 20000
open Go.RowKit

theorem build_t (w : World) : (Instr.build 32 #[(0, .bool true)]).run Try.prog w = .ok (.agg #[.bool true, .slice none 0 0, .slice none 0 0, .slice none 0 0]) w := run_build w 32 _ _ (by kernel_rfl)
theorem LI_start {w w1 w2 : World} {rb : Nat} {R : Rd} {lf : Bool} {pv kv iv : Value} (hlt : rb < w.heap.size) (rd : RdIs w1 rb R) (on : OnlyR rb w w1) (zr : w1.heap[w.heap.size]? = some zNdO) (hn : w2.heap[w1.heap.size]? = some (ndO lf pv kv iv)) (b : Below w1.heap.size w1 w2) : LI w rb w1.heap.size R lf pv kv iv w2 := by
  have hs := (Array.getElem?_eq_some_iff.1 zr).1
  exact ⟨hlt, hs, (Array.getElem?_eq_some_iff.1 hn).1, rd.keep (b.block rb (by omega)), on.trans (.of_below b), (b.block _ hs).trans zr, hn⟩
theorem ex_b2 {P : Program} {w : World} {ρ : Operand → Value} {o : Oper} {t : TypeId} {x0 x1 : Operand} {v0 v1 v : Value} (ho : o.op = .build t #[(0, x0), (1, x1)]) (h0 : ρ x0 = v0) (h1 : ρ x1 = v1) (hrun : (Instr.build t #[(0, v0), (1, v1)]).run P w = .ok v w) : (execOp ρ o).run P w = .ok (.value v) w := by
  unfold execOp
  simp [ho, h0, h1, hrun]
structure RdRet (w : World) (rb : Nat) (n : Nd) (R : Rd) (e : Ending) (w' : World) : Prop where
  ret : ∃ v, e = .returned v ∧ NdOwn w.heap.size w' v n
  rd : RdIs w' rb R
  on : OnlyR rb w w'
theorem LI.ret {w wr w' : World} {rb nb : Nat} {R : Rd} {lf : Bool} {pv kv iv : Value} (h : LI w rb nb R lf pv kv iv wr) {ps : List Pr} {ks : List ByteArray} {is : List Int} (h1 : OwnR elP (nb + 1) wr pv ps) (h2 : OwnR elS (nb + 1) wr kv ks) (h3 : OwnR elI (nb + 1) wr iv is) (b : Below w.heap.size wr w') (k : ∀ k, k ≠ w.heap.size → w'.heap[k]? = wr.heap[k]?) : RdRet w rb ⟨lf, ps, ks, is⟩ R (.returned (.agg #[.bool lf, pv, kv, iv])) w' :=
  ⟨⟨_, rfl, _, _, _, rfl, own_end h h1 k, own_end h h2 k, own_end h h3 k⟩, (h.on' b).2, (h.on' b).1⟩
theorem ex_shl8 {P : Program} {w : World} {ρ : Operand → Value} {o : Oper} {t t' : TypeId} {x y : Operand} {a : Nat} (ho : o.op = .binOp .shl t x y t') (hx : ρ x = .int .i64 (a : Nat)) (hy : ρ y = .int .u64 8) (ha : a ≤ 255) : (execOp ρ o).run P w = .ok (.value (.int .i64 ((a : Nat) * 256 : Int))) w := by
  have e2 : IntKind.i64.wrap ((a : Int) * 256) = (a : Int) * 256 := by rw [IntKind.wrap_i64]; omega
  unfold execOp
  simp [ho, hx, hy, go_sem, eqGuard, e2]
set_option maxHeartbeats 6400000 in
set_option maxRecDepth 20000 in
theorem node_any {w : World} {rb : Nat} {R : Rd} (h : RdIs w rb R) (hs : R.s.size ≤ 1000000) : Calls Try.prog 39 #[.pointer (some ⟨rb, 0, none⟩)] w (RdRet w rb (nodeR R).1 (nodeR R).2) := by
  have hlt := h.lt
  have h0 : RdIs (w.alloc zNdO) rb R := h.keep (Below.heap_alloc _ _ _ hlt)
  have nm := number_any h0 hs
  have zr0 : (w.alloc zNdO).heap[w.heap.size]? = some zNdO := heap_alloc_new _ _
  have on0 : OnlyR rb w (w.alloc zNdO) := .of_below (below_new _ _)
  have l1 := Nat.le_trans (numR_len R) hs
  have NM2 := Lib.hid (fun (w' : World) (h' : RdIs w' rb (numR R).2) => number_any h' l1)
  have l2 := Nat.le_trans (numR_len (numR R).2) l1
  have hc255 := numR_le (numR R).2
  have hz1 : w.heap.size < (w.alloc zNdO).heap.size := by simp
  have ST := Lib.hid (fun (w1 : World) (o1 : OnlyR rb (w.alloc zNdO) w1) => And.intro (on0.trans o1) ((o1.keep _ hz1 (by omega)).trans zr0))
  obtain ⟨N, hN⟩ : ∃ N, nodeR R = N := ⟨_, rfl⟩
  rw [hN]
  unfold nodeR at hN
  clear h h0 zr0 on0 l1 hs hz1
  by_cases e1 : (numR R).1 = 1
  · rw [if_pos e1] at hN
    rw [e1] at nm
    have nm : Calls Try.prog 63 #[.pointer (some ⟨rb, 0, none⟩)] (w.alloc zNdO) (fun e w' => e = .returned (.int .i64 1) ∧ RdIs w' rb (numR R).2 ∧ OnlyR rb (w.alloc zNdO) w') := nm
    clear e1
    generalize (numR R).2 = R1 at *
    generalize (numR R1).1 = c at *
    generalize (numR R1).2 = R2 at *
    have HN := Lib.hid hN
    clear hN
    go_enter Try.func39, Try.ntmps39
    go_wp2_with fail
    refine nm.mono ?_
    rintro e w1 ⟨rfl, rd1, o1⟩
    obtain ⟨on1, zr1⟩ := ST.out w1 o1
    have bt := build_t w1
    have hgn := heap_alloc_new w1 zNdO
    clear nm o1 ST
    go_wp2_with (with_reducible refine wpList_store_nd (a0 := w1.alloc zNdO) (B := w1.heap.size) rfl (.tmp 3) (.tmp 9) rfl w1.heap.size true (.slice none 0 0) (.slice none 0 0) (.slice none 0 0) rfl rfl #[.bool false, .slice none 0 0, .slice none 0 0, .slice none 0 0] hgn rfl (.mk _ _ _) (.mk _ _ _) (.mk _ _ _) (Below.refl _ _) (Nat.le_refl _) ?_)
    rintro w2 - hn2 b2 -
    have L := LI_start hlt rd1 on1 zr1 hn2 ((below_new w1 zNdO).trans b2)
    have nm2 := NM2.out _ L.rd
    generalize w1.heap.size = nb at *
    clear rd1 on1 zr1 bt hgn hn2 b2 NM2
    go_wp2_with fail
    refine nm2.mono ?_
    rintro e w3 ⟨rfl, rd3, o3⟩
    have L := L.call rd3 o3
    clear nm2 rd3 o3
    go_wp2
    go_loopw [12] (fun iv wr => ∃ (k : Nat) (va : Option Addr) (vm vc : Nat), k ≤ c ∧ iv = .int .i64 (k : Nat) ∧ LI w rb nb (psR k R2).2 true (.slice va vm vc) (.slice none 0 0) (.slice none 0 0) wr ∧ OwnR elP (nb + 1) wr (.slice va vm vc) (psR k R2).1) (fun iv _ => c - (intOf iv).toNat)
    case atStart => exact ⟨0, none, 0, 0, Nat.zero_le _, rfl, L, OwnR.nil _ _ _⟩
    case round =>
      clear L
      obtain ⟨k, va, vm, vc, hk, rfl, L, o⟩ := hrel
      by_cases hkc : k < c
      · have hstep : psR (k + 1) R2 = ((psR k R2).1 ++ [⟨(txtR (psR k R2).2).1, (txtR (txtR (psR k R2).2).2).1⟩], (txtR (txtR (psR k R2).2).2).2) := rfl
        have hlen := psR_length k R2
        have lk := Nat.le_trans (psR_len k R2) l2
        have TXA := Lib.hid (fun (w' : World) (h' : RdIs w' rb (psR k R2).2) => text_any h' lk)
        have TXB := Lib.hid (fun (w' : World) (h' : RdIs w' rb (txtR (psR k R2).2).2) => text_any h' (Nat.le_trans (txtR_len _) lk))
        obtain ⟨A, hA⟩ : ∃ A, psR (k + 1) R2 = A := ⟨_, rfl⟩
        rw [hA] at hstep
        have REL : ∀ (ya : Option Addr) (ym yc : Nat) (w9 : World), LI w rb nb A.2 true (.slice ya ym yc) (.slice none 0 0) (.slice none 0 0) w9 → OwnR elP (nb + 1) w9 (.slice ya ym yc) A.1 → LI w rb nb (psR (k + 1) R2).2 true (.slice ya ym yc) (.slice none 0 0) (.slice none 0 0) w9 ∧ OwnR elP (nb + 1) w9 (.slice ya ym yc) (psR (k + 1) R2).1 := fun _ _ _ _ a b => by rw [hA]; exact ⟨a, b⟩
        clear hA lk
        generalize psR k R2 = G at *
        obtain ⟨acc, Rk⟩ := G
        generalize (txtR (txtR Rk).2).1 = tv at *
        generalize (txtR (txtR Rk).2).2 = Rb at *
        generalize (txtR Rk).1 = tk at *
        generalize (txtR Rk).2 = Ra at *
        subst hstep
        have RELH := Lib.hid REL
        clear REL
        simp only at hlen L o
        (
          
          go_wp2_with fail
          have hS := True.intro
          refine wp_region_held_drew (S := fun _ => True) mixed hS (fun _ => ?_)
          show wpAnyH _ _ _ _ _ 11 (Array.replicate 11 false) _ _
          have L := L.drew
          
          refine wpAnyH_take_d 0 (some 14) (.pointer (some ⟨nb, 1, none⟩)) rfl (by kernel_rfl) (by kernel_rfl) (by kernel_rfl) (by kernel_rfl) rfl (fun _ _ _ h => h) (fun _ _ => by kernel_rfl) (by exact hS) ?_
          simp only [Act.put, List.setIfInBounds_toArray, List.set_cons_succ, List.set_cons_zero]
          refine wpAnyH_take_d 2 (some 16) (.pointer (some ⟨rb, 0, none⟩)) rfl (by kernel_rfl) (by kernel_rfl) (by kernel_rfl) (by kernel_rfl) rfl (fun _ _ _ h => h) (fun _ _ => by kernel_rfl) (by exact hS) ?_
          simp only [Act.put, List.setIfInBounds_toArray, List.set_cons_succ, List.set_cons_zero]
          refine wpAnyH_take_d 4 (some 18) (.pointer (some ⟨rb, 0, none⟩)) rfl (by kernel_rfl) (by kernel_rfl) (by kernel_rfl) (by kernel_rfl) rfl (fun _ _ _ h => h) (fun _ _ => by kernel_rfl) (by exact hS) ?_
          simp only [Act.put, List.setIfInBounds_toArray, List.set_cons_succ, List.set_cons_zero]
          refine wpAnyH_load_call 1 3 (some 15) (some 17) 64 #[.pointer (some ⟨rb, 0, none⟩)] (.slice va vm vc) rfl rfl (by kernel_rfl) (by kernel_rfl) (by kernel_rfl) rfl rfl (by kernel_rfl) (TXA.out _ L.rd) (exec_load_cell rfl rfl L.cs.c1 Try.underlying22 rfl) trivial ?_ ?_
          · rintro e w5 ⟨rfl, rd, oc⟩
            have o := own_call L o oc
            have L := L.call rd oc
            refine ⟨_, rfl, trivial, ?_⟩
            simp only [Act.put, List.setIfInBounds_toArray, List.set_cons_succ, List.set_cons_zero]
            refine wpAnyH_load_call 1 5 (some 15) (some 19) 64 #[.pointer (some ⟨rb, 0, none⟩)] (.slice va vm vc) rfl rfl (by kernel_rfl) (by kernel_rfl) (by kernel_rfl) rfl rfl (by kernel_rfl) (TXB.out _ L.rd) (exec_load_cell rfl rfl L.cs.c1 Try.underlying22 rfl) trivial ?_ ?_
            · rintro e w6 ⟨rfl, rd, oc⟩
              have o := own_call L o oc
              have L := L.call rd oc
              refine ⟨_, rfl, trivial, ?_⟩
              simp only [Act.put, List.setIfInBounds_toArray, List.set_cons_succ, List.set_cons_zero]
              refine wpAnyH_take_d 6 (some 20) (.agg #[.string tk, .string tv]) rfl (by kernel_rfl) (by kernel_rfl) (by kernel_rfl) (by kernel_rfl) rfl (fun _ _ _ h => h) (fun w' _ => ex_b2 rfl rfl rfl (build_pr tk tv w')) (by exact hS) ?_
              simp only [Act.put, List.setIfInBounds_toArray, List.set_cons_succ, List.set_cons_zero]
              obtain ⟨v9, w9, hr9, o9, L9⟩ := L.appP o ⟨tk, tv⟩ (by rw [hlen]; omega) 22
              obtain ⟨ya, ym, yc, rfl, -⟩ := o9.form'
              refine wpAnyH_two 1 7 (some 15) (some 21) (.slice va vm vc) (.slice (some ⟨w6.heap.size, 0, none⟩) 1 1) rfl rfl (by kernel_rfl) (by kernel_rfl) (by kernel_rfl) rfl rfl (exec_load_cell rfl rfl L.cs.c1 Try.underlying22 rfl) (ex_b1 rfl rfl (build_prs ⟨tk, tv⟩ w6)) trivial trivial ?_ ?_
              · have hS := True.intro
                simp only [Act.put, List.setIfInBounds_toArray, List.set_cons_succ, List.set_cons_zero]
                refine wpAnyH_one 7 (some 21) (.slice (some ⟨w6.heap.size, 0, none⟩) 1 1) rfl (by kernel_rfl) (by kernel_rfl) rfl (ex_b1 rfl rfl (build_prs ⟨tk, tv⟩ w6)) (by exact hS) ?_
                simp only [Act.put, List.setIfInBounds_toArray, List.set_cons_succ, List.set_cons_zero]
                refine wpAnyH_one 8 (some 22) (.slice ya ym yc) rfl (by kernel_rfl) (by kernel_rfl) rfl (ex_app rfl rfl rfl hr9) (by exact hS) ?_
                simp only [Act.put, List.setIfInBounds_toArray, List.set_cons_succ, List.set_cons_zero]
                refine wpAnyH_one (w1 := w9) 9 (some 23) (.pointer (some ⟨nb, 1, none⟩)) rfl (by kernel_rfl) (by kernel_rfl) rfl (by kernel_rfl) (by exact hS) ?_
                simp only [Act.put, List.setIfInBounds_toArray, List.set_cons_succ, List.set_cons_zero]
                refine wpAnyH_skip1 10 rfl (by kernel_rfl) (by kernel_rfl) (exec_store_cell rfl rfl rfl rfl L9.cs.c1 (L9.free 1) (by kernel_rfl)) trivial ?_
                refine wpAnyH_done (by kernel_rfl) ?_ _
                have o9 := own_put o9 1 (.slice ya ym yc)
                have L9 := L9.put1 (.slice ya ym yc)
                have FIN := Lib.hid (And.intro L9 o9)
                clear hr9 L9 o9 L o
                go_wp2
                go_roundw
                case rel => exact ⟨k + 1, _, _, _, by omega, by go_num, (RELH.out _ _ _ _ FIN.out.1 FIN.out.2).1, (RELH.out _ _ _ _ FIN.out.1 FIN.out.2).2⟩
                case measure => simp [intOf]; omega
              · have hS := True.intro
                simp only [Act.put, List.setIfInBounds_toArray, List.set_cons_succ, List.set_cons_zero]
                have Ln : LI w rb nb _ _ _ _ _ (w6.alloc (prO ⟨tk, tv⟩)) := L.below ((Below.refl _ _).alloc (by have := L.sz; omega) _)
                refine wpAnyH_one 1 (some 15) (.slice va vm vc) rfl (by kernel_rfl) (by kernel_rfl) rfl (exec_load_cell rfl rfl Ln.cs.c1 Try.underlying22 rfl) (by exact hS) ?_
                simp only [Act.put, List.setIfInBounds_toArray, List.set_cons_succ, List.set_cons_zero]
                clear Ln
                refine wpAnyH_one 8 (some 22) (.slice ya ym yc) rfl (by kernel_rfl) (by kernel_rfl) rfl (ex_app rfl rfl rfl hr9) (by exact hS) ?_
                simp only [Act.put, List.setIfInBounds_toArray, List.set_cons_succ, List.set_cons_zero]
                refine wpAnyH_one (w1 := w9) 9 (some 23) (.pointer (some ⟨nb, 1, none⟩)) rfl (by kernel_rfl) (by kernel_rfl) rfl (by kernel_rfl) (by exact hS) ?_
                simp only [Act.put, List.setIfInBounds_toArray, List.set_cons_succ, List.set_cons_zero]
                refine wpAnyH_skip1 10 rfl (by kernel_rfl) (by kernel_rfl) (exec_store_cell rfl rfl rfl rfl L9.cs.c1 (L9.free 1) (by kernel_rfl)) trivial ?_
                refine wpAnyH_done (by kernel_rfl) ?_ _
                have o9 := own_put o9 1 (.slice ya ym yc)
                have L9 := L9.put1 (.slice ya ym yc)
                have FIN := Lib.hid (And.intro L9 o9)
                clear hr9 L9 o9 L o
                go_wp2
                go_roundw
                case rel => exact ⟨k + 1, _, _, _, by omega, by go_num, (RELH.out _ _ _ _ FIN.out.1 FIN.out.2).1, (RELH.out _ _ _ _ FIN.out.1 FIN.out.2).2⟩
                case measure => simp [intOf]; omega
            · have hS := True.intro
              simp only [Act.put, List.setIfInBounds_toArray, List.set_cons_succ, List.set_cons_zero]
              refine wpAnyH_call 5 (some 19) 64 #[.pointer (some ⟨rb, 0, none⟩)] rfl (by kernel_rfl) (by kernel_rfl) rfl (by kernel_rfl) (TXB.out _ L.rd) ?_
              rintro e w6 ⟨rfl, rd, oc⟩
              have o := own_call L o oc
              have L := L.call rd oc
              refine ⟨_, rfl, trivial, ?_⟩
              simp only [Act.put, List.setIfInBounds_toArray, List.set_cons_succ, List.set_cons_zero]
              refine wpAnyH_take_d 6 (some 20) (.agg #[.string tk, .string tv]) rfl (by kernel_rfl) (by kernel_rfl) (by kernel_rfl) (by kernel_rfl) rfl (fun _ _ _ h => h) (fun w' _ => ex_b2 rfl rfl rfl (build_pr tk tv w')) (by exact hS) ?_
              simp only [Act.put, List.setIfInBounds_toArray, List.set_cons_succ, List.set_cons_zero]
              obtain ⟨v9, w9, hr9, o9, L9⟩ := L.appP o ⟨tk, tv⟩ (by rw [hlen]; omega) 22
              obtain ⟨ya, ym, yc, rfl, -⟩ := o9.form'
              refine wpAnyH_one 7 (some 21) (.slice (some ⟨w6.heap.size, 0, none⟩) 1 1) rfl (by kernel_rfl) (by kernel_rfl) rfl (ex_b1 rfl rfl (build_prs ⟨tk, tv⟩ w6)) (by exact hS) ?_
              simp only [Act.put, List.setIfInBounds_toArray, List.set_cons_succ, List.set_cons_zero]
              refine wpAnyH_one 8 (some 22) (.slice ya ym yc) rfl (by kernel_rfl) (by kernel_rfl) rfl (ex_app rfl rfl rfl hr9) (by exact hS) ?_
              simp only [Act.put, List.setIfInBounds_toArray, List.set_cons_succ, List.set_cons_zero]
              refine wpAnyH_one (w1 := w9) 9 (some 23) (.pointer (some ⟨nb, 1, none⟩)) rfl (by kernel_rfl) (by kernel_rfl) rfl (by kernel_rfl) (by exact hS) ?_
              simp only [Act.put, List.setIfInBounds_toArray, List.set_cons_succ, List.set_cons_zero]
              refine wpAnyH_skip1 10 rfl (by kernel_rfl) (by kernel_rfl) (exec_store_cell rfl rfl rfl rfl L9.cs.c1 (L9.free 1) (by kernel_rfl)) trivial ?_
              refine wpAnyH_done (by kernel_rfl) ?_ _
              have o9 := own_put o9 1 (.slice ya ym yc)
              have L9 := L9.put1 (.slice ya ym yc)
              have FIN := Lib.hid (And.intro L9 o9)
              clear hr9 L9 o9 L o
              go_wp2
              go_roundw
              case rel => exact ⟨k + 1, _, _, _, by omega, by go_num, (RELH.out _ _ _ _ FIN.out.1 FIN.out.2).1, (RELH.out _ _ _ _ FIN.out.1 FIN.out.2).2⟩
              case measure => simp [intOf]; omega
          · have hS := True.intro
            simp only [Act.put, List.setIfInBounds_toArray, List.set_cons_succ, List.set_cons_zero]
            refine wpAnyH_call 3 (some 17) 64 #[.pointer (some ⟨rb, 0, none⟩)] rfl (by kernel_rfl) (by kernel_rfl) rfl (by kernel_rfl) (TXA.out _ L.rd) ?_
            rintro e w5 ⟨rfl, rd, oc⟩
            have o := own_call L o oc
            have L := L.call rd oc
            refine ⟨_, rfl, trivial, ?_⟩
            simp only [Act.put, List.setIfInBounds_toArray, List.set_cons_succ, List.set_cons_zero]
            refine wpAnyH_call 5 (some 19) 64 #[.pointer (some ⟨rb, 0, none⟩)] rfl (by kernel_rfl) (by kernel_rfl) rfl (by kernel_rfl) (TXB.out _ L.rd) ?_
            rintro e w6 ⟨rfl, rd, oc⟩
            have o := own_call L o oc
            have L := L.call rd oc
            refine ⟨_, rfl, trivial, ?_⟩
            simp only [Act.put, List.setIfInBounds_toArray, List.set_cons_succ, List.set_cons_zero]
            refine wpAnyH_take_d 6 (some 20) (.agg #[.string tk, .string tv]) rfl (by kernel_rfl) (by kernel_rfl) (by kernel_rfl) (by kernel_rfl) rfl (fun _ _ _ h => h) (fun w' _ => ex_b2 rfl rfl rfl (build_pr tk tv w')) (by exact hS) ?_
            simp only [Act.put, List.setIfInBounds_toArray, List.set_cons_succ, List.set_cons_zero]
            obtain ⟨v9, w9, hr9, o9, L9⟩ := L.appP o ⟨tk, tv⟩ (by rw [hlen]; omega) 22
            obtain ⟨ya, ym, yc, rfl, -⟩ := o9.form'
            refine wpAnyH_one 7 (some 21) (.slice (some ⟨w6.heap.size, 0, none⟩) 1 1) rfl (by kernel_rfl) (by kernel_rfl) rfl (ex_b1 rfl rfl (build_prs ⟨tk, tv⟩ w6)) (by exact hS) ?_
            simp only [Act.put, List.setIfInBounds_toArray, List.set_cons_succ, List.set_cons_zero]
            refine wpAnyH_one 8 (some 22) (.slice ya ym yc) rfl (by kernel_rfl) (by kernel_rfl) rfl (ex_app rfl rfl rfl hr9) (by exact hS) ?_
            simp only [Act.put, List.setIfInBounds_toArray, List.set_cons_succ, List.set_cons_zero]
            refine wpAnyH_one (w1 := w9) 9 (some 23) (.pointer (some ⟨nb, 1, none⟩)) rfl (by kernel_rfl) (by kernel_rfl) rfl (by kernel_rfl) (by exact hS) ?_
            simp only [Act.put, List.setIfInBounds_toArray, List.set_cons_succ, List.set_cons_zero]
            refine wpAnyH_skip1 10 rfl (by kernel_rfl) (by kernel_rfl) (exec_store_cell rfl rfl rfl rfl L9.cs.c1 (L9.free 1) (by kernel_rfl)) trivial ?_
            refine wpAnyH_done (by kernel_rfl) ?_ _
            have o9 := own_put o9 1 (.slice ya ym yc)
            have L9 := L9.put1 (.slice ya ym yc)
            have FIN := Lib.hid (And.intro L9 o9)
            clear hr9 L9 o9 L o
            go_wp2
            go_roundw
            case rel => exact ⟨k + 1, _, _, _, by omega, by go_num, (RELH.out _ _ _ _ FIN.out.1 FIN.out.2).1, (RELH.out _ _ _ _ FIN.out.1 FIN.out.2).2⟩
            case measure => simp [intOf]; omega)
      · have hkc' : k = c := by omega
        subst hkc'
        obtain ⟨s0, s1, s2, s3⟩ := L.cs
        have zr := L.zr
        have HL := Lib.hid L
        have HO := Lib.hid o
        clear L o hkc hk
        go_wp2_with (with_reducible refine wpList_store_nd (a0 := wr) (B := w.heap.size) rfl (.tmp 2) (.tmp 25) rfl w.heap.size true (.slice va vm vc) (.slice none 0 0) (.slice none 0 0) rfl rfl #[.bool false, .slice none 0 0, .slice none 0 0, .slice none 0 0] zr rfl (.mk _ _ _) (.mk _ _ _) (.mk _ _ _) (Below.refl _ _) (Nat.le_refl _) ?_)
        rintro w8 ⟨r0, r1, r2, r3⟩ - B2 k2
        clear s0 s1 s2 s3 zr
        go_wp2
        refine bodyPost_ret (v := .agg #[.bool true, .slice va vm vc, .slice none 0 0, .slice none 0 0]) (by simp [results, Try.results39, go_sem, r0, r1, r2, r3]) rfl ?_
        rw [← HN.out]
        exact HL.out.ret HO.out (OwnR.nil _ _ _) (OwnR.nil _ _ _) B2 k2
  · rw [if_neg e1] at hN
    by_cases e2 : (numR R).1 = 2
    · rw [if_pos e2] at hN
      rw [e2] at nm
      have nm : Calls Try.prog 63 #[.pointer (some ⟨rb, 0, none⟩)] (w.alloc zNdO) (fun e w' => e = .returned (.int .i64 2) ∧ RdIs w' rb (numR R).2 ∧ OnlyR rb (w.alloc zNdO) w') := nm
      clear e1 e2
      generalize (numR R).2 = R1 at *
      generalize (numR R1).1 = c at *
      generalize (numR R1).2 = R2 at *
      have HN := Lib.hid hN
      clear hN
      go_enter Try.func39, Try.ntmps39
      go_wp2_with fail
      refine nm.mono ?_
      rintro e w1 ⟨rfl, rd1, o1⟩
      obtain ⟨on1, zr1⟩ := ST.out w1 o1
      have L := LI_start (w2 := w1.alloc zNdO) hlt rd1 on1 zr1 (heap_alloc_new _ _) (below_new w1 zNdO)
      have nm2 := NM2.out _ L.rd
      clear nm o1 ST rd1 on1 zr1 NM2
      go_wp2_with fail
      refine nm2.mono ?_
      rintro e w3 ⟨rfl, rd3, o3⟩
      have L := L.call rd3 o3
      generalize w1.heap.size = nb at *
      clear nm2 rd3 o3
      go_wp2
      go_loopw [30] (fun iv wr => ∃ (k : Nat) (va : Option Addr) (vm vc : Nat), k ≤ c ∧ iv = .int .i64 (k : Nat) ∧ LI w rb nb (isR k R2).2 false (.slice none 0 0) (.slice none 0 0) (.slice va vm vc) wr ∧ OwnR elI (nb + 1) wr (.slice va vm vc) (isR k R2).1) (fun iv _ => c - (intOf iv).toNat)
      case atStart => exact ⟨0, none, 0, 0, Nat.zero_le _, rfl, L, OwnR.nil _ _ _⟩
      case round =>
        clear L
        obtain ⟨k, va, vm, vc, hk, rfl, L, o⟩ := hrel
        by_cases hkc : k < c
        · have hstep : isR (k + 1) R2 = ((isR k R2).1 ++ [(((numR (isR k R2).2).1 + (numR (numR (isR k R2).2).2).1 * 256 : Nat) : Int)], (numR (numR (isR k R2).2).2).2) := rfl
          have hlen := isR_length k R2
          have lk := Nat.le_trans (isR_len k R2) l2
          have NMA := Lib.hid (fun (w' : World) (h' : RdIs w' rb (isR k R2).2) => number_any h' lk)
          have NMB := Lib.hid (fun (w' : World) (h' : RdIs w' rb (numR (isR k R2).2).2) => number_any h' (Nat.le_trans (numR_len _) lk))
          have hb1 := numR_le (isR k R2).2
          have hb2 := numR_le (numR (isR k R2).2).2
          obtain ⟨A, hA⟩ : ∃ A, isR (k + 1) R2 = A := ⟨_, rfl⟩
          rw [hA] at hstep
          have REL : ∀ (ya : Option Addr) (ym yc : Nat) (w9 : World), LI w rb nb A.2 false (.slice none 0 0) (.slice none 0 0) (.slice ya ym yc) w9 → OwnR elI (nb + 1) w9 (.slice ya ym yc) A.1 → LI w rb nb (isR (k + 1) R2).2 false (.slice none 0 0) (.slice none 0 0) (.slice ya ym yc) w9 ∧ OwnR elI (nb + 1) w9 (.slice ya ym yc) (isR (k + 1) R2).1 := fun _ _ _ _ a b => by rw [hA]; exact ⟨a, b⟩
          clear hA lk
          generalize isR k R2 = G at *
          obtain ⟨acc, Rk⟩ := G
          generalize (numR (numR Rk).2).1 = nb2 at *
          generalize (numR (numR Rk).2).2 = Rb at *
          generalize (numR Rk).1 = na at *
          generalize (numR Rk).2 = Ra at *
          subst hstep
          have RELH := Lib.hid REL
          have hsum : IntKind.i64.wrap ((na : Int) + (nb2 : Int) * 256) = ((na + nb2 * 256 : Nat) : Int) := by rw [IntKind.wrap_i64]; omega
          clear REL
          simp only at hlen L o
          (
            
            go_wp2_with fail
            have hS := True.intro
            refine wp_region_held_drew (S := fun _ => True) mixed hS (fun _ => ?_)
            show wpAnyH _ _ _ _ _ 12 (Array.replicate 12 false) _ _
            have L := L.drew
            
            refine wpAnyH_take_d 0 (some 32) (.pointer (some ⟨nb, 3, none⟩)) rfl (by kernel_rfl) (by kernel_rfl) (by kernel_rfl) (by kernel_rfl) rfl (fun _ _ _ h => h) (fun _ _ => by kernel_rfl) (by exact hS) ?_
            simp only [Act.put, List.setIfInBounds_toArray, List.set_cons_succ, List.set_cons_zero]
            refine wpAnyH_take_d 2 (some 34) (.pointer (some ⟨rb, 0, none⟩)) rfl (by kernel_rfl) (by kernel_rfl) (by kernel_rfl) (by kernel_rfl) rfl (fun _ _ _ h => h) (fun _ _ => by kernel_rfl) (by exact hS) ?_
            simp only [Act.put, List.setIfInBounds_toArray, List.set_cons_succ, List.set_cons_zero]
            refine wpAnyH_take_d 4 (some 36) (.pointer (some ⟨rb, 0, none⟩)) rfl (by kernel_rfl) (by kernel_rfl) (by kernel_rfl) (by kernel_rfl) rfl (fun _ _ _ h => h) (fun _ _ => by kernel_rfl) (by exact hS) ?_
            simp only [Act.put, List.setIfInBounds_toArray, List.set_cons_succ, List.set_cons_zero]
            refine wpAnyH_load_call 1 3 (some 33) (some 35) 63 #[.pointer (some ⟨rb, 0, none⟩)] (.slice va vm vc) rfl rfl (by kernel_rfl) (by kernel_rfl) (by kernel_rfl) rfl rfl (by kernel_rfl) (NMA.out _ L.rd) (exec_load_cell rfl rfl L.cs.c3 Try.underlying24 rfl) trivial ?_ ?_
            · rintro e w5 ⟨rfl, rd, oc⟩
              have o := own_call L o oc
              have L := L.call rd oc
              refine ⟨_, rfl, trivial, ?_⟩
              simp only [Act.put, List.setIfInBounds_toArray, List.set_cons_succ, List.set_cons_zero]
              refine wpAnyH_load_call 1 5 (some 33) (some 37) 63 #[.pointer (some ⟨rb, 0, none⟩)] (.slice va vm vc) rfl rfl (by kernel_rfl) (by kernel_rfl) (by kernel_rfl) rfl rfl (by kernel_rfl) (NMB.out _ L.rd) (exec_load_cell rfl rfl L.cs.c3 Try.underlying24 rfl) trivial ?_ ?_
              · rintro e w6 ⟨rfl, rd, oc⟩
                have o := own_call L o oc
                have L := L.call rd oc
                refine ⟨_, rfl, trivial, ?_⟩
                simp only [Act.put, List.setIfInBounds_toArray, List.set_cons_succ, List.set_cons_zero]
                refine wpAnyH_take_d 6 (some 38) (.int .i64 ((nb2 : Nat) * 256 : Int)) rfl (by kernel_rfl) (by kernel_rfl) (by kernel_rfl) (by kernel_rfl) rfl (fun _ _ _ h => h) (fun _ _ => ex_shl8 rfl rfl rfl hb2) (by exact hS) ?_
                simp only [Act.put, List.setIfInBounds_toArray, List.set_cons_succ, List.set_cons_zero]
                refine wpAnyH_take_d 7 (some 39) (.int .i64 ((na + nb2 * 256 : Nat) : Int)) rfl (by kernel_rfl) (by kernel_rfl) (by kernel_rfl) (by kernel_rfl) rfl (fun _ _ _ h => h) (fun _ _ => ex_add rfl rfl rfl hsum) (by exact hS) ?_
                simp only [Act.put, List.setIfInBounds_toArray, List.set_cons_succ, List.set_cons_zero]
                obtain ⟨v9, w9, hr9, o9, L9⟩ := L.appI o ((na + nb2 * 256 : Nat) : Int) (by rw [hlen]; omega) 24
                obtain ⟨ya, ym, yc, rfl, -⟩ := o9.form'
                refine wpAnyH_two 1 8 (some 33) (some 40) (.slice va vm vc) (.slice (some ⟨w6.heap.size, 0, none⟩) 1 1) rfl rfl (by kernel_rfl) (by kernel_rfl) (by kernel_rfl) rfl rfl (exec_load_cell rfl rfl L.cs.c3 Try.underlying24 rfl) (ex_b1 rfl rfl (build_i ((na + nb2 * 256 : Nat) : Int) w6)) trivial trivial ?_ ?_
                · have hS := True.intro
                  simp only [Act.put, List.setIfInBounds_toArray, List.set_cons_succ, List.set_cons_zero]
                  refine wpAnyH_one 8 (some 40) (.slice (some ⟨w6.heap.size, 0, none⟩) 1 1) rfl (by kernel_rfl) (by kernel_rfl) rfl (ex_b1 rfl rfl (build_i ((na + nb2 * 256 : Nat) : Int) w6)) (by exact hS) ?_
                  simp only [Act.put, List.setIfInBounds_toArray, List.set_cons_succ, List.set_cons_zero]
                  refine wpAnyH_one 9 (some 41) (.slice ya ym yc) rfl (by kernel_rfl) (by kernel_rfl) rfl (ex_app rfl rfl rfl hr9) (by exact hS) ?_
                  simp only [Act.put, List.setIfInBounds_toArray, List.set_cons_succ, List.set_cons_zero]
                  refine wpAnyH_one (w1 := w9) 10 (some 42) (.pointer (some ⟨nb, 3, none⟩)) rfl (by kernel_rfl) (by kernel_rfl) rfl (by kernel_rfl) (by exact hS) ?_
                  simp only [Act.put, List.setIfInBounds_toArray, List.set_cons_succ, List.set_cons_zero]
                  refine wpAnyH_skip1 11 rfl (by kernel_rfl) (by kernel_rfl) (exec_store_cell rfl rfl rfl rfl L9.cs.c3 (L9.free 3) (by kernel_rfl)) trivial ?_
                  refine wpAnyH_done (by kernel_rfl) ?_ _
                  have o9 := own_put o9 3 (.slice ya ym yc)
                  have L9 := L9.put3 (.slice ya ym yc)
                  have FIN := Lib.hid (And.intro L9 o9)
                  clear hr9 L9 o9 L o
                  go_wp2
                  go_roundw
                  case rel => exact ⟨k + 1, _, _, _, by omega, by go_num, (RELH.out _ _ _ _ FIN.out.1 FIN.out.2).1, (RELH.out _ _ _ _ FIN.out.1 FIN.out.2).2⟩
                  case measure => simp [intOf]; omega
                · have hS := True.intro
                  simp only [Act.put, List.setIfInBounds_toArray, List.set_cons_succ, List.set_cons_zero]
                  have Ln : LI w rb nb _ _ _ _ _ (w6.alloc (boxI ((na + nb2 * 256 : Nat) : Int))) := L.below ((Below.refl _ _).alloc (by have := L.sz; omega) _)
                  refine wpAnyH_one 1 (some 33) (.slice va vm vc) rfl (by kernel_rfl) (by kernel_rfl) rfl (exec_load_cell rfl rfl Ln.cs.c3 Try.underlying24 rfl) (by exact hS) ?_
                  simp only [Act.put, List.setIfInBounds_toArray, List.set_cons_succ, List.set_cons_zero]
                  clear Ln
                  refine wpAnyH_one 9 (some 41) (.slice ya ym yc) rfl (by kernel_rfl) (by kernel_rfl) rfl (ex_app rfl rfl rfl hr9) (by exact hS) ?_
                  simp only [Act.put, List.setIfInBounds_toArray, List.set_cons_succ, List.set_cons_zero]
                  refine wpAnyH_one (w1 := w9) 10 (some 42) (.pointer (some ⟨nb, 3, none⟩)) rfl (by kernel_rfl) (by kernel_rfl) rfl (by kernel_rfl) (by exact hS) ?_
                  simp only [Act.put, List.setIfInBounds_toArray, List.set_cons_succ, List.set_cons_zero]
                  refine wpAnyH_skip1 11 rfl (by kernel_rfl) (by kernel_rfl) (exec_store_cell rfl rfl rfl rfl L9.cs.c3 (L9.free 3) (by kernel_rfl)) trivial ?_
                  refine wpAnyH_done (by kernel_rfl) ?_ _
                  have o9 := own_put o9 3 (.slice ya ym yc)
                  have L9 := L9.put3 (.slice ya ym yc)
                  have FIN := Lib.hid (And.intro L9 o9)
                  clear hr9 L9 o9 L o
                  go_wp2
                  go_roundw
                  case rel => exact ⟨k + 1, _, _, _, by omega, by go_num, (RELH.out _ _ _ _ FIN.out.1 FIN.out.2).1, (RELH.out _ _ _ _ FIN.out.1 FIN.out.2).2⟩
                  case measure => simp [intOf]; omega
              · have hS := True.intro
                simp only [Act.put, List.setIfInBounds_toArray, List.set_cons_succ, List.set_cons_zero]
                refine wpAnyH_call 5 (some 37) 63 #[.pointer (some ⟨rb, 0, none⟩)] rfl (by kernel_rfl) (by kernel_rfl) rfl (by kernel_rfl) (NMB.out _ L.rd) ?_
                rintro e w6 ⟨rfl, rd, oc⟩
                have o := own_call L o oc
                have L := L.call rd oc
                refine ⟨_, rfl, trivial, ?_⟩
                simp only [Act.put, List.setIfInBounds_toArray, List.set_cons_succ, List.set_cons_zero]
                refine wpAnyH_take_d 6 (some 38) (.int .i64 ((nb2 : Nat) * 256 : Int)) rfl (by kernel_rfl) (by kernel_rfl) (by kernel_rfl) (by kernel_rfl) rfl (fun _ _ _ h => h) (fun _ _ => ex_shl8 rfl rfl rfl hb2) (by exact hS) ?_
                simp only [Act.put, List.setIfInBounds_toArray, List.set_cons_succ, List.set_cons_zero]
                refine wpAnyH_take_d 7 (some 39) (.int .i64 ((na + nb2 * 256 : Nat) : Int)) rfl (by kernel_rfl) (by kernel_rfl) (by kernel_rfl) (by kernel_rfl) rfl (fun _ _ _ h => h) (fun _ _ => ex_add rfl rfl rfl hsum) (by exact hS) ?_
                simp only [Act.put, List.setIfInBounds_toArray, List.set_cons_succ, List.set_cons_zero]
                obtain ⟨v9, w9, hr9, o9, L9⟩ := L.appI o ((na + nb2 * 256 : Nat) : Int) (by rw [hlen]; omega) 24
                obtain ⟨ya, ym, yc, rfl, -⟩ := o9.form'
                refine wpAnyH_one 8 (some 40) (.slice (some ⟨w6.heap.size, 0, none⟩) 1 1) rfl (by kernel_rfl) (by kernel_rfl) rfl (ex_b1 rfl rfl (build_i ((na + nb2 * 256 : Nat) : Int) w6)) (by exact hS) ?_
                simp only [Act.put, List.setIfInBounds_toArray, List.set_cons_succ, List.set_cons_zero]
                refine wpAnyH_one 9 (some 41) (.slice ya ym yc) rfl (by kernel_rfl) (by kernel_rfl) rfl (ex_app rfl rfl rfl hr9) (by exact hS) ?_
                simp only [Act.put, List.setIfInBounds_toArray, List.set_cons_succ, List.set_cons_zero]
                refine wpAnyH_one (w1 := w9) 10 (some 42) (.pointer (some ⟨nb, 3, none⟩)) rfl (by kernel_rfl) (by kernel_rfl) rfl (by kernel_rfl) (by exact hS) ?_
                simp only [Act.put, List.setIfInBounds_toArray, List.set_cons_succ, List.set_cons_zero]
                refine wpAnyH_skip1 11 rfl (by kernel_rfl) (by kernel_rfl) (exec_store_cell rfl rfl rfl rfl L9.cs.c3 (L9.free 3) (by kernel_rfl)) trivial ?_
                refine wpAnyH_done (by kernel_rfl) ?_ _
                have o9 := own_put o9 3 (.slice ya ym yc)
                have L9 := L9.put3 (.slice ya ym yc)
                have FIN := Lib.hid (And.intro L9 o9)
                clear hr9 L9 o9 L o
                go_wp2
                go_roundw
                case rel => exact ⟨k + 1, _, _, _, by omega, by go_num, (RELH.out _ _ _ _ FIN.out.1 FIN.out.2).1, (RELH.out _ _ _ _ FIN.out.1 FIN.out.2).2⟩
                case measure => simp [intOf]; omega
            · have hS := True.intro
              simp only [Act.put, List.setIfInBounds_toArray, List.set_cons_succ, List.set_cons_zero]
              refine wpAnyH_call 3 (some 35) 63 #[.pointer (some ⟨rb, 0, none⟩)] rfl (by kernel_rfl) (by kernel_rfl) rfl (by kernel_rfl) (NMA.out _ L.rd) ?_
              rintro e w5 ⟨rfl, rd, oc⟩
              have o := own_call L o oc
              have L := L.call rd oc
              refine ⟨_, rfl, trivial, ?_⟩
              simp only [Act.put, List.setIfInBounds_toArray, List.set_cons_succ, List.set_cons_zero]
              refine wpAnyH_call 5 (some 37) 63 #[.pointer (some ⟨rb, 0, none⟩)] rfl (by kernel_rfl) (by kernel_rfl) rfl (by kernel_rfl) (NMB.out _ L.rd) ?_
              rintro e w6 ⟨rfl, rd, oc⟩
              have o := own_call L o oc
              have L := L.call rd oc
              refine ⟨_, rfl, trivial, ?_⟩
              simp only [Act.put, List.setIfInBounds_toArray, List.set_cons_succ, List.set_cons_zero]
              refine wpAnyH_take_d 6 (some 38) (.int .i64 ((nb2 : Nat) * 256 : Int)) rfl (by kernel_rfl) (by kernel_rfl) (by kernel_rfl) (by kernel_rfl) rfl (fun _ _ _ h => h) (fun _ _ => ex_shl8 rfl rfl rfl hb2) (by exact hS) ?_
              simp only [Act.put, List.setIfInBounds_toArray, List.set_cons_succ, List.set_cons_zero]
              refine wpAnyH_take_d 7 (some 39) (.int .i64 ((na + nb2 * 256 : Nat) : Int)) rfl (by kernel_rfl) (by kernel_rfl) (by kernel_rfl) (by kernel_rfl) rfl (fun _ _ _ h => h) (fun _ _ => ex_add rfl rfl rfl hsum) (by exact hS) ?_
              simp only [Act.put, List.setIfInBounds_toArray, List.set_cons_succ, List.set_cons_zero]
              obtain ⟨v9, w9, hr9, o9, L9⟩ := L.appI o ((na + nb2 * 256 : Nat) : Int) (by rw [hlen]; omega) 24
              obtain ⟨ya, ym, yc, rfl, -⟩ := o9.form'
              refine wpAnyH_one 8 (some 40) (.slice (some ⟨w6.heap.size, 0, none⟩) 1 1) rfl (by kernel_rfl) (by kernel_rfl) rfl (ex_b1 rfl rfl (build_i ((na + nb2 * 256 : Nat) : Int) w6)) (by exact hS) ?_
              simp only [Act.put, List.setIfInBounds_toArray, List.set_cons_succ, List.set_cons_zero]
              refine wpAnyH_one 9 (some 41) (.slice ya ym yc) rfl (by kernel_rfl) (by kernel_rfl) rfl (ex_app rfl rfl rfl hr9) (by exact hS) ?_
              simp only [Act.put, List.setIfInBounds_toArray, List.set_cons_succ, List.set_cons_zero]
              refine wpAnyH_one (w1 := w9) 10 (some 42) (.pointer (some ⟨nb, 3, none⟩)) rfl (by kernel_rfl) (by kernel_rfl) rfl (by kernel_rfl) (by exact hS) ?_
              simp only [Act.put, List.setIfInBounds_toArray, List.set_cons_succ, List.set_cons_zero]
              refine wpAnyH_skip1 11 rfl (by kernel_rfl) (by kernel_rfl) (exec_store_cell rfl rfl rfl rfl L9.cs.c3 (L9.free 3) (by kernel_rfl)) trivial ?_
              refine wpAnyH_done (by kernel_rfl) ?_ _
              have o9 := own_put o9 3 (.slice ya ym yc)
              have L9 := L9.put3 (.slice ya ym yc)
              have FIN := Lib.hid (And.intro L9 o9)
              clear hr9 L9 o9 L o
              go_wp2
              go_roundw
              case rel => exact ⟨k + 1, _, _, _, by omega, by go_num, (RELH.out _ _ _ _ FIN.out.1 FIN.out.2).1, (RELH.out _ _ _ _ FIN.out.1 FIN.out.2).2⟩
              case measure => simp [intOf]; omega)
        · have hkc' : k = c := by omega
          subst hkc'
          have hvm : vm = k := by
            obtain ⟨_, _, e, _⟩ := o.form
            injection e with _ e _
            rw [e, isR_length]
          subst hvm
          have l3 := Nat.le_trans (isR_len vm R2) l2
          obtain ⟨s0, s1, s2, s3⟩ := L.cs
          have hns := L.sz
          have hrn : rb < nb := by have := L.lt; have := L.gt; omega
          have hrs : rb < wr.heap.size := by omega
          have hw : wrap64 ((vm : Int) - 1) = (vm : Int) - 1 := by unfold wrap64; omega
          clear hkc hk
          generalize isR vm R2 = I at *
          obtain ⟨KI, R3⟩ := I
          simp only at l3 L o
          have hm255 : vm - 1 ≤ 255 := by omega
          have hmx : max ((vm : Int) - 1) 0 = ((vm - 1 : Nat) : Int) := by omega
          generalize vm - 1 = m at *
          have kp := KP.refl wr rb nb
          have HOI := Lib.hid o
          clear o
          generalize wr = ws at *
          go_wp2
          clear hmx hw s0 s1 s2 s3
          go_loopw [49] (fun iv wr => ∃ (k : Nat) (ka : Option Addr) (km kc : Nat), k ≤ m ∧ iv = .int .i64 (k : Nat) ∧ LI w rb nb (ksR k R3).2 false (.slice none 0 0) (.slice ka km kc) (.slice va vm vc) wr ∧ OwnR elS ws.heap.size wr (.slice ka km kc) (ksR k R3).1 ∧ KP ws rb nb wr) (fun iv _ => m - (intOf iv).toNat)
          case atStart => exact ⟨0, none, 0, 0, Nat.zero_le _, rfl, L, OwnR.nil _ _ _, kp⟩
          case round =>
            clear L kp
            obtain ⟨k, ka, km, kc, hk, rfl, L, o, kp⟩ := hrel
            by_cases hkc : k < m
            · have hstep : ksR (k + 1) R3 = ((ksR k R3).1 ++ [(txtR (ksR k R3).2).1], (txtR (ksR k R3).2).2) := rfl
              have hlen := ksR_length k R3
              have lk := Nat.le_trans (ksR_len k R3) l3
              have TXA := Lib.hid (fun (w' : World) (h' : RdIs w' rb (ksR k R3).2) => text_any h' lk)
              obtain ⟨A, hA⟩ : ∃ A, ksR (k + 1) R3 = A := ⟨_, rfl⟩
              rw [hA] at hstep
              have REL : ∀ (ya : Option Addr) (ym yc : Nat) (w9 : World), LI w rb nb A.2 false (.slice none 0 0) (.slice ya ym yc) (.slice va vm vc) w9 → OwnR elS ws.heap.size w9 (.slice ya ym yc) A.1 → LI w rb nb (ksR (k + 1) R3).2 false (.slice none 0 0) (.slice ya ym yc) (.slice va vm vc) w9 ∧ OwnR elS ws.heap.size w9 (.slice ya ym yc) (ksR (k + 1) R3).1 := fun _ _ _ _ a b => by rw [hA]; exact ⟨a, b⟩
              clear hA lk
              generalize ksR k R3 = G at *
              obtain ⟨acc, Rk⟩ := G
              generalize (txtR Rk).1 = tk at *
              generalize (txtR Rk).2 = Ra at *
              subst hstep
              have RELH := Lib.hid REL
              clear REL
              simp only at hlen L o
              (
                
                go_wp2_with fail
                have hS := True.intro
                refine wp_region_held_drew (S := fun _ => True) mixed hS (fun _ => ?_)
                show wpAnyH _ _ _ _ _ 8 (Array.replicate 8 false) _ _
                have L := L.drew
                have kp := kp.drew
                refine wpAnyH_take_d 0 (some 51) (.pointer (some ⟨nb, 2, none⟩)) rfl (by kernel_rfl) (by kernel_rfl) (by kernel_rfl) (by kernel_rfl) rfl (fun _ _ _ h => h) (fun _ _ => by kernel_rfl) (by exact hS) ?_
                simp only [Act.put, List.setIfInBounds_toArray, List.set_cons_succ, List.set_cons_zero]
                refine wpAnyH_take_d 2 (some 53) (.pointer (some ⟨rb, 0, none⟩)) rfl (by kernel_rfl) (by kernel_rfl) (by kernel_rfl) (by kernel_rfl) rfl (fun _ _ _ h => h) (fun _ _ => by kernel_rfl) (by exact hS) ?_
                simp only [Act.put, List.setIfInBounds_toArray, List.set_cons_succ, List.set_cons_zero]
                refine wpAnyH_load_call 1 3 (some 52) (some 54) 64 #[.pointer (some ⟨rb, 0, none⟩)] (.slice ka km kc) rfl rfl (by kernel_rfl) (by kernel_rfl) (by kernel_rfl) rfl rfl (by kernel_rfl) (TXA.out _ L.rd) (exec_load_cell rfl rfl L.cs.c2 Try.underlying23 rfl) trivial ?_ ?_
                · rintro e w5 ⟨rfl, rd, oc⟩
                  have o := own_callB (wr := wr.drew) hrs o oc
                  have kp := kp.call oc
                  have L := L.call rd oc
                  refine ⟨_, rfl, trivial, ?_⟩
                  simp only [Act.put, List.setIfInBounds_toArray, List.set_cons_succ, List.set_cons_zero]
                  obtain ⟨v9, w9, hr9, o9, L9, kp9⟩ := L.appK kp hns o tk (by rw [hlen]; omega) 23
                  obtain ⟨ya, ym, yc, rfl, -⟩ := o9.form'
                  refine wpAnyH_two 1 4 (some 52) (some 55) (.slice ka km kc) (.slice (some ⟨w5.heap.size, 0, none⟩) 1 1) rfl rfl (by kernel_rfl) (by kernel_rfl) (by kernel_rfl) rfl rfl (exec_load_cell rfl rfl L.cs.c2 Try.underlying23 rfl) (ex_b1 rfl rfl (build_s tk w5)) trivial trivial ?_ ?_
                  · have hS := True.intro
                    simp only [Act.put, List.setIfInBounds_toArray, List.set_cons_succ, List.set_cons_zero]
                    refine wpAnyH_one 4 (some 55) (.slice (some ⟨w5.heap.size, 0, none⟩) 1 1) rfl (by kernel_rfl) (by kernel_rfl) rfl (ex_b1 rfl rfl (build_s tk w5)) (by exact hS) ?_
                    simp only [Act.put, List.setIfInBounds_toArray, List.set_cons_succ, List.set_cons_zero]
                    refine wpAnyH_one 5 (some 56) (.slice ya ym yc) rfl (by kernel_rfl) (by kernel_rfl) rfl (ex_app rfl rfl rfl hr9) (by exact hS) ?_
                    simp only [Act.put, List.setIfInBounds_toArray, List.set_cons_succ, List.set_cons_zero]
                    refine wpAnyH_one (w1 := w9) 6 (some 57) (.pointer (some ⟨nb, 2, none⟩)) rfl (by kernel_rfl) (by kernel_rfl) rfl (by kernel_rfl) (by exact hS) ?_
                    simp only [Act.put, List.setIfInBounds_toArray, List.set_cons_succ, List.set_cons_zero]
                    refine wpAnyH_skip1 7 rfl (by kernel_rfl) (by kernel_rfl) (exec_store_cell rfl rfl rfl rfl L9.cs.c2 (L9.free 2) (by kernel_rfl)) trivial ?_
                    refine wpAnyH_done (by kernel_rfl) ?_ _
                    have o9 := own_putB hns o9 2 (.slice ya ym yc)
                    have kp9 := kp9.put 2 (.slice ya ym yc)
                    have L9 := L9.put2 (.slice ya ym yc)
                    have FIN := Lib.hid (And.intro L9 (And.intro o9 kp9))
                    clear hr9 L9 o9 L o kp kp9
                    go_wp2
                    go_roundw
                    case rel => exact ⟨k + 1, _, _, _, by omega, by go_num, (RELH.out _ _ _ _ FIN.out.1 FIN.out.2.1).1, (RELH.out _ _ _ _ FIN.out.1 FIN.out.2.1).2, FIN.out.2.2⟩
                    case measure => simp [intOf]; omega
                  · have hS := True.intro
                    simp only [Act.put, List.setIfInBounds_toArray, List.set_cons_succ, List.set_cons_zero]
                    have Ln : LI w rb nb _ _ _ _ _ (w5.alloc (boxS tk)) := L.below ((Below.refl _ _).alloc (by have := L.sz; omega) _)
                    refine wpAnyH_one 1 (some 52) (.slice ka km kc) rfl (by kernel_rfl) (by kernel_rfl) rfl (exec_load_cell rfl rfl Ln.cs.c2 Try.underlying23 rfl) (by exact hS) ?_
                    simp only [Act.put, List.setIfInBounds_toArray, List.set_cons_succ, List.set_cons_zero]
                    clear Ln
                    refine wpAnyH_one 5 (some 56) (.slice ya ym yc) rfl (by kernel_rfl) (by kernel_rfl) rfl (ex_app rfl rfl rfl hr9) (by exact hS) ?_
                    simp only [Act.put, List.setIfInBounds_toArray, List.set_cons_succ, List.set_cons_zero]
                    refine wpAnyH_one (w1 := w9) 6 (some 57) (.pointer (some ⟨nb, 2, none⟩)) rfl (by kernel_rfl) (by kernel_rfl) rfl (by kernel_rfl) (by exact hS) ?_
                    simp only [Act.put, List.setIfInBounds_toArray, List.set_cons_succ, List.set_cons_zero]
                    refine wpAnyH_skip1 7 rfl (by kernel_rfl) (by kernel_rfl) (exec_store_cell rfl rfl rfl rfl L9.cs.c2 (L9.free 2) (by kernel_rfl)) trivial ?_
                    refine wpAnyH_done (by kernel_rfl) ?_ _
                    have o9 := own_putB hns o9 2 (.slice ya ym yc)
                    have kp9 := kp9.put 2 (.slice ya ym yc)
                    have L9 := L9.put2 (.slice ya ym yc)
                    have FIN := Lib.hid (And.intro L9 (And.intro o9 kp9))
                    clear hr9 L9 o9 L o kp kp9
                    go_wp2
                    go_roundw
                    case rel => exact ⟨k + 1, _, _, _, by omega, by go_num, (RELH.out _ _ _ _ FIN.out.1 FIN.out.2.1).1, (RELH.out _ _ _ _ FIN.out.1 FIN.out.2.1).2, FIN.out.2.2⟩
                    case measure => simp [intOf]; omega
                · have hS := True.intro
                  simp only [Act.put, List.setIfInBounds_toArray, List.set_cons_succ, List.set_cons_zero]
                  refine wpAnyH_call 3 (some 54) 64 #[.pointer (some ⟨rb, 0, none⟩)] rfl (by kernel_rfl) (by kernel_rfl) rfl (by kernel_rfl) (TXA.out _ L.rd) ?_
                  rintro e w5 ⟨rfl, rd, oc⟩
                  have o := own_callB (wr := wr.drew) hrs o oc
                  have kp := kp.call oc
                  have L := L.call rd oc
                  refine ⟨_, rfl, trivial, ?_⟩
                  simp only [Act.put, List.setIfInBounds_toArray, List.set_cons_succ, List.set_cons_zero]
                  obtain ⟨v9, w9, hr9, o9, L9, kp9⟩ := L.appK kp hns o tk (by rw [hlen]; omega) 23
                  obtain ⟨ya, ym, yc, rfl, -⟩ := o9.form'
                  refine wpAnyH_one 4 (some 55) (.slice (some ⟨w5.heap.size, 0, none⟩) 1 1) rfl (by kernel_rfl) (by kernel_rfl) rfl (ex_b1 rfl rfl (build_s tk w5)) (by exact hS) ?_
                  simp only [Act.put, List.setIfInBounds_toArray, List.set_cons_succ, List.set_cons_zero]
                  refine wpAnyH_one 5 (some 56) (.slice ya ym yc) rfl (by kernel_rfl) (by kernel_rfl) rfl (ex_app rfl rfl rfl hr9) (by exact hS) ?_
                  simp only [Act.put, List.setIfInBounds_toArray, List.set_cons_succ, List.set_cons_zero]
                  refine wpAnyH_one (w1 := w9) 6 (some 57) (.pointer (some ⟨nb, 2, none⟩)) rfl (by kernel_rfl) (by kernel_rfl) rfl (by kernel_rfl) (by exact hS) ?_
                  simp only [Act.put, List.setIfInBounds_toArray, List.set_cons_succ, List.set_cons_zero]
                  refine wpAnyH_skip1 7 rfl (by kernel_rfl) (by kernel_rfl) (exec_store_cell rfl rfl rfl rfl L9.cs.c2 (L9.free 2) (by kernel_rfl)) trivial ?_
                  refine wpAnyH_done (by kernel_rfl) ?_ _
                  have o9 := own_putB hns o9 2 (.slice ya ym yc)
                  have kp9 := kp9.put 2 (.slice ya ym yc)
                  have L9 := L9.put2 (.slice ya ym yc)
                  have FIN := Lib.hid (And.intro L9 (And.intro o9 kp9))
                  clear hr9 L9 o9 L o kp kp9
                  go_wp2
                  go_roundw
                  case rel => exact ⟨k + 1, _, _, _, by omega, by go_num, (RELH.out _ _ _ _ FIN.out.1 FIN.out.2.1).1, (RELH.out _ _ _ _ FIN.out.1 FIN.out.2.1).2, FIN.out.2.2⟩
                  case measure => simp [intOf]; omega)
            · have hkc' : k = m := by omega
              subst hkc'
              obtain ⟨s0, s1, s2, s3⟩ := L.cs
              have zr := L.zr
              have HL := Lib.hid L
              have HO := Lib.hid (o.base (b' := nb + 1) hns)
              have HI := Lib.hid (kp.own hrn HOI.out)
              clear L o kp hkc hk
              go_wp2_with (with_reducible refine wpList_store_nd (a0 := wr) (B := w.heap.size) rfl (.tmp 2) (.tmp 59) rfl w.heap.size false (.slice none 0 0) (.slice ka km kc) (.slice va vm vc) rfl rfl #[.bool false, .slice none 0 0, .slice none 0 0, .slice none 0 0] zr rfl (.mk _ _ _) (.mk _ _ _) (.mk _ _ _) (Below.refl _ _) (Nat.le_refl _) ?_)
              rintro w8 ⟨r0, r1, r2, r3⟩ - B2 k2
              clear s0 s1 s2 s3 zr
              go_wp2
              refine bodyPost_ret (v := .agg #[.bool false, .slice none 0 0, .slice ka km kc, .slice va vm vc]) (by simp [results, Try.results39, go_sem, r0, r1, r2, r3]) rfl ?_
              rw [← HN.out]
              exact HL.out.ret (OwnR.nil _ _ _) HO.out HI.out B2 k2
    · rw [if_neg e2] at hN
      have hd1 : ¬ (((numR R).1 : Nat) : Int) = 1 := by omega
      have hd2 : ¬ (((numR R).1 : Nat) : Int) = 2 := by omega
      have bz := build_nd
      clear e1 e2
      generalize (numR R).2 = R1 at *
      generalize (numR R).1 = n0 at *
      have HN := Lib.hid hN
      clear hN
      go_enter Try.func39, Try.ntmps39
      go_wp2_with fail
      refine nm.mono ?_
      rintro e w1 ⟨rfl, rd1, o1⟩
      obtain ⟨on1, zr1⟩ := ST.out w1 o1
      have bz1 := bz w1
      clear nm o1 ST NM2 bz
      go_wp2_with (with_reducible refine wpList_store_nd (a0 := w1) (B := w.heap.size) rfl (.tmp 2) (.tmp 60) rfl w.heap.size false (.slice none 0 0) (.slice none 0 0) (.slice none 0 0) rfl rfl #[.bool false, .slice none 0 0, .slice none 0 0, .slice none 0 0] zr1 rfl (.mk _ _ _) (.mk _ _ _) (.mk _ _ _) (Below.refl _ _) (Nat.le_refl _) ?_)
      rintro w8 ⟨r0, r1, r2, r3⟩ - B2 k2
      go_wp2
      refine bodyPost_ret (v := .agg #[.bool false, .slice none 0 0, .slice none 0 0, .slice none 0 0]) (by simp [results, Try.results39, go_sem, r0, r1, r2, r3]) rfl ?_
      rw [← HN.out]
      exact ⟨⟨_, rfl, NdOwn.none _ _⟩, rd1.keep (B2.block _ hlt), ⟨B2.os.trans on1.os, B2.tape.trans on1.tape, B2.output.trans on1.output, Nat.le_trans on1.size B2.size, fun k hk hn => (B2.block k hk).trans (on1.keep k hk hn)⟩⟩
end Go.Proofs.Ytjjdpclobkdbjaa
