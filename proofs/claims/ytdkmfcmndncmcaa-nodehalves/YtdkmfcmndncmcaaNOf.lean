/- The contract of the law's own of. No statement of the seat is proved here. -/
import Derived.Test.YtdkmfcmndncmcaaNFull
namespace Go.Proofs.Ytdkmfcmndncmcaa
set_option maxRecDepth 20000
open Go.RowKit

theorem ex_mk {P : Program} {w w1 : World} {ρ : Operand → Value} {o : Oper} {t : TypeId} {l c : Operand} {x y v : Value} (ho : o.op = .makeSlice t l c) (hl : ρ l = x) (hc : ρ c = y) (hrun : (Instr.makeSlice t x y).run P w = .ok v w1) : (execOp ρ o).run P w = .ok (.value v) w1 := by
  unfold execOp
  simp [ho, hl, hc, hrun]
theorem ex_build4 {P : Program} {w : World} {ρ : Operand → Value} {o : Oper} {t : TypeId} {x0 x1 x2 x3 : Operand} {v0 v1 v2 v3 v : Value} (ho : o.op = .build t #[(0, x0), (1, x1), (2, x2), (3, x3)]) (h0 : ρ x0 = v0) (h1 : ρ x1 = v1) (h2 : ρ x2 = v2) (h3 : ρ x3 = v3) (hrun : (Instr.build t #[(0, v0), (1, v1), (2, v2), (3, v3)]).run P w = .ok v w) : (execOp ρ o).run P w = .ok (.value v) w := by
  unfold execOp
  simp [ho, h0, h1, h2, h3, hrun]
theorem ex_store_row {P : Program} {w : World} {ρ : Operand → Value} {o : Oper} {ty : TypeId} {x y : Operand} {g : Nat} {cells old : Array Value} {t : TypeId} (ho : o.op = .store ty x y) (hx : ρ x = .pointer (some ⟨g, 0, none⟩)) (hy : ρ y = .agg cells)
    (hg : w.heap[g]? = some (.cells old t (0, 0))) (hi : (P.info? ty).map (·.size) = some cells.size) (hold : old.size = cells.size) (h1 : cells.all (·.oneCell') = true) : (execOp ρ o).run P w = .ok .skip (w.setRow g cells) := by
  unfold execOp
  simp only [ho, hx, hy, Instr.storeAt, Instr.sureAddr, Sem.run_bind, Sem.run_pure, Result.andThen_ok, run_storeVar_row w g t ty old cells hg hi hold h1]
theorem wpAnyH_one_skip {P : Program} {md : Region.Mode} {ops : Array Oper} {Q : Exit → Act → World → Prop} {S : World → Prop} {fuel : Nat} {L : Array Bool} {a : Act} {w w1 : World} (i : Nat) {o : Oper} (hi : ops[i]? = some o) (hr : Region.ready md ops L = [i]) (hw : Region.wanted o (yielded ops a.tmps) = true)
    (hy : (execOp a.eval o).run P w = .ok .skip w1) (hS : S w1) (h : wpAnyH P md ops Q S fuel (L.setIfInBounds i true) (a.put o.dst undef) w1) : wpAnyH P md ops Q S (fuel + 1) L a w := by
  refine wpAnyH_ready hr (by simp) (AllReadyH.cons hi (fun K hK => ?_) AllReadyH.nil)
  rw [if_pos hw]
  unfold Oper.wp
  rw [hy]; exact hK.out _ _ hS (fun _ => h)
theorem wpAnyH_two {P : Program} {md : Region.Mode} {ops : Array Oper} {Q : Exit → Act → World → Prop} {S : World → Prop} {fuel : Nat} {L : Array Bool} {a : Act} {w w1 w2 : World} (i j : Nat) (di dj : Option Tmp) (vi vj : Value) {oi oj : Oper} (hi : ops[i]? = some oi) (hj : ops[j]? = some oj) (hr : Region.ready md ops L = [i, j])
    (hwi : Region.wanted oi (yielded ops a.tmps) = true) (hwj : Region.wanted oj (yielded ops a.tmps) = true) (hdi : oi.dst = di) (hdj : oj.dst = dj) (hyi : (execOp a.eval oi).run P w = .ok (.value vi) w1) (hyj : (execOp a.eval oj).run P w = .ok (.value vj) w2) (hS1 : S w1) (hS2 : S w2)
    (h1 : wpAnyH P md ops Q S fuel (L.setIfInBounds i true) (a.put di vi) w1) (h2 : wpAnyH P md ops Q S fuel (L.setIfInBounds j true) (a.put dj vj) w2) : wpAnyH P md ops Q S (fuel + 1) L a w := by
  subst hdi
  subst hdj
  refine wpAnyH_ready hr (by simp) (AllReadyH.cons hi (fun K hK => ?_) (AllReadyH.cons hj (fun K hK => ?_) AllReadyH.nil))
  · rw [if_pos hwi]
    unfold Oper.wp
    rw [hyi]; exact hK.out _ _ hS1 (fun _ => h1)
  · rw [if_pos hwj]
    unfold Oper.wp
    rw [hyj]; exact hK.out _ _ hS2 (fun _ => h2)
theorem wpAnyH_three {P : Program} {md : Region.Mode} {ops : Array Oper} {Q : Exit → Act → World → Prop} {S : World → Prop} {fuel : Nat} {L : Array Bool} {a : Act} {w w1 w2 w3 : World} (i j k : Nat) (di dj dk : Option Tmp) (vi vj vk : Value) {oi oj ok : Oper} (hi : ops[i]? = some oi) (hj : ops[j]? = some oj) (hk : ops[k]? = some ok) (hr : Region.ready md ops L = [i, j, k])
    (hwi : Region.wanted oi (yielded ops a.tmps) = true) (hwj : Region.wanted oj (yielded ops a.tmps) = true) (hwk : Region.wanted ok (yielded ops a.tmps) = true) (hdi : oi.dst = di) (hdj : oj.dst = dj) (hdk : ok.dst = dk) (hyi : (execOp a.eval oi).run P w = .ok (.value vi) w1) (hyj : (execOp a.eval oj).run P w = .ok (.value vj) w2) (hyk : (execOp a.eval ok).run P w = .ok (.value vk) w3) (hS1 : S w1) (hS2 : S w2) (hS3 : S w3)
    (h1 : wpAnyH P md ops Q S fuel (L.setIfInBounds i true) (a.put di vi) w1) (h2 : wpAnyH P md ops Q S fuel (L.setIfInBounds j true) (a.put dj vj) w2) (h3 : wpAnyH P md ops Q S fuel (L.setIfInBounds k true) (a.put dk vk) w3) : wpAnyH P md ops Q S (fuel + 1) L a w := by
  subst hdi
  subst hdj
  subst hdk
  refine wpAnyH_ready hr (by simp) (AllReadyH.cons hi (fun K hK => ?_) (AllReadyH.cons hj (fun K hK => ?_) (AllReadyH.cons hk (fun K hK => ?_) AllReadyH.nil)))
  · rw [if_pos hwi]
    unfold Oper.wp
    rw [hyi]; exact hK.out _ _ hS1 (fun _ => h1)
  · rw [if_pos hwj]
    unfold Oper.wp
    rw [hyj]; exact hK.out _ _ hS2 (fun _ => h2)
  · rw [if_pos hwk]
    unfold Oper.wp
    rw [hyk]; exact hK.out _ _ hS3 (fun _ => h3)
theorem OwnZ.base {α : Type} {E : El α} {b b' : Nat} {w : World} {v : Value} {n : Nat} (h : OwnZ E b w v n) (hb : b' ≤ b) : OwnZ E b' w v n := by
  obtain ⟨g, cur, h1, h2, h3, h4⟩ := h
  exact ⟨g, cur, h1, Nat.le_trans hb h2, h3, h4⟩
theorem OwnF.keepg {α : Type} {E : El α} {base g : Nat} {w w1 : World} {v : Value} {l : List α} (h : OwnF E base w v l) (hg : g < base) (hk : ∀ k, k ≠ g → w1.heap[k]? = w.heap[k]?) : OwnF E base w1 v l := by
  obtain ⟨q, cur, h1, h2, h3, h4⟩ := h
  exact ⟨q, cur, h1, h2, (hk q (by omega)).trans h3, h4⟩
theorem mk_at {α : Type} {E : El α} (hE : ElOk E) {B : Nat} {W0 w : World} (hb : Below B W0 w) (h0 : B ≤ W0.heap.size) (n : Nat) (hn : (n + 1) * E.bytes ≤ 281474976710656) : ∃ v w1, (Instr.makeSlice E.st (.int .i64 0) (.int .i64 ((n : Int) + 1))).run Try.prog w = .ok v w1 ∧ OwnZ E B w1 v n ∧ Below B W0 w1 ∧ Below w.heap.size w w1 := by
  obtain ⟨w1, hr, oz, b1⟩ := mk_zero hE w n hn
  exact ⟨_, w1, hr, oz.base (Nat.le_trans h0 hb.size), hb.trans (b1.mono (Nat.le_trans h0 hb.size)), b1⟩
/-- a node that the law makes: each list has room for one more -/
def NdFull (base : Nat) (w : World) (v : Value) (n : Nd) : Prop := ∃ pv kv iv, v = .agg #[.bool n.leaf, pv, kv, iv] ∧ OwnF elP base w pv n.ps ∧ OwnF elS base w kv n.ks ∧ OwnF elI base w iv n.is
theorem below_setRow' {B : Nat} {a w : World} (h : Below B a w) {g : Nat} (hg : B ≤ g) (cs : Array Value) : Below B a (w.setRow g cs) :=
  ⟨h.os, h.tape, h.output, by have := h.size; simpa using this, fun k hk => by rw [setRow_other w g k cs (by omega)]; exact h.block k hk⟩
set_option maxHeartbeats 12800000 in
theorem of_any {w : World} {v : Value} {n : Nd} (h : NdAt w.heap.size w v n) : Calls Try.prog 15 #[v] w fun e w' => ∃ v', e = .returned v' ∧ NdFull w.heap.size w' v' n ∧ Below w.heap.size w w' := by
  have hsm := h.small
  obtain ⟨pv, kv, iv, rfl, h1, h2, h3⟩ := h
  obtain ⟨pa, pm, pc, rfl, hpm⟩ := h1.form
  obtain ⟨ka, km, kc, rfl, hkm⟩ := h2.form
  obtain ⟨ia, im, ic, rfl, him⟩ := h3.form
  have n1 : (pm + 1) * elP.bytes ≤ 281474976710656 := by have := hsm.1; rw [← hpm.out] at this; show (pm + 1) * 32 ≤ _; omega
  have n2 : (km + 1) * elS.bytes ≤ 281474976710656 := by have := hsm.2.1; rw [← hkm.out] at this; show (km + 1) * 16 ≤ _; omega
  have n3 : (im + 1) * elI.bytes ≤ 281474976710656 := by have := hsm.2.2; rw [← him.out] at this; show (im + 1) * 8 ≤ _; omega
  have ly1 : pm ≤ 17592186043904 := by rw [hpm.out]; exact h1.len okP
  have y1 : IntKind.i64.wrap ((pm : Int) + 1) = (pm : Int) + 1 := by rw [IntKind.wrap_i64]; omega
  have ly2 : km ≤ 17592186043904 := by rw [hkm.out]; exact h2.len okS
  have y2 : IntKind.i64.wrap ((km : Int) + 1) = (km : Int) + 1 := by rw [IntKind.wrap_i64]; omega
  have ly3 : im ≤ 17592186043904 := by rw [him.out]; exact h3.len okZ
  have y3 : IntKind.i64.wrap ((im : Int) + 1) = (im : Int) + 1 := by rw [IntKind.wrap_i64]; omega
  have hW : ∃ W0, (w.alloc (.cells #[.bool n.leaf, .slice pa pm pc, .slice ka km kc, .slice ia im ic] 26)).alloc zNdO = W0 := ⟨_, rfl⟩
  obtain ⟨W0, hW0⟩ := hW
  have hz : W0.heap.size = w.heap.size + 2 := by rw [← hW0]; simp
  have hg0 : W0.heap[w.heap.size]? = some (.cells #[.bool n.leaf, .slice pa pm pc, .slice ka km kc, .slice ia im ic] 26 (0, 0)) := by
    rw [← hW0, Below.heap_alloc _ _ _ (by simp)]; exact heap_alloc_new _ _
  have hgz : W0.heap[w.heap.size + 1]? = some zNdO := by
    rw [← hW0]
    have := heap_alloc_new (w.alloc (.cells #[.bool n.leaf, .slice pa pm pc, .slice ka km kc, .slice ia im ic] 26)) zNdO
    rwa [show (w.alloc (.cells #[.bool n.leaf, .slice pa pm pc, .slice ka km kc, .slice ia im ic] 26)).heap.size = w.heap.size + 1 by simp] at this
  have hbw : Below w.heap.size w W0 := by rw [← hW0]; exact (below_new _ _).trans ((below_new _ _).mono (by simp))
  have AR := Lib.hid (fun (w' : World) (b : Below (w.heap.size + 2) W0 w') => And.intro ((h1.below hbw).below (b.mono (by omega))) (And.intro ((h2.below hbw).below (b.mono (by omega))) ((h3.below hbw).below (b.mono (by omega)))))
  have BQ := Lib.hid (fun (w' : World) (b : Below (w.heap.size + 1) W0 w') => NdCells.of ((b.block w.heap.size (Nat.lt_succ_self _)).trans hg0))
  have BZ := Lib.hid (fun (w' : World) (b : Below (w.heap.size + 2) W0 w') => (b.block (w.heap.size + 1) (Nat.lt_succ_self _)).trans hgz)
  have HBW := Lib.hid hbw
  have h0 : w.heap.size + 2 ≤ W0.heap.size := by omega
  have bb : Below (w.heap.size + 2) W0 W0.drew := (Below.refl _ _).drew
  have SB := Lib.hid (fun (w' : World) (b : Below (w.heap.size + 2) W0 w') => b.mono (Nat.le_succ (w.heap.size + 1)))
  have HL : Hid (pm = n.ps.length ∧ km = n.ks.length ∧ im = n.is.length) := Lib.hid ⟨hpm.out, hkm.out, him.out⟩
  clear h1 h2 h3 hg0 hgz hbw hpm hkm him hsm hz
  go_enter Try.func15, Try.ntmps15
  go_wp2_with fail
  have hS := SB.out _ bb
  refine wp_region_held_drew (S := fun w' => Below (w.heap.size + 1) W0 w') mixed hS (fun _ => ?_)
  show wpAnyH _ _ _ _ _ 28 (Array.replicate 28 false) _ _
  refine wpAnyH_take_d 0 (some 3) (.pointer (some ⟨w.heap.size, 0, none⟩)) rfl (by kernel_rfl) (by kernel_rfl) (by kernel_rfl) (by kernel_rfl) rfl (fun _ _ _ h => h) (fun _ _ => by kernel_rfl) (by exact hS) ?_
  simp only [Act.put, List.setIfInBounds_toArray, List.set_cons_succ, List.set_cons_zero]
  refine wpAnyH_take_d 1 (some 4) (.bool n.leaf) rfl (by kernel_rfl) (by kernel_rfl) (by kernel_rfl) (by kernel_rfl) rfl (fun _ _ _ h => h) (fun w' h => exec_load_cell rfl rfl (BQ.out _ h).c0 Try.underlying4 rfl) (by exact hS) ?_
  simp only [Act.put, List.setIfInBounds_toArray, List.set_cons_succ, List.set_cons_zero]
  refine wpAnyH_take_d 2 (some 5) (.pointer (some ⟨w.heap.size, 1, none⟩)) rfl (by kernel_rfl) (by kernel_rfl) (by kernel_rfl) (by kernel_rfl) rfl (fun _ _ _ h => h) (fun _ _ => by kernel_rfl) (by exact hS) ?_
  simp only [Act.put, List.setIfInBounds_toArray, List.set_cons_succ, List.set_cons_zero]
  refine wpAnyH_take_d 3 (some 6) (.slice pa pm pc) rfl (by kernel_rfl) (by kernel_rfl) (by kernel_rfl) (by kernel_rfl) rfl (fun _ _ _ h => h) (fun w' h => exec_load_cell rfl rfl (BQ.out _ h).c1 Try.underlying22 rfl) (by exact hS) ?_
  simp only [Act.put, List.setIfInBounds_toArray, List.set_cons_succ, List.set_cons_zero]
  refine wpAnyH_take_d 4 (some 7) (.int .i64 pm) rfl (by kernel_rfl) (by kernel_rfl) (by kernel_rfl) (by kernel_rfl) rfl (fun _ _ _ h => h) (fun w' h => ex_len rfl rfl Try.underlying22) (by exact hS) ?_
  simp only [Act.put, List.setIfInBounds_toArray, List.set_cons_succ, List.set_cons_zero]
  refine wpAnyH_take_d 5 (some 8) (.int .i64 ((pm : Int) + 1)) rfl (by kernel_rfl) (by kernel_rfl) (by kernel_rfl) (by kernel_rfl) rfl (fun _ _ _ h => h) (fun w' h => ex_add rfl rfl rfl y1) (by exact hS) ?_
  simp only [Act.put, List.setIfInBounds_toArray, List.set_cons_succ, List.set_cons_zero]
  refine wpAnyH_take_d 7 (some 10) (.pointer (some ⟨w.heap.size, 1, none⟩)) rfl (by kernel_rfl) (by kernel_rfl) (by kernel_rfl) (by kernel_rfl) rfl (fun _ _ _ h => h) (fun _ _ => by kernel_rfl) (by exact hS) ?_
  simp only [Act.put, List.setIfInBounds_toArray, List.set_cons_succ, List.set_cons_zero]
  refine wpAnyH_take_d 8 (some 11) (.slice pa pm pc) rfl (by kernel_rfl) (by kernel_rfl) (by kernel_rfl) (by kernel_rfl) rfl (fun _ _ _ h => h) (fun w' h => exec_load_cell rfl rfl (BQ.out _ h).c1 Try.underlying22 rfl) (by exact hS) ?_
  simp only [Act.put, List.setIfInBounds_toArray, List.set_cons_succ, List.set_cons_zero]
  refine wpAnyH_take_d 10 (some 13) (.pointer (some ⟨w.heap.size, 2, none⟩)) rfl (by kernel_rfl) (by kernel_rfl) (by kernel_rfl) (by kernel_rfl) rfl (fun _ _ _ h => h) (fun _ _ => by kernel_rfl) (by exact hS) ?_
  simp only [Act.put, List.setIfInBounds_toArray, List.set_cons_succ, List.set_cons_zero]
  refine wpAnyH_take_d 11 (some 14) (.slice ka km kc) rfl (by kernel_rfl) (by kernel_rfl) (by kernel_rfl) (by kernel_rfl) rfl (fun _ _ _ h => h) (fun w' h => exec_load_cell rfl rfl (BQ.out _ h).c2 Try.underlying23 rfl) (by exact hS) ?_
  simp only [Act.put, List.setIfInBounds_toArray, List.set_cons_succ, List.set_cons_zero]
  refine wpAnyH_take_d 12 (some 15) (.int .i64 km) rfl (by kernel_rfl) (by kernel_rfl) (by kernel_rfl) (by kernel_rfl) rfl (fun _ _ _ h => h) (fun w' h => ex_len rfl rfl Try.underlying23) (by exact hS) ?_
  simp only [Act.put, List.setIfInBounds_toArray, List.set_cons_succ, List.set_cons_zero]
  refine wpAnyH_take_d 13 (some 16) (.int .i64 ((km : Int) + 1)) rfl (by kernel_rfl) (by kernel_rfl) (by kernel_rfl) (by kernel_rfl) rfl (fun _ _ _ h => h) (fun w' h => ex_add rfl rfl rfl y2) (by exact hS) ?_
  simp only [Act.put, List.setIfInBounds_toArray, List.set_cons_succ, List.set_cons_zero]
  refine wpAnyH_take_d 15 (some 18) (.pointer (some ⟨w.heap.size, 2, none⟩)) rfl (by kernel_rfl) (by kernel_rfl) (by kernel_rfl) (by kernel_rfl) rfl (fun _ _ _ h => h) (fun _ _ => by kernel_rfl) (by exact hS) ?_
  simp only [Act.put, List.setIfInBounds_toArray, List.set_cons_succ, List.set_cons_zero]
  refine wpAnyH_take_d 16 (some 19) (.slice ka km kc) rfl (by kernel_rfl) (by kernel_rfl) (by kernel_rfl) (by kernel_rfl) rfl (fun _ _ _ h => h) (fun w' h => exec_load_cell rfl rfl (BQ.out _ h).c2 Try.underlying23 rfl) (by exact hS) ?_
  simp only [Act.put, List.setIfInBounds_toArray, List.set_cons_succ, List.set_cons_zero]
  refine wpAnyH_take_d 18 (some 21) (.pointer (some ⟨w.heap.size, 3, none⟩)) rfl (by kernel_rfl) (by kernel_rfl) (by kernel_rfl) (by kernel_rfl) rfl (fun _ _ _ h => h) (fun _ _ => by kernel_rfl) (by exact hS) ?_
  simp only [Act.put, List.setIfInBounds_toArray, List.set_cons_succ, List.set_cons_zero]
  refine wpAnyH_take_d 19 (some 22) (.slice ia im ic) rfl (by kernel_rfl) (by kernel_rfl) (by kernel_rfl) (by kernel_rfl) rfl (fun _ _ _ h => h) (fun w' h => exec_load_cell rfl rfl (BQ.out _ h).c3 Try.underlying24 rfl) (by exact hS) ?_
  simp only [Act.put, List.setIfInBounds_toArray, List.set_cons_succ, List.set_cons_zero]
  refine wpAnyH_take_d 20 (some 23) (.int .i64 im) rfl (by kernel_rfl) (by kernel_rfl) (by kernel_rfl) (by kernel_rfl) rfl (fun _ _ _ h => h) (fun w' h => ex_len rfl rfl Try.underlying24) (by exact hS) ?_
  simp only [Act.put, List.setIfInBounds_toArray, List.set_cons_succ, List.set_cons_zero]
  refine wpAnyH_take_d 21 (some 24) (.int .i64 ((im : Int) + 1)) rfl (by kernel_rfl) (by kernel_rfl) (by kernel_rfl) (by kernel_rfl) rfl (fun _ _ _ h => h) (fun w' h => ex_add rfl rfl rfl y3) (by exact hS) ?_
  simp only [Act.put, List.setIfInBounds_toArray, List.set_cons_succ, List.set_cons_zero]
  refine wpAnyH_take_d 23 (some 26) (.pointer (some ⟨w.heap.size, 3, none⟩)) rfl (by kernel_rfl) (by kernel_rfl) (by kernel_rfl) (by kernel_rfl) rfl (fun _ _ _ h => h) (fun _ _ => by kernel_rfl) (by exact hS) ?_
  simp only [Act.put, List.setIfInBounds_toArray, List.set_cons_succ, List.set_cons_zero]
  refine wpAnyH_take_d 24 (some 27) (.slice ia im ic) rfl (by kernel_rfl) (by kernel_rfl) (by kernel_rfl) (by kernel_rfl) rfl (fun _ _ _ h => h) (fun w' h => exec_load_cell rfl rfl (BQ.out _ h).c3 Try.underlying24 rfl) (by exact hS) ?_
  simp only [Act.put, List.setIfInBounds_toArray, List.set_cons_succ, List.set_cons_zero]
  obtain ⟨v1Pm, w1Pm, r1Pm, o1Pm, b1Pm, e1Pm⟩ := mk_at okP bb h0 pm n1
  obtain ⟨v1Sm, w1Sm, r1Sm, o1Sm, b1Sm, e1Sm⟩ := mk_at okS bb h0 km n2
  obtain ⟨v1Im, w1Im, r1Im, o1Im, b1Im, e1Im⟩ := mk_at okZ bb h0 im n3
  refine wpAnyH_three 6 14 22 (some 9) (some 17) (some 25) v1Pm v1Sm v1Im rfl rfl rfl (by kernel_rfl) (by kernel_rfl) (by kernel_rfl) (by kernel_rfl) rfl rfl rfl (ex_mk rfl rfl rfl r1Pm) (ex_mk rfl rfl rfl r1Sm) (ex_mk rfl rfl rfl r1Im) (SB.out _ b1Pm) (SB.out _ b1Sm) (SB.out _ b1Im) ?_ ?_ ?_
  · skip
    simp only [Act.put, List.setIfInBounds_toArray, List.set_cons_succ, List.set_cons_zero]
    obtain ⟨v2Pa, w2Pa, r2Pa, o2Pa, b2Pa', z2Pa, k2Pa⟩ := app_full okP o1Pm ((AR.out _ b1Pm).1) HL.out.1.symm 22
    have b2Pa := b1Pm.trans b2Pa'
    obtain ⟨v2Sm, w2Sm, r2Sm, o2Sm, b2Sm, e2Sm⟩ := mk_at okS b1Pm h0 km n2
    obtain ⟨v2Im, w2Im, r2Im, o2Im, b2Im, e2Im⟩ := mk_at okZ b1Pm h0 im n3
    refine wpAnyH_three 9 14 22 (some 12) (some 17) (some 25) v2Pa v2Sm v2Im rfl rfl rfl (by kernel_rfl) (by kernel_rfl) (by kernel_rfl) (by kernel_rfl) rfl rfl rfl (ex_app rfl rfl rfl r2Pa) (ex_mk rfl rfl rfl r2Sm) (ex_mk rfl rfl rfl r2Im) (SB.out _ b2Pa) (SB.out _ b2Sm) (SB.out _ b2Im) ?_ ?_ ?_
    · skip
      simp only [Act.put, List.setIfInBounds_toArray, List.set_cons_succ, List.set_cons_zero]
      obtain ⟨v3Sm, w3Sm, r3Sm, o3Sm, b3Sm, e3Sm⟩ := mk_at okS b2Pa h0 km n2
      obtain ⟨v3Im, w3Im, r3Im, o3Im, b3Im, e3Im⟩ := mk_at okZ b2Pa h0 im n3
      refine wpAnyH_two 14 22 (some 17) (some 25) v3Sm v3Im rfl rfl (by kernel_rfl) (by kernel_rfl) (by kernel_rfl) rfl rfl (ex_mk rfl rfl rfl r3Sm) (ex_mk rfl rfl rfl r3Im) (SB.out _ b3Sm) (SB.out _ b3Im) ?_ ?_
      · skip
        simp only [Act.put, List.setIfInBounds_toArray, List.set_cons_succ, List.set_cons_zero]
        have g3Sm0 := o2Pa.below e3Sm
        obtain ⟨v4Sa, w4Sa, r4Sa, o4Sa, b4Sa', z4Sa, k4Sa⟩ := app_full okS o3Sm ((AR.out _ b3Sm).2.1) HL.out.2.1.symm 23
        have b4Sa := b3Sm.trans b4Sa'
        obtain ⟨v4Im, w4Im, r4Im, o4Im, b4Im, e4Im⟩ := mk_at okZ b3Sm h0 im n3
        refine wpAnyH_two 17 22 (some 20) (some 25) v4Sa v4Im rfl rfl (by kernel_rfl) (by kernel_rfl) (by kernel_rfl) rfl rfl (ex_app rfl rfl rfl r4Sa) (ex_mk rfl rfl rfl r4Im) (SB.out _ b4Sa) (SB.out _ b4Im) ?_ ?_
        · skip
          simp only [Act.put, List.setIfInBounds_toArray, List.set_cons_succ, List.set_cons_zero]
          have g4Sa0 := g3Sm0.other k4Sa o3Sm.kind (by decide)
          obtain ⟨v5Im, w5Im, r5Im, o5Im, b5Im, e5Im⟩ := mk_at okZ b4Sa h0 im n3
          refine wpAnyH_one 22 (some 25) v5Im rfl (by kernel_rfl) (by kernel_rfl) rfl (ex_mk rfl rfl rfl r5Im) (SB.out _ b5Im) ?_
          simp only [Act.put, List.setIfInBounds_toArray, List.set_cons_succ, List.set_cons_zero]
          have g5Im0 := g4Sa0.below e5Im
          have g5Im1 := o4Sa.below e5Im
          obtain ⟨v6Ia, w6Ia, r6Ia, o6Ia, b6Ia', z6Ia, k6Ia⟩ := app_full okZ o5Im ((AR.out _ b5Im).2.2) HL.out.2.2.symm 24
          have b6Ia := b5Im.trans b6Ia'
          refine wpAnyH_one 25 (some 28) v6Ia rfl (by kernel_rfl) (by kernel_rfl) rfl (ex_app rfl rfl rfl r6Ia) (SB.out _ b6Ia) ?_
          simp only [Act.put, List.setIfInBounds_toArray, List.set_cons_succ, List.set_cons_zero]
          have g6Ia0 := g5Im0.other k6Ia o5Im.kind (by decide)
          have g6Ia1 := g5Im1.other k6Ia o5Im.kind (by decide)
          obtain ⟨pa', pm', pc', rfl⟩ := g6Ia0.slv
          obtain ⟨ka', km', kc', rfl⟩ := g6Ia1.slv
          obtain ⟨ia', im', ic', rfl⟩ := o6Ia.slv
          have hbu : ∀ wz, (Instr.build 32 #[(0, .bool n.leaf), (1, .slice pa' pm' pc'), (2, .slice ka' km' kc'), (3, .slice ia' im' ic')]).run Try.prog wz = .ok (.agg #[.bool n.leaf, .slice pa' pm' pc', .slice ka' km' kc', .slice ia' im' ic']) wz := fun wz => run_build wz 32 _ _ (by kernel_rfl)
          have hS := SB.out _ b6Ia
          refine wpAnyH_take_d 26 (some 29) (.agg #[.bool n.leaf, .slice pa' pm' pc', .slice ka' km' kc', .slice ia' im' ic']) rfl (by kernel_rfl) (by kernel_rfl) (by kernel_rfl) (by kernel_rfl) rfl (fun _ _ _ h => h) (fun w' h => ex_build4 rfl rfl rfl rfl rfl (hbu w')) (by exact hS) ?_
          simp only [Act.put, List.setIfInBounds_toArray, List.set_cons_succ, List.set_cons_zero]
          refine wpAnyH_one_skip 27 rfl (by kernel_rfl) (by kernel_rfl) (ex_store_row rfl rfl rfl (BZ.out _ b6Ia) (by kernel_rfl) rfl (by simp [Value.oneCell'])) (below_setRow' hS (Nat.le_refl _) _) ?_
          simp only [Act.put, List.setIfInBounds_toArray]
          refine wpAnyH_done (by kernel_rfl) ?_ _
          have hn := setRow_heap _ (w.heap.size + 1) _ #[.bool n.leaf, .slice pa' pm' pc', .slice ka' km' kc', .slice ia' im' ic'] _ _ (BZ.out _ b6Ia)
          obtain ⟨s0, s1, s2, s3⟩ := NdCells.of hn
          have FF : Hid (NdFull w.heap.size _ (.agg #[.bool n.leaf, .slice pa' pm' pc', .slice ka' km' kc', .slice ia' im' ic']) n) := Lib.hid ⟨_, _, _, rfl, (OwnF.keepg g6Ia0 (Nat.lt_succ_self _) (fun k hk => setRow_other _ (w.heap.size + 1) k #[.bool n.leaf, .slice pa' pm' pc', .slice ka' km' kc', .slice ia' im' ic'] hk)).base (by omega), (OwnF.keepg g6Ia1 (Nat.lt_succ_self _) (fun k hk => setRow_other _ (w.heap.size + 1) k _ hk)).base (by omega), (OwnF.keepg o6Ia (Nat.lt_succ_self _) (fun k hk => setRow_other _ (w.heap.size + 1) k _ hk)).base (by omega)⟩
          have FB := Lib.hid (HBW.out.trans ((below_setRow' hS (Nat.le_refl _) #[.bool n.leaf, .slice pa' pm' pc', .slice ka' km' kc', .slice ia' im' ic']).mono (Nat.le_succ _)))
          clear hn hS hbu
          go_wp2
          exact bodyPost_ret (v := .agg #[.bool n.leaf, .slice pa' pm' pc', .slice ka' km' kc', .slice ia' im' ic']) (by simp [results, Try.results15, go_sem, s0, s1, s2, s3]) rfl ⟨_, rfl, FF.out, FB.out⟩
        · skip
          simp only [Act.put, List.setIfInBounds_toArray, List.set_cons_succ, List.set_cons_zero]
          have g4Im0 := g3Sm0.below e4Im
          have g4Im1 := o3Sm.below e4Im
          obtain ⟨v7Sa, w7Sa, r7Sa, o7Sa, b7Sa', z7Sa, k7Sa⟩ := app_full okS g4Im1 ((AR.out _ b4Im).2.1) HL.out.2.1.symm 23
          have b7Sa := b4Im.trans b7Sa'
          refine wpAnyH_one 17 (some 20) v7Sa rfl (by kernel_rfl) (by kernel_rfl) rfl (ex_app rfl rfl rfl r7Sa) (SB.out _ b7Sa) ?_
          simp only [Act.put, List.setIfInBounds_toArray, List.set_cons_succ, List.set_cons_zero]
          have g7Sa0 := g4Im0.other k7Sa g4Im1.kind (by decide)
          have g7Sa2 := o4Im.other k7Sa g4Im1.kind (by decide)
          obtain ⟨v8Ia, w8Ia, r8Ia, o8Ia, b8Ia', z8Ia, k8Ia⟩ := app_full okZ g7Sa2 ((AR.out _ b7Sa).2.2) HL.out.2.2.symm 24
          have b8Ia := b7Sa.trans b8Ia'
          refine wpAnyH_one 25 (some 28) v8Ia rfl (by kernel_rfl) (by kernel_rfl) rfl (ex_app rfl rfl rfl r8Ia) (SB.out _ b8Ia) ?_
          simp only [Act.put, List.setIfInBounds_toArray, List.set_cons_succ, List.set_cons_zero]
          have g8Ia0 := g7Sa0.other k8Ia g7Sa2.kind (by decide)
          have g8Ia1 := o7Sa.other k8Ia g7Sa2.kind (by decide)
          obtain ⟨pa', pm', pc', rfl⟩ := g8Ia0.slv
          obtain ⟨ka', km', kc', rfl⟩ := g8Ia1.slv
          obtain ⟨ia', im', ic', rfl⟩ := o8Ia.slv
          have hbu : ∀ wz, (Instr.build 32 #[(0, .bool n.leaf), (1, .slice pa' pm' pc'), (2, .slice ka' km' kc'), (3, .slice ia' im' ic')]).run Try.prog wz = .ok (.agg #[.bool n.leaf, .slice pa' pm' pc', .slice ka' km' kc', .slice ia' im' ic']) wz := fun wz => run_build wz 32 _ _ (by kernel_rfl)
          have hS := SB.out _ b8Ia
          refine wpAnyH_take_d 26 (some 29) (.agg #[.bool n.leaf, .slice pa' pm' pc', .slice ka' km' kc', .slice ia' im' ic']) rfl (by kernel_rfl) (by kernel_rfl) (by kernel_rfl) (by kernel_rfl) rfl (fun _ _ _ h => h) (fun w' h => ex_build4 rfl rfl rfl rfl rfl (hbu w')) (by exact hS) ?_
          simp only [Act.put, List.setIfInBounds_toArray, List.set_cons_succ, List.set_cons_zero]
          refine wpAnyH_one_skip 27 rfl (by kernel_rfl) (by kernel_rfl) (ex_store_row rfl rfl rfl (BZ.out _ b8Ia) (by kernel_rfl) rfl (by simp [Value.oneCell'])) (below_setRow' hS (Nat.le_refl _) _) ?_
          simp only [Act.put, List.setIfInBounds_toArray]
          refine wpAnyH_done (by kernel_rfl) ?_ _
          have hn := setRow_heap _ (w.heap.size + 1) _ #[.bool n.leaf, .slice pa' pm' pc', .slice ka' km' kc', .slice ia' im' ic'] _ _ (BZ.out _ b8Ia)
          obtain ⟨s0, s1, s2, s3⟩ := NdCells.of hn
          have FF : Hid (NdFull w.heap.size _ (.agg #[.bool n.leaf, .slice pa' pm' pc', .slice ka' km' kc', .slice ia' im' ic']) n) := Lib.hid ⟨_, _, _, rfl, (OwnF.keepg g8Ia0 (Nat.lt_succ_self _) (fun k hk => setRow_other _ (w.heap.size + 1) k #[.bool n.leaf, .slice pa' pm' pc', .slice ka' km' kc', .slice ia' im' ic'] hk)).base (by omega), (OwnF.keepg g8Ia1 (Nat.lt_succ_self _) (fun k hk => setRow_other _ (w.heap.size + 1) k _ hk)).base (by omega), (OwnF.keepg o8Ia (Nat.lt_succ_self _) (fun k hk => setRow_other _ (w.heap.size + 1) k _ hk)).base (by omega)⟩
          have FB := Lib.hid (HBW.out.trans ((below_setRow' hS (Nat.le_refl _) #[.bool n.leaf, .slice pa' pm' pc', .slice ka' km' kc', .slice ia' im' ic']).mono (Nat.le_succ _)))
          clear hn hS hbu
          go_wp2
          exact bodyPost_ret (v := .agg #[.bool n.leaf, .slice pa' pm' pc', .slice ka' km' kc', .slice ia' im' ic']) (by simp [results, Try.results15, go_sem, s0, s1, s2, s3]) rfl ⟨_, rfl, FF.out, FB.out⟩
      · skip
        simp only [Act.put, List.setIfInBounds_toArray, List.set_cons_succ, List.set_cons_zero]
        have g3Im0 := o2Pa.below e3Im
        obtain ⟨v9Sm, w9Sm, r9Sm, o9Sm, b9Sm, e9Sm⟩ := mk_at okS b3Im h0 km n2
        refine wpAnyH_one 14 (some 17) v9Sm rfl (by kernel_rfl) (by kernel_rfl) rfl (ex_mk rfl rfl rfl r9Sm) (SB.out _ b9Sm) ?_
        simp only [Act.put, List.setIfInBounds_toArray, List.set_cons_succ, List.set_cons_zero]
        have g9Sm0 := g3Im0.below e9Sm
        have g9Sm2 := o3Im.below e9Sm
        obtain ⟨v10Sa, w10Sa, r10Sa, o10Sa, b10Sa', z10Sa, k10Sa⟩ := app_full okS o9Sm ((AR.out _ b9Sm).2.1) HL.out.2.1.symm 23
        have b10Sa := b9Sm.trans b10Sa'
        refine wpAnyH_one 17 (some 20) v10Sa rfl (by kernel_rfl) (by kernel_rfl) rfl (ex_app rfl rfl rfl r10Sa) (SB.out _ b10Sa) ?_
        simp only [Act.put, List.setIfInBounds_toArray, List.set_cons_succ, List.set_cons_zero]
        have g10Sa0 := g9Sm0.other k10Sa o9Sm.kind (by decide)
        have g10Sa2 := g9Sm2.other k10Sa o9Sm.kind (by decide)
        obtain ⟨v11Ia, w11Ia, r11Ia, o11Ia, b11Ia', z11Ia, k11Ia⟩ := app_full okZ g10Sa2 ((AR.out _ b10Sa).2.2) HL.out.2.2.symm 24
        have b11Ia := b10Sa.trans b11Ia'
        refine wpAnyH_one 25 (some 28) v11Ia rfl (by kernel_rfl) (by kernel_rfl) rfl (ex_app rfl rfl rfl r11Ia) (SB.out _ b11Ia) ?_
        simp only [Act.put, List.setIfInBounds_toArray, List.set_cons_succ, List.set_cons_zero]
        have g11Ia0 := g10Sa0.other k11Ia g10Sa2.kind (by decide)
        have g11Ia1 := o10Sa.other k11Ia g10Sa2.kind (by decide)
        obtain ⟨pa', pm', pc', rfl⟩ := g11Ia0.slv
        obtain ⟨ka', km', kc', rfl⟩ := g11Ia1.slv
        obtain ⟨ia', im', ic', rfl⟩ := o11Ia.slv
        have hbu : ∀ wz, (Instr.build 32 #[(0, .bool n.leaf), (1, .slice pa' pm' pc'), (2, .slice ka' km' kc'), (3, .slice ia' im' ic')]).run Try.prog wz = .ok (.agg #[.bool n.leaf, .slice pa' pm' pc', .slice ka' km' kc', .slice ia' im' ic']) wz := fun wz => run_build wz 32 _ _ (by kernel_rfl)
        have hS := SB.out _ b11Ia
        refine wpAnyH_take_d 26 (some 29) (.agg #[.bool n.leaf, .slice pa' pm' pc', .slice ka' km' kc', .slice ia' im' ic']) rfl (by kernel_rfl) (by kernel_rfl) (by kernel_rfl) (by kernel_rfl) rfl (fun _ _ _ h => h) (fun w' h => ex_build4 rfl rfl rfl rfl rfl (hbu w')) (by exact hS) ?_
        simp only [Act.put, List.setIfInBounds_toArray, List.set_cons_succ, List.set_cons_zero]
        refine wpAnyH_one_skip 27 rfl (by kernel_rfl) (by kernel_rfl) (ex_store_row rfl rfl rfl (BZ.out _ b11Ia) (by kernel_rfl) rfl (by simp [Value.oneCell'])) (below_setRow' hS (Nat.le_refl _) _) ?_
        simp only [Act.put, List.setIfInBounds_toArray]
        refine wpAnyH_done (by kernel_rfl) ?_ _
        have hn := setRow_heap _ (w.heap.size + 1) _ #[.bool n.leaf, .slice pa' pm' pc', .slice ka' km' kc', .slice ia' im' ic'] _ _ (BZ.out _ b11Ia)
        obtain ⟨s0, s1, s2, s3⟩ := NdCells.of hn
        have FF : Hid (NdFull w.heap.size _ (.agg #[.bool n.leaf, .slice pa' pm' pc', .slice ka' km' kc', .slice ia' im' ic']) n) := Lib.hid ⟨_, _, _, rfl, (OwnF.keepg g11Ia0 (Nat.lt_succ_self _) (fun k hk => setRow_other _ (w.heap.size + 1) k #[.bool n.leaf, .slice pa' pm' pc', .slice ka' km' kc', .slice ia' im' ic'] hk)).base (by omega), (OwnF.keepg g11Ia1 (Nat.lt_succ_self _) (fun k hk => setRow_other _ (w.heap.size + 1) k _ hk)).base (by omega), (OwnF.keepg o11Ia (Nat.lt_succ_self _) (fun k hk => setRow_other _ (w.heap.size + 1) k _ hk)).base (by omega)⟩
        have FB := Lib.hid (HBW.out.trans ((below_setRow' hS (Nat.le_refl _) #[.bool n.leaf, .slice pa' pm' pc', .slice ka' km' kc', .slice ia' im' ic']).mono (Nat.le_succ _)))
        clear hn hS hbu
        go_wp2
        exact bodyPost_ret (v := .agg #[.bool n.leaf, .slice pa' pm' pc', .slice ka' km' kc', .slice ia' im' ic']) (by simp [results, Try.results15, go_sem, s0, s1, s2, s3]) rfl ⟨_, rfl, FF.out, FB.out⟩
    · skip
      simp only [Act.put, List.setIfInBounds_toArray, List.set_cons_succ, List.set_cons_zero]
      have g2Sm0 := o1Pm.below e2Sm
      obtain ⟨v12Pa, w12Pa, r12Pa, o12Pa, b12Pa', z12Pa, k12Pa⟩ := app_full okP g2Sm0 ((AR.out _ b2Sm).1) HL.out.1.symm 22
      have b12Pa := b2Sm.trans b12Pa'
      obtain ⟨v12Im, w12Im, r12Im, o12Im, b12Im, e12Im⟩ := mk_at okZ b2Sm h0 im n3
      refine wpAnyH_two 9 22 (some 12) (some 25) v12Pa v12Im rfl rfl (by kernel_rfl) (by kernel_rfl) (by kernel_rfl) rfl rfl (ex_app rfl rfl rfl r12Pa) (ex_mk rfl rfl rfl r12Im) (SB.out _ b12Pa) (SB.out _ b12Im) ?_ ?_
      · skip
        simp only [Act.put, List.setIfInBounds_toArray, List.set_cons_succ, List.set_cons_zero]
        have g12Pa1 := o2Sm.other k12Pa g2Sm0.kind (by decide)
        obtain ⟨v13Sa, w13Sa, r13Sa, o13Sa, b13Sa', z13Sa, k13Sa⟩ := app_full okS g12Pa1 ((AR.out _ b12Pa).2.1) HL.out.2.1.symm 23
        have b13Sa := b12Pa.trans b13Sa'
        obtain ⟨v13Im, w13Im, r13Im, o13Im, b13Im, e13Im⟩ := mk_at okZ b12Pa h0 im n3
        refine wpAnyH_two 17 22 (some 20) (some 25) v13Sa v13Im rfl rfl (by kernel_rfl) (by kernel_rfl) (by kernel_rfl) rfl rfl (ex_app rfl rfl rfl r13Sa) (ex_mk rfl rfl rfl r13Im) (SB.out _ b13Sa) (SB.out _ b13Im) ?_ ?_
        · skip
          simp only [Act.put, List.setIfInBounds_toArray, List.set_cons_succ, List.set_cons_zero]
          have g13Sa0 := o12Pa.other k13Sa g12Pa1.kind (by decide)
          obtain ⟨v14Im, w14Im, r14Im, o14Im, b14Im, e14Im⟩ := mk_at okZ b13Sa h0 im n3
          refine wpAnyH_one 22 (some 25) v14Im rfl (by kernel_rfl) (by kernel_rfl) rfl (ex_mk rfl rfl rfl r14Im) (SB.out _ b14Im) ?_
          simp only [Act.put, List.setIfInBounds_toArray, List.set_cons_succ, List.set_cons_zero]
          have g14Im0 := g13Sa0.below e14Im
          have g14Im1 := o13Sa.below e14Im
          obtain ⟨v15Ia, w15Ia, r15Ia, o15Ia, b15Ia', z15Ia, k15Ia⟩ := app_full okZ o14Im ((AR.out _ b14Im).2.2) HL.out.2.2.symm 24
          have b15Ia := b14Im.trans b15Ia'
          refine wpAnyH_one 25 (some 28) v15Ia rfl (by kernel_rfl) (by kernel_rfl) rfl (ex_app rfl rfl rfl r15Ia) (SB.out _ b15Ia) ?_
          simp only [Act.put, List.setIfInBounds_toArray, List.set_cons_succ, List.set_cons_zero]
          have g15Ia0 := g14Im0.other k15Ia o14Im.kind (by decide)
          have g15Ia1 := g14Im1.other k15Ia o14Im.kind (by decide)
          obtain ⟨pa', pm', pc', rfl⟩ := g15Ia0.slv
          obtain ⟨ka', km', kc', rfl⟩ := g15Ia1.slv
          obtain ⟨ia', im', ic', rfl⟩ := o15Ia.slv
          have hbu : ∀ wz, (Instr.build 32 #[(0, .bool n.leaf), (1, .slice pa' pm' pc'), (2, .slice ka' km' kc'), (3, .slice ia' im' ic')]).run Try.prog wz = .ok (.agg #[.bool n.leaf, .slice pa' pm' pc', .slice ka' km' kc', .slice ia' im' ic']) wz := fun wz => run_build wz 32 _ _ (by kernel_rfl)
          have hS := SB.out _ b15Ia
          refine wpAnyH_take_d 26 (some 29) (.agg #[.bool n.leaf, .slice pa' pm' pc', .slice ka' km' kc', .slice ia' im' ic']) rfl (by kernel_rfl) (by kernel_rfl) (by kernel_rfl) (by kernel_rfl) rfl (fun _ _ _ h => h) (fun w' h => ex_build4 rfl rfl rfl rfl rfl (hbu w')) (by exact hS) ?_
          simp only [Act.put, List.setIfInBounds_toArray, List.set_cons_succ, List.set_cons_zero]
          refine wpAnyH_one_skip 27 rfl (by kernel_rfl) (by kernel_rfl) (ex_store_row rfl rfl rfl (BZ.out _ b15Ia) (by kernel_rfl) rfl (by simp [Value.oneCell'])) (below_setRow' hS (Nat.le_refl _) _) ?_
          simp only [Act.put, List.setIfInBounds_toArray]
          refine wpAnyH_done (by kernel_rfl) ?_ _
          have hn := setRow_heap _ (w.heap.size + 1) _ #[.bool n.leaf, .slice pa' pm' pc', .slice ka' km' kc', .slice ia' im' ic'] _ _ (BZ.out _ b15Ia)
          obtain ⟨s0, s1, s2, s3⟩ := NdCells.of hn
          have FF : Hid (NdFull w.heap.size _ (.agg #[.bool n.leaf, .slice pa' pm' pc', .slice ka' km' kc', .slice ia' im' ic']) n) := Lib.hid ⟨_, _, _, rfl, (OwnF.keepg g15Ia0 (Nat.lt_succ_self _) (fun k hk => setRow_other _ (w.heap.size + 1) k #[.bool n.leaf, .slice pa' pm' pc', .slice ka' km' kc', .slice ia' im' ic'] hk)).base (by omega), (OwnF.keepg g15Ia1 (Nat.lt_succ_self _) (fun k hk => setRow_other _ (w.heap.size + 1) k _ hk)).base (by omega), (OwnF.keepg o15Ia (Nat.lt_succ_self _) (fun k hk => setRow_other _ (w.heap.size + 1) k _ hk)).base (by omega)⟩
          have FB := Lib.hid (HBW.out.trans ((below_setRow' hS (Nat.le_refl _) #[.bool n.leaf, .slice pa' pm' pc', .slice ka' km' kc', .slice ia' im' ic']).mono (Nat.le_succ _)))
          clear hn hS hbu
          go_wp2
          exact bodyPost_ret (v := .agg #[.bool n.leaf, .slice pa' pm' pc', .slice ka' km' kc', .slice ia' im' ic']) (by simp [results, Try.results15, go_sem, s0, s1, s2, s3]) rfl ⟨_, rfl, FF.out, FB.out⟩
        · skip
          simp only [Act.put, List.setIfInBounds_toArray, List.set_cons_succ, List.set_cons_zero]
          have g13Im0 := o12Pa.below e13Im
          have g13Im1 := g12Pa1.below e13Im
          obtain ⟨v16Sa, w16Sa, r16Sa, o16Sa, b16Sa', z16Sa, k16Sa⟩ := app_full okS g13Im1 ((AR.out _ b13Im).2.1) HL.out.2.1.symm 23
          have b16Sa := b13Im.trans b16Sa'
          refine wpAnyH_one 17 (some 20) v16Sa rfl (by kernel_rfl) (by kernel_rfl) rfl (ex_app rfl rfl rfl r16Sa) (SB.out _ b16Sa) ?_
          simp only [Act.put, List.setIfInBounds_toArray, List.set_cons_succ, List.set_cons_zero]
          have g16Sa0 := g13Im0.other k16Sa g13Im1.kind (by decide)
          have g16Sa2 := o13Im.other k16Sa g13Im1.kind (by decide)
          obtain ⟨v17Ia, w17Ia, r17Ia, o17Ia, b17Ia', z17Ia, k17Ia⟩ := app_full okZ g16Sa2 ((AR.out _ b16Sa).2.2) HL.out.2.2.symm 24
          have b17Ia := b16Sa.trans b17Ia'
          refine wpAnyH_one 25 (some 28) v17Ia rfl (by kernel_rfl) (by kernel_rfl) rfl (ex_app rfl rfl rfl r17Ia) (SB.out _ b17Ia) ?_
          simp only [Act.put, List.setIfInBounds_toArray, List.set_cons_succ, List.set_cons_zero]
          have g17Ia0 := g16Sa0.other k17Ia g16Sa2.kind (by decide)
          have g17Ia1 := o16Sa.other k17Ia g16Sa2.kind (by decide)
          obtain ⟨pa', pm', pc', rfl⟩ := g17Ia0.slv
          obtain ⟨ka', km', kc', rfl⟩ := g17Ia1.slv
          obtain ⟨ia', im', ic', rfl⟩ := o17Ia.slv
          have hbu : ∀ wz, (Instr.build 32 #[(0, .bool n.leaf), (1, .slice pa' pm' pc'), (2, .slice ka' km' kc'), (3, .slice ia' im' ic')]).run Try.prog wz = .ok (.agg #[.bool n.leaf, .slice pa' pm' pc', .slice ka' km' kc', .slice ia' im' ic']) wz := fun wz => run_build wz 32 _ _ (by kernel_rfl)
          have hS := SB.out _ b17Ia
          refine wpAnyH_take_d 26 (some 29) (.agg #[.bool n.leaf, .slice pa' pm' pc', .slice ka' km' kc', .slice ia' im' ic']) rfl (by kernel_rfl) (by kernel_rfl) (by kernel_rfl) (by kernel_rfl) rfl (fun _ _ _ h => h) (fun w' h => ex_build4 rfl rfl rfl rfl rfl (hbu w')) (by exact hS) ?_
          simp only [Act.put, List.setIfInBounds_toArray, List.set_cons_succ, List.set_cons_zero]
          refine wpAnyH_one_skip 27 rfl (by kernel_rfl) (by kernel_rfl) (ex_store_row rfl rfl rfl (BZ.out _ b17Ia) (by kernel_rfl) rfl (by simp [Value.oneCell'])) (below_setRow' hS (Nat.le_refl _) _) ?_
          simp only [Act.put, List.setIfInBounds_toArray]
          refine wpAnyH_done (by kernel_rfl) ?_ _
          have hn := setRow_heap _ (w.heap.size + 1) _ #[.bool n.leaf, .slice pa' pm' pc', .slice ka' km' kc', .slice ia' im' ic'] _ _ (BZ.out _ b17Ia)
          obtain ⟨s0, s1, s2, s3⟩ := NdCells.of hn
          have FF : Hid (NdFull w.heap.size _ (.agg #[.bool n.leaf, .slice pa' pm' pc', .slice ka' km' kc', .slice ia' im' ic']) n) := Lib.hid ⟨_, _, _, rfl, (OwnF.keepg g17Ia0 (Nat.lt_succ_self _) (fun k hk => setRow_other _ (w.heap.size + 1) k #[.bool n.leaf, .slice pa' pm' pc', .slice ka' km' kc', .slice ia' im' ic'] hk)).base (by omega), (OwnF.keepg g17Ia1 (Nat.lt_succ_self _) (fun k hk => setRow_other _ (w.heap.size + 1) k _ hk)).base (by omega), (OwnF.keepg o17Ia (Nat.lt_succ_self _) (fun k hk => setRow_other _ (w.heap.size + 1) k _ hk)).base (by omega)⟩
          have FB := Lib.hid (HBW.out.trans ((below_setRow' hS (Nat.le_refl _) #[.bool n.leaf, .slice pa' pm' pc', .slice ka' km' kc', .slice ia' im' ic']).mono (Nat.le_succ _)))
          clear hn hS hbu
          go_wp2
          exact bodyPost_ret (v := .agg #[.bool n.leaf, .slice pa' pm' pc', .slice ka' km' kc', .slice ia' im' ic']) (by simp [results, Try.results15, go_sem, s0, s1, s2, s3]) rfl ⟨_, rfl, FF.out, FB.out⟩
      · skip
        simp only [Act.put, List.setIfInBounds_toArray, List.set_cons_succ, List.set_cons_zero]
        have g12Im0 := g2Sm0.below e12Im
        have g12Im1 := o2Sm.below e12Im
        obtain ⟨v18Pa, w18Pa, r18Pa, o18Pa, b18Pa', z18Pa, k18Pa⟩ := app_full okP g12Im0 ((AR.out _ b12Im).1) HL.out.1.symm 22
        have b18Pa := b12Im.trans b18Pa'
        refine wpAnyH_one 9 (some 12) v18Pa rfl (by kernel_rfl) (by kernel_rfl) rfl (ex_app rfl rfl rfl r18Pa) (SB.out _ b18Pa) ?_
        simp only [Act.put, List.setIfInBounds_toArray, List.set_cons_succ, List.set_cons_zero]
        have g18Pa1 := g12Im1.other k18Pa g12Im0.kind (by decide)
        have g18Pa2 := o12Im.other k18Pa g12Im0.kind (by decide)
        obtain ⟨v19Sa, w19Sa, r19Sa, o19Sa, b19Sa', z19Sa, k19Sa⟩ := app_full okS g18Pa1 ((AR.out _ b18Pa).2.1) HL.out.2.1.symm 23
        have b19Sa := b18Pa.trans b19Sa'
        refine wpAnyH_one 17 (some 20) v19Sa rfl (by kernel_rfl) (by kernel_rfl) rfl (ex_app rfl rfl rfl r19Sa) (SB.out _ b19Sa) ?_
        simp only [Act.put, List.setIfInBounds_toArray, List.set_cons_succ, List.set_cons_zero]
        have g19Sa0 := o18Pa.other k19Sa g18Pa1.kind (by decide)
        have g19Sa2 := g18Pa2.other k19Sa g18Pa1.kind (by decide)
        obtain ⟨v20Ia, w20Ia, r20Ia, o20Ia, b20Ia', z20Ia, k20Ia⟩ := app_full okZ g19Sa2 ((AR.out _ b19Sa).2.2) HL.out.2.2.symm 24
        have b20Ia := b19Sa.trans b20Ia'
        refine wpAnyH_one 25 (some 28) v20Ia rfl (by kernel_rfl) (by kernel_rfl) rfl (ex_app rfl rfl rfl r20Ia) (SB.out _ b20Ia) ?_
        simp only [Act.put, List.setIfInBounds_toArray, List.set_cons_succ, List.set_cons_zero]
        have g20Ia0 := g19Sa0.other k20Ia g19Sa2.kind (by decide)
        have g20Ia1 := o19Sa.other k20Ia g19Sa2.kind (by decide)
        obtain ⟨pa', pm', pc', rfl⟩ := g20Ia0.slv
        obtain ⟨ka', km', kc', rfl⟩ := g20Ia1.slv
        obtain ⟨ia', im', ic', rfl⟩ := o20Ia.slv
        have hbu : ∀ wz, (Instr.build 32 #[(0, .bool n.leaf), (1, .slice pa' pm' pc'), (2, .slice ka' km' kc'), (3, .slice ia' im' ic')]).run Try.prog wz = .ok (.agg #[.bool n.leaf, .slice pa' pm' pc', .slice ka' km' kc', .slice ia' im' ic']) wz := fun wz => run_build wz 32 _ _ (by kernel_rfl)
        have hS := SB.out _ b20Ia
        refine wpAnyH_take_d 26 (some 29) (.agg #[.bool n.leaf, .slice pa' pm' pc', .slice ka' km' kc', .slice ia' im' ic']) rfl (by kernel_rfl) (by kernel_rfl) (by kernel_rfl) (by kernel_rfl) rfl (fun _ _ _ h => h) (fun w' h => ex_build4 rfl rfl rfl rfl rfl (hbu w')) (by exact hS) ?_
        simp only [Act.put, List.setIfInBounds_toArray, List.set_cons_succ, List.set_cons_zero]
        refine wpAnyH_one_skip 27 rfl (by kernel_rfl) (by kernel_rfl) (ex_store_row rfl rfl rfl (BZ.out _ b20Ia) (by kernel_rfl) rfl (by simp [Value.oneCell'])) (below_setRow' hS (Nat.le_refl _) _) ?_
        simp only [Act.put, List.setIfInBounds_toArray]
        refine wpAnyH_done (by kernel_rfl) ?_ _
        have hn := setRow_heap _ (w.heap.size + 1) _ #[.bool n.leaf, .slice pa' pm' pc', .slice ka' km' kc', .slice ia' im' ic'] _ _ (BZ.out _ b20Ia)
        obtain ⟨s0, s1, s2, s3⟩ := NdCells.of hn
        have FF : Hid (NdFull w.heap.size _ (.agg #[.bool n.leaf, .slice pa' pm' pc', .slice ka' km' kc', .slice ia' im' ic']) n) := Lib.hid ⟨_, _, _, rfl, (OwnF.keepg g20Ia0 (Nat.lt_succ_self _) (fun k hk => setRow_other _ (w.heap.size + 1) k #[.bool n.leaf, .slice pa' pm' pc', .slice ka' km' kc', .slice ia' im' ic'] hk)).base (by omega), (OwnF.keepg g20Ia1 (Nat.lt_succ_self _) (fun k hk => setRow_other _ (w.heap.size + 1) k _ hk)).base (by omega), (OwnF.keepg o20Ia (Nat.lt_succ_self _) (fun k hk => setRow_other _ (w.heap.size + 1) k _ hk)).base (by omega)⟩
        have FB := Lib.hid (HBW.out.trans ((below_setRow' hS (Nat.le_refl _) #[.bool n.leaf, .slice pa' pm' pc', .slice ka' km' kc', .slice ia' im' ic']).mono (Nat.le_succ _)))
        clear hn hS hbu
        go_wp2
        exact bodyPost_ret (v := .agg #[.bool n.leaf, .slice pa' pm' pc', .slice ka' km' kc', .slice ia' im' ic']) (by simp [results, Try.results15, go_sem, s0, s1, s2, s3]) rfl ⟨_, rfl, FF.out, FB.out⟩
    · skip
      simp only [Act.put, List.setIfInBounds_toArray, List.set_cons_succ, List.set_cons_zero]
      have g2Im0 := o1Pm.below e2Im
      obtain ⟨v21Pa, w21Pa, r21Pa, o21Pa, b21Pa', z21Pa, k21Pa⟩ := app_full okP g2Im0 ((AR.out _ b2Im).1) HL.out.1.symm 22
      have b21Pa := b2Im.trans b21Pa'
      obtain ⟨v21Sm, w21Sm, r21Sm, o21Sm, b21Sm, e21Sm⟩ := mk_at okS b2Im h0 km n2
      refine wpAnyH_two 9 14 (some 12) (some 17) v21Pa v21Sm rfl rfl (by kernel_rfl) (by kernel_rfl) (by kernel_rfl) rfl rfl (ex_app rfl rfl rfl r21Pa) (ex_mk rfl rfl rfl r21Sm) (SB.out _ b21Pa) (SB.out _ b21Sm) ?_ ?_
      · skip
        simp only [Act.put, List.setIfInBounds_toArray, List.set_cons_succ, List.set_cons_zero]
        have g21Pa2 := o2Im.other k21Pa g2Im0.kind (by decide)
        obtain ⟨v22Sm, w22Sm, r22Sm, o22Sm, b22Sm, e22Sm⟩ := mk_at okS b21Pa h0 km n2
        refine wpAnyH_one 14 (some 17) v22Sm rfl (by kernel_rfl) (by kernel_rfl) rfl (ex_mk rfl rfl rfl r22Sm) (SB.out _ b22Sm) ?_
        simp only [Act.put, List.setIfInBounds_toArray, List.set_cons_succ, List.set_cons_zero]
        have g22Sm0 := o21Pa.below e22Sm
        have g22Sm2 := g21Pa2.below e22Sm
        obtain ⟨v23Sa, w23Sa, r23Sa, o23Sa, b23Sa', z23Sa, k23Sa⟩ := app_full okS o22Sm ((AR.out _ b22Sm).2.1) HL.out.2.1.symm 23
        have b23Sa := b22Sm.trans b23Sa'
        refine wpAnyH_one 17 (some 20) v23Sa rfl (by kernel_rfl) (by kernel_rfl) rfl (ex_app rfl rfl rfl r23Sa) (SB.out _ b23Sa) ?_
        simp only [Act.put, List.setIfInBounds_toArray, List.set_cons_succ, List.set_cons_zero]
        have g23Sa0 := g22Sm0.other k23Sa o22Sm.kind (by decide)
        have g23Sa2 := g22Sm2.other k23Sa o22Sm.kind (by decide)
        obtain ⟨v24Ia, w24Ia, r24Ia, o24Ia, b24Ia', z24Ia, k24Ia⟩ := app_full okZ g23Sa2 ((AR.out _ b23Sa).2.2) HL.out.2.2.symm 24
        have b24Ia := b23Sa.trans b24Ia'
        refine wpAnyH_one 25 (some 28) v24Ia rfl (by kernel_rfl) (by kernel_rfl) rfl (ex_app rfl rfl rfl r24Ia) (SB.out _ b24Ia) ?_
        simp only [Act.put, List.setIfInBounds_toArray, List.set_cons_succ, List.set_cons_zero]
        have g24Ia0 := g23Sa0.other k24Ia g23Sa2.kind (by decide)
        have g24Ia1 := o23Sa.other k24Ia g23Sa2.kind (by decide)
        obtain ⟨pa', pm', pc', rfl⟩ := g24Ia0.slv
        obtain ⟨ka', km', kc', rfl⟩ := g24Ia1.slv
        obtain ⟨ia', im', ic', rfl⟩ := o24Ia.slv
        have hbu : ∀ wz, (Instr.build 32 #[(0, .bool n.leaf), (1, .slice pa' pm' pc'), (2, .slice ka' km' kc'), (3, .slice ia' im' ic')]).run Try.prog wz = .ok (.agg #[.bool n.leaf, .slice pa' pm' pc', .slice ka' km' kc', .slice ia' im' ic']) wz := fun wz => run_build wz 32 _ _ (by kernel_rfl)
        have hS := SB.out _ b24Ia
        refine wpAnyH_take_d 26 (some 29) (.agg #[.bool n.leaf, .slice pa' pm' pc', .slice ka' km' kc', .slice ia' im' ic']) rfl (by kernel_rfl) (by kernel_rfl) (by kernel_rfl) (by kernel_rfl) rfl (fun _ _ _ h => h) (fun w' h => ex_build4 rfl rfl rfl rfl rfl (hbu w')) (by exact hS) ?_
        simp only [Act.put, List.setIfInBounds_toArray, List.set_cons_succ, List.set_cons_zero]
        refine wpAnyH_one_skip 27 rfl (by kernel_rfl) (by kernel_rfl) (ex_store_row rfl rfl rfl (BZ.out _ b24Ia) (by kernel_rfl) rfl (by simp [Value.oneCell'])) (below_setRow' hS (Nat.le_refl _) _) ?_
        simp only [Act.put, List.setIfInBounds_toArray]
        refine wpAnyH_done (by kernel_rfl) ?_ _
        have hn := setRow_heap _ (w.heap.size + 1) _ #[.bool n.leaf, .slice pa' pm' pc', .slice ka' km' kc', .slice ia' im' ic'] _ _ (BZ.out _ b24Ia)
        obtain ⟨s0, s1, s2, s3⟩ := NdCells.of hn
        have FF : Hid (NdFull w.heap.size _ (.agg #[.bool n.leaf, .slice pa' pm' pc', .slice ka' km' kc', .slice ia' im' ic']) n) := Lib.hid ⟨_, _, _, rfl, (OwnF.keepg g24Ia0 (Nat.lt_succ_self _) (fun k hk => setRow_other _ (w.heap.size + 1) k #[.bool n.leaf, .slice pa' pm' pc', .slice ka' km' kc', .slice ia' im' ic'] hk)).base (by omega), (OwnF.keepg g24Ia1 (Nat.lt_succ_self _) (fun k hk => setRow_other _ (w.heap.size + 1) k _ hk)).base (by omega), (OwnF.keepg o24Ia (Nat.lt_succ_self _) (fun k hk => setRow_other _ (w.heap.size + 1) k _ hk)).base (by omega)⟩
        have FB := Lib.hid (HBW.out.trans ((below_setRow' hS (Nat.le_refl _) #[.bool n.leaf, .slice pa' pm' pc', .slice ka' km' kc', .slice ia' im' ic']).mono (Nat.le_succ _)))
        clear hn hS hbu
        go_wp2
        exact bodyPost_ret (v := .agg #[.bool n.leaf, .slice pa' pm' pc', .slice ka' km' kc', .slice ia' im' ic']) (by simp [results, Try.results15, go_sem, s0, s1, s2, s3]) rfl ⟨_, rfl, FF.out, FB.out⟩
      · skip
        simp only [Act.put, List.setIfInBounds_toArray, List.set_cons_succ, List.set_cons_zero]
        have g21Sm0 := g2Im0.below e21Sm
        have g21Sm2 := o2Im.below e21Sm
        obtain ⟨v25Pa, w25Pa, r25Pa, o25Pa, b25Pa', z25Pa, k25Pa⟩ := app_full okP g21Sm0 ((AR.out _ b21Sm).1) HL.out.1.symm 22
        have b25Pa := b21Sm.trans b25Pa'
        refine wpAnyH_one 9 (some 12) v25Pa rfl (by kernel_rfl) (by kernel_rfl) rfl (ex_app rfl rfl rfl r25Pa) (SB.out _ b25Pa) ?_
        simp only [Act.put, List.setIfInBounds_toArray, List.set_cons_succ, List.set_cons_zero]
        have g25Pa2 := g21Sm2.other k25Pa g21Sm0.kind (by decide)
        have g25Pa1 := o21Sm.other k25Pa g21Sm0.kind (by decide)
        obtain ⟨v26Sa, w26Sa, r26Sa, o26Sa, b26Sa', z26Sa, k26Sa⟩ := app_full okS g25Pa1 ((AR.out _ b25Pa).2.1) HL.out.2.1.symm 23
        have b26Sa := b25Pa.trans b26Sa'
        refine wpAnyH_one 17 (some 20) v26Sa rfl (by kernel_rfl) (by kernel_rfl) rfl (ex_app rfl rfl rfl r26Sa) (SB.out _ b26Sa) ?_
        simp only [Act.put, List.setIfInBounds_toArray, List.set_cons_succ, List.set_cons_zero]
        have g26Sa0 := o25Pa.other k26Sa g25Pa1.kind (by decide)
        have g26Sa2 := g25Pa2.other k26Sa g25Pa1.kind (by decide)
        obtain ⟨v27Ia, w27Ia, r27Ia, o27Ia, b27Ia', z27Ia, k27Ia⟩ := app_full okZ g26Sa2 ((AR.out _ b26Sa).2.2) HL.out.2.2.symm 24
        have b27Ia := b26Sa.trans b27Ia'
        refine wpAnyH_one 25 (some 28) v27Ia rfl (by kernel_rfl) (by kernel_rfl) rfl (ex_app rfl rfl rfl r27Ia) (SB.out _ b27Ia) ?_
        simp only [Act.put, List.setIfInBounds_toArray, List.set_cons_succ, List.set_cons_zero]
        have g27Ia0 := g26Sa0.other k27Ia g26Sa2.kind (by decide)
        have g27Ia1 := o26Sa.other k27Ia g26Sa2.kind (by decide)
        obtain ⟨pa', pm', pc', rfl⟩ := g27Ia0.slv
        obtain ⟨ka', km', kc', rfl⟩ := g27Ia1.slv
        obtain ⟨ia', im', ic', rfl⟩ := o27Ia.slv
        have hbu : ∀ wz, (Instr.build 32 #[(0, .bool n.leaf), (1, .slice pa' pm' pc'), (2, .slice ka' km' kc'), (3, .slice ia' im' ic')]).run Try.prog wz = .ok (.agg #[.bool n.leaf, .slice pa' pm' pc', .slice ka' km' kc', .slice ia' im' ic']) wz := fun wz => run_build wz 32 _ _ (by kernel_rfl)
        have hS := SB.out _ b27Ia
        refine wpAnyH_take_d 26 (some 29) (.agg #[.bool n.leaf, .slice pa' pm' pc', .slice ka' km' kc', .slice ia' im' ic']) rfl (by kernel_rfl) (by kernel_rfl) (by kernel_rfl) (by kernel_rfl) rfl (fun _ _ _ h => h) (fun w' h => ex_build4 rfl rfl rfl rfl rfl (hbu w')) (by exact hS) ?_
        simp only [Act.put, List.setIfInBounds_toArray, List.set_cons_succ, List.set_cons_zero]
        refine wpAnyH_one_skip 27 rfl (by kernel_rfl) (by kernel_rfl) (ex_store_row rfl rfl rfl (BZ.out _ b27Ia) (by kernel_rfl) rfl (by simp [Value.oneCell'])) (below_setRow' hS (Nat.le_refl _) _) ?_
        simp only [Act.put, List.setIfInBounds_toArray]
        refine wpAnyH_done (by kernel_rfl) ?_ _
        have hn := setRow_heap _ (w.heap.size + 1) _ #[.bool n.leaf, .slice pa' pm' pc', .slice ka' km' kc', .slice ia' im' ic'] _ _ (BZ.out _ b27Ia)
        obtain ⟨s0, s1, s2, s3⟩ := NdCells.of hn
        have FF : Hid (NdFull w.heap.size _ (.agg #[.bool n.leaf, .slice pa' pm' pc', .slice ka' km' kc', .slice ia' im' ic']) n) := Lib.hid ⟨_, _, _, rfl, (OwnF.keepg g27Ia0 (Nat.lt_succ_self _) (fun k hk => setRow_other _ (w.heap.size + 1) k #[.bool n.leaf, .slice pa' pm' pc', .slice ka' km' kc', .slice ia' im' ic'] hk)).base (by omega), (OwnF.keepg g27Ia1 (Nat.lt_succ_self _) (fun k hk => setRow_other _ (w.heap.size + 1) k _ hk)).base (by omega), (OwnF.keepg o27Ia (Nat.lt_succ_self _) (fun k hk => setRow_other _ (w.heap.size + 1) k _ hk)).base (by omega)⟩
        have FB := Lib.hid (HBW.out.trans ((below_setRow' hS (Nat.le_refl _) #[.bool n.leaf, .slice pa' pm' pc', .slice ka' km' kc', .slice ia' im' ic']).mono (Nat.le_succ _)))
        clear hn hS hbu
        go_wp2
        exact bodyPost_ret (v := .agg #[.bool n.leaf, .slice pa' pm' pc', .slice ka' km' kc', .slice ia' im' ic']) (by simp [results, Try.results15, go_sem, s0, s1, s2, s3]) rfl ⟨_, rfl, FF.out, FB.out⟩
  · skip
    simp only [Act.put, List.setIfInBounds_toArray, List.set_cons_succ, List.set_cons_zero]
    obtain ⟨v28Pm, w28Pm, r28Pm, o28Pm, b28Pm, e28Pm⟩ := mk_at okP b1Sm h0 pm n1
    obtain ⟨v28Im, w28Im, r28Im, o28Im, b28Im, e28Im⟩ := mk_at okZ b1Sm h0 im n3
    refine wpAnyH_two 6 22 (some 9) (some 25) v28Pm v28Im rfl rfl (by kernel_rfl) (by kernel_rfl) (by kernel_rfl) rfl rfl (ex_mk rfl rfl rfl r28Pm) (ex_mk rfl rfl rfl r28Im) (SB.out _ b28Pm) (SB.out _ b28Im) ?_ ?_
    · skip
      simp only [Act.put, List.setIfInBounds_toArray, List.set_cons_succ, List.set_cons_zero]
      have g28Pm1 := o1Sm.below e28Pm
      obtain ⟨v29Pa, w29Pa, r29Pa, o29Pa, b29Pa', z29Pa, k29Pa⟩ := app_full okP o28Pm ((AR.out _ b28Pm).1) HL.out.1.symm 22
      have b29Pa := b28Pm.trans b29Pa'
      obtain ⟨v29Im, w29Im, r29Im, o29Im, b29Im, e29Im⟩ := mk_at okZ b28Pm h0 im n3
      refine wpAnyH_two 9 22 (some 12) (some 25) v29Pa v29Im rfl rfl (by kernel_rfl) (by kernel_rfl) (by kernel_rfl) rfl rfl (ex_app rfl rfl rfl r29Pa) (ex_mk rfl rfl rfl r29Im) (SB.out _ b29Pa) (SB.out _ b29Im) ?_ ?_
      · skip
        simp only [Act.put, List.setIfInBounds_toArray, List.set_cons_succ, List.set_cons_zero]
        have g29Pa1 := g28Pm1.other k29Pa o28Pm.kind (by decide)
        obtain ⟨v30Sa, w30Sa, r30Sa, o30Sa, b30Sa', z30Sa, k30Sa⟩ := app_full okS g29Pa1 ((AR.out _ b29Pa).2.1) HL.out.2.1.symm 23
        have b30Sa := b29Pa.trans b30Sa'
        obtain ⟨v30Im, w30Im, r30Im, o30Im, b30Im, e30Im⟩ := mk_at okZ b29Pa h0 im n3
        refine wpAnyH_two 17 22 (some 20) (some 25) v30Sa v30Im rfl rfl (by kernel_rfl) (by kernel_rfl) (by kernel_rfl) rfl rfl (ex_app rfl rfl rfl r30Sa) (ex_mk rfl rfl rfl r30Im) (SB.out _ b30Sa) (SB.out _ b30Im) ?_ ?_
        · skip
          simp only [Act.put, List.setIfInBounds_toArray, List.set_cons_succ, List.set_cons_zero]
          have g30Sa0 := o29Pa.other k30Sa g29Pa1.kind (by decide)
          obtain ⟨v31Im, w31Im, r31Im, o31Im, b31Im, e31Im⟩ := mk_at okZ b30Sa h0 im n3
          refine wpAnyH_one 22 (some 25) v31Im rfl (by kernel_rfl) (by kernel_rfl) rfl (ex_mk rfl rfl rfl r31Im) (SB.out _ b31Im) ?_
          simp only [Act.put, List.setIfInBounds_toArray, List.set_cons_succ, List.set_cons_zero]
          have g31Im1 := o30Sa.below e31Im
          have g31Im0 := g30Sa0.below e31Im
          obtain ⟨v32Ia, w32Ia, r32Ia, o32Ia, b32Ia', z32Ia, k32Ia⟩ := app_full okZ o31Im ((AR.out _ b31Im).2.2) HL.out.2.2.symm 24
          have b32Ia := b31Im.trans b32Ia'
          refine wpAnyH_one 25 (some 28) v32Ia rfl (by kernel_rfl) (by kernel_rfl) rfl (ex_app rfl rfl rfl r32Ia) (SB.out _ b32Ia) ?_
          simp only [Act.put, List.setIfInBounds_toArray, List.set_cons_succ, List.set_cons_zero]
          have g32Ia1 := g31Im1.other k32Ia o31Im.kind (by decide)
          have g32Ia0 := g31Im0.other k32Ia o31Im.kind (by decide)
          obtain ⟨pa', pm', pc', rfl⟩ := g32Ia0.slv
          obtain ⟨ka', km', kc', rfl⟩ := g32Ia1.slv
          obtain ⟨ia', im', ic', rfl⟩ := o32Ia.slv
          have hbu : ∀ wz, (Instr.build 32 #[(0, .bool n.leaf), (1, .slice pa' pm' pc'), (2, .slice ka' km' kc'), (3, .slice ia' im' ic')]).run Try.prog wz = .ok (.agg #[.bool n.leaf, .slice pa' pm' pc', .slice ka' km' kc', .slice ia' im' ic']) wz := fun wz => run_build wz 32 _ _ (by kernel_rfl)
          have hS := SB.out _ b32Ia
          refine wpAnyH_take_d 26 (some 29) (.agg #[.bool n.leaf, .slice pa' pm' pc', .slice ka' km' kc', .slice ia' im' ic']) rfl (by kernel_rfl) (by kernel_rfl) (by kernel_rfl) (by kernel_rfl) rfl (fun _ _ _ h => h) (fun w' h => ex_build4 rfl rfl rfl rfl rfl (hbu w')) (by exact hS) ?_
          simp only [Act.put, List.setIfInBounds_toArray, List.set_cons_succ, List.set_cons_zero]
          refine wpAnyH_one_skip 27 rfl (by kernel_rfl) (by kernel_rfl) (ex_store_row rfl rfl rfl (BZ.out _ b32Ia) (by kernel_rfl) rfl (by simp [Value.oneCell'])) (below_setRow' hS (Nat.le_refl _) _) ?_
          simp only [Act.put, List.setIfInBounds_toArray]
          refine wpAnyH_done (by kernel_rfl) ?_ _
          have hn := setRow_heap _ (w.heap.size + 1) _ #[.bool n.leaf, .slice pa' pm' pc', .slice ka' km' kc', .slice ia' im' ic'] _ _ (BZ.out _ b32Ia)
          obtain ⟨s0, s1, s2, s3⟩ := NdCells.of hn
          have FF : Hid (NdFull w.heap.size _ (.agg #[.bool n.leaf, .slice pa' pm' pc', .slice ka' km' kc', .slice ia' im' ic']) n) := Lib.hid ⟨_, _, _, rfl, (OwnF.keepg g32Ia0 (Nat.lt_succ_self _) (fun k hk => setRow_other _ (w.heap.size + 1) k #[.bool n.leaf, .slice pa' pm' pc', .slice ka' km' kc', .slice ia' im' ic'] hk)).base (by omega), (OwnF.keepg g32Ia1 (Nat.lt_succ_self _) (fun k hk => setRow_other _ (w.heap.size + 1) k _ hk)).base (by omega), (OwnF.keepg o32Ia (Nat.lt_succ_self _) (fun k hk => setRow_other _ (w.heap.size + 1) k _ hk)).base (by omega)⟩
          have FB := Lib.hid (HBW.out.trans ((below_setRow' hS (Nat.le_refl _) #[.bool n.leaf, .slice pa' pm' pc', .slice ka' km' kc', .slice ia' im' ic']).mono (Nat.le_succ _)))
          clear hn hS hbu
          go_wp2
          exact bodyPost_ret (v := .agg #[.bool n.leaf, .slice pa' pm' pc', .slice ka' km' kc', .slice ia' im' ic']) (by simp [results, Try.results15, go_sem, s0, s1, s2, s3]) rfl ⟨_, rfl, FF.out, FB.out⟩
        · skip
          simp only [Act.put, List.setIfInBounds_toArray, List.set_cons_succ, List.set_cons_zero]
          have g30Im1 := g29Pa1.below e30Im
          have g30Im0 := o29Pa.below e30Im
          obtain ⟨v33Sa, w33Sa, r33Sa, o33Sa, b33Sa', z33Sa, k33Sa⟩ := app_full okS g30Im1 ((AR.out _ b30Im).2.1) HL.out.2.1.symm 23
          have b33Sa := b30Im.trans b33Sa'
          refine wpAnyH_one 17 (some 20) v33Sa rfl (by kernel_rfl) (by kernel_rfl) rfl (ex_app rfl rfl rfl r33Sa) (SB.out _ b33Sa) ?_
          simp only [Act.put, List.setIfInBounds_toArray, List.set_cons_succ, List.set_cons_zero]
          have g33Sa0 := g30Im0.other k33Sa g30Im1.kind (by decide)
          have g33Sa2 := o30Im.other k33Sa g30Im1.kind (by decide)
          obtain ⟨v34Ia, w34Ia, r34Ia, o34Ia, b34Ia', z34Ia, k34Ia⟩ := app_full okZ g33Sa2 ((AR.out _ b33Sa).2.2) HL.out.2.2.symm 24
          have b34Ia := b33Sa.trans b34Ia'
          refine wpAnyH_one 25 (some 28) v34Ia rfl (by kernel_rfl) (by kernel_rfl) rfl (ex_app rfl rfl rfl r34Ia) (SB.out _ b34Ia) ?_
          simp only [Act.put, List.setIfInBounds_toArray, List.set_cons_succ, List.set_cons_zero]
          have g34Ia1 := o33Sa.other k34Ia g33Sa2.kind (by decide)
          have g34Ia0 := g33Sa0.other k34Ia g33Sa2.kind (by decide)
          obtain ⟨pa', pm', pc', rfl⟩ := g34Ia0.slv
          obtain ⟨ka', km', kc', rfl⟩ := g34Ia1.slv
          obtain ⟨ia', im', ic', rfl⟩ := o34Ia.slv
          have hbu : ∀ wz, (Instr.build 32 #[(0, .bool n.leaf), (1, .slice pa' pm' pc'), (2, .slice ka' km' kc'), (3, .slice ia' im' ic')]).run Try.prog wz = .ok (.agg #[.bool n.leaf, .slice pa' pm' pc', .slice ka' km' kc', .slice ia' im' ic']) wz := fun wz => run_build wz 32 _ _ (by kernel_rfl)
          have hS := SB.out _ b34Ia
          refine wpAnyH_take_d 26 (some 29) (.agg #[.bool n.leaf, .slice pa' pm' pc', .slice ka' km' kc', .slice ia' im' ic']) rfl (by kernel_rfl) (by kernel_rfl) (by kernel_rfl) (by kernel_rfl) rfl (fun _ _ _ h => h) (fun w' h => ex_build4 rfl rfl rfl rfl rfl (hbu w')) (by exact hS) ?_
          simp only [Act.put, List.setIfInBounds_toArray, List.set_cons_succ, List.set_cons_zero]
          refine wpAnyH_one_skip 27 rfl (by kernel_rfl) (by kernel_rfl) (ex_store_row rfl rfl rfl (BZ.out _ b34Ia) (by kernel_rfl) rfl (by simp [Value.oneCell'])) (below_setRow' hS (Nat.le_refl _) _) ?_
          simp only [Act.put, List.setIfInBounds_toArray]
          refine wpAnyH_done (by kernel_rfl) ?_ _
          have hn := setRow_heap _ (w.heap.size + 1) _ #[.bool n.leaf, .slice pa' pm' pc', .slice ka' km' kc', .slice ia' im' ic'] _ _ (BZ.out _ b34Ia)
          obtain ⟨s0, s1, s2, s3⟩ := NdCells.of hn
          have FF : Hid (NdFull w.heap.size _ (.agg #[.bool n.leaf, .slice pa' pm' pc', .slice ka' km' kc', .slice ia' im' ic']) n) := Lib.hid ⟨_, _, _, rfl, (OwnF.keepg g34Ia0 (Nat.lt_succ_self _) (fun k hk => setRow_other _ (w.heap.size + 1) k #[.bool n.leaf, .slice pa' pm' pc', .slice ka' km' kc', .slice ia' im' ic'] hk)).base (by omega), (OwnF.keepg g34Ia1 (Nat.lt_succ_self _) (fun k hk => setRow_other _ (w.heap.size + 1) k _ hk)).base (by omega), (OwnF.keepg o34Ia (Nat.lt_succ_self _) (fun k hk => setRow_other _ (w.heap.size + 1) k _ hk)).base (by omega)⟩
          have FB := Lib.hid (HBW.out.trans ((below_setRow' hS (Nat.le_refl _) #[.bool n.leaf, .slice pa' pm' pc', .slice ka' km' kc', .slice ia' im' ic']).mono (Nat.le_succ _)))
          clear hn hS hbu
          go_wp2
          exact bodyPost_ret (v := .agg #[.bool n.leaf, .slice pa' pm' pc', .slice ka' km' kc', .slice ia' im' ic']) (by simp [results, Try.results15, go_sem, s0, s1, s2, s3]) rfl ⟨_, rfl, FF.out, FB.out⟩
      · skip
        simp only [Act.put, List.setIfInBounds_toArray, List.set_cons_succ, List.set_cons_zero]
        have g29Im1 := g28Pm1.below e29Im
        have g29Im0 := o28Pm.below e29Im
        obtain ⟨v35Pa, w35Pa, r35Pa, o35Pa, b35Pa', z35Pa, k35Pa⟩ := app_full okP g29Im0 ((AR.out _ b29Im).1) HL.out.1.symm 22
        have b35Pa := b29Im.trans b35Pa'
        refine wpAnyH_one 9 (some 12) v35Pa rfl (by kernel_rfl) (by kernel_rfl) rfl (ex_app rfl rfl rfl r35Pa) (SB.out _ b35Pa) ?_
        simp only [Act.put, List.setIfInBounds_toArray, List.set_cons_succ, List.set_cons_zero]
        have g35Pa1 := g29Im1.other k35Pa g29Im0.kind (by decide)
        have g35Pa2 := o29Im.other k35Pa g29Im0.kind (by decide)
        obtain ⟨v36Sa, w36Sa, r36Sa, o36Sa, b36Sa', z36Sa, k36Sa⟩ := app_full okS g35Pa1 ((AR.out _ b35Pa).2.1) HL.out.2.1.symm 23
        have b36Sa := b35Pa.trans b36Sa'
        refine wpAnyH_one 17 (some 20) v36Sa rfl (by kernel_rfl) (by kernel_rfl) rfl (ex_app rfl rfl rfl r36Sa) (SB.out _ b36Sa) ?_
        simp only [Act.put, List.setIfInBounds_toArray, List.set_cons_succ, List.set_cons_zero]
        have g36Sa0 := o35Pa.other k36Sa g35Pa1.kind (by decide)
        have g36Sa2 := g35Pa2.other k36Sa g35Pa1.kind (by decide)
        obtain ⟨v37Ia, w37Ia, r37Ia, o37Ia, b37Ia', z37Ia, k37Ia⟩ := app_full okZ g36Sa2 ((AR.out _ b36Sa).2.2) HL.out.2.2.symm 24
        have b37Ia := b36Sa.trans b37Ia'
        refine wpAnyH_one 25 (some 28) v37Ia rfl (by kernel_rfl) (by kernel_rfl) rfl (ex_app rfl rfl rfl r37Ia) (SB.out _ b37Ia) ?_
        simp only [Act.put, List.setIfInBounds_toArray, List.set_cons_succ, List.set_cons_zero]
        have g37Ia1 := o36Sa.other k37Ia g36Sa2.kind (by decide)
        have g37Ia0 := g36Sa0.other k37Ia g36Sa2.kind (by decide)
        obtain ⟨pa', pm', pc', rfl⟩ := g37Ia0.slv
        obtain ⟨ka', km', kc', rfl⟩ := g37Ia1.slv
        obtain ⟨ia', im', ic', rfl⟩ := o37Ia.slv
        have hbu : ∀ wz, (Instr.build 32 #[(0, .bool n.leaf), (1, .slice pa' pm' pc'), (2, .slice ka' km' kc'), (3, .slice ia' im' ic')]).run Try.prog wz = .ok (.agg #[.bool n.leaf, .slice pa' pm' pc', .slice ka' km' kc', .slice ia' im' ic']) wz := fun wz => run_build wz 32 _ _ (by kernel_rfl)
        have hS := SB.out _ b37Ia
        refine wpAnyH_take_d 26 (some 29) (.agg #[.bool n.leaf, .slice pa' pm' pc', .slice ka' km' kc', .slice ia' im' ic']) rfl (by kernel_rfl) (by kernel_rfl) (by kernel_rfl) (by kernel_rfl) rfl (fun _ _ _ h => h) (fun w' h => ex_build4 rfl rfl rfl rfl rfl (hbu w')) (by exact hS) ?_
        simp only [Act.put, List.setIfInBounds_toArray, List.set_cons_succ, List.set_cons_zero]
        refine wpAnyH_one_skip 27 rfl (by kernel_rfl) (by kernel_rfl) (ex_store_row rfl rfl rfl (BZ.out _ b37Ia) (by kernel_rfl) rfl (by simp [Value.oneCell'])) (below_setRow' hS (Nat.le_refl _) _) ?_
        simp only [Act.put, List.setIfInBounds_toArray]
        refine wpAnyH_done (by kernel_rfl) ?_ _
        have hn := setRow_heap _ (w.heap.size + 1) _ #[.bool n.leaf, .slice pa' pm' pc', .slice ka' km' kc', .slice ia' im' ic'] _ _ (BZ.out _ b37Ia)
        obtain ⟨s0, s1, s2, s3⟩ := NdCells.of hn
        have FF : Hid (NdFull w.heap.size _ (.agg #[.bool n.leaf, .slice pa' pm' pc', .slice ka' km' kc', .slice ia' im' ic']) n) := Lib.hid ⟨_, _, _, rfl, (OwnF.keepg g37Ia0 (Nat.lt_succ_self _) (fun k hk => setRow_other _ (w.heap.size + 1) k #[.bool n.leaf, .slice pa' pm' pc', .slice ka' km' kc', .slice ia' im' ic'] hk)).base (by omega), (OwnF.keepg g37Ia1 (Nat.lt_succ_self _) (fun k hk => setRow_other _ (w.heap.size + 1) k _ hk)).base (by omega), (OwnF.keepg o37Ia (Nat.lt_succ_self _) (fun k hk => setRow_other _ (w.heap.size + 1) k _ hk)).base (by omega)⟩
        have FB := Lib.hid (HBW.out.trans ((below_setRow' hS (Nat.le_refl _) #[.bool n.leaf, .slice pa' pm' pc', .slice ka' km' kc', .slice ia' im' ic']).mono (Nat.le_succ _)))
        clear hn hS hbu
        go_wp2
        exact bodyPost_ret (v := .agg #[.bool n.leaf, .slice pa' pm' pc', .slice ka' km' kc', .slice ia' im' ic']) (by simp [results, Try.results15, go_sem, s0, s1, s2, s3]) rfl ⟨_, rfl, FF.out, FB.out⟩
    · skip
      simp only [Act.put, List.setIfInBounds_toArray, List.set_cons_succ, List.set_cons_zero]
      have g28Im1 := o1Sm.below e28Im
      obtain ⟨v38Pm, w38Pm, r38Pm, o38Pm, b38Pm, e38Pm⟩ := mk_at okP b28Im h0 pm n1
      refine wpAnyH_one 6 (some 9) v38Pm rfl (by kernel_rfl) (by kernel_rfl) rfl (ex_mk rfl rfl rfl r38Pm) (SB.out _ b38Pm) ?_
      simp only [Act.put, List.setIfInBounds_toArray, List.set_cons_succ, List.set_cons_zero]
      have g38Pm1 := g28Im1.below e38Pm
      have g38Pm2 := o28Im.below e38Pm
      obtain ⟨v39Pa, w39Pa, r39Pa, o39Pa, b39Pa', z39Pa, k39Pa⟩ := app_full okP o38Pm ((AR.out _ b38Pm).1) HL.out.1.symm 22
      have b39Pa := b38Pm.trans b39Pa'
      refine wpAnyH_one 9 (some 12) v39Pa rfl (by kernel_rfl) (by kernel_rfl) rfl (ex_app rfl rfl rfl r39Pa) (SB.out _ b39Pa) ?_
      simp only [Act.put, List.setIfInBounds_toArray, List.set_cons_succ, List.set_cons_zero]
      have g39Pa1 := g38Pm1.other k39Pa o38Pm.kind (by decide)
      have g39Pa2 := g38Pm2.other k39Pa o38Pm.kind (by decide)
      obtain ⟨v40Sa, w40Sa, r40Sa, o40Sa, b40Sa', z40Sa, k40Sa⟩ := app_full okS g39Pa1 ((AR.out _ b39Pa).2.1) HL.out.2.1.symm 23
      have b40Sa := b39Pa.trans b40Sa'
      refine wpAnyH_one 17 (some 20) v40Sa rfl (by kernel_rfl) (by kernel_rfl) rfl (ex_app rfl rfl rfl r40Sa) (SB.out _ b40Sa) ?_
      simp only [Act.put, List.setIfInBounds_toArray, List.set_cons_succ, List.set_cons_zero]
      have g40Sa2 := g39Pa2.other k40Sa g39Pa1.kind (by decide)
      have g40Sa0 := o39Pa.other k40Sa g39Pa1.kind (by decide)
      obtain ⟨v41Ia, w41Ia, r41Ia, o41Ia, b41Ia', z41Ia, k41Ia⟩ := app_full okZ g40Sa2 ((AR.out _ b40Sa).2.2) HL.out.2.2.symm 24
      have b41Ia := b40Sa.trans b41Ia'
      refine wpAnyH_one 25 (some 28) v41Ia rfl (by kernel_rfl) (by kernel_rfl) rfl (ex_app rfl rfl rfl r41Ia) (SB.out _ b41Ia) ?_
      simp only [Act.put, List.setIfInBounds_toArray, List.set_cons_succ, List.set_cons_zero]
      have g41Ia1 := o40Sa.other k41Ia g40Sa2.kind (by decide)
      have g41Ia0 := g40Sa0.other k41Ia g40Sa2.kind (by decide)
      obtain ⟨pa', pm', pc', rfl⟩ := g41Ia0.slv
      obtain ⟨ka', km', kc', rfl⟩ := g41Ia1.slv
      obtain ⟨ia', im', ic', rfl⟩ := o41Ia.slv
      have hbu : ∀ wz, (Instr.build 32 #[(0, .bool n.leaf), (1, .slice pa' pm' pc'), (2, .slice ka' km' kc'), (3, .slice ia' im' ic')]).run Try.prog wz = .ok (.agg #[.bool n.leaf, .slice pa' pm' pc', .slice ka' km' kc', .slice ia' im' ic']) wz := fun wz => run_build wz 32 _ _ (by kernel_rfl)
      have hS := SB.out _ b41Ia
      refine wpAnyH_take_d 26 (some 29) (.agg #[.bool n.leaf, .slice pa' pm' pc', .slice ka' km' kc', .slice ia' im' ic']) rfl (by kernel_rfl) (by kernel_rfl) (by kernel_rfl) (by kernel_rfl) rfl (fun _ _ _ h => h) (fun w' h => ex_build4 rfl rfl rfl rfl rfl (hbu w')) (by exact hS) ?_
      simp only [Act.put, List.setIfInBounds_toArray, List.set_cons_succ, List.set_cons_zero]
      refine wpAnyH_one_skip 27 rfl (by kernel_rfl) (by kernel_rfl) (ex_store_row rfl rfl rfl (BZ.out _ b41Ia) (by kernel_rfl) rfl (by simp [Value.oneCell'])) (below_setRow' hS (Nat.le_refl _) _) ?_
      simp only [Act.put, List.setIfInBounds_toArray]
      refine wpAnyH_done (by kernel_rfl) ?_ _
      have hn := setRow_heap _ (w.heap.size + 1) _ #[.bool n.leaf, .slice pa' pm' pc', .slice ka' km' kc', .slice ia' im' ic'] _ _ (BZ.out _ b41Ia)
      obtain ⟨s0, s1, s2, s3⟩ := NdCells.of hn
      have FF : Hid (NdFull w.heap.size _ (.agg #[.bool n.leaf, .slice pa' pm' pc', .slice ka' km' kc', .slice ia' im' ic']) n) := Lib.hid ⟨_, _, _, rfl, (OwnF.keepg g41Ia0 (Nat.lt_succ_self _) (fun k hk => setRow_other _ (w.heap.size + 1) k #[.bool n.leaf, .slice pa' pm' pc', .slice ka' km' kc', .slice ia' im' ic'] hk)).base (by omega), (OwnF.keepg g41Ia1 (Nat.lt_succ_self _) (fun k hk => setRow_other _ (w.heap.size + 1) k _ hk)).base (by omega), (OwnF.keepg o41Ia (Nat.lt_succ_self _) (fun k hk => setRow_other _ (w.heap.size + 1) k _ hk)).base (by omega)⟩
      have FB := Lib.hid (HBW.out.trans ((below_setRow' hS (Nat.le_refl _) #[.bool n.leaf, .slice pa' pm' pc', .slice ka' km' kc', .slice ia' im' ic']).mono (Nat.le_succ _)))
      clear hn hS hbu
      go_wp2
      exact bodyPost_ret (v := .agg #[.bool n.leaf, .slice pa' pm' pc', .slice ka' km' kc', .slice ia' im' ic']) (by simp [results, Try.results15, go_sem, s0, s1, s2, s3]) rfl ⟨_, rfl, FF.out, FB.out⟩
  · skip
    simp only [Act.put, List.setIfInBounds_toArray, List.set_cons_succ, List.set_cons_zero]
    obtain ⟨v42Pm, w42Pm, r42Pm, o42Pm, b42Pm, e42Pm⟩ := mk_at okP b1Im h0 pm n1
    obtain ⟨v42Sm, w42Sm, r42Sm, o42Sm, b42Sm, e42Sm⟩ := mk_at okS b1Im h0 km n2
    refine wpAnyH_two 6 14 (some 9) (some 17) v42Pm v42Sm rfl rfl (by kernel_rfl) (by kernel_rfl) (by kernel_rfl) rfl rfl (ex_mk rfl rfl rfl r42Pm) (ex_mk rfl rfl rfl r42Sm) (SB.out _ b42Pm) (SB.out _ b42Sm) ?_ ?_
    · skip
      simp only [Act.put, List.setIfInBounds_toArray, List.set_cons_succ, List.set_cons_zero]
      have g42Pm2 := o1Im.below e42Pm
      obtain ⟨v43Pa, w43Pa, r43Pa, o43Pa, b43Pa', z43Pa, k43Pa⟩ := app_full okP o42Pm ((AR.out _ b42Pm).1) HL.out.1.symm 22
      have b43Pa := b42Pm.trans b43Pa'
      obtain ⟨v43Sm, w43Sm, r43Sm, o43Sm, b43Sm, e43Sm⟩ := mk_at okS b42Pm h0 km n2
      refine wpAnyH_two 9 14 (some 12) (some 17) v43Pa v43Sm rfl rfl (by kernel_rfl) (by kernel_rfl) (by kernel_rfl) rfl rfl (ex_app rfl rfl rfl r43Pa) (ex_mk rfl rfl rfl r43Sm) (SB.out _ b43Pa) (SB.out _ b43Sm) ?_ ?_
      · skip
        simp only [Act.put, List.setIfInBounds_toArray, List.set_cons_succ, List.set_cons_zero]
        have g43Pa2 := g42Pm2.other k43Pa o42Pm.kind (by decide)
        obtain ⟨v44Sm, w44Sm, r44Sm, o44Sm, b44Sm, e44Sm⟩ := mk_at okS b43Pa h0 km n2
        refine wpAnyH_one 14 (some 17) v44Sm rfl (by kernel_rfl) (by kernel_rfl) rfl (ex_mk rfl rfl rfl r44Sm) (SB.out _ b44Sm) ?_
        simp only [Act.put, List.setIfInBounds_toArray, List.set_cons_succ, List.set_cons_zero]
        have g44Sm2 := g43Pa2.below e44Sm
        have g44Sm0 := o43Pa.below e44Sm
        obtain ⟨v45Sa, w45Sa, r45Sa, o45Sa, b45Sa', z45Sa, k45Sa⟩ := app_full okS o44Sm ((AR.out _ b44Sm).2.1) HL.out.2.1.symm 23
        have b45Sa := b44Sm.trans b45Sa'
        refine wpAnyH_one 17 (some 20) v45Sa rfl (by kernel_rfl) (by kernel_rfl) rfl (ex_app rfl rfl rfl r45Sa) (SB.out _ b45Sa) ?_
        simp only [Act.put, List.setIfInBounds_toArray, List.set_cons_succ, List.set_cons_zero]
        have g45Sa2 := g44Sm2.other k45Sa o44Sm.kind (by decide)
        have g45Sa0 := g44Sm0.other k45Sa o44Sm.kind (by decide)
        obtain ⟨v46Ia, w46Ia, r46Ia, o46Ia, b46Ia', z46Ia, k46Ia⟩ := app_full okZ g45Sa2 ((AR.out _ b45Sa).2.2) HL.out.2.2.symm 24
        have b46Ia := b45Sa.trans b46Ia'
        refine wpAnyH_one 25 (some 28) v46Ia rfl (by kernel_rfl) (by kernel_rfl) rfl (ex_app rfl rfl rfl r46Ia) (SB.out _ b46Ia) ?_
        simp only [Act.put, List.setIfInBounds_toArray, List.set_cons_succ, List.set_cons_zero]
        have g46Ia0 := g45Sa0.other k46Ia g45Sa2.kind (by decide)
        have g46Ia1 := o45Sa.other k46Ia g45Sa2.kind (by decide)
        obtain ⟨pa', pm', pc', rfl⟩ := g46Ia0.slv
        obtain ⟨ka', km', kc', rfl⟩ := g46Ia1.slv
        obtain ⟨ia', im', ic', rfl⟩ := o46Ia.slv
        have hbu : ∀ wz, (Instr.build 32 #[(0, .bool n.leaf), (1, .slice pa' pm' pc'), (2, .slice ka' km' kc'), (3, .slice ia' im' ic')]).run Try.prog wz = .ok (.agg #[.bool n.leaf, .slice pa' pm' pc', .slice ka' km' kc', .slice ia' im' ic']) wz := fun wz => run_build wz 32 _ _ (by kernel_rfl)
        have hS := SB.out _ b46Ia
        refine wpAnyH_take_d 26 (some 29) (.agg #[.bool n.leaf, .slice pa' pm' pc', .slice ka' km' kc', .slice ia' im' ic']) rfl (by kernel_rfl) (by kernel_rfl) (by kernel_rfl) (by kernel_rfl) rfl (fun _ _ _ h => h) (fun w' h => ex_build4 rfl rfl rfl rfl rfl (hbu w')) (by exact hS) ?_
        simp only [Act.put, List.setIfInBounds_toArray, List.set_cons_succ, List.set_cons_zero]
        refine wpAnyH_one_skip 27 rfl (by kernel_rfl) (by kernel_rfl) (ex_store_row rfl rfl rfl (BZ.out _ b46Ia) (by kernel_rfl) rfl (by simp [Value.oneCell'])) (below_setRow' hS (Nat.le_refl _) _) ?_
        simp only [Act.put, List.setIfInBounds_toArray]
        refine wpAnyH_done (by kernel_rfl) ?_ _
        have hn := setRow_heap _ (w.heap.size + 1) _ #[.bool n.leaf, .slice pa' pm' pc', .slice ka' km' kc', .slice ia' im' ic'] _ _ (BZ.out _ b46Ia)
        obtain ⟨s0, s1, s2, s3⟩ := NdCells.of hn
        have FF : Hid (NdFull w.heap.size _ (.agg #[.bool n.leaf, .slice pa' pm' pc', .slice ka' km' kc', .slice ia' im' ic']) n) := Lib.hid ⟨_, _, _, rfl, (OwnF.keepg g46Ia0 (Nat.lt_succ_self _) (fun k hk => setRow_other _ (w.heap.size + 1) k #[.bool n.leaf, .slice pa' pm' pc', .slice ka' km' kc', .slice ia' im' ic'] hk)).base (by omega), (OwnF.keepg g46Ia1 (Nat.lt_succ_self _) (fun k hk => setRow_other _ (w.heap.size + 1) k _ hk)).base (by omega), (OwnF.keepg o46Ia (Nat.lt_succ_self _) (fun k hk => setRow_other _ (w.heap.size + 1) k _ hk)).base (by omega)⟩
        have FB := Lib.hid (HBW.out.trans ((below_setRow' hS (Nat.le_refl _) #[.bool n.leaf, .slice pa' pm' pc', .slice ka' km' kc', .slice ia' im' ic']).mono (Nat.le_succ _)))
        clear hn hS hbu
        go_wp2
        exact bodyPost_ret (v := .agg #[.bool n.leaf, .slice pa' pm' pc', .slice ka' km' kc', .slice ia' im' ic']) (by simp [results, Try.results15, go_sem, s0, s1, s2, s3]) rfl ⟨_, rfl, FF.out, FB.out⟩
      · skip
        simp only [Act.put, List.setIfInBounds_toArray, List.set_cons_succ, List.set_cons_zero]
        have g43Sm2 := g42Pm2.below e43Sm
        have g43Sm0 := o42Pm.below e43Sm
        obtain ⟨v47Pa, w47Pa, r47Pa, o47Pa, b47Pa', z47Pa, k47Pa⟩ := app_full okP g43Sm0 ((AR.out _ b43Sm).1) HL.out.1.symm 22
        have b47Pa := b43Sm.trans b47Pa'
        refine wpAnyH_one 9 (some 12) v47Pa rfl (by kernel_rfl) (by kernel_rfl) rfl (ex_app rfl rfl rfl r47Pa) (SB.out _ b47Pa) ?_
        simp only [Act.put, List.setIfInBounds_toArray, List.set_cons_succ, List.set_cons_zero]
        have g47Pa2 := g43Sm2.other k47Pa g43Sm0.kind (by decide)
        have g47Pa1 := o43Sm.other k47Pa g43Sm0.kind (by decide)
        obtain ⟨v48Sa, w48Sa, r48Sa, o48Sa, b48Sa', z48Sa, k48Sa⟩ := app_full okS g47Pa1 ((AR.out _ b47Pa).2.1) HL.out.2.1.symm 23
        have b48Sa := b47Pa.trans b48Sa'
        refine wpAnyH_one 17 (some 20) v48Sa rfl (by kernel_rfl) (by kernel_rfl) rfl (ex_app rfl rfl rfl r48Sa) (SB.out _ b48Sa) ?_
        simp only [Act.put, List.setIfInBounds_toArray, List.set_cons_succ, List.set_cons_zero]
        have g48Sa2 := g47Pa2.other k48Sa g47Pa1.kind (by decide)
        have g48Sa0 := o47Pa.other k48Sa g47Pa1.kind (by decide)
        obtain ⟨v49Ia, w49Ia, r49Ia, o49Ia, b49Ia', z49Ia, k49Ia⟩ := app_full okZ g48Sa2 ((AR.out _ b48Sa).2.2) HL.out.2.2.symm 24
        have b49Ia := b48Sa.trans b49Ia'
        refine wpAnyH_one 25 (some 28) v49Ia rfl (by kernel_rfl) (by kernel_rfl) rfl (ex_app rfl rfl rfl r49Ia) (SB.out _ b49Ia) ?_
        simp only [Act.put, List.setIfInBounds_toArray, List.set_cons_succ, List.set_cons_zero]
        have g49Ia0 := g48Sa0.other k49Ia g48Sa2.kind (by decide)
        have g49Ia1 := o48Sa.other k49Ia g48Sa2.kind (by decide)
        obtain ⟨pa', pm', pc', rfl⟩ := g49Ia0.slv
        obtain ⟨ka', km', kc', rfl⟩ := g49Ia1.slv
        obtain ⟨ia', im', ic', rfl⟩ := o49Ia.slv
        have hbu : ∀ wz, (Instr.build 32 #[(0, .bool n.leaf), (1, .slice pa' pm' pc'), (2, .slice ka' km' kc'), (3, .slice ia' im' ic')]).run Try.prog wz = .ok (.agg #[.bool n.leaf, .slice pa' pm' pc', .slice ka' km' kc', .slice ia' im' ic']) wz := fun wz => run_build wz 32 _ _ (by kernel_rfl)
        have hS := SB.out _ b49Ia
        refine wpAnyH_take_d 26 (some 29) (.agg #[.bool n.leaf, .slice pa' pm' pc', .slice ka' km' kc', .slice ia' im' ic']) rfl (by kernel_rfl) (by kernel_rfl) (by kernel_rfl) (by kernel_rfl) rfl (fun _ _ _ h => h) (fun w' h => ex_build4 rfl rfl rfl rfl rfl (hbu w')) (by exact hS) ?_
        simp only [Act.put, List.setIfInBounds_toArray, List.set_cons_succ, List.set_cons_zero]
        refine wpAnyH_one_skip 27 rfl (by kernel_rfl) (by kernel_rfl) (ex_store_row rfl rfl rfl (BZ.out _ b49Ia) (by kernel_rfl) rfl (by simp [Value.oneCell'])) (below_setRow' hS (Nat.le_refl _) _) ?_
        simp only [Act.put, List.setIfInBounds_toArray]
        refine wpAnyH_done (by kernel_rfl) ?_ _
        have hn := setRow_heap _ (w.heap.size + 1) _ #[.bool n.leaf, .slice pa' pm' pc', .slice ka' km' kc', .slice ia' im' ic'] _ _ (BZ.out _ b49Ia)
        obtain ⟨s0, s1, s2, s3⟩ := NdCells.of hn
        have FF : Hid (NdFull w.heap.size _ (.agg #[.bool n.leaf, .slice pa' pm' pc', .slice ka' km' kc', .slice ia' im' ic']) n) := Lib.hid ⟨_, _, _, rfl, (OwnF.keepg g49Ia0 (Nat.lt_succ_self _) (fun k hk => setRow_other _ (w.heap.size + 1) k #[.bool n.leaf, .slice pa' pm' pc', .slice ka' km' kc', .slice ia' im' ic'] hk)).base (by omega), (OwnF.keepg g49Ia1 (Nat.lt_succ_self _) (fun k hk => setRow_other _ (w.heap.size + 1) k _ hk)).base (by omega), (OwnF.keepg o49Ia (Nat.lt_succ_self _) (fun k hk => setRow_other _ (w.heap.size + 1) k _ hk)).base (by omega)⟩
        have FB := Lib.hid (HBW.out.trans ((below_setRow' hS (Nat.le_refl _) #[.bool n.leaf, .slice pa' pm' pc', .slice ka' km' kc', .slice ia' im' ic']).mono (Nat.le_succ _)))
        clear hn hS hbu
        go_wp2
        exact bodyPost_ret (v := .agg #[.bool n.leaf, .slice pa' pm' pc', .slice ka' km' kc', .slice ia' im' ic']) (by simp [results, Try.results15, go_sem, s0, s1, s2, s3]) rfl ⟨_, rfl, FF.out, FB.out⟩
    · skip
      simp only [Act.put, List.setIfInBounds_toArray, List.set_cons_succ, List.set_cons_zero]
      have g42Sm2 := o1Im.below e42Sm
      obtain ⟨v50Pm, w50Pm, r50Pm, o50Pm, b50Pm, e50Pm⟩ := mk_at okP b42Sm h0 pm n1
      refine wpAnyH_one 6 (some 9) v50Pm rfl (by kernel_rfl) (by kernel_rfl) rfl (ex_mk rfl rfl rfl r50Pm) (SB.out _ b50Pm) ?_
      simp only [Act.put, List.setIfInBounds_toArray, List.set_cons_succ, List.set_cons_zero]
      have g50Pm2 := g42Sm2.below e50Pm
      have g50Pm1 := o42Sm.below e50Pm
      obtain ⟨v51Pa, w51Pa, r51Pa, o51Pa, b51Pa', z51Pa, k51Pa⟩ := app_full okP o50Pm ((AR.out _ b50Pm).1) HL.out.1.symm 22
      have b51Pa := b50Pm.trans b51Pa'
      refine wpAnyH_one 9 (some 12) v51Pa rfl (by kernel_rfl) (by kernel_rfl) rfl (ex_app rfl rfl rfl r51Pa) (SB.out _ b51Pa) ?_
      simp only [Act.put, List.setIfInBounds_toArray, List.set_cons_succ, List.set_cons_zero]
      have g51Pa2 := g50Pm2.other k51Pa o50Pm.kind (by decide)
      have g51Pa1 := g50Pm1.other k51Pa o50Pm.kind (by decide)
      obtain ⟨v52Sa, w52Sa, r52Sa, o52Sa, b52Sa', z52Sa, k52Sa⟩ := app_full okS g51Pa1 ((AR.out _ b51Pa).2.1) HL.out.2.1.symm 23
      have b52Sa := b51Pa.trans b52Sa'
      refine wpAnyH_one 17 (some 20) v52Sa rfl (by kernel_rfl) (by kernel_rfl) rfl (ex_app rfl rfl rfl r52Sa) (SB.out _ b52Sa) ?_
      simp only [Act.put, List.setIfInBounds_toArray, List.set_cons_succ, List.set_cons_zero]
      have g52Sa2 := g51Pa2.other k52Sa g51Pa1.kind (by decide)
      have g52Sa0 := o51Pa.other k52Sa g51Pa1.kind (by decide)
      obtain ⟨v53Ia, w53Ia, r53Ia, o53Ia, b53Ia', z53Ia, k53Ia⟩ := app_full okZ g52Sa2 ((AR.out _ b52Sa).2.2) HL.out.2.2.symm 24
      have b53Ia := b52Sa.trans b53Ia'
      refine wpAnyH_one 25 (some 28) v53Ia rfl (by kernel_rfl) (by kernel_rfl) rfl (ex_app rfl rfl rfl r53Ia) (SB.out _ b53Ia) ?_
      simp only [Act.put, List.setIfInBounds_toArray, List.set_cons_succ, List.set_cons_zero]
      have g53Ia1 := o52Sa.other k53Ia g52Sa2.kind (by decide)
      have g53Ia0 := g52Sa0.other k53Ia g52Sa2.kind (by decide)
      obtain ⟨pa', pm', pc', rfl⟩ := g53Ia0.slv
      obtain ⟨ka', km', kc', rfl⟩ := g53Ia1.slv
      obtain ⟨ia', im', ic', rfl⟩ := o53Ia.slv
      have hbu : ∀ wz, (Instr.build 32 #[(0, .bool n.leaf), (1, .slice pa' pm' pc'), (2, .slice ka' km' kc'), (3, .slice ia' im' ic')]).run Try.prog wz = .ok (.agg #[.bool n.leaf, .slice pa' pm' pc', .slice ka' km' kc', .slice ia' im' ic']) wz := fun wz => run_build wz 32 _ _ (by kernel_rfl)
      have hS := SB.out _ b53Ia
      refine wpAnyH_take_d 26 (some 29) (.agg #[.bool n.leaf, .slice pa' pm' pc', .slice ka' km' kc', .slice ia' im' ic']) rfl (by kernel_rfl) (by kernel_rfl) (by kernel_rfl) (by kernel_rfl) rfl (fun _ _ _ h => h) (fun w' h => ex_build4 rfl rfl rfl rfl rfl (hbu w')) (by exact hS) ?_
      simp only [Act.put, List.setIfInBounds_toArray, List.set_cons_succ, List.set_cons_zero]
      refine wpAnyH_one_skip 27 rfl (by kernel_rfl) (by kernel_rfl) (ex_store_row rfl rfl rfl (BZ.out _ b53Ia) (by kernel_rfl) rfl (by simp [Value.oneCell'])) (below_setRow' hS (Nat.le_refl _) _) ?_
      simp only [Act.put, List.setIfInBounds_toArray]
      refine wpAnyH_done (by kernel_rfl) ?_ _
      have hn := setRow_heap _ (w.heap.size + 1) _ #[.bool n.leaf, .slice pa' pm' pc', .slice ka' km' kc', .slice ia' im' ic'] _ _ (BZ.out _ b53Ia)
      obtain ⟨s0, s1, s2, s3⟩ := NdCells.of hn
      have FF : Hid (NdFull w.heap.size _ (.agg #[.bool n.leaf, .slice pa' pm' pc', .slice ka' km' kc', .slice ia' im' ic']) n) := Lib.hid ⟨_, _, _, rfl, (OwnF.keepg g53Ia0 (Nat.lt_succ_self _) (fun k hk => setRow_other _ (w.heap.size + 1) k #[.bool n.leaf, .slice pa' pm' pc', .slice ka' km' kc', .slice ia' im' ic'] hk)).base (by omega), (OwnF.keepg g53Ia1 (Nat.lt_succ_self _) (fun k hk => setRow_other _ (w.heap.size + 1) k _ hk)).base (by omega), (OwnF.keepg o53Ia (Nat.lt_succ_self _) (fun k hk => setRow_other _ (w.heap.size + 1) k _ hk)).base (by omega)⟩
      have FB := Lib.hid (HBW.out.trans ((below_setRow' hS (Nat.le_refl _) #[.bool n.leaf, .slice pa' pm' pc', .slice ka' km' kc', .slice ia' im' ic']).mono (Nat.le_succ _)))
      clear hn hS hbu
      go_wp2
      exact bodyPost_ret (v := .agg #[.bool n.leaf, .slice pa' pm' pc', .slice ka' km' kc', .slice ia' im' ic']) (by simp [results, Try.results15, go_sem, s0, s1, s2, s3]) rfl ⟨_, rfl, FF.out, FB.out⟩
end Go.Proofs.Ytdkmfcmndncmcaa
