/- The contract of node.Split at an inner node. No statement of the seat is proved here. -/
import Derived.Test.YtdkmfcmndncmcaaNSplitL
import Derived.Deep.CutRange
import Derived.Deep.Cut
namespace Go.Proofs.Ytdkmfcmndncmcaa
set_option maxRecDepth 20000
open Go.RowKit

theorem uS : Try.prog.underlying 23 = some (.slice (Try.prog.elem 23)) := by kernel_rfl
theorem szS (w : World) : (sizeOf (Try.prog.elem 23)).run Try.prog w = .ok 1 w := by kernel_rfl
theorem uI : Try.prog.underlying 24 = some (.slice (Try.prog.elem 24)) := by kernel_rfl
theorem szI (w : World) : (sizeOf (Try.prog.elem 24)).run Try.prog w = .ok 1 w := by kernel_rfl
theorem slS_from (a : Option Addr) {n c k : Nat} (hk : k ≤ n) : ∃ bo : Option Addr, (∀ w, (Instr.sliceAt 23 (.slice a n c) (some (.int .i64 ((k : Nat) : Int))) none none).run Try.prog w = .ok (.slice bo (n - k) (c - k)) w) ∧ ∀ b off, a = some ⟨b, off, none⟩ → c ≠ k → bo = some ⟨b, off + k * 1, none⟩ := by
  refine ⟨if c = k then a else a.map (·.add (k * 1)), fun w => ?_, fun b off ha hc => ?_⟩
  · rw [run_sliceAt_slice (P := Try.prog) w 23 _ _ _ _ uS, run_slice_l (P := Try.prog) w 23 a n c uS .i64 ((k : Nat) : Int) (by omega) (by omega), szS]
    have e : ((k : Nat) : Int).toNat = k := by omega
    simp only [Result.andThen, e, sliced]
  · rw [if_neg hc, ha, Option.map_some, Addr.add_mid]
theorem slS_to (a : Option Addr) {n c k : Nat} (hk : k ≤ c) (w : World) : (Instr.sliceAt 23 (.slice a n c) none (some (.int .i64 ((k : Nat) : Int))) none).run Try.prog w = .ok (.slice a k c) w := by
  rw [run_sliceAt_slice (P := Try.prog) w 23 _ _ _ _ uS, run_slice_h (P := Try.prog) w 23 a n c uS .i64 ((k : Nat) : Int) (by omega) (by omega), szS]
  have e : ((k : Nat) : Int).toNat = k := by omega
  simp only [Result.andThen, e, sliced, Nat.zero_mul, Nat.sub_zero]
  congr 2
  split
  · rfl
  · cases a with
    | none => rfl
    | some x => simp [Addr.add]
theorem slI_from (a : Option Addr) {n c k : Nat} (hk : k ≤ n) : ∃ bo : Option Addr, (∀ w, (Instr.sliceAt 24 (.slice a n c) (some (.int .i64 ((k : Nat) : Int))) none none).run Try.prog w = .ok (.slice bo (n - k) (c - k)) w) ∧ ∀ b off, a = some ⟨b, off, none⟩ → c ≠ k → bo = some ⟨b, off + k * 1, none⟩ := by
  refine ⟨if c = k then a else a.map (·.add (k * 1)), fun w => ?_, fun b off ha hc => ?_⟩
  · rw [run_sliceAt_slice (P := Try.prog) w 24 _ _ _ _ uI, run_slice_l (P := Try.prog) w 24 a n c uI .i64 ((k : Nat) : Int) (by omega) (by omega), szI]
    have e : ((k : Nat) : Int).toNat = k := by omega
    simp only [Result.andThen, e, sliced]
  · rw [if_neg hc, ha, Option.map_some, Addr.add_mid]
theorem slI_to (a : Option Addr) {n c k : Nat} (hk : k ≤ c) (w : World) : (Instr.sliceAt 24 (.slice a n c) none (some (.int .i64 ((k : Nat) : Int))) none).run Try.prog w = .ok (.slice a k c) w := by
  rw [run_sliceAt_slice (P := Try.prog) w 24 _ _ _ _ uI, run_slice_h (P := Try.prog) w 24 a n c uI .i64 ((k : Nat) : Int) (by omega) (by omega), szI]
  have e : ((k : Nat) : Int).toNat = k := by omega
  simp only [Result.andThen, e, sliced, Nat.zero_mul, Nat.sub_zero]
  congr 2
  split
  · rfl
  · cases a with
    | none => rfl
    | some x => simp [Addr.add]
/-- a list's own block is no node's block -/
theorem OwnR.ne {α : Type} {E : El α} {base A : Nat} {w w1 : World} {v : Value} {l : List α} {cs : Array Value} (h : OwnR E base w v l) (hA : w.heap[A]? = some (.cells cs 32 (0, 0))) (ht : E.t ≠ 32) (hk : ∀ k, k ≠ A → w1.heap[k]? = w.heap[k]?) : OwnR E base w1 v l := by
  refine ⟨h.1, ?_⟩
  rcases h.2 with h2 | ⟨g, cap, cur, hv, hg, hh, r⟩
  · exact .inl h2
  · refine .inr ⟨g, cap, cur, hv, hg, (hk g ?_).trans hh, r⟩
    rintro rfl
    rw [hA] at hh
    injection hh with e
    injection e with _ e2 _
    exact ht e2.symm
/-- a half under way: its block, its two lists -/
structure HlfW (b0 : Nat) (W : World) (A : Nat) (cs : Array Value) (kv iv : Value) (ks : List ByteArray) (is : List Int) : Prop where
  a : W.heap[A]? = some (.cells cs 32 (0, 0))
  lo : b0 ≤ A
  k : OwnR elS b0 W kv ks
  i : OwnR elI b0 W iv is
theorem HlfW.lt {b0 : Nat} {W : World} {A : Nat} {cs : Array Value} {kv iv : Value} {ks : List ByteArray} {is : List Int} (h : HlfW b0 W A cs kv iv ks is) : A < W.heap.size := by
  have := (Array.getElem?_eq_some_iff.1 h.a).1
  exact this
theorem HlfW.below {b0 : Nat} {W W' : World} {A : Nat} {cs : Array Value} {kv iv : Value} {ks : List ByteArray} {is : List Int} (h : HlfW b0 W A cs kv iv ks is) (b : Below W.heap.size W W') : HlfW b0 W' A cs kv iv ks is :=
  ⟨(b.block A h.lt).trans h.a, h.lo, h.k.below b, h.i.below b⟩
theorem HlfW.put {b0 : Nat} {W : World} {A : Nat} {cs : Array Value} {kv iv : Value} {ks : List ByteArray} {is : List Int} (h : HlfW b0 W A cs kv iv ks is) (cs' : Array Value) : HlfW b0 (W.setRow A cs') A cs' kv iv ks is :=
  ⟨setRow_heap _ A _ cs' _ _ h.a, h.lo, h.k.ne h.a (by decide) (fun k hk => setRow_other _ A k cs' hk), h.i.ne h.a (by decide) (fun k hk => setRow_other _ A k cs' hk)⟩
theorem HlfW.other {b0 : Nat} {W : World} {A C : Nat} {cs cc : Array Value} {kv iv : Value} {ks : List ByteArray} {is : List Int} (h : HlfW b0 W A cs kv iv ks is) (hC : W.heap[C]? = some (.cells cc 32 (0, 0))) (hne : A ≠ C) (cs' : Array Value) : HlfW b0 (W.setRow C cs') A cs kv iv ks is :=
  ⟨(setRow_other _ C A cs' hne).trans h.a, h.lo, h.k.ne hC (by decide) (fun k hk => setRow_other _ C k cs' hk), h.i.ne hC (by decide) (fun k hk => setRow_other _ C k cs' hk)⟩
theorem al_row {P : Program} {w : World} {ρ : Operand → Value} {o : Oper} {ty : TypeId} {z : Array Value} (ho : o.op = .alloc ty) (hz : ∀ w, (zeroValue ty).run P w = .ok (.agg z) w) : (execOp ρ o).run P w = .ok (.value (.pointer (some ⟨w.heap.size, 0, none⟩))) (w.alloc (.cells z ty)) := by
  unfold execOp
  simp [ho, Instr.alloc, newVar, newRow, Value.cells, hz, go_sem]
theorem zero_nd (w : World) : (zeroValue 32).run Try.prog w = .ok (.agg #[.bool false, .slice none 0 0, .slice none 0 0, .slice none 0 0]) w := (zero_of_info (n := 4) (by kernel_rfl)).1 w
theorem ex_build23 {P : Program} {w : World} {ρ : Operand → Value} {o : Oper} {t : TypeId} {x0 x1 : Operand} {v0 v1 v : Value} (ho : o.op = .build t #[(2, x0), (3, x1)]) (h0 : ρ x0 = v0) (h1 : ρ x1 = v1) (hrun : (Instr.build t #[(2, v0), (3, v1)]).run P w = .ok v w) : (execOp ρ o).run P w = .ok (.value v) w := by
  unfold execOp
  simp [ho, h0, h1, hrun]
section
variable {P : Program} {md : Region.Mode} {ops : Array Oper} {Q : Exit → Act → World → Prop} {S : World → Prop} {fuel : Nat} {L : Array Bool} {a : Act} {w : World}
theorem wpAnyH_cor (i j : Nat) (di dj : Option Tmp) (f : FuncId) (args : Array Value) (vj : Value) {w2 : World} {oi oj : Oper} (hi : ops[i]? = some oi) (hj : ops[j]? = some oj) (hr : Region.ready md ops L = [i, j])
    (hwi : Region.wanted oi (yielded ops a.tmps) = true) (hwj : Region.wanted oj (yielded ops a.tmps) = true) (hdi : oi.dst = di) (hdj : oj.dst = dj) (hyi : (execOp a.eval oi).run P w = .ok (.enter f args) w) {R : Ending → World → Prop} (hc : Calls P f args w R)
    (hyj : (execOp a.eval oj).run P w = .ok (.value vj) w2) (hS2 : S w2)
    (h1 : ∀ e w1, R e w1 → ∃ v, e = .returned v ∧ S w1 ∧ wpAnyH P md ops Q S fuel (L.setIfInBounds i true) (a.put di v) w1) (h2 : wpAnyH P md ops Q S fuel (L.setIfInBounds j true) (a.put dj vj) w2) : wpAnyH P md ops Q S (fuel + 1) L a w := by
  subst hdi
  subst hdj
  refine wpAnyH_ready hr (by simp) (AllReadyH.cons hi (fun K hK => ?_) (AllReadyH.cons hj (fun K hK => ?_) AllReadyH.nil))
  · rw [if_pos hwi]
    unfold Oper.wp
    rw [hyi, Oper.upon_enter]
    refine hc.mono fun e w1 hR => ?_
    obtain ⟨v, rfl, hS, h3⟩ := h1 e w1 hR
    exact hK.out _ _ hS (fun _ => h3)
  · rw [if_pos hwj]
    unfold Oper.wp
    rw [hyj]; exact hK.out _ _ hS2 (fun _ => h2)
end
set_option maxHeartbeats 12800000 in
theorem split_in {w : World} {v : Value} {n : Nd} (h : NdAt w.heap.size w v n) (hk : okN n = true) (hl : n.leaf = false) (h4 : 4 ≤ n.is.length) : Calls Try.prog 31 #[v] w (SplRet w (inLo n (n.is.length / 2)) (kAt n.ks (n.is.length / 2 - 1)) (inHi n (n.is.length / 2)) 0) := by
  have hok := okI_true ((okN_inner hl).symm.trans hk)
  obtain ⟨pv, kv, iv, rfl, h1, h2, h3⟩ := h
  obtain ⟨pa, pm, pc, rfl, hpm⟩ := h1.form
  obtain ⟨ka, km, kc, rfl, hkm⟩ := h2.form
  obtain ⟨ia, im, ic, rfl, him⟩ := h3.form
  have F := spl_start (w := w) (lf := n.leaf) (n := n) ⟨_, _, _, rfl, h1, h2, h3⟩
  have FB := Lib.hid (fun (w1 w2 : World) (f : SplW w n.leaf (.slice pa pm pc) (.slice ka km kc) (.slice ia im ic) n w1) (b : Below (w.heap.size + 3) w1 w2) => f.below b ⟨_, _, _, rfl, h1, h2, h3⟩)
  have fc := formed_any F.at_
  rw [hk] at fc
  have bz := build_nd
  obtain ⟨q, hq⟩ : ∃ q, n.is.length / 2 = q := ⟨_, rfl⟩
  have hkim : n.ks.length + 1 = n.is.length := by have := hok.2.2.2.1; omega
  have him255 : im ≤ 255 := by rw [him.out]; exact hok.2.2.1
  have him4 : 4 ≤ im := by rw [him.out]; exact h4
  have hkm1 : km + 1 = im := by rw [hkm.out, him.out]; exact hkim
  have hqim : q = im / 2 := by rw [him.out]; exact hq.symm
  have hkc : km ≤ kc := by
    obtain ⟨_, _, e, hc, _⟩ := h2
    injection e with _ e1 e2
    omega
  have hic : im ≤ ic := by
    obtain ⟨_, _, e, hc, _⟩ := h3
    injection e with _ e1 e2
    omega
  have CKL := Lib.hid (fun (w' : World) (b : Below w.heap.size w w') => cloneS_any ((((h2.below b).more b.size)).take okS (i := q - 1) (by rw [← hkm.out]; omega)))
  have CIL := Lib.hid (fun (w' : World) (b : Below w.heap.size w w') => cloneI_any ((((h3.below b).more b.size)).take okZ (i := q) (by rw [← him.out]; omega)))
  obtain ⟨kb, hrk, hkb⟩ := slS_from ka (n := km) (c := kc) (k := q) (by omega)
  obtain ⟨ib, hri, hib⟩ := slI_from ia (n := im) (c := ic) (k := q) (by omega)
  have HRK := Lib.hid hrk
  have HRI := Lib.hid hri
  have CKH := Lib.hid (fun (w' : World) (b : Below w.heap.size w w') => cloneS_any ((((h2.below b).more b.size)).drop okS (i := q) (bo := kb) (cap' := kc - q) (by rw [← hkm.out]; omega) (fun b off e hlt => hkb b off e (by rw [← hkm.out] at hlt; omega)) (by rw [← hkm.out]; omega)))
  have CIH := Lib.hid (fun (w' : World) (b : Below w.heap.size w w') => cloneI_any ((((h3.below b).more b.size)).drop okZ (i := q) (bo := ib) (cap' := ic - q) (by rw [← him.out]; omega) (fun b off e hlt => hib b off e (by rw [← him.out] at hlt; omega)) (by rw [← him.out]; omega)))
  rw [← hkm.out] at CKH
  rw [← him.out] at CIH
  obtain ⟨kg, ko, kcap, hkv, hB2, hk2⟩ := h2.getS (i := q - 1) (by rw [← hkm.out]; omega)
  rw [hq]
  simp only [hl] at F FB fc
  have yq : Int.tdiv (im : Int) 2 = (q : Int) := by rw [Int.tdiv_eq_ediv_of_nonneg (by omega)]; omega
  have y1 : IntKind.i64.wrap ((q : Int) - 1) = ((q - 1 : Nat) : Int) := by rw [IntKind.wrap_i64]; omega
  have YW : Hid (wrap64 (q : Int) = (q : Int)) := Lib.hid (by unfold wrap64; omega)
  have yk1 : q - 1 ≤ kc := by omega
  have yi1 : q ≤ ic := by omega
  have d4 : ¬ (im : Int) < 4 := by omega
  obtain ⟨q0, q1, q2, q3⟩ := F.cs
  rw [hl]
  have hqk : q - 1 < km := by omega
  have hq2 : 2 ≤ q := by omega
  have KV := Lib.hid hkv
  rw [← hkm.out] at KV
  clear hkv hkm1 hkim hkc hic him4 him255 hrk hri hok
  clear h1 h2 h3 hpm hkm him hk hq hkb hib h4 hqim hl
  go_enter Try.func31, Try.ntmps31
  go_wp2_with fail
  refine fc.mono ?_
  rintro e w4 ⟨rfl, b4⟩
  have F := FB.out _ _ F (b4.mono F.sz)
  obtain ⟨q0, q1, q2, q3⟩ := F.cs
  clear fc b4
  go_upto_region 11 with fail
  rw [YW.out]
  go_cut [10] from 67 to 79 (fun s wx => ∃ A vk vi, s = .pointer (some ⟨A, 0, none⟩) ∧ SlV vk ∧ SlV vi ∧ SplW w false (.slice pa pm pc) (.slice ka km kc) (.slice ia im ic) n wx ∧ HlfW (w.heap.size + 3) wx A #[.bool false, .slice none 0 0, vk, vi] vk vi (n.ks.take (q - 1)) (n.is.take q))
  case first =>
    have hS := FB.out _ _ F ((Below.refl _ _).drew)
    refine wp_region_held_drew (S := fun w' => SplW w false (.slice pa pm pc) (.slice ka km kc) (.slice ia im ic) n w') mixed hS (fun _ => ?_)
    show wpAnyH _ _ _ _ _ 14 (Array.replicate 14 false) _ _
    refine wpAnyH_take_d 0 (some 67) (.pointer (some ⟨w.heap.size, 2, none⟩)) rfl (by kernel_rfl) (by kernel_rfl) (by kernel_rfl) (by kernel_rfl) rfl (fun _ _ _ h => h) (fun _ _ => by kernel_rfl) (by exact hS) ?_
    simp only [Act.put, List.setIfInBounds_toArray, List.set_cons_succ, List.set_cons_zero]
    refine wpAnyH_take_d 1 (some 68) (.slice ka km kc) rfl (by kernel_rfl) (by kernel_rfl) (by kernel_rfl) (by kernel_rfl) rfl (fun _ _ _ h => h) (fun w' h => exec_load_cell rfl rfl h.cs.c2 Try.underlying23 rfl) (by exact hS) ?_
    simp only [Act.put, List.setIfInBounds_toArray, List.set_cons_succ, List.set_cons_zero]
    refine wpAnyH_take_d 2 (some 69) (.int .i64 q) rfl (by kernel_rfl) (by kernel_rfl) (by kernel_rfl) (by kernel_rfl) rfl (fun _ _ _ h => h) (fun _ _ => by kernel_rfl) (by exact hS) ?_
    simp only [Act.put, List.setIfInBounds_toArray, List.set_cons_succ, List.set_cons_zero]
    refine wpAnyH_take_d 3 (some 70) (.int .i64 ((q - 1 : Nat) : Int)) rfl (by kernel_rfl) (by kernel_rfl) (by kernel_rfl) (by kernel_rfl) rfl (fun _ _ _ h => h) (fun _ _ => ex_sub rfl rfl rfl y1) (by exact hS) ?_
    simp only [Act.put, List.setIfInBounds_toArray, List.set_cons_succ, List.set_cons_zero]
    refine wpAnyH_take_d 4 (some 71) (.slice ka (q - 1) kc) rfl (by kernel_rfl) (by kernel_rfl) (by kernel_rfl) (by kernel_rfl) rfl (fun _ _ _ h => h) (fun w' _ => ex_slice rfl rfl rfl rfl (slS_to ka yk1 w')) (by exact hS) ?_
    simp only [Act.put, List.setIfInBounds_toArray, List.set_cons_succ, List.set_cons_zero]
    refine wpAnyH_take_d 6 (some 73) (.pointer (some ⟨w.heap.size, 3, none⟩)) rfl (by kernel_rfl) (by kernel_rfl) (by kernel_rfl) (by kernel_rfl) rfl (fun _ _ _ h => h) (fun _ _ => by kernel_rfl) (by exact hS) ?_
    simp only [Act.put, List.setIfInBounds_toArray, List.set_cons_succ, List.set_cons_zero]
    refine wpAnyH_take_d 7 (some 74) (.slice ia im ic) rfl (by kernel_rfl) (by kernel_rfl) (by kernel_rfl) (by kernel_rfl) rfl (fun _ _ _ h => h) (fun w' h => exec_load_cell rfl rfl h.cs.c3 Try.underlying24 rfl) (by exact hS) ?_
    simp only [Act.put, List.setIfInBounds_toArray, List.set_cons_succ, List.set_cons_zero]
    refine wpAnyH_take_d 8 (some 75) (.int .i64 q) rfl (by kernel_rfl) (by kernel_rfl) (by kernel_rfl) (by kernel_rfl) rfl (fun _ _ _ h => h) (fun _ _ => by kernel_rfl) (by exact hS) ?_
    simp only [Act.put, List.setIfInBounds_toArray, List.set_cons_succ, List.set_cons_zero]
    refine wpAnyH_take_d 9 (some 76) (.slice ia q ic) rfl (by kernel_rfl) (by kernel_rfl) (by kernel_rfl) (by kernel_rfl) rfl (fun _ _ _ h => h) (fun w' _ => ex_slice rfl rfl rfl rfl (slI_to ia yi1 w')) (by exact hS) ?_
    simp only [Act.put, List.setIfInBounds_toArray, List.set_cons_succ, List.set_cons_zero]
    -- left: [(5, ('72', 'Op.call { value (Operand.func 51), args := #[t71], argTypes := #[23] }', None)), (10, ('77', 'Op.call { value (Operand.func 52), args := #[t76], argTypes := #[24] }', None)), (11, ('78', 'Op.build 32 #[(2, t72), (3, t77)]', None)), (12, ('10', 'Op.alloc 32', None)), (13, ('none', 'Op.store 32 t10 t78', None))]
    obtain ⟨V0, hV0⟩ : ∃ V0, w4.drew = V0 := ⟨_, rfl⟩
    rw [hV0] at hS ⊢
    clear hV0 F q0 q1 q2 q3
    refine wpAnyH_cor 5 12 (some 72) (some 10) 51 #[.slice ka (q - 1) kc] (.pointer (some ⟨V0.heap.size, 0, none⟩)) rfl rfl (by kernel_rfl) (by kernel_rfl) (by kernel_rfl) rfl rfl (by kernel_rfl) (CKL.out _ hS.fr) (al_row rfl zero_nd) (FB.out _ _ hS ((below_new V0 zNdO).mono hS.sz)) ?_ ?_
    · skip
      rintro e w6 ⟨vk, rfl, ok, b6⟩
      have ok := ok.base hS.sz
      have hS := FB.out _ _ hS (b6.mono hS.sz)
      obtain ⟨xka, xkm, xkc, rfl, -⟩ := ok.form'
      refine ⟨_, rfl, hS, ?_⟩
      simp only [Act.put, List.setIfInBounds_toArray, List.set_cons_succ, List.set_cons_zero]
      refine wpAnyH_cor 10 12 (some 77) (some 10) 52 #[.slice ia q ic] (.pointer (some ⟨w6.heap.size, 0, none⟩)) rfl rfl (by kernel_rfl) (by kernel_rfl) (by kernel_rfl) rfl rfl (by kernel_rfl) (CIL.out _ hS.fr) (al_row rfl zero_nd) (FB.out _ _ hS ((below_new w6 zNdO).mono hS.sz)) ?_ ?_
      · skip
        rintro e w7 ⟨vi, rfl, oi, b7⟩
        have oi := oi.base hS.sz
        have ok := ok.below b7
        have hS := FB.out _ _ hS (b7.mono hS.sz)
        obtain ⟨xia, xim, xic, rfl, -⟩ := oi.form'
        refine ⟨_, rfl, hS, ?_⟩
        simp only [Act.put, List.setIfInBounds_toArray, List.set_cons_succ, List.set_cons_zero]
        refine wpAnyH_take_d 11 (some 78) (.agg #[.bool false, .slice none 0 0, .slice xka xkm xkc, .slice xia xim xic]) rfl (by kernel_rfl) (by kernel_rfl) (by kernel_rfl) (by kernel_rfl) rfl (fun _ _ _ h => h) (fun w' _ => ex_build23 rfl rfl rfl (run_build w' 32 _ _ (by kernel_rfl))) (by exact hS) ?_
        simp only [Act.put, List.setIfInBounds_toArray, List.set_cons_succ, List.set_cons_zero]
        have hb := below_new w7 zNdO
        have H : HlfW (w.heap.size + 3) (w7.alloc zNdO) w7.heap.size #[.bool false, .slice none 0 0, .slice none 0 0, .slice none 0 0] (.slice xka xkm xkc) (.slice xia xim xic) (n.ks.take (q - 1)) (n.is.take q) := ⟨heap_alloc_new w7 zNdO, hS.sz, ok.below hb, oi.below hb⟩
        have hS := FB.out _ _ hS (hb.mono hS.sz)
        refine wpAnyH_one (w1 := w7.alloc zNdO) 12 (some 10) (.pointer (some ⟨w7.heap.size, 0, none⟩)) rfl (by kernel_rfl) (by kernel_rfl) rfl (al_row rfl zero_nd) hS ?_
        simp only [Act.put, List.setIfInBounds_toArray, List.set_cons_succ, List.set_cons_zero]
        have hS2 := FB.out _ _ hS (below_setRow' (Below.refl _ _) H.lo #[.bool false, .slice none 0 0, .slice xka xkm xkc, .slice xia xim xic])
        have H2 := H.put #[.bool false, .slice none 0 0, .slice xka xkm xkc, .slice xia xim xic]
        refine wpAnyH_one_skip 13 rfl (by kernel_rfl) (by kernel_rfl) (ex_store_row rfl rfl rfl H.a (by kernel_rfl) rfl (by simp [Value.oneCell'])) hS2 ?_
        simp only [Act.put, List.setIfInBounds_toArray]
        refine wpAnyH_done (by kernel_rfl) ?_ _
        go_wp2
        go_meet
        exact ⟨_, _, _, rfl, .mk _ _ _, .mk _ _ _, hS2, H2⟩
      · skip
        have hb := below_new w6 zNdO
        have ok := ok.below hb
        have hA := heap_alloc_new w6 zNdO
        have hAlt : w6.heap.size < (w6.alloc zNdO).heap.size := by simp
        have hAlo := hS.sz
        have hS := FB.out _ _ hS (hb.mono hS.sz)
        simp only [Act.put, List.setIfInBounds_toArray, List.set_cons_succ, List.set_cons_zero]
        refine wpAnyH_call 10 (some 77) 52 #[.slice ia q ic] rfl (by kernel_rfl) (by kernel_rfl) rfl (by kernel_rfl) (CIL.out _ hS.fr) ?_
        rintro e w7 ⟨vi, rfl, oi, b7⟩
        have oi := oi.base hS.sz
        have ok := ok.below b7
        have hA := (b7.block _ hAlt).trans hA
        have hS := FB.out _ _ hS (b7.mono hS.sz)
        obtain ⟨xia, xim, xic, rfl, -⟩ := oi.form'
        refine ⟨_, rfl, hS, ?_⟩
        simp only [Act.put, List.setIfInBounds_toArray, List.set_cons_succ, List.set_cons_zero]
        have H : HlfW (w.heap.size + 3) w7 w6.heap.size #[.bool false, .slice none 0 0, .slice none 0 0, .slice none 0 0] (.slice xka xkm xkc) (.slice xia xim xic) (n.ks.take (q - 1)) (n.is.take q) := ⟨hA, hAlo, ok, oi⟩
        refine wpAnyH_take_d 11 (some 78) (.agg #[.bool false, .slice none 0 0, .slice xka xkm xkc, .slice xia xim xic]) rfl (by kernel_rfl) (by kernel_rfl) (by kernel_rfl) (by kernel_rfl) rfl (fun _ _ _ h => h) (fun w' _ => ex_build23 rfl rfl rfl (run_build w' 32 _ _ (by kernel_rfl))) (by exact hS) ?_
        simp only [Act.put, List.setIfInBounds_toArray, List.set_cons_succ, List.set_cons_zero]
        have hS2 := FB.out _ _ hS (below_setRow' (Below.refl _ _) H.lo #[.bool false, .slice none 0 0, .slice xka xkm xkc, .slice xia xim xic])
        have H2 := H.put #[.bool false, .slice none 0 0, .slice xka xkm xkc, .slice xia xim xic]
        refine wpAnyH_one_skip 13 rfl (by kernel_rfl) (by kernel_rfl) (ex_store_row rfl rfl rfl H.a (by kernel_rfl) rfl (by simp [Value.oneCell'])) hS2 ?_
        simp only [Act.put, List.setIfInBounds_toArray]
        refine wpAnyH_done (by kernel_rfl) ?_ _
        go_wp2
        go_meet
        exact ⟨_, _, _, rfl, .mk _ _ _, .mk _ _ _, hS2, H2⟩
    · skip
      obtain ⟨w5, hw5⟩ : ∃ w5, V0.alloc zNdO = w5 := ⟨_, rfl⟩
      have hb : Below V0.heap.size V0 w5 := by rw [← hw5]; exact below_new V0 zNdO
      have hA : w5.heap[V0.heap.size]? = some zNdO := by rw [← hw5]; exact heap_alloc_new V0 zNdO
      have hAlt : V0.heap.size < w5.heap.size := by rw [← hw5]; simp
      have hAlo := hS.sz
      have hS := FB.out _ _ hS (hb.mono hS.sz)
      rw [hw5]
      simp only [Act.put, List.setIfInBounds_toArray, List.set_cons_succ, List.set_cons_zero]
      refine wpAnyH_call 5 (some 72) 51 #[.slice ka (q - 1) kc] rfl (by kernel_rfl) (by kernel_rfl) rfl (by kernel_rfl) (CKL.out _ hS.fr) ?_
      rintro e w6 ⟨vk, rfl, ok, b6⟩
      have ok := ok.base hS.sz
      have hA := (b6.block _ hAlt).trans hA
      have hAlt := Nat.lt_of_lt_of_le hAlt b6.size
      have hS := FB.out _ _ hS (b6.mono hS.sz)
      obtain ⟨xka, xkm, xkc, rfl, -⟩ := ok.form'
      refine ⟨_, rfl, hS, ?_⟩
      simp only [Act.put, List.setIfInBounds_toArray, List.set_cons_succ, List.set_cons_zero]
      refine wpAnyH_call 10 (some 77) 52 #[.slice ia q ic] rfl (by kernel_rfl) (by kernel_rfl) rfl (by kernel_rfl) (CIL.out _ hS.fr) ?_
      rintro e w7 ⟨vi, rfl, oi, b7⟩
      have oi := oi.base hS.sz
      have ok := ok.below b7
      have hA := (b7.block _ hAlt).trans hA
      have hS := FB.out _ _ hS (b7.mono hS.sz)
      obtain ⟨xia, xim, xic, rfl, -⟩ := oi.form'
      refine ⟨_, rfl, hS, ?_⟩
      simp only [Act.put, List.setIfInBounds_toArray, List.set_cons_succ, List.set_cons_zero]
      have H : HlfW (w.heap.size + 3) w7 V0.heap.size #[.bool false, .slice none 0 0, .slice none 0 0, .slice none 0 0] (.slice xka xkm xkc) (.slice xia xim xic) (n.ks.take (q - 1)) (n.is.take q) := ⟨hA, hAlo, ok, oi⟩
      refine wpAnyH_take_d 11 (some 78) (.agg #[.bool false, .slice none 0 0, .slice xka xkm xkc, .slice xia xim xic]) rfl (by kernel_rfl) (by kernel_rfl) (by kernel_rfl) (by kernel_rfl) rfl (fun _ _ _ h => h) (fun w' _ => ex_build23 rfl rfl rfl (run_build w' 32 _ _ (by kernel_rfl))) (by exact hS) ?_
      simp only [Act.put, List.setIfInBounds_toArray, List.set_cons_succ, List.set_cons_zero]
      have hS2 := FB.out _ _ hS (below_setRow' (Below.refl _ _) H.lo #[.bool false, .slice none 0 0, .slice xka xkm xkc, .slice xia xim xic])
      have H2 := H.put #[.bool false, .slice none 0 0, .slice xka xkm xkc, .slice xia xim xic]
      refine wpAnyH_one_skip 13 rfl (by kernel_rfl) (by kernel_rfl) (ex_store_row rfl rfl rfl H.a (by kernel_rfl) rfl (by simp [Value.oneCell'])) hS2 ?_
      simp only [Act.put, List.setIfInBounds_toArray]
      refine wpAnyH_done (by kernel_rfl) ?_ _
      go_wp2
      go_meet
      exact ⟨_, _, _, rfl, .mk _ _ _, .mk _ _ _, hS2, H2⟩
  case rest =>
    obtain ⟨A, vkA, viA, rfl, ⟨ka1, km1, kc1, rfl⟩, ⟨ia1, im1, ic1, rfl⟩, F, G⟩ := hcut
    clear q0 q1 q2 q3
    go_upto_region 12 with fail
    go_cut [11] from 79 to 90 (fun s wx => ∃ C vk vi, s = .pointer (some ⟨C, 0, none⟩) ∧ SlV vk ∧ SlV vi ∧ SplW w false (.slice pa pm pc) (.slice ka km kc) (.slice ia im ic) n wx ∧ HlfW (w.heap.size + 3) wx C #[.bool false, .slice none 0 0, vk, vi] vk vi (n.ks.drop q) (n.is.drop q) ∧ HlfW (w.heap.size + 3) wx A #[.bool false, .slice none 0 0, .slice ka1 km1 kc1, .slice ia1 im1 ic1] (.slice ka1 km1 kc1) (.slice ia1 im1 ic1) (n.ks.take (q - 1)) (n.is.take q))
    case first =>
      have hS := FB.out _ _ F ((Below.refl _ _).drew)
      have G := G.below ((Below.refl _ _).drew)
      refine wp_region_held_drew (S := fun w' => SplW w false (.slice pa pm pc) (.slice ka km kc) (.slice ia im ic) n w') mixed hS (fun _ => ?_)
      show wpAnyH _ _ _ _ _ 13 (Array.replicate 13 false) _ _
      refine wpAnyH_take_d 0 (some 79) (.pointer (some ⟨w.heap.size, 2, none⟩)) rfl (by kernel_rfl) (by kernel_rfl) (by kernel_rfl) (by kernel_rfl) rfl (fun _ _ _ h => h) (fun _ _ => by kernel_rfl) (by exact hS) ?_
      simp only [Act.put, List.setIfInBounds_toArray, List.set_cons_succ, List.set_cons_zero]
      refine wpAnyH_take_d 1 (some 80) (.slice ka km kc) rfl (by kernel_rfl) (by kernel_rfl) (by kernel_rfl) (by kernel_rfl) rfl (fun _ _ _ h => h) (fun w' h => exec_load_cell rfl rfl h.cs.c2 Try.underlying23 rfl) (by exact hS) ?_
      simp only [Act.put, List.setIfInBounds_toArray, List.set_cons_succ, List.set_cons_zero]
      refine wpAnyH_take_d 2 (some 81) (.int .i64 q) rfl (by kernel_rfl) (by kernel_rfl) (by kernel_rfl) (by kernel_rfl) rfl (fun _ _ _ h => h) (fun _ _ => by kernel_rfl) (by exact hS) ?_
      simp only [Act.put, List.setIfInBounds_toArray, List.set_cons_succ, List.set_cons_zero]
      refine wpAnyH_take_d 3 (some 82) (.slice kb (km - q) (kc - q)) rfl (by kernel_rfl) (by kernel_rfl) (by kernel_rfl) (by kernel_rfl) rfl (fun _ _ _ h => h) (fun w' _ => ex_slice rfl rfl rfl rfl (HRK.out w')) (by exact hS) ?_
      simp only [Act.put, List.setIfInBounds_toArray, List.set_cons_succ, List.set_cons_zero]
      refine wpAnyH_take_d 5 (some 84) (.pointer (some ⟨w.heap.size, 3, none⟩)) rfl (by kernel_rfl) (by kernel_rfl) (by kernel_rfl) (by kernel_rfl) rfl (fun _ _ _ h => h) (fun _ _ => by kernel_rfl) (by exact hS) ?_
      simp only [Act.put, List.setIfInBounds_toArray, List.set_cons_succ, List.set_cons_zero]
      refine wpAnyH_take_d 6 (some 85) (.slice ia im ic) rfl (by kernel_rfl) (by kernel_rfl) (by kernel_rfl) (by kernel_rfl) rfl (fun _ _ _ h => h) (fun w' h => exec_load_cell rfl rfl h.cs.c3 Try.underlying24 rfl) (by exact hS) ?_
      simp only [Act.put, List.setIfInBounds_toArray, List.set_cons_succ, List.set_cons_zero]
      refine wpAnyH_take_d 7 (some 86) (.int .i64 q) rfl (by kernel_rfl) (by kernel_rfl) (by kernel_rfl) (by kernel_rfl) rfl (fun _ _ _ h => h) (fun _ _ => by kernel_rfl) (by exact hS) ?_
      simp only [Act.put, List.setIfInBounds_toArray, List.set_cons_succ, List.set_cons_zero]
      refine wpAnyH_take_d 8 (some 87) (.slice ib (im - q) (ic - q)) rfl (by kernel_rfl) (by kernel_rfl) (by kernel_rfl) (by kernel_rfl) rfl (fun _ _ _ h => h) (fun w' _ => ex_slice rfl rfl rfl rfl (HRI.out w')) (by exact hS) ?_
      simp only [Act.put, List.setIfInBounds_toArray, List.set_cons_succ, List.set_cons_zero]
      -- left: [(4, ('83', 'Op.call { value (Operand.func 51), args := #[t82], argTypes := #[23] }', None)), (9, ('88', 'Op.call { value (Operand.func 52), args := #[t87], argTypes := #[24] }', None)), (10, ('89', 'Op.build 32 #[(2, t83), (3, t88)]', None)), (11, ('11', 'Op.alloc 32', None)), (12, ('none', 'Op.store 32 t11 t89', None))]
      obtain ⟨V0, hV0⟩ : ∃ V0, wc.drew = V0 := ⟨_, rfl⟩
      rw [hV0] at hS G ⊢
      clear hV0 F
      refine wpAnyH_cor 4 11 (some 83) (some 11) 51 #[.slice kb (km - q) (kc - q)] (.pointer (some ⟨V0.heap.size, 0, none⟩)) rfl rfl (by kernel_rfl) (by kernel_rfl) (by kernel_rfl) rfl rfl (by kernel_rfl) (CKH.out _ hS.fr) (al_row rfl zero_nd) (FB.out _ _ hS ((below_new V0 zNdO).mono hS.sz)) ?_ ?_
      · skip
        rintro e w6 ⟨vk, rfl, ok, b6⟩
        have ok := ok.base hS.sz
        have G := G.below b6
        have hS := FB.out _ _ hS (b6.mono hS.sz)
        obtain ⟨xka, xkm, xkc, rfl, -⟩ := ok.form'
        refine ⟨_, rfl, hS, ?_⟩
        simp only [Act.put, List.setIfInBounds_toArray, List.set_cons_succ, List.set_cons_zero]
        refine wpAnyH_cor 9 11 (some 88) (some 11) 52 #[.slice ib (im - q) (ic - q)] (.pointer (some ⟨w6.heap.size, 0, none⟩)) rfl rfl (by kernel_rfl) (by kernel_rfl) (by kernel_rfl) rfl rfl (by kernel_rfl) (CIH.out _ hS.fr) (al_row rfl zero_nd) (FB.out _ _ hS ((below_new w6 zNdO).mono hS.sz)) ?_ ?_
        · skip
          rintro e w7 ⟨vi, rfl, oi, b7⟩
          have oi := oi.base hS.sz
          have ok := ok.below b7
          have G := G.below b7
          have hS := FB.out _ _ hS (b7.mono hS.sz)
          obtain ⟨xia, xim, xic, rfl, -⟩ := oi.form'
          refine ⟨_, rfl, hS, ?_⟩
          simp only [Act.put, List.setIfInBounds_toArray, List.set_cons_succ, List.set_cons_zero]
          refine wpAnyH_take_d 10 (some 89) (.agg #[.bool false, .slice none 0 0, .slice xka xkm xkc, .slice xia xim xic]) rfl (by kernel_rfl) (by kernel_rfl) (by kernel_rfl) (by kernel_rfl) rfl (fun _ _ _ h => h) (fun w' _ => ex_build23 rfl rfl rfl (run_build w' 32 _ _ (by kernel_rfl))) (by exact hS) ?_
          simp only [Act.put, List.setIfInBounds_toArray, List.set_cons_succ, List.set_cons_zero]
          have hb := below_new w7 zNdO
          have hlt_G := G.lt
          have G := G.below hb
          have H : HlfW (w.heap.size + 3) (w7.alloc zNdO) w7.heap.size #[.bool false, .slice none 0 0, .slice none 0 0, .slice none 0 0] (.slice xka xkm xkc) (.slice xia xim xic) (n.ks.drop q) (n.is.drop q) := ⟨heap_alloc_new w7 zNdO, hS.sz, ok.below hb, oi.below hb⟩
          have hS := FB.out _ _ hS (hb.mono hS.sz)
          refine wpAnyH_one (w1 := w7.alloc zNdO) 11 (some 11) (.pointer (some ⟨w7.heap.size, 0, none⟩)) rfl (by kernel_rfl) (by kernel_rfl) rfl (al_row rfl zero_nd) hS ?_
          simp only [Act.put, List.setIfInBounds_toArray, List.set_cons_succ, List.set_cons_zero]
          have hS2 := FB.out _ _ hS (below_setRow' (Below.refl _ _) H.lo #[.bool false, .slice none 0 0, .slice xka xkm xkc, .slice xia xim xic])
          have H2 := H.put #[.bool false, .slice none 0 0, .slice xka xkm xkc, .slice xia xim xic]
          have G := G.other H.a (Nat.ne_of_lt (hlt_G)) #[.bool false, .slice none 0 0, .slice xka xkm xkc, .slice xia xim xic]
          refine wpAnyH_one_skip 12 rfl (by kernel_rfl) (by kernel_rfl) (ex_store_row rfl rfl rfl H.a (by kernel_rfl) rfl (by simp [Value.oneCell'])) hS2 ?_
          simp only [Act.put, List.setIfInBounds_toArray]
          refine wpAnyH_done (by kernel_rfl) ?_ _
          go_wp2
          go_meet
          exact ⟨_, _, _, rfl, .mk _ _ _, .mk _ _ _, hS2, H2, G⟩
        · skip
          have hlt_G := G.lt
          have hb := below_new w6 zNdO
          have ok := ok.below hb
          have G := G.below hb
          have hA := heap_alloc_new w6 zNdO
          have hAlt : w6.heap.size < (w6.alloc zNdO).heap.size := by simp
          have hAlo := hS.sz
          have hS := FB.out _ _ hS (hb.mono hS.sz)
          simp only [Act.put, List.setIfInBounds_toArray, List.set_cons_succ, List.set_cons_zero]
          refine wpAnyH_call 9 (some 88) 52 #[.slice ib (im - q) (ic - q)] rfl (by kernel_rfl) (by kernel_rfl) rfl (by kernel_rfl) (CIH.out _ hS.fr) ?_
          rintro e w7 ⟨vi, rfl, oi, b7⟩
          have oi := oi.base hS.sz
          have ok := ok.below b7
          have G := G.below b7
          have hA := (b7.block _ hAlt).trans hA
          have hS := FB.out _ _ hS (b7.mono hS.sz)
          obtain ⟨xia, xim, xic, rfl, -⟩ := oi.form'
          refine ⟨_, rfl, hS, ?_⟩
          simp only [Act.put, List.setIfInBounds_toArray, List.set_cons_succ, List.set_cons_zero]
          have H : HlfW (w.heap.size + 3) w7 w6.heap.size #[.bool false, .slice none 0 0, .slice none 0 0, .slice none 0 0] (.slice xka xkm xkc) (.slice xia xim xic) (n.ks.drop q) (n.is.drop q) := ⟨hA, hAlo, ok, oi⟩
          refine wpAnyH_take_d 10 (some 89) (.agg #[.bool false, .slice none 0 0, .slice xka xkm xkc, .slice xia xim xic]) rfl (by kernel_rfl) (by kernel_rfl) (by kernel_rfl) (by kernel_rfl) rfl (fun _ _ _ h => h) (fun w' _ => ex_build23 rfl rfl rfl (run_build w' 32 _ _ (by kernel_rfl))) (by exact hS) ?_
          simp only [Act.put, List.setIfInBounds_toArray, List.set_cons_succ, List.set_cons_zero]
          have hS2 := FB.out _ _ hS (below_setRow' (Below.refl _ _) H.lo #[.bool false, .slice none 0 0, .slice xka xkm xkc, .slice xia xim xic])
          have H2 := H.put #[.bool false, .slice none 0 0, .slice xka xkm xkc, .slice xia xim xic]
          have G := G.other H.a (Nat.ne_of_lt (hlt_G)) #[.bool false, .slice none 0 0, .slice xka xkm xkc, .slice xia xim xic]
          refine wpAnyH_one_skip 12 rfl (by kernel_rfl) (by kernel_rfl) (ex_store_row rfl rfl rfl H.a (by kernel_rfl) rfl (by simp [Value.oneCell'])) hS2 ?_
          simp only [Act.put, List.setIfInBounds_toArray]
          refine wpAnyH_done (by kernel_rfl) ?_ _
          go_wp2
          go_meet
          exact ⟨_, _, _, rfl, .mk _ _ _, .mk _ _ _, hS2, H2, G⟩
      · skip
        have hlt_G := G.lt
        obtain ⟨w5, hw5⟩ : ∃ w5, V0.alloc zNdO = w5 := ⟨_, rfl⟩
        have hb : Below V0.heap.size V0 w5 := by rw [← hw5]; exact below_new V0 zNdO
        have G := G.below hb
        have hA : w5.heap[V0.heap.size]? = some zNdO := by rw [← hw5]; exact heap_alloc_new V0 zNdO
        have hAlt : V0.heap.size < w5.heap.size := by rw [← hw5]; simp
        have hAlo := hS.sz
        have hS := FB.out _ _ hS (hb.mono hS.sz)
        rw [hw5]
        simp only [Act.put, List.setIfInBounds_toArray, List.set_cons_succ, List.set_cons_zero]
        refine wpAnyH_call 4 (some 83) 51 #[.slice kb (km - q) (kc - q)] rfl (by kernel_rfl) (by kernel_rfl) rfl (by kernel_rfl) (CKH.out _ hS.fr) ?_
        rintro e w6 ⟨vk, rfl, ok, b6⟩
        have ok := ok.base hS.sz
        have G := G.below b6
        have hA := (b6.block _ hAlt).trans hA
        have hAlt := Nat.lt_of_lt_of_le hAlt b6.size
        have hS := FB.out _ _ hS (b6.mono hS.sz)
        obtain ⟨xka, xkm, xkc, rfl, -⟩ := ok.form'
        refine ⟨_, rfl, hS, ?_⟩
        simp only [Act.put, List.setIfInBounds_toArray, List.set_cons_succ, List.set_cons_zero]
        refine wpAnyH_call 9 (some 88) 52 #[.slice ib (im - q) (ic - q)] rfl (by kernel_rfl) (by kernel_rfl) rfl (by kernel_rfl) (CIH.out _ hS.fr) ?_
        rintro e w7 ⟨vi, rfl, oi, b7⟩
        have oi := oi.base hS.sz
        have ok := ok.below b7
        have G := G.below b7
        have hA := (b7.block _ hAlt).trans hA
        have hS := FB.out _ _ hS (b7.mono hS.sz)
        obtain ⟨xia, xim, xic, rfl, -⟩ := oi.form'
        refine ⟨_, rfl, hS, ?_⟩
        simp only [Act.put, List.setIfInBounds_toArray, List.set_cons_succ, List.set_cons_zero]
        have H : HlfW (w.heap.size + 3) w7 V0.heap.size #[.bool false, .slice none 0 0, .slice none 0 0, .slice none 0 0] (.slice xka xkm xkc) (.slice xia xim xic) (n.ks.drop q) (n.is.drop q) := ⟨hA, hAlo, ok, oi⟩
        refine wpAnyH_take_d 10 (some 89) (.agg #[.bool false, .slice none 0 0, .slice xka xkm xkc, .slice xia xim xic]) rfl (by kernel_rfl) (by kernel_rfl) (by kernel_rfl) (by kernel_rfl) rfl (fun _ _ _ h => h) (fun w' _ => ex_build23 rfl rfl rfl (run_build w' 32 _ _ (by kernel_rfl))) (by exact hS) ?_
        simp only [Act.put, List.setIfInBounds_toArray, List.set_cons_succ, List.set_cons_zero]
        have hS2 := FB.out _ _ hS (below_setRow' (Below.refl _ _) H.lo #[.bool false, .slice none 0 0, .slice xka xkm xkc, .slice xia xim xic])
        have H2 := H.put #[.bool false, .slice none 0 0, .slice xka xkm xkc, .slice xia xim xic]
        have G := G.other H.a (Nat.ne_of_lt (hlt_G)) #[.bool false, .slice none 0 0, .slice xka xkm xkc, .slice xia xim xic]
        refine wpAnyH_one_skip 12 rfl (by kernel_rfl) (by kernel_rfl) (ex_store_row rfl rfl rfl H.a (by kernel_rfl) rfl (by simp [Value.oneCell'])) hS2 ?_
        simp only [Act.put, List.setIfInBounds_toArray]
        refine wpAnyH_done (by kernel_rfl) ?_ _
        go_wp2
        go_meet
        exact ⟨_, _, _, rfl, .mk _ _ _, .mk _ _ _, hS2, H2, G⟩
    case rest =>
      obtain ⟨C, vkC, viC, rfl, ⟨ka2, km2, kc2, rfl⟩, ⟨ia2, im2, ic2, rfl⟩, F2, H, G2⟩ := hcut
      have kv := KV.out
      obtain ⟨rfl, rfl⟩ : ka = some ⟨kg, ko, none⟩ ∧ kc = kcap := by
        injection kv with e1 e2 e3
        exact ⟨e1, e3⟩
      have key2 := (F2.fr.cell (p := ⟨kg, ko + (q - 1), none⟩) hB2).trans hk2
      generalize hkk : kAt n.ks (q - 1) = key at *
      have fr := F2.fr
      have z1 := F2.z1
      have z2 := F2.z2
      have hAl := G2.lo
      have hCl := H.lo
      have RGA := Lib.hid (fun (w' : World) (h : ∀ k, k ≠ w.heap.size + 1 → k ≠ w.heap.size + 2 → w'.heap[k]? = wc.heap[k]?) => range4s (NdCells.of ((h A (by omega) (by omega)).trans G2.a)))
      have RGC := Lib.hid (fun (w' : World) (h : ∀ k, k ≠ w.heap.size + 1 → k ≠ w.heap.size + 2 → w'.heap[k]? = wc.heap[k]?) => range4s (NdCells.of ((h C (by omega) (by omega)).trans H.a)))
      have CX := Lib.hid (fun (w' : World) (h : ∀ k, k ≠ w.heap.size + 1 → k ≠ w.heap.size + 2 → w'.heap[k]? = wc.heap[k]?) => (World.cell?_of_block (w := wc) (w' := w') (a := ⟨w.heap.size, 2, none⟩) (h w.heap.size (by omega) (by omega))).trans F2.cs.c2)
      have DK := Lib.hid (fun (w' : World) (h : ∀ k, k ≠ w.heap.size + 1 → k ≠ w.heap.size + 2 → w'.heap[k]? = wc.heap[k]?) => (World.cell?_of_block (w := wc) (w' := w') (a := ⟨kg, ko + (q - 1), none⟩) (h _ (Nat.ne_of_lt (Nat.lt_of_lt_of_le hB2 (Nat.le_add_right _ _))) (Nat.ne_of_lt (Nat.lt_of_lt_of_le hB2 (Nat.le_add_right _ _))))).trans key2)
      have HO6 := Lib.hid (And.intro G2.k G2.i)
      have HO8 := Lib.hid (And.intro H.k H.i)
      clear F2 G2 H F G key2 hk2 KV kv CKL CIL CKH CIH HRK HRI FB bz
      go_upto_region 13 with fail
      have hS : ∀ k, k ≠ w.heap.size + 1 → k ≠ w.heap.size + 2 → wc.drew.heap[k]? = wc.heap[k]? := fun _ _ _ => rfl
      refine wp_region_held_drew (S := fun w' => ∀ k, k ≠ w.heap.size + 1 → k ≠ w.heap.size + 2 → w'.heap[k]? = wc.heap[k]?) mixed hS (fun _ => ?_)
      show wpAnyH _ _ _ _ _ 12 (Array.replicate 12 false) _ _
      refine wpAnyH_take_d 0 (some 90) (.agg #[.bool false, .slice none 0 0, .slice ka1 km1 kc1, .slice ia1 im1 ic1]) rfl (by kernel_rfl) (by kernel_rfl) (by kernel_rfl) (by kernel_rfl) rfl (fun _ _ _ h => h) (fun w' h => ex_row rfl rfl (RGA.out _ h) Try.underlying32 rfl (by kernel_rfl)) (by exact hS) ?_
      simp only [Act.put, List.setIfInBounds_toArray, List.set_cons_succ, List.set_cons_zero]
      refine wpAnyH_take_d 1 (some 91) (.pointer (some ⟨w.heap.size, 2, none⟩)) rfl (by kernel_rfl) (by kernel_rfl) (by kernel_rfl) (by kernel_rfl) rfl (fun _ _ _ h => h) (fun _ _ => by kernel_rfl) (by exact hS) ?_
      simp only [Act.put, List.setIfInBounds_toArray, List.set_cons_succ, List.set_cons_zero]
      refine wpAnyH_take_d 2 (some 92) (.slice (some ⟨kg, ko, none⟩) km kc) rfl (by kernel_rfl) (by kernel_rfl) (by kernel_rfl) (by kernel_rfl) rfl (fun _ _ _ h => h) (fun w' h => exec_load_cell rfl rfl (CX.out _ h) Try.underlying23 rfl) (by exact hS) ?_
      simp only [Act.put, List.setIfInBounds_toArray, List.set_cons_succ, List.set_cons_zero]
      refine wpAnyH_take_d 3 (some 93) (.int .i64 q) rfl (by kernel_rfl) (by kernel_rfl) (by kernel_rfl) (by kernel_rfl) rfl (fun _ _ _ h => h) (fun _ _ => by kernel_rfl) (by exact hS) ?_
      simp only [Act.put, List.setIfInBounds_toArray, List.set_cons_succ, List.set_cons_zero]
      refine wpAnyH_take_d 4 (some 94) (.int .i64 ((q - 1 : Nat) : Int)) rfl (by kernel_rfl) (by kernel_rfl) (by kernel_rfl) (by kernel_rfl) rfl (fun _ _ _ h => h) (fun _ _ => ex_sub rfl rfl rfl y1) (by exact hS) ?_
      simp only [Act.put, List.setIfInBounds_toArray, List.set_cons_succ, List.set_cons_zero]
      refine wpAnyH_take_d 5 (some 95) (.pointer (some ⟨kg, ko + (q - 1), none⟩)) rfl (by kernel_rfl) (by kernel_rfl) (by kernel_rfl) (by kernel_rfl) rfl (fun _ _ _ h => h) (fun _ _ => ex_index1 rfl rfl rfl hqk Try.underlying23 (by kernel_rfl)) (by exact hS) ?_
      simp only [Act.put, List.setIfInBounds_toArray, List.set_cons_succ, List.set_cons_zero]
      refine wpAnyH_take_d 6 (some 96) (.string key) rfl (by kernel_rfl) (by kernel_rfl) (by kernel_rfl) (by kernel_rfl) rfl (fun _ _ _ h => h) (fun w' h => exec_load_cell rfl rfl (DK.out _ h) Try.underlying9 rfl) (by exact hS) ?_
      simp only [Act.put, List.setIfInBounds_toArray, List.set_cons_succ, List.set_cons_zero]
      refine wpAnyH_take_d 7 (some 97) (.agg #[.bool false, .slice none 0 0, .slice ka2 km2 kc2, .slice ia2 im2 ic2]) rfl (by kernel_rfl) (by kernel_rfl) (by kernel_rfl) (by kernel_rfl) rfl (fun _ _ _ h => h) (fun w' h => ex_row rfl rfl (RGC.out _ h) Try.underlying32 rfl (by kernel_rfl)) (by exact hS) ?_
      simp only [Act.put, List.setIfInBounds_toArray, List.set_cons_succ, List.set_cons_zero]
      -- left: [(8, ('none', 'Op.store 32 t2 t90', None)), (9, ('3', 'Op.assign t96', None)), (10, ('none', 'Op.store 32 t4 t97', None)), (11, ('5', 'Op.assign (const (0:i64))', None))]
      have z1 : wc.drew.heap[w.heap.size + 1]? = some zNdO := z1
      have z2 : wc.drew.heap[w.heap.size + 2]? = some zNdO := z2
      have o6 : OwnR elS (w.heap.size + 3) wc.drew (.slice ka1 km1 kc1) (n.ks.take (q - 1)) ∧ OwnR elI (w.heap.size + 3) wc.drew (.slice ia1 im1 ic1) (n.is.take q) := HO6.out
      have o8 : OwnR elS (w.heap.size + 3) wc.drew (.slice ka2 km2 kc2) (n.ks.drop q) ∧ OwnR elI (w.heap.size + 3) wc.drew (.slice ia2 im2 ic2) (n.is.drop q) := HO8.out
      have fr := fr.drew
      clear RGA RGC CX DK
      generalize wc.drew = V at *
      have y1 : ∀ k, k ≠ w.heap.size + 1 → (V.setRow (w.heap.size + 1) #[.bool false, .slice none 0 0, .slice ka1 km1 kc1, .slice ia1 im1 ic1]).heap[k]? = V.heap[k]? := fun k h => setRow_other V (w.heap.size + 1) k _ h
      have n1 := setRow_heap V (w.heap.size + 1) _ #[.bool false, .slice none 0 0, .slice ka1 km1 kc1, .slice ia1 im1 ic1] _ _ z1
      refine wpAnyH_one_skip 8 rfl (by kernel_rfl) (by kernel_rfl) (ex_store_row rfl rfl rfl z1 (by kernel_rfl) rfl (by simp [Value.oneCell'])) (fun k h1 h2 => (y1 k h1).trans (hS k h1 h2)) ?_
      simp only [Act.put, List.setIfInBounds_toArray]
      have hS : ∀ k, k ≠ w.heap.size + 1 → k ≠ w.heap.size + 2 → (V.setRow (w.heap.size + 1) #[.bool false, .slice none 0 0, .slice ka1 km1 kc1, .slice ia1 im1 ic1]).heap[k]? = wc.heap[k]? := fun k h1 h2 => (y1 k h1).trans (hS k h1 h2)
      have z2 := (y1 (w.heap.size + 2) (by omega)).trans z2
      have fr := below_setRow' fr (Nat.le_succ _) #[.bool false, .slice none 0 0, .slice ka1 km1 kc1, .slice ia1 im1 ic1]
      have o6 := And.intro (o6.1.keepg (by omega) y1) (o6.2.keepg (by omega) y1)
      have o8 := And.intro (o8.1.keepg (by omega) y1) (o8.2.keepg (by omega) y1)
      generalize V.setRow (w.heap.size + 1) #[.bool false, .slice none 0 0, .slice ka1 km1 kc1, .slice ia1 im1 ic1] = V1 at *
      refine wpAnyH_take_d 9 (some 3) (.string key) rfl (by kernel_rfl) (by kernel_rfl) (by kernel_rfl) (by kernel_rfl) rfl (fun _ _ _ h => h) (fun _ _ => by kernel_rfl) (by exact hS) ?_
      simp only [Act.put]
      have y2 : ∀ k, k ≠ w.heap.size + 2 → (V1.setRow (w.heap.size + 2) #[.bool false, .slice none 0 0, .slice ka2 km2 kc2, .slice ia2 im2 ic2]).heap[k]? = V1.heap[k]? := fun k h => setRow_other V1 (w.heap.size + 2) k _ h
      have n2 := setRow_heap V1 (w.heap.size + 2) _ #[.bool false, .slice none 0 0, .slice ka2 km2 kc2, .slice ia2 im2 ic2] _ _ z2
      refine wpAnyH_one_skip 10 rfl (by kernel_rfl) (by kernel_rfl) (ex_store_row rfl rfl rfl z2 (by kernel_rfl) rfl (by simp [Value.oneCell'])) (fun k h1 h2 => (y2 k h2).trans (hS k h1 h2)) ?_
      simp only [Act.put]
      have hS : ∀ k, k ≠ w.heap.size + 1 → k ≠ w.heap.size + 2 → (V1.setRow (w.heap.size + 2) #[.bool false, .slice none 0 0, .slice ka2 km2 kc2, .slice ia2 im2 ic2]).heap[k]? = wc.heap[k]? := fun k h1 h2 => (y2 k h2).trans (hS k h1 h2)
      have n1 := (y2 (w.heap.size + 1) (by omega)).trans n1
      have fr := below_setRow' fr (Nat.le_add_right _ 2) #[.bool false, .slice none 0 0, .slice ka2 km2 kc2, .slice ia2 im2 ic2]
      have o6 := And.intro (o6.1.keepg (by omega) y2) (o6.2.keepg (by omega) y2)
      have o8 := And.intro (o8.1.keepg (by omega) y2) (o8.2.keepg (by omega) y2)
      generalize V1.setRow (w.heap.size + 2) #[.bool false, .slice none 0 0, .slice ka2 km2 kc2, .slice ia2 im2 ic2] = V2 at *
      refine wpAnyH_take_d 11 (some 5) (.int .i64 0) rfl (by kernel_rfl) (by kernel_rfl) (by kernel_rfl) (by kernel_rfl) rfl (fun _ _ _ h => h) (fun _ _ => by kernel_rfl) (by exact hS) ?_
      refine wpAnyH_done (by kernel_rfl) ?_ _
      obtain ⟨r0, r1, r2, r3⟩ := NdCells.of n1
      obtain ⟨t0, t1, t2, t3⟩ := NdCells.of n2
      have HFR := Lib.hid fr
      have H6 := Lib.hid o6
      have H8 := Lib.hid o8
      clear fr o6 o8 y1 y2 z1 z2 n1 n2 hS
      go_wp2
      exact bodyPost_ret (v := .tuple #[.agg #[.bool false, .slice none 0 0, .slice ka1 km1 kc1, .slice ia1 im1 ic1], .string key, .agg #[.bool false, .slice none 0 0, .slice ka2 km2 kc2, .slice ia2 im2 ic2], .int .i64 0]) (by simp [results, Try.results31, go_sem, r0, r1, r2, r3, t0, t1, t2, t3]) rfl ⟨_, _, rfl, ⟨_, _, _, rfl, OwnR.nil _ _ _, H6.out.1.base (by omega), H6.out.2.base (by omega)⟩, ⟨_, _, _, rfl, OwnR.nil _ _ _, H8.out.1.base (by omega), H8.out.2.base (by omega)⟩, HFR.out⟩
end Go.Proofs.Ytdkmfcmndncmcaa
