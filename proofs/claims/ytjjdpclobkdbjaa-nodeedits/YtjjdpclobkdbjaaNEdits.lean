/- For all arguments Find, Put and Drop answer what the document says: the law cisternlaw11.NodeEdits returns true at every input. No condition. -/
import Derived.Test.YtjjdpclobkdbjaaNDocP
namespace Go.Proofs.Ytjjdpclobkdbjaa.nodeEdits
set_option maxRecDepth 20000
open Go.RowKit Go.ChangeShapes Go.WideShapes Go.ChangeAt

theorem own : ownKnob Try.prog.godebug = none := by kernel_rfl
theorem range4 {w : World} {g : Nat} {lf : Bool} {pv kv iv : Value} (h : NdCells w g lf pv kv iv) : w.rangeAt g 0 [.bool lf, pv, kv, iv] := by
  intro j y hj
  match j, hj with
  | 0, hj => simp at hj; subst hj; exact h.c0
  | 1, hj => simp at hj; subst hj; exact h.c1
  | 2, hj => simp at hj; subst hj; exact h.c2
  | 3, hj => simp at hj; subst hj; exact h.c3
theorem none_small : Nd.none.small := ⟨by decide, by decide, by decide⟩
theorem put_sm (n : Nd) (x : Pr) : (putN n x).1.small := by
  rcases putN_cases n x with h | ⟨-, -, h1, h⟩
  · rw [h]; exact none_small
  · rw [h]; exact ok_small h1
theorem drop_sm (n : Nd) (key : ByteArray) : (dropN n key).1.small := by
  unfold dropN
  cases hl : n.leaf
  · exact none_small
  · cases hk : okN n
    · exact none_small
    · cases hasL n.ps key
      · exact none_small
      · have h3 := (okL_true ((okN_leaf hl).symm.trans hk)).2.2.1
        refine leaf_small ?_
        show (delL n.ps key).length ≤ 1000
        unfold delL
        rw [List.length_append]
        have h1 : (loL n.ps key).length ≤ n.ps.length := List.length_filter_le _ _
        have h2 : (hiL n.ps key).length ≤ n.ps.length := List.length_filter_le _ _
        omega
/-- an own node, its slices seen -/
theorem own_form {base : Nat} {w : World} {v : Value} {n : Nd} (h : NdOwn base w v n) : ∃ pa pm pc ka km kc ia im ic, v = .agg #[.bool n.leaf, .slice pa pm pc, .slice ka km kc, .slice ia im ic] := by
  obtain ⟨pv, kv, iv, rfl, h1, h2, h3⟩ := h
  obtain ⟨pa, pm, pc, rfl⟩ := h1.slv
  obtain ⟨ka, km, kc, rfl⟩ := h2.slv
  obtain ⟨ia, im, ic, rfl⟩ := h3.slv
  exact ⟨_, _, _, _, _, _, _, _, _, rfl⟩
theorem own_keep {base g : Nat} {w w1 : World} {v : Value} {n : Nd} (h : NdOwn base w v n) (hg : g < base) (hk : ∀ k, k ≠ g → w1.heap[k]? = w.heap[k]?) : NdOwn base w1 v n := by
  obtain ⟨pv, kv, iv, hv, h1, h2, h3⟩ := h
  exact ⟨pv, kv, iv, hv, h1.keepg hg hk, h2.keepg hg hk, h3.keepg hg hk⟩
theorem cells_below {w w1 : World} {g : Nat} {lf : Bool} {pv kv iv : Value} (h : NdCells w g lf pv kv iv) (hg : g < w.heap.size) (hb : Below w.heap.size w w1) : NdCells w1 g lf pv kv iv :=
  ⟨(hb.cell (p := ⟨g, 0, none⟩) hg).trans h.c0, (hb.cell (p := ⟨g, 1, none⟩) hg).trans h.c1, (hb.cell (p := ⟨g, 2, none⟩) hg).trans h.c2, (hb.cell (p := ⟨g, 3, none⟩) hg).trans h.c3⟩
set_option maxHeartbeats 12800000 in
set_option maxRecDepth 400000 in
theorem walk (v0 : Value) (z0 : Nd) (a1 : ByteArray) (_ : a1.size ≤ maxLen) (a2 : ByteArray) (_ : a2.size ≤ maxLen) (W : World) (w0 : NdArg W v0 z0) :
    Calls Try.prog 5 #[v0, .string a1, .string a2] W fun e w' => e = .returned (.bool true) ∧ Below W.heap.size W w' := by
  obtain ⟨h0, -, -⟩ := w0
  have OF := Lib.hid (fun w (hb : Below W.heap.size W w) => of_in h0 hb)
  have DF := Lib.hid (fun w (hb : Below W.heap.size W w) => docFind_any ((h0.below hb).more hb.size) a1)
  have DP := Lib.hid (fun w (hb : Below W.heap.size W w) => docPut_any ((h0.below hb).more hb.size) ⟨a1, a2⟩)
  have DD := Lib.hid (fun w (hb : Below W.heap.size W w) => docDrop_any ((h0.below hb).more hb.size) a1)
  have FU := Lib.hid (fun (i j : Nat) (E F : Int) (h : FindPost z0 a1 i E) (k : FindPost z0 a1 j F) => FindPost.uniq h k)
  have PS := Lib.hid (put_sm z0 ⟨a1, a2⟩)
  have DS := Lib.hid (drop_sm z0 a1)
  have PP := Lib.hid (fun (w : World) (v : Value) (h : NdAt w.heap.size w v z0) => put_any h ⟨a1, a2⟩)
  have PD := Lib.hid (fun (w : World) (v : Value) (h : NdAt w.heap.size w v z0) => drop_any h a1)
  generalize putN z0 ⟨a1, a2⟩ = R at *
  generalize dropN z0 a1 = D at *
  obtain ⟨RN, RE⟩ := R
  obtain ⟨DN, DE⟩ := D
  obtain ⟨pv, kv, iv, rfl, h1, h2, h3⟩ := h0
  obtain ⟨pa, pm, pc, rfl, -⟩ := h1.form
  obtain ⟨ka, km, kc, rfl, -⟩ := h2.form
  obtain ⟨ia, im, ic, rfl, -⟩ := h3.form
  clear h1 h2 h3
  generalize z0.leaf = lf at *
  have RB := Lib.hid (fun w1 b => rbox_facts (W := W) (lf := lf) (pv := .slice pa pm pc) (kv := .slice ka km kc) (iv := .slice ia im ic) (w1 := w1) b)
  have b0 : Below (W.heap.size + 1) (W.alloc (rbO lf (.slice pa pm pc) (.slice ka km kc) (.slice ia im ic))) (W.alloc (rbO lf (.slice pa pm pc) (.slice ka km kc) (.slice ia im ic))) := Below.refl _ _
  have hz0 : W.heap.size + 1 ≤ (W.alloc (rbO lf (.slice pa pm pc) (.slice ka km kc) (.slice ia im ic))).heap.size := by simp
  have HZ0 := Lib.hid hz0
  have hEE : ∀ E : Int, (E != E) = false := fun E => by simp
  clear hz0
  go_enter Try.func5, Try.ntmps5
  go_wp2_with fail
  refine Calls.mono (nknown_any _) ?_
  rintro e w1 ⟨rfl, c1⟩
  have b1 := Below.thenB b0 c1 HZ0.out
  obtain ⟨⟨q0, q1, q2, q3⟩, B1, s1⟩ := RB.out w1 b1
  clear c1 b0
  go_wp2_with fail
  refine Calls.mono (DF.out _ B1) ?_
  rintro e w2 ⟨i, E, rfl, hf1, c2⟩
  have b2 := Below.thenB b1 c2 s1
  obtain ⟨⟨q0, q1, q2, q3⟩, B2, s2⟩ := RB.out w2 b2
  have HF1 := Lib.hid hf1
  clear b1 B1 s1 c2 hf1 DF
  go_wp2_with fail
  refine Calls.mono (OF.out _ B2) ?_
  rintro e w3 ⟨v3, rfl, n3, c3⟩
  have b3 := Below.thenB b2 c3 s2
  obtain ⟨-, B3, s3⟩ := RB.out w3 b3
  have fc := find_any n3 a1
  clear b2 B2 s2 c3 n3 q0 q1 q2 q3
  go_wp2_with fail
  refine Calls.mono fc ?_
  rintro e w4 ⟨j, F, rfl, hf2, c4⟩
  obtain ⟨rfl, rfl⟩ := FU.out _ _ _ _ HF1.out hf2
  have b4 := Below.thenB b3 c4 s3
  obtain ⟨⟨q0, q1, q2, q3⟩, B4, s4⟩ := RB.out w4 b4
  have hbp := build_pr a1 a2 w4
  have hii := hEE (i : Int)
  have hee := hEE E
  clear b3 B3 s3 c4 fc hf2 HF1 FU
  go_wp2_with fail
  refine Calls.mono (DP.out _ B4) ?_
  rintro e w5 ⟨v5, rfl, o5, c5⟩
  obtain ⟨qa, qm, qc, ra, rm, rc, sa, sm, sc, rfl⟩ := own_form o5
  have b5 := Below.thenB b4 c5 s4
  obtain ⟨⟨q0, q1, q2, q3⟩, B5, s5⟩ := RB.out w5 b5
  have HO5 := Lib.hid o5
  have hg := heap_alloc_new w5 zrbO
  have c5' := below_new w5 zrbO
  clear b4 B4 s4 c5 o5 hbp hii hee DP
  have HRL := Lib.hid (show ∃ l, RN.leaf = l from ⟨_, rfl⟩)
  obtain ⟨rl, hrl⟩ := HRL.out
  have HRL := Lib.hid hrl
  rw [hrl] at HO5 ⊢
  clear hrl
  go_wp2_with (with_reducible refine wpList_store_rn rfl (.tmp 11) (.tmp 42) rfl w5.heap.size rl (.slice qa qm qc) (.slice ra rm rc) (.slice sa sm sc) rfl rfl #[.bool false, .slice none 0 0, .slice none 0 0, .slice none 0 0] hg rfl (.mk _ _ _) (.mk _ _ _) (.mk _ _ _) c5' (Nat.le_refl _) ?_)
  rintro w6 hA gA c6 oth6
  have b6 := b5.trans (c6.mono s5)
  obtain ⟨⟨q0, q1, q2, q3⟩, B6, s6⟩ := RB.out w6 b6
  have hAs : w5.heap.size < w6.heap.size := lt_of_heap gA
  have HO5 := Lib.hid (HO5.out.below c6)
  obtain ⟨A, hAe⟩ : ∃ A, w5.heap.size = A := ⟨_, rfl⟩
  rw [hAe] at hA gA hAs ⊢
  have hsA : W.heap.size + 1 ≤ A := by rw [← hAe]; exact s5
  have HNA := Lib.hid hA
  have HGA := Lib.hid gA
  clear b5 B5 s5 c5' c6 oth6 hg hA gA
  go_wp2_with fail
  refine Calls.mono (OF.out _ B6) ?_
  rintro e w7 ⟨v7, rfl, n7, c7⟩
  have b7 := Below.thenB b6 c7 s6
  obtain ⟨⟨q0, q1, q2, q3⟩, B7, s7⟩ := RB.out w7 b7
  have pu := PP.out _ _ n7
  have hbp := build_pr a1 a2 w7
  have HO5 := Lib.hid (HO5.out.below c7)
  have HNA := Lib.hid (cells_below HNA.out hAs c7)
  have HGA := Lib.hid ((c7.block A hAs).trans HGA.out)
  have hAs := Nat.lt_of_lt_of_le hAs c7.size
  clear b6 B6 s6 c7 n7 PP
  go_wp2_with fail
  refine Calls.mono pu ?_
  rintro e w8 ⟨v8, rfl, o8, c8⟩
  obtain ⟨ta, tm, tc, ua, um, uc, xa, xm, xc, rfl⟩ := own_form o8
  have b8 := Below.thenB b7 c8 s7
  obtain ⟨⟨q0, q1, q2, q3⟩, B8, s8⟩ := RB.out w8 b8
  have HO5 := Lib.hid (HO5.out.below c8)
  have HNA := Lib.hid (cells_below HNA.out hAs c8)
  have HGA := Lib.hid ((c8.block A hAs).trans HGA.out)
  have hAs := Nat.lt_of_lt_of_le hAs c8.size
  have HO8 := Lib.hid o8
  have hg := heap_alloc_new w8 zNdO
  have c9' := below_new w8 zNdO
  clear b7 B7 s7 c8 o8 hbp pu
  rw [HRL.out] at HO8 ⊢
  go_wp2_with (with_reducible refine wpList_store_nd rfl (.tmp 12) (.tmp 51) rfl w8.heap.size rl (.slice ta tm tc) (.slice ua um uc) (.slice xa xm xc) rfl rfl #[.bool false, .slice none 0 0, .slice none 0 0, .slice none 0 0] hg rfl (.mk _ _ _) (.mk _ _ _) (.mk _ _ _) c9' (Nat.le_refl _) ?_)
  rintro w9 hC gC c9 oth9
  have b9 := b8.trans (c9.mono s8)
  obtain ⟨⟨q0, q1, q2, q3⟩, B9, s9⟩ := RB.out w9 b9
  have hCs : w8.heap.size < w9.heap.size := lt_of_heap gC
  have HO5 := Lib.hid (HO5.out.below c9)
  have HO8 := Lib.hid (HO8.out.below c9)
  have HNA := Lib.hid (cells_below HNA.out hAs c9)
  have HGA := Lib.hid ((c9.block A hAs).trans HGA.out)
  have hAC : A < w8.heap.size := hAs
  have hAs := Nat.lt_of_lt_of_le hAs c9.size
  obtain ⟨C, hCe⟩ : ∃ C, w8.heap.size = C := ⟨_, rfl⟩
  rw [hCe] at hC gC hCs hAC ⊢
  have hsC : W.heap.size + 1 ≤ C := by omega
  have HNC := Lib.hid hC
  have HGC := Lib.hid gC
  have NA := Lib.hid (HO5.out.at PS.out)
  have NC := Lib.hid (HO8.out.at PS.out)
  have RGA := Lib.hid (fun w' (h : Below w9.heap.size w9 w') => range4 (cells_below HNA.out hAs h))
  have RGC := Lib.hid (fun w' (h : Below w9.heap.size w9 w') => range4 (cells_below HNC.out hCs h))
  have BK := Lib.hid (fun (w' : World) => back_any (w := w') (lf := rl) (.mk ta tm tc) (.mk ua um uc) (.mk xa xm xc))
  have SM := Lib.hid (fun w' (h : Below w9.heap.size w9 w') => same_any ((NA.out.below h).more h.size) ((NC.out.below h).more h.size))
  have hee := hEE RE
  clear b8 B8 s8 c9' c9 oth9 hg hC gC HO5 HO8 q0 q1 q2 q3
  go_wp2_with fail
  have hS := (Below.refl w9.heap.size w9).drew
  refine wp_region_held_drew (S := fun w' => Below w9.heap.size w9 w') mixed hS (fun _ => ?_)
  show wpAnyH _ _ _ _ _ 10 (Array.replicate 10 false) _ _
  refine wpAnyH_take_d 0 (some 53) (.agg #[.bool rl, .slice qa qm qc, .slice ra rm rc, .slice sa sm sc]) rfl (by kernel_rfl) (by kernel_rfl) (by kernel_rfl) (by kernel_rfl) rfl (fun _ _ _ h => h) (fun w' h => ex_row rfl rfl (RGA.out _ h) Try.underlying26 rfl (by kernel_rfl)) (by exact hS) ?_
  simp only [Act.put, List.setIfInBounds_toArray, List.set_cons_succ, List.set_cons_zero]
  refine wpAnyH_take_d 1 (some 54) (.agg #[.bool rl, .slice ta tm tc, .slice ua um uc, .slice xa xm xc]) rfl (by kernel_rfl) (by kernel_rfl) (by kernel_rfl) (by kernel_rfl) rfl (fun _ _ _ h => h) (fun w' h => ex_row rfl rfl (RGC.out _ h) Try.underlying32 rfl (by kernel_rfl)) (by exact hS) ?_
  simp only [Act.put, List.setIfInBounds_toArray, List.set_cons_succ, List.set_cons_zero]
  refine wpAnyH_call 2 (some 55) 23 #[.agg #[.bool rl, .slice ta tm tc, .slice ua um uc, .slice xa xm xc]] rfl (by kernel_rfl) (by kernel_rfl) rfl (by kernel_rfl) (BK.out _) ?_
  rintro e wx ⟨rfl, bx⟩
  have hS := Below.then hS bx (Nat.le_refl _)
  refine ⟨_, rfl, hS, ?_⟩
  simp only [Act.put, List.setIfInBounds_toArray, List.set_cons_succ, List.set_cons_zero]
  refine wpAnyH_call 3 (some 56) 22 #[.agg #[.bool rl, .slice qa qm qc, .slice ra rm rc, .slice sa sm sc], .agg #[.bool rl, .slice ta tm tc, .slice ua um uc, .slice xa xm xc]] rfl (by kernel_rfl) (by kernel_rfl) rfl (by kernel_rfl) (SM.out _ hS) ?_
  rintro e wx ⟨rfl, bx⟩
  have hS := Below.then hS bx (Nat.le_refl _)
  refine ⟨_, rfl, hS, ?_⟩
  simp only [Act.put, List.setIfInBounds_toArray, List.set_cons_succ, List.set_cons_zero]
  refine wpAnyH_take_d 4 (some 57) (.bool false) rfl (by kernel_rfl) (by kernel_rfl) (by kernel_rfl) (by kernel_rfl) rfl (fun _ _ _ h => h) (fun _ _ => by kernel_rfl) (by exact hS) ?_
  simp only [Act.put, List.setIfInBounds_toArray, List.set_cons_succ, List.set_cons_zero]
  refine wpAnyH_take_d 5 (some 58) (.bool false) rfl (by kernel_rfl) (by kernel_rfl) (by kernel_rfl) (by kernel_rfl) rfl (fun _ _ _ h => h) (fun _ _ => by kernel_rfl) (by exact hS) ?_
  simp only [Act.put, List.setIfInBounds_toArray, List.set_cons_succ, List.set_cons_zero]
  refine wpAnyH_take_d 6 (some 59) (.int .i64 RE) rfl (by kernel_rfl) (by kernel_rfl) (by kernel_rfl) (by kernel_rfl) rfl (fun _ _ _ h => h) (fun _ _ => by kernel_rfl) (by exact hS) ?_
  simp only [Act.put, List.setIfInBounds_toArray, List.set_cons_succ, List.set_cons_zero]
  refine wpAnyH_take_d 7 (some 60) (.int .i64 RE) rfl (by kernel_rfl) (by kernel_rfl) (by kernel_rfl) (by kernel_rfl) rfl (fun _ _ _ h => h) (fun _ _ => by kernel_rfl) (by exact hS) ?_
  simp only [Act.put, List.setIfInBounds_toArray, List.set_cons_succ, List.set_cons_zero]
  refine wpAnyH_take_d 8 (some 61) (.bool false) rfl (by kernel_rfl) (by kernel_rfl) (by kernel_rfl) (by kernel_rfl) rfl (fun _ _ _ h => h) (fun _ _ => ex_ne rfl rfl rfl hee) (by exact hS) ?_
  simp only [Act.put, List.setIfInBounds_toArray, List.set_cons_succ, List.set_cons_zero]
  refine wpAnyH_take_d 9 (some 62) (.bool false) rfl (by kernel_rfl) (by kernel_rfl) (by kernel_rfl) (by kernel_rfl) rfl (fun _ _ _ h => h) (fun _ _ => by kernel_rfl) (by exact hS) ?_
  simp only [Act.put, List.setIfInBounds_toArray, List.set_cons_succ, List.set_cons_zero]
  refine wpAnyH_done (by kernel_rfl) ?_ _
  rename_i wx
  have c10 := hS
  have b10 := Below.thenB b9 c10 s9
  obtain ⟨⟨q0, q1, q2, q3⟩, B10, s10⟩ := RB.out wx b10
  have HGA := Lib.hid ((c10.block A hAs).trans HGA.out)
  have HGC := Lib.hid ((c10.block C hCs).trans HGC.out)
  have hAs := Nat.lt_of_lt_of_le hAs c10.size
  have hCs := Nat.lt_of_lt_of_le hCs c10.size
  have d11 := DD.out _ B10
  clear b9 B9 s9 c10 hS RGA RGC NA NC SM BK HNA HNC hee DD
  go_wp2_with fail
  refine Calls.mono d11 ?_
  rintro e w11 ⟨v11, rfl, o11, c11⟩
  obtain ⟨ea, em, ec, fa, fm, fc, ga, gm, gc, rfl⟩ := own_form o11
  have b11 := Below.thenB b10 c11 s10
  obtain ⟨⟨q0, q1, q2, q3⟩, B11, s11⟩ := RB.out w11 b11
  have hgA := (c11.block A hAs).trans HGA.out
  have HGC := Lib.hid ((c11.block C hCs).trans HGC.out)
  have HO11 := Lib.hid o11
  have hAx := hAs
  have hAs := Nat.lt_of_lt_of_le hAs c11.size
  have hCx := hCs
  have hCs := Nat.lt_of_lt_of_le hCs c11.size
  have HDL := Lib.hid (show ∃ l, DN.leaf = l from ⟨_, rfl⟩)
  obtain ⟨dl, hdl⟩ := HDL.out
  have HDL := Lib.hid hdl
  rw [hdl] at HO11 ⊢
  clear hdl b10 B10 s10 c11 o11 d11 HGA
  go_wp2_with (with_reducible refine wpList_store_rn rfl (.tmp 11) (.tmp 67) rfl A dl (.slice ea em ec) (.slice fa fm fc) (.slice ga gm gc) rfl rfl #[.bool rl, .slice qa qm qc, .slice ra rm rc, .slice sa sm sc] hgA rfl (.mk _ _ _) (.mk _ _ _) (.mk _ _ _) b11 hsA ?_)
  rintro w12 hA gA b12 oth12
  obtain ⟨⟨q0, q1, q2, q3⟩, B12, s12⟩ := RB.out w12 b12
  have HO11 := Lib.hid (own_keep HO11.out hAx oth12)
  have HGC := Lib.hid ((oth12 C (by omega)).trans HGC.out)
  have hAs : A < w12.heap.size := lt_of_heap gA
  have hCs : C < w12.heap.size := lt_of_heap HGC.out
  have HNA := Lib.hid hA
  clear b11 B11 s11 oth12 hA gA hgA
  go_wp2_with fail
  refine Calls.mono (OF.out _ B12) ?_
  rintro e w13 ⟨v13, rfl, n13, c13⟩
  have b13 := Below.thenB b12 c13 s12
  obtain ⟨⟨q0, q1, q2, q3⟩, B13, s13⟩ := RB.out w13 b13
  have dr := PD.out _ _ n13
  have HO11 := Lib.hid (HO11.out.below c13)
  have HNA := Lib.hid (cells_below HNA.out hAs c13)
  have HGC := Lib.hid ((c13.block C hCs).trans HGC.out)
  have hAs := Nat.lt_of_lt_of_le hAs c13.size
  have hCs := Nat.lt_of_lt_of_le hCs c13.size
  clear b12 B12 s12 c13 n13 PD OF
  go_wp2_with fail
  refine Calls.mono dr ?_
  rintro e w14 ⟨v14, rfl, o14, c14⟩
  obtain ⟨ha, hm, hc, ja, jm, jc, la, lm, lc, rfl⟩ := own_form o14
  have b14 := Below.thenB b13 c14 s13
  obtain ⟨-, B14, s14⟩ := RB.out w14 b14
  have HO11 := Lib.hid (HO11.out.below c14)
  have HNA := Lib.hid (cells_below HNA.out hAs c14)
  have hgC := (c14.block C hCs).trans HGC.out
  have HO14 := Lib.hid o14
  have hCy := hCs
  have hAs := Nat.lt_of_lt_of_le hAs c14.size
  have hCs := Nat.lt_of_lt_of_le hCs c14.size
  clear b13 B13 s13 c14 o14 dr HGC q0 q1 q2 q3
  rw [HDL.out] at HO14 ⊢
  go_wp2_with (with_reducible refine wpList_store_nd rfl (.tmp 12) (.tmp 74) rfl C dl (.slice ha hm hc) (.slice ja jm jc) (.slice la lm lc) rfl rfl #[.bool rl, .slice ta tm tc, .slice ua um uc, .slice xa xm xc] hgC rfl (.mk _ _ _) (.mk _ _ _) (.mk _ _ _) b14 hsC ?_)
  rintro w15 hC gC b15 oth15
  obtain ⟨-, B15, s15⟩ := RB.out w15 b15
  have HO11 := Lib.hid (own_keep HO11.out hCx oth15)
  have HO14 := Lib.hid (own_keep HO14.out hCy oth15)
  have hcell : ∀ i, w15.cell? ⟨A, i, none⟩ = w14.cell? ⟨A, i, none⟩ := fun i => World.cell?_of_block (a := ⟨A, i, none⟩) (oth15 A (by omega))
  have hNA : NdCells w15 A dl (.slice ea em ec) (.slice fa fm fc) (.slice ga gm gc) := ⟨(hcell 0).trans HNA.out.c0, (hcell 1).trans HNA.out.c1, (hcell 2).trans HNA.out.c2, (hcell 3).trans HNA.out.c3⟩
  have hAs : A < w15.heap.size := World.block_lt_of_cell? _ _ hNA.c0
  have hCs : C < w15.heap.size := lt_of_heap gC
  have NA := Lib.hid (HO11.out.at DS.out)
  have NC := Lib.hid (HO14.out.at DS.out)
  have RGA := Lib.hid (fun w' (h : Below w15.heap.size w15 w') => range4 (cells_below hNA hAs h))
  have RGC := Lib.hid (fun w' (h : Below w15.heap.size w15 w') => range4 (cells_below hC hCs h))
  have BK := Lib.hid (fun (w' : World) => back_any (w := w') (lf := dl) (.mk ha hm hc) (.mk ja jm jc) (.mk la lm lc))
  have SM := Lib.hid (fun w' (h : Below w15.heap.size w15 w') => same_any ((NA.out.below h).more h.size) ((NC.out.below h).more h.size))
  have hee : (DE == DE) = true := by simp
  clear b14 B14 s14 oth15 hC gC hgC hcell hNA HO11 HO14 HNA
  go_wp2_with fail
  have hS := (Below.refl w15.heap.size w15).drew
  refine wp_region_held_drew (S := fun w' => Below w15.heap.size w15 w') mixed hS (fun _ => ?_)
  show wpAnyH _ _ _ _ _ 10 (Array.replicate 10 false) _ _
  refine wpAnyH_take_d 0 (some 76) (.agg #[.bool dl, .slice ea em ec, .slice fa fm fc, .slice ga gm gc]) rfl (by kernel_rfl) (by kernel_rfl) (by kernel_rfl) (by kernel_rfl) rfl (fun _ _ _ h => h) (fun w' h => ex_row rfl rfl (RGA.out _ h) Try.underlying26 rfl (by kernel_rfl)) (by exact hS) ?_
  simp only [Act.put, List.setIfInBounds_toArray, List.set_cons_succ, List.set_cons_zero]
  refine wpAnyH_take_d 1 (some 77) (.agg #[.bool dl, .slice ha hm hc, .slice ja jm jc, .slice la lm lc]) rfl (by kernel_rfl) (by kernel_rfl) (by kernel_rfl) (by kernel_rfl) rfl (fun _ _ _ h => h) (fun w' h => ex_row rfl rfl (RGC.out _ h) Try.underlying32 rfl (by kernel_rfl)) (by exact hS) ?_
  simp only [Act.put, List.setIfInBounds_toArray, List.set_cons_succ, List.set_cons_zero]
  refine wpAnyH_call 2 (some 78) 23 #[.agg #[.bool dl, .slice ha hm hc, .slice ja jm jc, .slice la lm lc]] rfl (by kernel_rfl) (by kernel_rfl) rfl (by kernel_rfl) (BK.out _) ?_
  rintro e wx ⟨rfl, bx⟩
  have hS := Below.then hS bx (Nat.le_refl _)
  refine ⟨_, rfl, hS, ?_⟩
  simp only [Act.put, List.setIfInBounds_toArray, List.set_cons_succ, List.set_cons_zero]
  refine wpAnyH_call 3 (some 79) 22 #[.agg #[.bool dl, .slice ea em ec, .slice fa fm fc, .slice ga gm gc], .agg #[.bool dl, .slice ha hm hc, .slice ja jm jc, .slice la lm lc]] rfl (by kernel_rfl) (by kernel_rfl) rfl (by kernel_rfl) (SM.out _ hS) ?_
  rintro e wx ⟨rfl, bx⟩
  have hS := Below.then hS bx (Nat.le_refl _)
  refine ⟨_, rfl, hS, ?_⟩
  simp only [Act.put, List.setIfInBounds_toArray, List.set_cons_succ, List.set_cons_zero]
  refine wpAnyH_take_d 4 (some 80) (.bool true) rfl (by kernel_rfl) (by kernel_rfl) (by kernel_rfl) (by kernel_rfl) rfl (fun _ _ _ h => h) (fun _ _ => by kernel_rfl) (by exact hS) ?_
  simp only [Act.put, List.setIfInBounds_toArray, List.set_cons_succ, List.set_cons_zero]
  refine wpAnyH_take_d 5 (some 81) (.int .i64 DE) rfl (by kernel_rfl) (by kernel_rfl) (by kernel_rfl) (by kernel_rfl) rfl (fun _ _ _ h => h) (fun _ _ => by kernel_rfl) (by exact hS) ?_
  simp only [Act.put, List.setIfInBounds_toArray, List.set_cons_succ, List.set_cons_zero]
  refine wpAnyH_take_d 6 (some 82) (.int .i64 DE) rfl (by kernel_rfl) (by kernel_rfl) (by kernel_rfl) (by kernel_rfl) rfl (fun _ _ _ h => h) (fun _ _ => by kernel_rfl) (by exact hS) ?_
  simp only [Act.put, List.setIfInBounds_toArray, List.set_cons_succ, List.set_cons_zero]
  refine wpAnyH_take_d 7 (some 83) (.bool true) rfl (by kernel_rfl) (by kernel_rfl) (by kernel_rfl) (by kernel_rfl) rfl (fun _ _ _ h => h) (fun _ _ => ex_eq rfl rfl rfl hee) (by exact hS) ?_
  simp only [Act.put, List.setIfInBounds_toArray, List.set_cons_succ, List.set_cons_zero]
  refine wpAnyH_take_d 8 (some 84) (.bool true) rfl (by kernel_rfl) (by kernel_rfl) (by kernel_rfl) (by kernel_rfl) rfl (fun _ _ _ h => h) (fun _ _ => by kernel_rfl) (by exact hS) ?_
  simp only [Act.put, List.setIfInBounds_toArray, List.set_cons_succ, List.set_cons_zero]
  refine wpAnyH_take_d 9 (some 6) (.bool true) rfl (by kernel_rfl) (by kernel_rfl) (by kernel_rfl) (by kernel_rfl) rfl (fun _ _ _ h => h) (fun _ _ => by kernel_rfl) (by exact hS) ?_
  simp only [Act.put, List.setIfInBounds_toArray, List.set_cons_succ, List.set_cons_zero]
  refine wpAnyH_done (by kernel_rfl) ?_ _
  have hb := B15.trans (hS.mono B15.size)
  clear hS RGA RGC SM BK NA NC
  go_wp2
  go_ret
  exact ⟨rfl, hb⟩

/-! ### the row -/
theorem laidOut : laidOutB Try.prog = true := by kernel_rfl
theorem bytesInt : Try.prog.bytesOf 3 = 8 := by kernel_rfl
set_option maxRecDepth 100000 in
theorem lifted (os : Os) (started : os.Started) (H : Type) (enc : TypeId × Value → H) :
    ReturnsInHanded {} Try.checked os 5 .any (Rows.nodeEditsSpec.pre6 enc Try.prog Try.f5 Rows.nodeEditsRow.domain false) (Rows.nodeEditsSpec.post enc Try.prog Try.f5 false true false false) := by
  refine returnsInHanded_of_change_sized (C := Try.checked) own started (by kernel_rfl) Try.func5
    (ChangeSpec.witness6 (enc := enc) (C := Try.checked) false ⟨#[], #[.agg #[.bool false, .slice none 0 0, .slice none 0 0, .slice none 0 0], .string ByteArray.empty, .string ByteArray.empty], []⟩ 8 (by kernel_rfl) (by kernel_rfl) (by kernel_rfl) (by kernel_rfl)) ?_
  intro W base args ds gs before hval0 hW hcnd hsz0 _
  have hval : ∀ (j : Nat) t v, Try.f5.params[j]? = some t → args[j]? = some v → Value.okWide Try.prog W .any base t v := hval0
  have hW' := hW
  obtain ⟨p, q, hA0, hV, rfl, hfz, hnd⟩ := hW
  have hA : DataW.TrodAll enc Try.prog W 0 (fun _ => true) true Try.f5.params.toList args.toList ds p := hA0
  have hsz : (DataW.weightsEach Try.prog (Try.f5.params.toList ++ Rows.nodeEditsSpec.plain.varTypes Try.prog) (ds ++ gs)).all (· ≤ reachBytes) = true := hsz0
  rw [Try.params5] at hA hval hsz
  obtain ⟨v0, vs0, d0, ds0, p0, q0, hargs, rfl, rfl, h0, r0⟩ := trodAll_cons hA
  obtain ⟨v1, vs1, d1, ds1, p1, q1, rfl, rfl, rfl, h1, r1⟩ := trodAll_cons r0
  obtain ⟨v2, vs2, d2, ds2, p2, q2, rfl, rfl, rfl, h2, r2⟩ := trodAll_cons r1
  obtain ⟨rfl, rfl, rfl⟩ := trodAll_nil r2
  obtain rfl : args = #[v0, v1, v2] := by cases args; simp_all
  obtain ⟨rfl, rfl⟩ := trodVars_none hV
  have k0 := h0
  have lt0 := args_lt k0
  obtain ⟨z0, w0⟩ := nd_arg (hval 0 26 v0 rfl rfl) (fun k hk => of_decide_eq_true (List.all_eq_true.1 hsz _ (DataW.weights_mem_each (j := 0) (t := 26) (d := d0) rfl rfl k hk))) h0
  obtain ⟨a1, rfl, rfl, rfl, w1⟩ := Go.ChangeMaps.open_string Try.underlying9 (hval 1 9 v1 rfl rfl) h1
  obtain ⟨a2, rfl, rfl, rfl, w2⟩ := Go.ChangeMaps.open_string Try.underlying9 (hval 2 9 v2 rfl rfl) h2
  clear hA0 hval0 hsz0
  refine (walk v0 z0 a1 w1 a2 w2 W w0).mono fun e W' ⟨he, bel⟩ => ?_
  subst he
  exact ⟨_, rfl, _, _, _, [], _, [], hW', trodAll_mk1 (shut_bool Try.underlying4 _), (trodAll_cons_mk (Below.trod laidOut (by kernel_rfl) (of_decide_eq_true (by kernel_rfl)) k0 bel lt0) (trodAll_cons_mk (Go.ChangeMaps.shut_string Try.underlying9 w1) (trodAll_cons_mk (Go.ChangeMaps.shut_string Try.underlying9 w2) trodAll_mk0))), rfl, bel.frame _, fun h => by cases h⟩

theorem over : Rows.nodeEditsRow.holds Try.pinned (OpenSpec.ofChange Rows.nodeEditsSpec) :=
  OpenClaim.holds_of_wide 5 Try.f5 rfl rfl rfl rfl rfl rfl rfl ⟨rfl, rfl, rfl, rfl, rfl⟩ rfl rfl rfl rfl rfl (by kernel_rfl) Try.func5 (by kernel_rfl)
    (of_decide_eq_true (by kernel_rfl)) (by unfold Func.isWrapper; first | (rw [if_pos (by decide +kernel)]; kernel_rfl) | (rw [if_neg (by decide +kernel)]; exact ⟨rfl, rfl⟩))
    (fun os started H enc _ => lifted os started H enc)
end Go.Proofs.Ytjjdpclobkdbjaa.nodeEdits

namespace Go.Proofs.Ytjjdpclobkdbjaa
/-- The law returns true at every input. -/
theorem nodeEdits_holds : Rows.NodeEditsSaid := nodeEdits.over
end Go.Proofs.Ytjjdpclobkdbjaa

