/- For all nodes and texts Check, Size, Encode and Decode answer what the document says: the law cisternlaw11.NodePages returns true at every input. No condition. -/
import Derived.Test.YtjjdpclobkdbjaaNDocR
namespace Go.Proofs.Ytjjdpclobkdbjaa.nodePages
set_option maxRecDepth 20000
open Go.RowKit Go.ChangeShapes Go.WideShapes Go.ChangeAt

theorem own : ownKnob Try.prog.godebug = none := by kernel_rfl
theorem range4 {w : World} {g : Nat} {lf : Bool} {pv kv iv : Value} (h : NdCells w g lf pv kv iv) : w.rangeAt g 0 [.bool lf, pv, kv, iv] := by
  intro j y hj
  match j, hj with
  | 0, hj => simp at hj; subst hj; exact h.c0
  | 1, hj => simp at hj; subst hj; exact h.c1
  | 2, hj => simp at hj; subst hj; exact h.c2
  | 3, hj => simp at hj; subst hj; exact h.c3
theorem own_form {base : Nat} {w : World} {v : Value} {n : Nd} (h : NdOwn base w v n) : ∃ pa pm pc ka km kc ia im ic, v = .agg #[.bool n.leaf, .slice pa pm pc, .slice ka km kc, .slice ia im ic] := by
  obtain ⟨pv, kv, iv, rfl, h1, h2, h3⟩ := h
  obtain ⟨pa, pm, pc, rfl⟩ := h1.slv
  obtain ⟨ka, km, kc, rfl⟩ := h2.slv
  obtain ⟨ia, im, ic, rfl⟩ := h3.slv
  exact ⟨_, _, _, _, _, _, _, _, _, rfl⟩
theorem cells_below {w w1 : World} {g : Nat} {lf : Bool} {pv kv iv : Value} (h : NdCells w g lf pv kv iv) (hg : g < w.heap.size) (hb : Below w.heap.size w w1) : NdCells w1 g lf pv kv iv :=
  ⟨(hb.cell (p := ⟨g, 0, none⟩) hg).trans h.c0, (hb.cell (p := ⟨g, 1, none⟩) hg).trans h.c1, (hb.cell (p := ⟨g, 2, none⟩) hg).trans h.c2, (hb.cell (p := ⟨g, 3, none⟩) hg).trans h.c3⟩
theorem dec_small (s : ByteArray) : (decN s).1.small := by
  have hn : Nd.none.small := ⟨by decide, by decide, by decide⟩
  unfold decN
  split
  · exact hn
  · split
    · exact hn
    · exact node_small _
set_option maxHeartbeats 12800000 in
set_option maxRecDepth 400000 in
theorem walk (v0 : Value) (z0 : Nd) (a1 : ByteArray) (_ : a1.size ≤ maxLen) (W : World) (w0 : NdArg W v0 z0) :
    Calls Try.prog 3 #[v0, .string a1] W fun e w' => e = .returned (.bool true) ∧ Below W.heap.size W w' := by
  obtain ⟨h0, hok, -⟩ := w0
  have OF := Lib.hid (fun w (hb : Below W.heap.size W w) => of_in h0 hb)
  have DE1 := Lib.hid (fun w (hb : Below W.heap.size W w) => docEncode_any ((h0.below hb).more hb.size))
  have EN := Lib.hid (fun (w : World) (v : Value) (a : NdAt w.heap.size w v z0) => encode_any a)
  have DD := Lib.hid (fun w => docDecode_any w a1)
  have DP := Lib.hid (fun w => decode_any w a1)
  have DS := Lib.hid (dec_small a1)
  have CK := Lib.hid (fun (w' : World) (v' : Value) (a : NdAt w'.heap.size w' v' z0) => check_any a)
  have RT0 := Lib.hid (fun w (hb : Below W.heap.size W w) => right_any ((h0.below hb).more hb.size))
  have SZ := Lib.hid (fun (w' : World) (v' : Value) (a : NdAt w'.heap.size w' v' z0) => size_any a hok)
  have RS0 := Lib.hid (fun w (hb : Below W.heap.size W w) => refSize_any ((h0.below hb).more hb.size) hok)
  generalize decN a1 = D at *
  obtain ⟨DN, DE⟩ := D
  generalize encS z0 = T at *
  generalize encE z0 = E at *
  generalize IntKind.i64.wrap (sizN z0 : Nat) = Sz at *
  obtain ⟨pv, kv, iv, rfl, h1, h2, h3⟩ := h0
  obtain ⟨pa, pm, pc, rfl, -⟩ := h1.form
  obtain ⟨ka, km, kc, rfl, -⟩ := h2.form
  obtain ⟨ia, im, ic, rfl, -⟩ := h3.form
  clear h1 h2 h3 hok
  generalize z0.leaf = lf at *
  have RB := Lib.hid (fun w1 b => rbox_facts (W := W) (lf := lf) (pv := .slice pa pm pc) (kv := .slice ka km kc) (iv := .slice ia im ic) (w1 := w1) b)
  have b0 : Below (W.heap.size + 1) (W.alloc (rbO lf (.slice pa pm pc) (.slice ka km kc) (.slice ia im ic))) (W.alloc (rbO lf (.slice pa pm pc) (.slice ka km kc) (.slice ia im ic))) := Below.refl _ _
  have hz0 : W.heap.size + 1 ≤ (W.alloc (rbO lf (.slice pa pm pc) (.slice ka km kc) (.slice ia im ic))).heap.size := by simp
  have HZ0 := Lib.hid hz0
  clear hz0
  go_enter Try.func3, Try.ntmps3
  go_wp2_with fail
  refine Calls.mono (nknown_any _) ?_
  rintro e w1 ⟨rfl, c1⟩
  have b1 := Below.thenB b0 c1 HZ0.out
  obtain ⟨⟨q0, q1, q2, q3⟩, B1, s1⟩ := RB.out w1 b1
  clear c1 b0
  go_wp2_with fail
  refine Calls.mono (DE1.out _ B1) ?_
  rintro e w2 ⟨rfl, c2⟩
  have b2 := Below.thenB b1 c2 s1
  obtain ⟨⟨q0, q1, q2, q3⟩, B2, s2⟩ := RB.out w2 b2
  clear b1 B1 s1 c2 DE1
  go_wp2_with fail
  refine Calls.mono (OF.out _ B2) ?_
  rintro e w3 ⟨v3, rfl, n3, c3⟩
  have b3 := Below.thenB b2 c3 s2
  obtain ⟨-, B3, s3⟩ := RB.out w3 b3
  have ec := EN.out _ _ n3
  clear b2 B2 s2 c3 n3 q0 q1 q2 q3 EN
  go_wp2_with fail
  refine Calls.mono ec ?_
  rintro e w4 ⟨rfl, c4⟩
  have b4 := Below.thenB b3 c4 s3
  obtain ⟨⟨q0, q1, q2, q3⟩, B4, s4⟩ := RB.out w4 b4
  have dd := DD.out w4
  clear b3 B3 s3 c4 ec DD
  go_wp2_with fail
  refine Calls.mono dd ?_
  rintro e w5 ⟨v5, rfl, o5, c5⟩
  obtain ⟨qa, qm, qc, ra, rm, rc, sa, sm, sc, rfl⟩ := own_form o5
  have b5 := Below.thenB b4 c5 s4
  obtain ⟨⟨q0, q1, q2, q3⟩, B5, s5⟩ := RB.out w5 b5
  have HO5 := Lib.hid o5
  have hg := heap_alloc_new w5 zrO
  have c5' := below_new w5 zrO
  clear b4 B4 s4 c5 o5 dd
  obtain ⟨rl, hrl⟩ : ∃ l, DN.leaf = l := ⟨_, rfl⟩
  have HRL := Lib.hid hrl
  simp only [hrl] at HO5 ⊢
  clear hrl
  go_wp2_with (with_reducible refine wpList_store_rn rfl (.tmp 9) (.tmp 29) rfl w5.heap.size rl (.slice qa qm qc) (.slice ra rm rc) (.slice sa sm sc) rfl rfl #[.bool false, .slice none 0 0, .slice none 0 0, .slice none 0 0] hg rfl (.mk _ _ _) (.mk _ _ _) (.mk _ _ _) c5' (Nat.le_refl _) ?_)
  rintro w6 hA gA c6 -
  have b6 := b5.trans (c6.mono s5)
  obtain ⟨⟨q0, q1, q2, q3⟩, B6, s6⟩ := RB.out w6 b6
  have hAs : w5.heap.size < w6.heap.size := World.block_lt_of_cell? _ _ hA.c0
  have HO5 := Lib.hid (HO5.out.below c6)
  generalize w5.heap.size = A at *
  have HNA := Lib.hid hA
  have dp := DP.out w6
  clear b5 B5 s5 c5' c6 hg hA gA DP
  go_wp2_with fail
  refine Calls.mono dp ?_
  rintro e w7 ⟨v7, rfl, o7, c7⟩
  obtain ⟨ta, tm, tc, ua, um, uc, xa, xm, xc, rfl⟩ := own_form o7
  have b7 := Below.thenB b6 c7 s6
  obtain ⟨⟨q0, q1, q2, q3⟩, B7, s7⟩ := RB.out w7 b7
  have HO5 := Lib.hid (HO5.out.below c7)
  have HNA := Lib.hid (cells_below HNA.out hAs c7)
  have hAs := Nat.lt_of_lt_of_le hAs c7.size
  have HO7 := Lib.hid o7
  have hg := heap_alloc_new w7 zNdO
  have c8' := below_new w7 zNdO
  clear b6 B6 s6 c7 o7 dp
  simp only [HRL.out] at HO7 ⊢
  go_wp2_with (with_reducible refine wpList_store_nd rfl (.tmp 11) (.tmp 34) rfl w7.heap.size rl (.slice ta tm tc) (.slice ua um uc) (.slice xa xm xc) rfl rfl #[.bool false, .slice none 0 0, .slice none 0 0, .slice none 0 0] hg rfl (.mk _ _ _) (.mk _ _ _) (.mk _ _ _) c8' (Nat.le_refl _) ?_)
  rintro w9 hC gC c9 -
  have b9 := b7.trans (c9.mono s7)
  obtain ⟨⟨q0, q1, q2, q3⟩, B9, s9⟩ := RB.out w9 b9
  have hCs : w7.heap.size < w9.heap.size := World.block_lt_of_cell? _ _ hC.c0
  have HO5 := Lib.hid (HO5.out.below c9)
  have HO7 := Lib.hid (HO7.out.below c9)
  have HNA9 := Lib.hid (cells_below HNA.out hAs c9)
  have hAs9 := Nat.lt_of_lt_of_le hAs c9.size
  clear hAs HNA
  generalize w7.heap.size = C at *
  have NA := Lib.hid (HO5.out.at DS.out)
  have NC := Lib.hid (HO7.out.at DS.out)
  have RGA := Lib.hid (fun w' (h : Below w9.heap.size w9 w') => range4 (cells_below HNA9.out hAs9 h))
  have RGC := Lib.hid (fun w' (h : Below w9.heap.size w9 w') => range4 (cells_below hC hCs h))
  have RGZ := Lib.hid (fun w' (h : Below w9.heap.size w9 w') => range4 (RB.out w' (Below.thenB b9 h s9)).1)
  have BK := Lib.hid (fun (w' : World) => back_any (w := w') (lf := rl) (.mk ta tm tc) (.mk ua um uc) (.mk xa xm xc))
  have SM := Lib.hid (fun w' (h : Below w9.heap.size w9 w') => same_any ((NA.out.below h).more h.size) ((NC.out.below h).more h.size))
  have OF9 := Lib.hid (fun w' (h : Below w9.heap.size w9 w') => OF.out w' (B9.trans (h.mono B9.size)))
  have RT := Lib.hid (fun w' (h : Below w9.heap.size w9 w') => RT0.out w' (B9.trans (h.mono B9.size)))
  have RS := Lib.hid (fun w' (h : Below w9.heap.size w9 w') => RS0.out w' (B9.trans (h.mono B9.size)))
  have hss : (Sz == Sz) = true := by simp
  have hee : (E == E) = true := by simp
  have hdd : (DE == DE) = true := by simp
  have htt : (T.toList == T.toList) = true := by simp
  clear b7 B7 s7 c8' c9 hg gC hC HO5 HO7 HNA9 NA NC RT0 RS0 OF q0 q1 q2 q3 b9 s9 RB
  go_wp2_with fail
  cases hk : okN z0
  · rw [hk] at CK RT
    have CK : Hid (∀ (w' : World) (v' : Value), NdAt w'.heap.size w' v' z0 → Calls Try.prog 18 #[v'] w' fun e w1 => e = .returned (.int .i64 2) ∧ Below w'.heap.size w' w1) := CK
    have hS := (Below.refl w9.heap.size w9).drew
    refine wp_region_held_drew (S := fun w' => Below w9.heap.size w9 w') mixed hS (fun _ => ?_)
    show wpAnyH _ _ _ _ _ 37 (Array.replicate 37 false) _ _
    refine wpAnyH_take_d 0 (some 36) (.agg #[.bool lf, .slice pa pm pc, .slice ka km kc, .slice ia im ic]) rfl (by kernel_rfl) (by kernel_rfl) (by kernel_rfl) (by kernel_rfl) rfl (fun _ _ _ h => h) (fun w' h => ex_row rfl rfl (RGZ.out _ h) Try.underlying26 rfl (by kernel_rfl)) (by exact hS) ?_
    simp only [Act.put, List.setIfInBounds_toArray, List.set_cons_succ, List.set_cons_zero]
    refine wpAnyH_take_d 4 (some 40) (.agg #[.bool lf, .slice pa pm pc, .slice ka km kc, .slice ia im ic]) rfl (by kernel_rfl) (by kernel_rfl) (by kernel_rfl) (by kernel_rfl) rfl (fun _ _ _ h => h) (fun w' h => ex_row rfl rfl (RGZ.out _ h) Try.underlying26 rfl (by kernel_rfl)) (by exact hS) ?_
    simp only [Act.put, List.setIfInBounds_toArray, List.set_cons_succ, List.set_cons_zero]
    refine wpAnyH_call 1 (some 37) 15 #[.agg #[.bool lf, .slice pa pm pc, .slice ka km kc, .slice ia im ic]] rfl (by kernel_rfl) (by kernel_rfl) rfl (by kernel_rfl) (OF9.out _ hS) ?_
    rintro e wx ⟨v10, rfl, n10, bx⟩
    have hS := Below.then hS bx (Nat.le_refl _)
    refine ⟨_, rfl, hS, ?_⟩
    simp only [Act.put, List.setIfInBounds_toArray, List.set_cons_succ, List.set_cons_zero]
    refine wpAnyH_call 2 (some 38) 18 #[v10] rfl (by kernel_rfl) (by kernel_rfl) rfl (by kernel_rfl) (CK.out _ _ n10) ?_
    rintro e wx ⟨rfl, bx⟩
    have hS := Below.then hS bx (Nat.le_refl _)
    refine ⟨_, rfl, hS, ?_⟩
    simp only [Act.put, List.setIfInBounds_toArray, List.set_cons_succ, List.set_cons_zero]
    refine wpAnyH_take_d 3 (some 39) (.bool false) rfl (by kernel_rfl) (by kernel_rfl) (by kernel_rfl) (by kernel_rfl) rfl (fun _ _ _ h => h) (fun _ _ => by kernel_rfl) (by exact hS) ?_
    simp only [Act.put, List.setIfInBounds_toArray, List.set_cons_succ, List.set_cons_zero]
    refine wpAnyH_call 5 (some 41) 19 #[.agg #[.bool lf, .slice pa pm pc, .slice ka km kc, .slice ia im ic]] rfl (by kernel_rfl) (by kernel_rfl) rfl (by kernel_rfl) (RT.out _ hS) ?_
    rintro e wx ⟨rfl, bx⟩
    have hS := Below.then hS bx (Nat.le_refl _)
    refine ⟨_, rfl, hS, ?_⟩
    simp only [Act.put, List.setIfInBounds_toArray, List.set_cons_succ, List.set_cons_zero]
    refine wpAnyH_take_d 6 (some 42) (.bool true) rfl (by kernel_rfl) (by kernel_rfl) (by kernel_rfl) (by kernel_rfl) rfl (fun _ _ _ h => h) (fun _ _ => by kernel_rfl) (by exact hS) ?_
    simp only [Act.put, List.setIfInBounds_toArray, List.set_cons_succ, List.set_cons_zero]
    refine wpAnyH_take_d 7 (some 43) (.bool true) rfl (by kernel_rfl) (by kernel_rfl) (by kernel_rfl) (by kernel_rfl) rfl (fun _ _ _ h => h) (fun _ _ => by kernel_rfl) (by exact hS) ?_
    simp only [Act.put, List.setIfInBounds_toArray, List.set_cons_succ, List.set_cons_zero]
    refine wpAnyH_take_d 8 (some 44) (.agg #[.bool lf, .slice pa pm pc, .slice ka km kc, .slice ia im ic]) rfl (by kernel_rfl) (by kernel_rfl) (by kernel_rfl) (by kernel_rfl) rfl (fun _ _ _ h => h) (fun w' h => ex_row rfl rfl (RGZ.out _ h) Try.underlying26 rfl (by kernel_rfl)) (by exact hS) ?_
    simp only [Act.put, List.setIfInBounds_toArray, List.set_cons_succ, List.set_cons_zero]
    refine wpAnyH_take_d 11 (some 47) (.agg #[.bool lf, .slice pa pm pc, .slice ka km kc, .slice ia im ic]) rfl (by kernel_rfl) (by kernel_rfl) (by kernel_rfl) (by kernel_rfl) rfl (fun _ _ _ h => h) (fun w' h => ex_row rfl rfl (RGZ.out _ h) Try.underlying26 rfl (by kernel_rfl)) (by exact hS) ?_
    simp only [Act.put, List.setIfInBounds_toArray, List.set_cons_succ, List.set_cons_zero]
    refine wpAnyH_call 9 (some 45) 15 #[.agg #[.bool lf, .slice pa pm pc, .slice ka km kc, .slice ia im ic]] rfl (by kernel_rfl) (by kernel_rfl) rfl (by kernel_rfl) (OF9.out _ hS) ?_
    rintro e wx ⟨v11, rfl, n11, bx⟩
    have hS := Below.then hS bx (Nat.le_refl _)
    refine ⟨_, rfl, hS, ?_⟩
    simp only [Act.put, List.setIfInBounds_toArray, List.set_cons_succ, List.set_cons_zero]
    refine wpAnyH_call 10 (some 46) 20 #[v11] rfl (by kernel_rfl) (by kernel_rfl) rfl (by kernel_rfl) (SZ.out _ _ n11) ?_
    rintro e wx ⟨rfl, bx⟩
    have hS := Below.then hS bx (Nat.le_refl _)
    refine ⟨_, rfl, hS, ?_⟩
    simp only [Act.put, List.setIfInBounds_toArray, List.set_cons_succ, List.set_cons_zero]
    refine wpAnyH_call 12 (some 48) 21 #[.agg #[.bool lf, .slice pa pm pc, .slice ka km kc, .slice ia im ic]] rfl (by kernel_rfl) (by kernel_rfl) rfl (by kernel_rfl) (RS.out _ hS) ?_
    rintro e wx ⟨rfl, bx⟩
    have hS := Below.then hS bx (Nat.le_refl _)
    refine ⟨_, rfl, hS, ?_⟩
    simp only [Act.put, List.setIfInBounds_toArray, List.set_cons_succ, List.set_cons_zero]
    refine wpAnyH_take_d 13 (some 49) (.bool true) rfl (by kernel_rfl) (by kernel_rfl) (by kernel_rfl) (by kernel_rfl) rfl (fun _ _ _ h => h) (fun _ _ => ex_eq rfl rfl rfl hss) (by exact hS) ?_
    simp only [Act.put, List.setIfInBounds_toArray, List.set_cons_succ, List.set_cons_zero]
    refine wpAnyH_take_d 14 (some 50) (.bool true) rfl (by kernel_rfl) (by kernel_rfl) (by kernel_rfl) (by kernel_rfl) rfl (fun _ _ _ h => h) (fun _ _ => by kernel_rfl) (by exact hS) ?_
    simp only [Act.put, List.setIfInBounds_toArray, List.set_cons_succ, List.set_cons_zero]
    refine wpAnyH_take_d 15 (some 51) (.bool true) rfl (by kernel_rfl) (by kernel_rfl) (by kernel_rfl) (by kernel_rfl) rfl (fun _ _ _ h => h) (fun _ _ => by kernel_rfl) (by exact hS) ?_
    simp only [Act.put, List.setIfInBounds_toArray, List.set_cons_succ, List.set_cons_zero]
    refine wpAnyH_take_d 16 (some 52) (.string T) rfl (by kernel_rfl) (by kernel_rfl) (by kernel_rfl) (by kernel_rfl) rfl (fun _ _ _ h => h) (fun _ _ => by kernel_rfl) (by exact hS) ?_
    simp only [Act.put, List.setIfInBounds_toArray, List.set_cons_succ, List.set_cons_zero]
    refine wpAnyH_take_d 17 (some 53) (.string T) rfl (by kernel_rfl) (by kernel_rfl) (by kernel_rfl) (by kernel_rfl) rfl (fun _ _ _ h => h) (fun _ _ => by kernel_rfl) (by exact hS) ?_
    simp only [Act.put, List.setIfInBounds_toArray, List.set_cons_succ, List.set_cons_zero]
    refine wpAnyH_take_d 18 (some 54) (.bool true) rfl (by kernel_rfl) (by kernel_rfl) (by kernel_rfl) (by kernel_rfl) rfl (fun _ _ _ h => h) (fun _ _ => ex_seq rfl rfl rfl htt) (by exact hS) ?_
    simp only [Act.put, List.setIfInBounds_toArray, List.set_cons_succ, List.set_cons_zero]
    refine wpAnyH_take_d 19 (some 55) (.bool true) rfl (by kernel_rfl) (by kernel_rfl) (by kernel_rfl) (by kernel_rfl) rfl (fun _ _ _ h => h) (fun _ _ => by kernel_rfl) (by exact hS) ?_
    simp only [Act.put, List.setIfInBounds_toArray, List.set_cons_succ, List.set_cons_zero]
    refine wpAnyH_take_d 20 (some 56) (.bool true) rfl (by kernel_rfl) (by kernel_rfl) (by kernel_rfl) (by kernel_rfl) rfl (fun _ _ _ h => h) (fun _ _ => by kernel_rfl) (by exact hS) ?_
    simp only [Act.put, List.setIfInBounds_toArray, List.set_cons_succ, List.set_cons_zero]
    refine wpAnyH_take_d 21 (some 57) (.int .i64 E) rfl (by kernel_rfl) (by kernel_rfl) (by kernel_rfl) (by kernel_rfl) rfl (fun _ _ _ h => h) (fun _ _ => by kernel_rfl) (by exact hS) ?_
    simp only [Act.put, List.setIfInBounds_toArray, List.set_cons_succ, List.set_cons_zero]
    refine wpAnyH_take_d 22 (some 58) (.int .i64 E) rfl (by kernel_rfl) (by kernel_rfl) (by kernel_rfl) (by kernel_rfl) rfl (fun _ _ _ h => h) (fun _ _ => by kernel_rfl) (by exact hS) ?_
    simp only [Act.put, List.setIfInBounds_toArray, List.set_cons_succ, List.set_cons_zero]
    refine wpAnyH_take_d 23 (some 59) (.bool true) rfl (by kernel_rfl) (by kernel_rfl) (by kernel_rfl) (by kernel_rfl) rfl (fun _ _ _ h => h) (fun _ _ => ex_eq rfl rfl rfl hee) (by exact hS) ?_
    simp only [Act.put, List.setIfInBounds_toArray, List.set_cons_succ, List.set_cons_zero]
    refine wpAnyH_take_d 24 (some 60) (.bool true) rfl (by kernel_rfl) (by kernel_rfl) (by kernel_rfl) (by kernel_rfl) rfl (fun _ _ _ h => h) (fun _ _ => by kernel_rfl) (by exact hS) ?_
    simp only [Act.put, List.setIfInBounds_toArray, List.set_cons_succ, List.set_cons_zero]
    refine wpAnyH_take_d 25 (some 61) (.bool true) rfl (by kernel_rfl) (by kernel_rfl) (by kernel_rfl) (by kernel_rfl) rfl (fun _ _ _ h => h) (fun _ _ => by kernel_rfl) (by exact hS) ?_
    simp only [Act.put, List.setIfInBounds_toArray, List.set_cons_succ, List.set_cons_zero]
    refine wpAnyH_take_d 26 (some 62) (.agg #[.bool rl, .slice qa qm qc, .slice ra rm rc, .slice sa sm sc]) rfl (by kernel_rfl) (by kernel_rfl) (by kernel_rfl) (by kernel_rfl) rfl (fun _ _ _ h => h) (fun w' h => ex_row rfl rfl (RGA.out _ h) Try.underlying26 rfl (by kernel_rfl)) (by exact hS) ?_
    simp only [Act.put, List.setIfInBounds_toArray, List.set_cons_succ, List.set_cons_zero]
    refine wpAnyH_take_d 27 (some 63) (.agg #[.bool rl, .slice ta tm tc, .slice ua um uc, .slice xa xm xc]) rfl (by kernel_rfl) (by kernel_rfl) (by kernel_rfl) (by kernel_rfl) rfl (fun _ _ _ h => h) (fun w' h => ex_row rfl rfl (RGC.out _ h) Try.underlying32 rfl (by kernel_rfl)) (by exact hS) ?_
    simp only [Act.put, List.setIfInBounds_toArray, List.set_cons_succ, List.set_cons_zero]
    refine wpAnyH_call 28 (some 64) 23 #[.agg #[.bool rl, .slice ta tm tc, .slice ua um uc, .slice xa xm xc]] rfl (by kernel_rfl) (by kernel_rfl) rfl (by kernel_rfl) (BK.out _) ?_
    rintro e wx ⟨rfl, bx⟩
    have hS := Below.then hS bx (Nat.le_refl _)
    refine ⟨_, rfl, hS, ?_⟩
    simp only [Act.put, List.setIfInBounds_toArray, List.set_cons_succ, List.set_cons_zero]
    refine wpAnyH_call 29 (some 65) 22 #[.agg #[.bool rl, .slice qa qm qc, .slice ra rm rc, .slice sa sm sc], .agg #[.bool rl, .slice ta tm tc, .slice ua um uc, .slice xa xm xc]] rfl (by kernel_rfl) (by kernel_rfl) rfl (by kernel_rfl) (SM.out _ hS) ?_
    rintro e wx ⟨rfl, bx⟩
    have hS := Below.then hS bx (Nat.le_refl _)
    refine ⟨_, rfl, hS, ?_⟩
    simp only [Act.put, List.setIfInBounds_toArray, List.set_cons_succ, List.set_cons_zero]
    refine wpAnyH_take_d 30 (some 66) (.bool true) rfl (by kernel_rfl) (by kernel_rfl) (by kernel_rfl) (by kernel_rfl) rfl (fun _ _ _ h => h) (fun _ _ => by kernel_rfl) (by exact hS) ?_
    simp only [Act.put, List.setIfInBounds_toArray, List.set_cons_succ, List.set_cons_zero]
    refine wpAnyH_take_d 31 (some 67) (.bool true) rfl (by kernel_rfl) (by kernel_rfl) (by kernel_rfl) (by kernel_rfl) rfl (fun _ _ _ h => h) (fun _ _ => by kernel_rfl) (by exact hS) ?_
    simp only [Act.put, List.setIfInBounds_toArray, List.set_cons_succ, List.set_cons_zero]
    refine wpAnyH_take_d 32 (some 68) (.int .i64 DE) rfl (by kernel_rfl) (by kernel_rfl) (by kernel_rfl) (by kernel_rfl) rfl (fun _ _ _ h => h) (fun _ _ => by kernel_rfl) (by exact hS) ?_
    simp only [Act.put, List.setIfInBounds_toArray, List.set_cons_succ, List.set_cons_zero]
    refine wpAnyH_take_d 33 (some 69) (.int .i64 DE) rfl (by kernel_rfl) (by kernel_rfl) (by kernel_rfl) (by kernel_rfl) rfl (fun _ _ _ h => h) (fun _ _ => by kernel_rfl) (by exact hS) ?_
    simp only [Act.put, List.setIfInBounds_toArray, List.set_cons_succ, List.set_cons_zero]
    refine wpAnyH_take_d 34 (some 70) (.bool true) rfl (by kernel_rfl) (by kernel_rfl) (by kernel_rfl) (by kernel_rfl) rfl (fun _ _ _ h => h) (fun _ _ => ex_eq rfl rfl rfl hdd) (by exact hS) ?_
    simp only [Act.put, List.setIfInBounds_toArray, List.set_cons_succ, List.set_cons_zero]
    refine wpAnyH_take_d 35 (some 71) (.bool true) rfl (by kernel_rfl) (by kernel_rfl) (by kernel_rfl) (by kernel_rfl) rfl (fun _ _ _ h => h) (fun _ _ => by kernel_rfl) (by exact hS) ?_
    simp only [Act.put, List.setIfInBounds_toArray, List.set_cons_succ, List.set_cons_zero]
    refine wpAnyH_take_d 36 (some 4) (.bool true) rfl (by kernel_rfl) (by kernel_rfl) (by kernel_rfl) (by kernel_rfl) rfl (fun _ _ _ h => h) (fun _ _ => by kernel_rfl) (by exact hS) ?_
    simp only [Act.put, List.setIfInBounds_toArray, List.set_cons_succ, List.set_cons_zero]
    refine wpAnyH_done (by kernel_rfl) ?_ _
    have hb := B9.trans (hS.mono B9.size)
    clear hS RGA RGC RGZ SM BK OF9 CK RT SZ RS
    go_wp2
    go_ret
    exact ⟨rfl, hb⟩
  · rw [hk] at CK RT
    have CK : Hid (∀ (w' : World) (v' : Value), NdAt w'.heap.size w' v' z0 → Calls Try.prog 18 #[v'] w' fun e w1 => e = .returned (.int .i64 0) ∧ Below w'.heap.size w' w1) := CK
    have hS := (Below.refl w9.heap.size w9).drew
    refine wp_region_held_drew (S := fun w' => Below w9.heap.size w9 w') mixed hS (fun _ => ?_)
    show wpAnyH _ _ _ _ _ 37 (Array.replicate 37 false) _ _
    refine wpAnyH_take_d 0 (some 36) (.agg #[.bool lf, .slice pa pm pc, .slice ka km kc, .slice ia im ic]) rfl (by kernel_rfl) (by kernel_rfl) (by kernel_rfl) (by kernel_rfl) rfl (fun _ _ _ h => h) (fun w' h => ex_row rfl rfl (RGZ.out _ h) Try.underlying26 rfl (by kernel_rfl)) (by exact hS) ?_
    simp only [Act.put, List.setIfInBounds_toArray, List.set_cons_succ, List.set_cons_zero]
    refine wpAnyH_take_d 4 (some 40) (.agg #[.bool lf, .slice pa pm pc, .slice ka km kc, .slice ia im ic]) rfl (by kernel_rfl) (by kernel_rfl) (by kernel_rfl) (by kernel_rfl) rfl (fun _ _ _ h => h) (fun w' h => ex_row rfl rfl (RGZ.out _ h) Try.underlying26 rfl (by kernel_rfl)) (by exact hS) ?_
    simp only [Act.put, List.setIfInBounds_toArray, List.set_cons_succ, List.set_cons_zero]
    refine wpAnyH_call 1 (some 37) 15 #[.agg #[.bool lf, .slice pa pm pc, .slice ka km kc, .slice ia im ic]] rfl (by kernel_rfl) (by kernel_rfl) rfl (by kernel_rfl) (OF9.out _ hS) ?_
    rintro e wx ⟨v10, rfl, n10, bx⟩
    have hS := Below.then hS bx (Nat.le_refl _)
    refine ⟨_, rfl, hS, ?_⟩
    simp only [Act.put, List.setIfInBounds_toArray, List.set_cons_succ, List.set_cons_zero]
    refine wpAnyH_call 2 (some 38) 18 #[v10] rfl (by kernel_rfl) (by kernel_rfl) rfl (by kernel_rfl) (CK.out _ _ n10) ?_
    rintro e wx ⟨rfl, bx⟩
    have hS := Below.then hS bx (Nat.le_refl _)
    refine ⟨_, rfl, hS, ?_⟩
    simp only [Act.put, List.setIfInBounds_toArray, List.set_cons_succ, List.set_cons_zero]
    refine wpAnyH_take_d 3 (some 39) (.bool true) rfl (by kernel_rfl) (by kernel_rfl) (by kernel_rfl) (by kernel_rfl) rfl (fun _ _ _ h => h) (fun _ _ => by kernel_rfl) (by exact hS) ?_
    simp only [Act.put, List.setIfInBounds_toArray, List.set_cons_succ, List.set_cons_zero]
    refine wpAnyH_call 5 (some 41) 19 #[.agg #[.bool lf, .slice pa pm pc, .slice ka km kc, .slice ia im ic]] rfl (by kernel_rfl) (by kernel_rfl) rfl (by kernel_rfl) (RT.out _ hS) ?_
    rintro e wx ⟨rfl, bx⟩
    have hS := Below.then hS bx (Nat.le_refl _)
    refine ⟨_, rfl, hS, ?_⟩
    simp only [Act.put, List.setIfInBounds_toArray, List.set_cons_succ, List.set_cons_zero]
    refine wpAnyH_take_d 6 (some 42) (.bool true) rfl (by kernel_rfl) (by kernel_rfl) (by kernel_rfl) (by kernel_rfl) rfl (fun _ _ _ h => h) (fun _ _ => by kernel_rfl) (by exact hS) ?_
    simp only [Act.put, List.setIfInBounds_toArray, List.set_cons_succ, List.set_cons_zero]
    refine wpAnyH_take_d 7 (some 43) (.bool true) rfl (by kernel_rfl) (by kernel_rfl) (by kernel_rfl) (by kernel_rfl) rfl (fun _ _ _ h => h) (fun _ _ => by kernel_rfl) (by exact hS) ?_
    simp only [Act.put, List.setIfInBounds_toArray, List.set_cons_succ, List.set_cons_zero]
    refine wpAnyH_take_d 8 (some 44) (.agg #[.bool lf, .slice pa pm pc, .slice ka km kc, .slice ia im ic]) rfl (by kernel_rfl) (by kernel_rfl) (by kernel_rfl) (by kernel_rfl) rfl (fun _ _ _ h => h) (fun w' h => ex_row rfl rfl (RGZ.out _ h) Try.underlying26 rfl (by kernel_rfl)) (by exact hS) ?_
    simp only [Act.put, List.setIfInBounds_toArray, List.set_cons_succ, List.set_cons_zero]
    refine wpAnyH_take_d 11 (some 47) (.agg #[.bool lf, .slice pa pm pc, .slice ka km kc, .slice ia im ic]) rfl (by kernel_rfl) (by kernel_rfl) (by kernel_rfl) (by kernel_rfl) rfl (fun _ _ _ h => h) (fun w' h => ex_row rfl rfl (RGZ.out _ h) Try.underlying26 rfl (by kernel_rfl)) (by exact hS) ?_
    simp only [Act.put, List.setIfInBounds_toArray, List.set_cons_succ, List.set_cons_zero]
    refine wpAnyH_call 9 (some 45) 15 #[.agg #[.bool lf, .slice pa pm pc, .slice ka km kc, .slice ia im ic]] rfl (by kernel_rfl) (by kernel_rfl) rfl (by kernel_rfl) (OF9.out _ hS) ?_
    rintro e wx ⟨v11, rfl, n11, bx⟩
    have hS := Below.then hS bx (Nat.le_refl _)
    refine ⟨_, rfl, hS, ?_⟩
    simp only [Act.put, List.setIfInBounds_toArray, List.set_cons_succ, List.set_cons_zero]
    refine wpAnyH_call 10 (some 46) 20 #[v11] rfl (by kernel_rfl) (by kernel_rfl) rfl (by kernel_rfl) (SZ.out _ _ n11) ?_
    rintro e wx ⟨rfl, bx⟩
    have hS := Below.then hS bx (Nat.le_refl _)
    refine ⟨_, rfl, hS, ?_⟩
    simp only [Act.put, List.setIfInBounds_toArray, List.set_cons_succ, List.set_cons_zero]
    refine wpAnyH_call 12 (some 48) 21 #[.agg #[.bool lf, .slice pa pm pc, .slice ka km kc, .slice ia im ic]] rfl (by kernel_rfl) (by kernel_rfl) rfl (by kernel_rfl) (RS.out _ hS) ?_
    rintro e wx ⟨rfl, bx⟩
    have hS := Below.then hS bx (Nat.le_refl _)
    refine ⟨_, rfl, hS, ?_⟩
    simp only [Act.put, List.setIfInBounds_toArray, List.set_cons_succ, List.set_cons_zero]
    refine wpAnyH_take_d 13 (some 49) (.bool true) rfl (by kernel_rfl) (by kernel_rfl) (by kernel_rfl) (by kernel_rfl) rfl (fun _ _ _ h => h) (fun _ _ => ex_eq rfl rfl rfl hss) (by exact hS) ?_
    simp only [Act.put, List.setIfInBounds_toArray, List.set_cons_succ, List.set_cons_zero]
    refine wpAnyH_take_d 14 (some 50) (.bool true) rfl (by kernel_rfl) (by kernel_rfl) (by kernel_rfl) (by kernel_rfl) rfl (fun _ _ _ h => h) (fun _ _ => by kernel_rfl) (by exact hS) ?_
    simp only [Act.put, List.setIfInBounds_toArray, List.set_cons_succ, List.set_cons_zero]
    refine wpAnyH_take_d 15 (some 51) (.bool true) rfl (by kernel_rfl) (by kernel_rfl) (by kernel_rfl) (by kernel_rfl) rfl (fun _ _ _ h => h) (fun _ _ => by kernel_rfl) (by exact hS) ?_
    simp only [Act.put, List.setIfInBounds_toArray, List.set_cons_succ, List.set_cons_zero]
    refine wpAnyH_take_d 16 (some 52) (.string T) rfl (by kernel_rfl) (by kernel_rfl) (by kernel_rfl) (by kernel_rfl) rfl (fun _ _ _ h => h) (fun _ _ => by kernel_rfl) (by exact hS) ?_
    simp only [Act.put, List.setIfInBounds_toArray, List.set_cons_succ, List.set_cons_zero]
    refine wpAnyH_take_d 17 (some 53) (.string T) rfl (by kernel_rfl) (by kernel_rfl) (by kernel_rfl) (by kernel_rfl) rfl (fun _ _ _ h => h) (fun _ _ => by kernel_rfl) (by exact hS) ?_
    simp only [Act.put, List.setIfInBounds_toArray, List.set_cons_succ, List.set_cons_zero]
    refine wpAnyH_take_d 18 (some 54) (.bool true) rfl (by kernel_rfl) (by kernel_rfl) (by kernel_rfl) (by kernel_rfl) rfl (fun _ _ _ h => h) (fun _ _ => ex_seq rfl rfl rfl htt) (by exact hS) ?_
    simp only [Act.put, List.setIfInBounds_toArray, List.set_cons_succ, List.set_cons_zero]
    refine wpAnyH_take_d 19 (some 55) (.bool true) rfl (by kernel_rfl) (by kernel_rfl) (by kernel_rfl) (by kernel_rfl) rfl (fun _ _ _ h => h) (fun _ _ => by kernel_rfl) (by exact hS) ?_
    simp only [Act.put, List.setIfInBounds_toArray, List.set_cons_succ, List.set_cons_zero]
    refine wpAnyH_take_d 20 (some 56) (.bool true) rfl (by kernel_rfl) (by kernel_rfl) (by kernel_rfl) (by kernel_rfl) rfl (fun _ _ _ h => h) (fun _ _ => by kernel_rfl) (by exact hS) ?_
    simp only [Act.put, List.setIfInBounds_toArray, List.set_cons_succ, List.set_cons_zero]
    refine wpAnyH_take_d 21 (some 57) (.int .i64 E) rfl (by kernel_rfl) (by kernel_rfl) (by kernel_rfl) (by kernel_rfl) rfl (fun _ _ _ h => h) (fun _ _ => by kernel_rfl) (by exact hS) ?_
    simp only [Act.put, List.setIfInBounds_toArray, List.set_cons_succ, List.set_cons_zero]
    refine wpAnyH_take_d 22 (some 58) (.int .i64 E) rfl (by kernel_rfl) (by kernel_rfl) (by kernel_rfl) (by kernel_rfl) rfl (fun _ _ _ h => h) (fun _ _ => by kernel_rfl) (by exact hS) ?_
    simp only [Act.put, List.setIfInBounds_toArray, List.set_cons_succ, List.set_cons_zero]
    refine wpAnyH_take_d 23 (some 59) (.bool true) rfl (by kernel_rfl) (by kernel_rfl) (by kernel_rfl) (by kernel_rfl) rfl (fun _ _ _ h => h) (fun _ _ => ex_eq rfl rfl rfl hee) (by exact hS) ?_
    simp only [Act.put, List.setIfInBounds_toArray, List.set_cons_succ, List.set_cons_zero]
    refine wpAnyH_take_d 24 (some 60) (.bool true) rfl (by kernel_rfl) (by kernel_rfl) (by kernel_rfl) (by kernel_rfl) rfl (fun _ _ _ h => h) (fun _ _ => by kernel_rfl) (by exact hS) ?_
    simp only [Act.put, List.setIfInBounds_toArray, List.set_cons_succ, List.set_cons_zero]
    refine wpAnyH_take_d 25 (some 61) (.bool true) rfl (by kernel_rfl) (by kernel_rfl) (by kernel_rfl) (by kernel_rfl) rfl (fun _ _ _ h => h) (fun _ _ => by kernel_rfl) (by exact hS) ?_
    simp only [Act.put, List.setIfInBounds_toArray, List.set_cons_succ, List.set_cons_zero]
    refine wpAnyH_take_d 26 (some 62) (.agg #[.bool rl, .slice qa qm qc, .slice ra rm rc, .slice sa sm sc]) rfl (by kernel_rfl) (by kernel_rfl) (by kernel_rfl) (by kernel_rfl) rfl (fun _ _ _ h => h) (fun w' h => ex_row rfl rfl (RGA.out _ h) Try.underlying26 rfl (by kernel_rfl)) (by exact hS) ?_
    simp only [Act.put, List.setIfInBounds_toArray, List.set_cons_succ, List.set_cons_zero]
    refine wpAnyH_take_d 27 (some 63) (.agg #[.bool rl, .slice ta tm tc, .slice ua um uc, .slice xa xm xc]) rfl (by kernel_rfl) (by kernel_rfl) (by kernel_rfl) (by kernel_rfl) rfl (fun _ _ _ h => h) (fun w' h => ex_row rfl rfl (RGC.out _ h) Try.underlying32 rfl (by kernel_rfl)) (by exact hS) ?_
    simp only [Act.put, List.setIfInBounds_toArray, List.set_cons_succ, List.set_cons_zero]
    refine wpAnyH_call 28 (some 64) 23 #[.agg #[.bool rl, .slice ta tm tc, .slice ua um uc, .slice xa xm xc]] rfl (by kernel_rfl) (by kernel_rfl) rfl (by kernel_rfl) (BK.out _) ?_
    rintro e wx ⟨rfl, bx⟩
    have hS := Below.then hS bx (Nat.le_refl _)
    refine ⟨_, rfl, hS, ?_⟩
    simp only [Act.put, List.setIfInBounds_toArray, List.set_cons_succ, List.set_cons_zero]
    refine wpAnyH_call 29 (some 65) 22 #[.agg #[.bool rl, .slice qa qm qc, .slice ra rm rc, .slice sa sm sc], .agg #[.bool rl, .slice ta tm tc, .slice ua um uc, .slice xa xm xc]] rfl (by kernel_rfl) (by kernel_rfl) rfl (by kernel_rfl) (SM.out _ hS) ?_
    rintro e wx ⟨rfl, bx⟩
    have hS := Below.then hS bx (Nat.le_refl _)
    refine ⟨_, rfl, hS, ?_⟩
    simp only [Act.put, List.setIfInBounds_toArray, List.set_cons_succ, List.set_cons_zero]
    refine wpAnyH_take_d 30 (some 66) (.bool true) rfl (by kernel_rfl) (by kernel_rfl) (by kernel_rfl) (by kernel_rfl) rfl (fun _ _ _ h => h) (fun _ _ => by kernel_rfl) (by exact hS) ?_
    simp only [Act.put, List.setIfInBounds_toArray, List.set_cons_succ, List.set_cons_zero]
    refine wpAnyH_take_d 31 (some 67) (.bool true) rfl (by kernel_rfl) (by kernel_rfl) (by kernel_rfl) (by kernel_rfl) rfl (fun _ _ _ h => h) (fun _ _ => by kernel_rfl) (by exact hS) ?_
    simp only [Act.put, List.setIfInBounds_toArray, List.set_cons_succ, List.set_cons_zero]
    refine wpAnyH_take_d 32 (some 68) (.int .i64 DE) rfl (by kernel_rfl) (by kernel_rfl) (by kernel_rfl) (by kernel_rfl) rfl (fun _ _ _ h => h) (fun _ _ => by kernel_rfl) (by exact hS) ?_
    simp only [Act.put, List.setIfInBounds_toArray, List.set_cons_succ, List.set_cons_zero]
    refine wpAnyH_take_d 33 (some 69) (.int .i64 DE) rfl (by kernel_rfl) (by kernel_rfl) (by kernel_rfl) (by kernel_rfl) rfl (fun _ _ _ h => h) (fun _ _ => by kernel_rfl) (by exact hS) ?_
    simp only [Act.put, List.setIfInBounds_toArray, List.set_cons_succ, List.set_cons_zero]
    refine wpAnyH_take_d 34 (some 70) (.bool true) rfl (by kernel_rfl) (by kernel_rfl) (by kernel_rfl) (by kernel_rfl) rfl (fun _ _ _ h => h) (fun _ _ => ex_eq rfl rfl rfl hdd) (by exact hS) ?_
    simp only [Act.put, List.setIfInBounds_toArray, List.set_cons_succ, List.set_cons_zero]
    refine wpAnyH_take_d 35 (some 71) (.bool true) rfl (by kernel_rfl) (by kernel_rfl) (by kernel_rfl) (by kernel_rfl) rfl (fun _ _ _ h => h) (fun _ _ => by kernel_rfl) (by exact hS) ?_
    simp only [Act.put, List.setIfInBounds_toArray, List.set_cons_succ, List.set_cons_zero]
    refine wpAnyH_take_d 36 (some 4) (.bool true) rfl (by kernel_rfl) (by kernel_rfl) (by kernel_rfl) (by kernel_rfl) rfl (fun _ _ _ h => h) (fun _ _ => by kernel_rfl) (by exact hS) ?_
    simp only [Act.put, List.setIfInBounds_toArray, List.set_cons_succ, List.set_cons_zero]
    refine wpAnyH_done (by kernel_rfl) ?_ _
    have hb := B9.trans (hS.mono B9.size)
    clear hS RGA RGC RGZ SM BK OF9 CK RT SZ RS
    go_wp2
    go_ret
    exact ⟨rfl, hb⟩

/-! ### the row -/
theorem laidOut : laidOutB Try.prog = true := by kernel_rfl
theorem bytesInt : Try.prog.bytesOf 3 = 8 := by kernel_rfl
set_option maxRecDepth 100000 in
theorem lifted (os : Os) (started : os.Started) (H : Type) (enc : TypeId × Value → H) :
    ReturnsInHanded {} Try.checked os 3 .any (Rows.nodePagesSpec.pre6 enc Try.prog Try.f3 Rows.nodePagesRow.domain false) (Rows.nodePagesSpec.post enc Try.prog Try.f3 false true false false) := by
  refine returnsInHanded_of_change_sized (C := Try.checked) own started (by kernel_rfl) Try.func3
    (ChangeSpec.witness6 (enc := enc) (C := Try.checked) false ⟨#[], #[.agg #[.bool false, .slice none 0 0, .slice none 0 0, .slice none 0 0], .string ByteArray.empty], []⟩ 8 (by kernel_rfl) (by kernel_rfl) (by kernel_rfl) (by kernel_rfl)) ?_
  intro W base args ds gs before hval0 hW hcnd hsz0 _
  have hval : ∀ (j : Nat) t v, Try.f3.params[j]? = some t → args[j]? = some v → Value.okWide Try.prog W .any base t v := hval0
  have hW' := hW
  obtain ⟨p, q, hA0, hV, rfl, hfz, hnd⟩ := hW
  have hA : DataW.TrodAll enc Try.prog W 0 (fun _ => true) true Try.f3.params.toList args.toList ds p := hA0
  have hsz : (DataW.weightsEach Try.prog (Try.f3.params.toList ++ Rows.nodePagesSpec.plain.varTypes Try.prog) (ds ++ gs)).all (· ≤ reachBytes) = true := hsz0
  rw [Try.params3] at hA hval hsz
  obtain ⟨v0, vs0, d0, ds0, p0, q0, hargs, rfl, rfl, h0, r0⟩ := trodAll_cons hA
  obtain ⟨v1, vs1, d1, ds1, p1, q1, rfl, rfl, rfl, h1, r1⟩ := trodAll_cons r0
  obtain ⟨rfl, rfl, rfl⟩ := trodAll_nil r1
  obtain rfl : args = #[v0, v1] := by cases args; simp_all
  obtain ⟨rfl, rfl⟩ := trodVars_none hV
  have k0 := h0
  have lt0 := args_lt k0
  obtain ⟨z0, w0⟩ := nd_arg (hval 0 26 v0 rfl rfl) (fun k hk => of_decide_eq_true (List.all_eq_true.1 hsz _ (DataW.weights_mem_each (j := 0) (t := 26) (d := d0) rfl rfl k hk))) h0
  obtain ⟨a1, rfl, rfl, rfl, w1⟩ := Go.ChangeMaps.open_string Try.underlying9 (hval 1 9 v1 rfl rfl) h1
  clear hA0 hval0 hsz0
  refine (walk v0 z0 a1 w1 W w0).mono fun e W' ⟨he, bel⟩ => ?_
  subst he
  exact ⟨_, rfl, _, _, _, [], _, [], hW', trodAll_mk1 (shut_bool Try.underlying4 _), (trodAll_cons_mk (Below.trod laidOut (by kernel_rfl) (of_decide_eq_true (by kernel_rfl)) k0 bel lt0) (trodAll_cons_mk (Go.ChangeMaps.shut_string Try.underlying9 w1) trodAll_mk0)), rfl, bel.frame _, fun h => by cases h⟩

theorem over : Rows.nodePagesRow.holds Try.pinned (OpenSpec.ofChange Rows.nodePagesSpec) :=
  OpenClaim.holds_of_wide 3 Try.f3 rfl rfl rfl rfl rfl rfl rfl ⟨rfl, rfl, rfl, rfl, rfl⟩ rfl rfl rfl rfl rfl (by kernel_rfl) Try.func3 (by kernel_rfl)
    (of_decide_eq_true (by kernel_rfl)) (by unfold Func.isWrapper; first | (rw [if_pos (by decide +kernel)]; kernel_rfl) | (rw [if_neg (by decide +kernel)]; exact ⟨rfl, rfl⟩))
    (fun os started H enc _ => lifted os started H enc)
end Go.Proofs.Ytjjdpclobkdbjaa.nodePages

namespace Go.Proofs.Ytjjdpclobkdbjaa
/-- The law returns true at every input. -/
theorem nodePages_holds : Rows.NodePagesSaid := nodePages.over
end Go.Proofs.Ytjjdpclobkdbjaa

