/- A node's page is decoded to the node, what is decoded is encoded to the same page: the law cisternlaw11.NodeInverse returns true at every input. No condition. -/
import Derived.Test.YtjjdpclobkdbjaaNDecode
import Derived.Test.YtjjdpclobkdbjaaNBack
namespace Go.Proofs.Ytjjdpclobkdbjaa.nodeInverse
set_option maxRecDepth 20000
open Go.RowKit Go.ChangeShapes Go.WideShapes Go.ChangeAt

theorem own : ownKnob Try.prog.godebug = none := by kernel_rfl
theorem enc_ok {n : Nd} (h : encE n = 0) : okN n = true ∧ sizN n ≤ 160 := by
  unfold encE at h
  cases hk : okN n
  · rw [hk] at h; simp at h
  · rw [hk] at h
    refine ⟨rfl, ?_⟩
    by_cases hb : 160 < sizN n
    · simp [hb] at h
    · omega
theorem enc_of {n : Nd} (h : okN n = true) (hs : sizN n ≤ 160) : encE n = 0 ∧ encS n = strOf (encN n) := by
  unfold encE encS
  rw [h, if_pos rfl, if_pos rfl, if_neg (by omega), if_neg (by omega)]
  exact ⟨rfl, rfl⟩
theorem dec_fwd {n : Nd} (h : encE n = 0) : decN (encS n) = (n, 0) := by
  obtain ⟨h1, h2⟩ := enc_ok h
  rw [(enc_of h1 h2).2]
  unfold decN
  rw [if_neg (by rw [strOf_size, encN_length]; omega), node_fwd h1, h1]
  simp
theorem dec_cases (s : ByteArray) : decN s = (.none, 2) ∨ ∃ n, decN s = (n, 0) ∧ encE n = 0 ∧ encS n = s ∧ n.small := by
  have hsm := node_small ⟨s, false⟩
  unfold decN
  by_cases hb : 160 < s.size
  · rw [if_pos hb]; exact .inl rfl
  · rw [if_neg hb]
    cases h1 : (nodeR ⟨s, false⟩).2.sh
    · by_cases h2 : (nodeR ⟨s, false⟩).2.s = ⟨#[]⟩
      · cases h3 : okN (nodeR ⟨s, false⟩).1
        · simp
        · have e := node_bwd (R := ⟨s, false⟩) h1 (by rw [h2]; rfl) h3
          have e' : s = strOf (encN (nodeR ⟨s, false⟩).1) := e
          have hs : sizN (nodeR ⟨s, false⟩).1 ≤ 160 := by
            rw [← encN_length, ← strOf_size, ← e']; omega
          obtain ⟨e1, e2⟩ := enc_of h3 hs
          exact .inr ⟨_, by simp [h2], e1, e2.trans e'.symm, hsm⟩
      · simp [h2]
    · simp
theorem range4 {w : World} {g : Nat} {lf : Bool} {pv kv iv : Value} (h : NdCells w g lf pv kv iv) : w.rangeAt g 0 [.bool lf, pv, kv, iv] := by
  intro j y hj
  match j, hj with
  | 0, hj => simp at hj; subst hj; exact h.c0
  | 1, hj => simp at hj; subst hj; exact h.c1
  | 2, hj => simp at hj; subst hj; exact h.c2
  | 3, hj => simp at hj; subst hj; exact h.c3
theorem own_form {base : Nat} {w : World} {v : Value} {n : Nd} (h : NdOwn base w v n) : ∃ pa pm pc ka km kc ia im ic, v = .agg #[.bool n.leaf, .slice pa pm pc, .slice ka km kc, .slice ia im ic] := by
  obtain ⟨pv, kv, iv, rfl, h1, h2, h3⟩ := h
  obtain ⟨pa, pm, pc, rfl⟩ := h1.slv
  obtain ⟨ka, km, kc, rfl⟩ := h2.slv
  obtain ⟨ia, im, ic, rfl⟩ := h3.slv
  exact ⟨_, _, _, _, _, _, _, _, _, rfl⟩
theorem cells_below {w w1 : World} {g : Nat} {lf : Bool} {pv kv iv : Value} (h : NdCells w g lf pv kv iv) (hg : g < w.heap.size) (hb : Below w.heap.size w w1) : NdCells w1 g lf pv kv iv :=
  ⟨(hb.cell (p := ⟨g, 0, none⟩) hg).trans h.c0, (hb.cell (p := ⟨g, 1, none⟩) hg).trans h.c1, (hb.cell (p := ⟨g, 2, none⟩) hg).trans h.c2, (hb.cell (p := ⟨g, 3, none⟩) hg).trans h.c3⟩
theorem check0 {w : World} {v : Value} {n : Nd} (h : NdAt w.heap.size w v n) (hk : okN n = true) : Calls Try.prog 18 #[v] w fun e w' => e = .returned (.int .i64 0) ∧ Below w.heap.size w w' := by
  have := check_any h
  rw [hk] at this
  exact this
theorem zero_rn (w : World) : (Instr.build 26 #[]).run Try.prog w = .ok (.agg #[.bool false, .slice none 0 0, .slice none 0 0, .slice none 0 0]) w := run_build w 26 _ _ (by kernel_rfl)
theorem none_at (w : World) : NdAt w.heap.size w (.agg #[.bool false, .slice none 0 0, .slice none 0 0, .slice none 0 0]) .none := (NdOwn.none 0 w).at ⟨by decide, by decide, by decide⟩
set_option maxHeartbeats 12800000 in
set_option maxRecDepth 400000 in
/-- from the second Decode on -/
theorem walk (v0 : Value) (z0 : Nd) (a1 : ByteArray) (_ : a1.size ≤ maxLen) (W : World) (w0 : NdArg W v0 z0) :
    Calls Try.prog 4 #[v0, .string a1] W fun e w' => e = .returned (.bool true) ∧ Below W.heap.size W w' := by
  obtain ⟨h0, -, -⟩ := w0
  have H0 := Lib.hid h0
  have OF := Lib.hid (fun w (hb : Below W.heap.size W w) => of_in h0 hb)
  have DS := Lib.hid (fun w => decode_any w a1)
  have DC := Lib.hid (dec_cases a1)
  generalize decN a1 = D at *
  have DT := Lib.hid (fun w => decode_any w (encS z0))
  have DF := Lib.hid (fun (h : encE z0 = 0) => dec_fwd h)
  have EO := Lib.hid (fun (h : encE z0 = 0) => enc_ok h)
  have EL := Lib.hid (show encE z0 = 0 → (encS z0).size = sizN z0 from fun h => by
    obtain ⟨h1, h2⟩ := enc_ok h
    rw [(enc_of h1 h2).2, strOf_size, encN_length])
  have EC := Lib.hid (fun (w : World) (v : Value) (a : NdAt w.heap.size w v z0) => encode_any a)
  generalize encS z0 = T at *
  generalize encE z0 = E at *
  obtain ⟨pv, kv, iv, rfl, h1, h2, h3⟩ := h0
  obtain ⟨pa, pm, pc, rfl, -⟩ := h1.form
  obtain ⟨ka, km, kc, rfl, -⟩ := h2.form
  obtain ⟨ia, im, ic, rfl, -⟩ := h3.form
  clear h1 h2 h3
  obtain ⟨lf, hlf⟩ : ∃ lf, z0.leaf = lf := ⟨_, rfl⟩
  have HLF := Lib.hid hlf
  rw [hlf] at H0 OF ⊢
  clear hlf
  have RB := Lib.hid (fun w1 b => rbox_facts (W := W) (lf := lf) (pv := .slice pa pm pc) (kv := .slice ka km kc) (iv := .slice ia im ic) (w1 := w1) b)
  have b0 : Below (W.heap.size + 1) (W.alloc (rbO lf (.slice pa pm pc) (.slice ka km kc) (.slice ia im ic))) (W.alloc (rbO lf (.slice pa pm pc) (.slice ka km kc) (.slice ia im ic))) := Below.refl _ _
  have hz0 : W.heap.size + 1 ≤ (W.alloc (rbO lf (.slice pa pm pc) (.slice ka km kc) (.slice ia im ic))).heap.size := by simp
  have HZ0 := Lib.hid hz0
  clear hz0
  go_enter Try.func4, Try.ntmps4
  go_wp2_with fail
  refine Calls.mono (nknown_any _) ?_
  rintro e w1 ⟨rfl, c1⟩
  have b1 := Below.thenB b0 c1 HZ0.out
  obtain ⟨⟨q0, q1, q2, q3⟩, B1, s1⟩ := RB.out w1 b1
  clear c1 b0
  go_wp2_with fail
  refine Calls.mono (OF.out _ B1) ?_
  rintro e w2 ⟨v2, rfl, n2, c2⟩
  have b2 := Below.thenB b1 c2 s1
  obtain ⟨-, B2, s2⟩ := RB.out w2 b2
  have ec := EC.out _ _ n2
  clear b1 B1 s1 c2 n2 q0 q1 q2 q3
  go_wp2_with fail
  refine Calls.mono ec ?_
  rintro e w3 ⟨rfl, c3⟩
  have b3 := Below.thenB b2 c3 s2
  obtain ⟨⟨q0, q1, q2, q3⟩, B3, s3⟩ := RB.out w3 b3
  clear b2 B2 s2 c3 ec EC
  by_cases he : E = 0
  · have dt := DT.out w3
    rw [DF.out he] at dt
    obtain ⟨hk, hs160⟩ := EO.out he
    have hel := EL.out he
    subst he
    clear DT DF EO EL
    go_wp2_with fail
    refine Calls.mono dt ?_
    rintro e w4 ⟨v4, rfl, o4, c4⟩
    obtain ⟨ta, tm, tc, ua, um, uc, xa, xm, xc, rfl⟩ := own_form o4
    have b4 := Below.thenB b3 c4 s3
    obtain ⟨⟨q0, q1, q2, q3⟩, B4, s4⟩ := RB.out w4 b4
    have HO4 := Lib.hid o4
    have hg := heap_alloc_new w4 zNdO
    have c5' := below_new w4 zNdO
    clear b3 B3 s3 c4 o4 dt
    rw [HLF.out] at HO4 ⊢
    go_wp2_with (with_reducible refine wpList_store_nd rfl (.tmp 7) (.tmp 24) rfl w4.heap.size lf (.slice ta tm tc) (.slice ua um uc) (.slice xa xm xc) rfl rfl #[.bool false, .slice none 0 0, .slice none 0 0, .slice none 0 0] hg rfl (.mk _ _ _) (.mk _ _ _) (.mk _ _ _) c5' (Nat.le_refl _) ?_)
    rintro w5 hA gA c5 -
    have b5 := b4.trans (c5.mono s4)
    obtain ⟨⟨q0, q1, q2, q3⟩, B5, s5⟩ := RB.out w5 b5
    have hAs : w4.heap.size < w5.heap.size := World.block_lt_of_cell? _ _ hA.c0
    have NA := Lib.hid ((HO4.out.below c5).at (ok_small hk))
    have NZ := Lib.hid ((H0.out.below B5).more B5.size)
    generalize w4.heap.size = A at *
    have RGA := Lib.hid (fun w' (h : Below w5.heap.size w5 w') => range4 (cells_below hA hAs h))
    have RGZ := Lib.hid (fun w' (h : Below w5.heap.size w5 w') => range4 (RB.out w' (Below.thenB b5 h s5)).1)
    have BK := Lib.hid (fun (w' : World) => back_any (w := w') (lf := lf) (.mk ta tm tc) (.mk ua um uc) (.mk xa xm xc))
    have SM := Lib.hid (fun w' (h : Below w5.heap.size w5 w') => same_any ((NA.out.below h).more h.size) ((NZ.out.below h).more h.size))
    have OF5 := Lib.hid (fun w' (h : Below w5.heap.size w5 w') => OF.out w' (B5.trans (h.mono B5.size)))
    have SZ := Lib.hid (fun (w' : World) (v' : Value) (a : NdAt w'.heap.size w' v' z0) => size_ok a hk)
    have CK := Lib.hid (fun (w' : World) (v' : Value) (a : NdAt w'.heap.size w' v' z0) => check0 a hk)
    obtain ⟨S, hSz⟩ : ∃ S, sizN z0 = S := ⟨_, rfl⟩
    rw [hSz] at hel SZ
    clear hSz hk hs160
    have hne : ((T.size : Int) != (S : Int)) = false := by rw [hel]; simp
    clear b4 B4 s4 c5' c5 hg gA hA HO4 q0 q1 q2 q3 hel
    go_wp2_with fail
    have hS := (Below.refl w5.heap.size w5).drew
    refine wp_region_held_drew (S := fun w' => Below w5.heap.size w5 w') mixed hS (fun _ => ?_)
    show wpAnyH _ _ _ _ _ 23 (Array.replicate 23 false) _ _
    refine wpAnyH_take_d 0 (some 26) (.int .i64 0) rfl (by kernel_rfl) (by kernel_rfl) (by kernel_rfl) (by kernel_rfl) rfl (fun _ _ _ h => h) (fun _ _ => by kernel_rfl) (by exact hS) ?_
    simp only [Act.put, List.setIfInBounds_toArray, List.set_cons_succ, List.set_cons_zero]
    refine wpAnyH_take_d 1 (some 27) (.bool false) rfl (by kernel_rfl) (by kernel_rfl) (by kernel_rfl) (by kernel_rfl) rfl (fun _ _ _ h => h) (fun _ _ => by kernel_rfl) (by exact hS) ?_
    simp only [Act.put, List.setIfInBounds_toArray, List.set_cons_succ, List.set_cons_zero]
    refine wpAnyH_take_d 2 (some 28) (.bool false) rfl (by kernel_rfl) (by kernel_rfl) (by kernel_rfl) (by kernel_rfl) rfl (fun _ _ _ h => h) (fun _ _ => by kernel_rfl) (by exact hS) ?_
    simp only [Act.put, List.setIfInBounds_toArray, List.set_cons_succ, List.set_cons_zero]
    refine wpAnyH_take_d 3 (some 29) (.agg #[.bool lf, .slice ta tm tc, .slice ua um uc, .slice xa xm xc]) rfl (by kernel_rfl) (by kernel_rfl) (by kernel_rfl) (by kernel_rfl) rfl (fun _ _ _ h => h) (fun w' h => ex_row rfl rfl (RGA.out _ h) Try.underlying32 rfl (by kernel_rfl)) (by exact hS) ?_
    simp only [Act.put, List.setIfInBounds_toArray, List.set_cons_succ, List.set_cons_zero]
    refine wpAnyH_take_d 5 (some 31) (.agg #[.bool lf, .slice pa pm pc, .slice ka km kc, .slice ia im ic]) rfl (by kernel_rfl) (by kernel_rfl) (by kernel_rfl) (by kernel_rfl) rfl (fun _ _ _ h => h) (fun w' h => ex_row rfl rfl (RGZ.out _ h) Try.underlying26 rfl (by kernel_rfl)) (by exact hS) ?_
    simp only [Act.put, List.setIfInBounds_toArray, List.set_cons_succ, List.set_cons_zero]
    refine wpAnyH_call 4 (some 30) 23 #[.agg #[.bool lf, .slice ta tm tc, .slice ua um uc, .slice xa xm xc]] rfl (by kernel_rfl) (by kernel_rfl) rfl (by kernel_rfl) (BK.out _) ?_
    rintro e wx ⟨rfl, bx⟩
    have hS := Below.then hS bx (Nat.le_refl _)
    refine ⟨_, rfl, hS, ?_⟩
    simp only [Act.put, List.setIfInBounds_toArray, List.set_cons_succ, List.set_cons_zero]
    refine wpAnyH_call 6 (some 32) 22 #[.agg #[.bool lf, .slice ta tm tc, .slice ua um uc, .slice xa xm xc], .agg #[.bool lf, .slice pa pm pc, .slice ka km kc, .slice ia im ic]] rfl (by kernel_rfl) (by kernel_rfl) rfl (by kernel_rfl) (SM.out _ hS) ?_
    rintro e wx ⟨rfl, bx⟩
    have hS := Below.then hS bx (Nat.le_refl _)
    refine ⟨_, rfl, hS, ?_⟩
    simp only [Act.put, List.setIfInBounds_toArray, List.set_cons_succ, List.set_cons_zero]
    refine wpAnyH_take_d 7 (some 33) (.bool false) rfl (by kernel_rfl) (by kernel_rfl) (by kernel_rfl) (by kernel_rfl) rfl (fun _ _ _ h => h) (fun _ _ => by kernel_rfl) (by exact hS) ?_
    simp only [Act.put, List.setIfInBounds_toArray, List.set_cons_succ, List.set_cons_zero]
    refine wpAnyH_take_d 8 (some 34) (.bool false) rfl (by kernel_rfl) (by kernel_rfl) (by kernel_rfl) (by kernel_rfl) rfl (fun _ _ _ h => h) (fun _ _ => by kernel_rfl) (by exact hS) ?_
    simp only [Act.put, List.setIfInBounds_toArray, List.set_cons_succ, List.set_cons_zero]
    refine wpAnyH_take_d 9 (some 35) (.bool false) rfl (by kernel_rfl) (by kernel_rfl) (by kernel_rfl) (by kernel_rfl) rfl (fun _ _ _ h => h) (fun _ _ => by kernel_rfl) (by exact hS) ?_
    simp only [Act.put, List.setIfInBounds_toArray, List.set_cons_succ, List.set_cons_zero]
    refine wpAnyH_take_d 10 (some 36) (.string T) rfl (by kernel_rfl) (by kernel_rfl) (by kernel_rfl) (by kernel_rfl) rfl (fun _ _ _ h => h) (fun _ _ => by kernel_rfl) (by exact hS) ?_
    simp only [Act.put, List.setIfInBounds_toArray, List.set_cons_succ, List.set_cons_zero]
    refine wpAnyH_take_d 11 (some 37) (.int .i64 (T.size : Nat)) rfl (by kernel_rfl) (by kernel_rfl) (by kernel_rfl) (by kernel_rfl) rfl (fun _ _ _ h => h) (fun _ _ => ex_slen rfl rfl Try.underlying9) (by exact hS) ?_
    simp only [Act.put, List.setIfInBounds_toArray, List.set_cons_succ, List.set_cons_zero]
    refine wpAnyH_take_d 12 (some 38) (.agg #[.bool lf, .slice pa pm pc, .slice ka km kc, .slice ia im ic]) rfl (by kernel_rfl) (by kernel_rfl) (by kernel_rfl) (by kernel_rfl) rfl (fun _ _ _ h => h) (fun w' h => ex_row rfl rfl (RGZ.out _ h) Try.underlying26 rfl (by kernel_rfl)) (by exact hS) ?_
    simp only [Act.put, List.setIfInBounds_toArray, List.set_cons_succ, List.set_cons_zero]
    refine wpAnyH_call 13 (some 39) 15 #[.agg #[.bool lf, .slice pa pm pc, .slice ka km kc, .slice ia im ic]] rfl (by kernel_rfl) (by kernel_rfl) rfl (by kernel_rfl) (OF5.out _ hS) ?_
    rintro e wx ⟨v9, rfl, n9, bx⟩
    have hS := Below.then hS bx (Nat.le_refl _)
    refine ⟨_, rfl, hS, ?_⟩
    simp only [Act.put, List.setIfInBounds_toArray, List.set_cons_succ, List.set_cons_zero]
    refine wpAnyH_call 14 (some 40) 20 #[v9] rfl (by kernel_rfl) (by kernel_rfl) rfl (by kernel_rfl) (SZ.out _ _ n9) ?_
    rintro e wx ⟨rfl, bx⟩
    have hS := Below.then hS bx (Nat.le_refl _)
    refine ⟨_, rfl, hS, ?_⟩
    simp only [Act.put, List.setIfInBounds_toArray, List.set_cons_succ, List.set_cons_zero]
    refine wpAnyH_take_d 15 (some 41) (.bool false) rfl (by kernel_rfl) (by kernel_rfl) (by kernel_rfl) (by kernel_rfl) rfl (fun _ _ _ h => h) (fun _ _ => ex_ne rfl rfl rfl hne) (by exact hS) ?_
    simp only [Act.put, List.setIfInBounds_toArray, List.set_cons_succ, List.set_cons_zero]
    refine wpAnyH_take_d 16 (some 42) (.bool false) rfl (by kernel_rfl) (by kernel_rfl) (by kernel_rfl) (by kernel_rfl) rfl (fun _ _ _ h => h) (fun _ _ => by kernel_rfl) (by exact hS) ?_
    simp only [Act.put, List.setIfInBounds_toArray, List.set_cons_succ, List.set_cons_zero]
    refine wpAnyH_take_d 17 (some 43) (.bool false) rfl (by kernel_rfl) (by kernel_rfl) (by kernel_rfl) (by kernel_rfl) rfl (fun _ _ _ h => h) (fun _ _ => by kernel_rfl) (by exact hS) ?_
    simp only [Act.put, List.setIfInBounds_toArray, List.set_cons_succ, List.set_cons_zero]
    refine wpAnyH_take_d 18 (some 44) (.agg #[.bool lf, .slice pa pm pc, .slice ka km kc, .slice ia im ic]) rfl (by kernel_rfl) (by kernel_rfl) (by kernel_rfl) (by kernel_rfl) rfl (fun _ _ _ h => h) (fun w' h => ex_row rfl rfl (RGZ.out _ h) Try.underlying26 rfl (by kernel_rfl)) (by exact hS) ?_
    simp only [Act.put, List.setIfInBounds_toArray, List.set_cons_succ, List.set_cons_zero]
    refine wpAnyH_call 19 (some 45) 15 #[.agg #[.bool lf, .slice pa pm pc, .slice ka km kc, .slice ia im ic]] rfl (by kernel_rfl) (by kernel_rfl) rfl (by kernel_rfl) (OF5.out _ hS) ?_
    rintro e wx ⟨v10, rfl, n10, bx⟩
    have hS := Below.then hS bx (Nat.le_refl _)
    refine ⟨_, rfl, hS, ?_⟩
    simp only [Act.put, List.setIfInBounds_toArray, List.set_cons_succ, List.set_cons_zero]
    refine wpAnyH_call 20 (some 46) 18 #[v10] rfl (by kernel_rfl) (by kernel_rfl) rfl (by kernel_rfl) (CK.out _ _ n10) ?_
    rintro e wx ⟨rfl, bx⟩
    have hS := Below.then hS bx (Nat.le_refl _)
    refine ⟨_, rfl, hS, ?_⟩
    simp only [Act.put, List.setIfInBounds_toArray, List.set_cons_succ, List.set_cons_zero]
    refine wpAnyH_take_d 21 (some 47) (.bool false) rfl (by kernel_rfl) (by kernel_rfl) (by kernel_rfl) (by kernel_rfl) rfl (fun _ _ _ h => h) (fun _ _ => by kernel_rfl) (by exact hS) ?_
    simp only [Act.put, List.setIfInBounds_toArray, List.set_cons_succ, List.set_cons_zero]
    refine wpAnyH_take_d 22 (some 48) (.bool false) rfl (by kernel_rfl) (by kernel_rfl) (by kernel_rfl) (by kernel_rfl) rfl (fun _ _ _ h => h) (fun _ _ => by kernel_rfl) (by exact hS) ?_
    simp only [Act.put, List.setIfInBounds_toArray, List.set_cons_succ, List.set_cons_zero]
    refine wpAnyH_done (by kernel_rfl) ?_ _
    rename_i wx
    have BX := B5.trans (hS.mono B5.size)
    clear hS RGA RGZ NA NZ SM BK OF5 SZ CK hne b5 B5 s5 OF RB H0 HLF HZ0
    have ds := DS.out wx
    clear DS
    rcases DC.out with hd | ⟨n, hd, e1, e2, hsm⟩
    · rw [hd] at ds
      clear DC hd
      go_wp2_with fail
      refine Calls.mono ds ?_
      rintro e w11 ⟨v11, rfl, o11, c11⟩
      obtain ⟨ea, em, ec, fa, fm, fc, ga, gm, gc, rfl⟩ := own_form o11
      have HO := Lib.hid o11
      have B11 := BX.trans (c11.mono BX.size)
      have hg := heap_alloc_new w11 zNdO
      have c12 := below_new w11 zNdO
      clear ds o11 c11 BX
      go_wp2_with (with_reducible refine wpList_store_nd rfl (.tmp 9) (.tmp 52) rfl w11.heap.size false (.slice ea em ec) (.slice fa fm fc) (.slice ga gm gc) rfl rfl #[.bool false, .slice none 0 0, .slice none 0 0, .slice none 0 0] hg rfl (.mk _ _ _) (.mk _ _ _) (.mk _ _ _) c12 (Nat.le_refl _) ?_)
      rintro w12 ⟨s0, s1, s2, s3⟩ - b12 -
      have bk := back_any (w := w12) (lf := false) (.mk ea em ec) (.mk fa fm fc) (.mk ga gm gc)
      have NO := Lib.hid ((HO.out.below b12).at ⟨by decide, by decide, by decide⟩)
      have B12 := B11.trans (b12.mono B11.size)
      clear hg c12 b12 B11 HO
      go_wp2_with fail
      refine Calls.mono bk ?_
      rintro e w13 ⟨rfl, c13⟩
      have sm := same_any ((NO.out.below c13).more c13.size) (none_at w13)
      have bz := zero_rn w13
      have B13 := B12.trans (c13.mono B12.size)
      clear bk c13 B12 NO s0 s1 s2 s3
      go_wp2_with fail
      refine Calls.mono sm ?_
      rintro e w14 ⟨rfl, c14⟩
      have B14 := B13.trans (c14.mono B13.size)
      clear sm c14 B13 bz
      go_wp2
      go_ret
      exact ⟨rfl, B14⟩
    · rw [hd] at ds
      clear DC hd
      go_wp2_with fail
      refine Calls.mono ds ?_
      rintro e w11 ⟨v11, rfl, o11, c11⟩
      obtain ⟨ea, em, ec, fa, fm, fc, ga, gm, gc, rfl⟩ := own_form o11
      have HO := Lib.hid o11
      have B11 := BX.trans (c11.mono BX.size)
      have hg := heap_alloc_new w11 zNdO
      have c12 := below_new w11 zNdO
      clear ds o11 c11 BX
      obtain ⟨lg, hlg⟩ : ∃ l, n.leaf = l := ⟨_, rfl⟩
      simp only [hlg] at HO ⊢
      go_wp2_with (with_reducible refine wpList_store_nd rfl (.tmp 9) (.tmp 52) rfl w11.heap.size lg (.slice ea em ec) (.slice fa fm fc) (.slice ga gm gc) rfl rfl #[.bool false, .slice none 0 0, .slice none 0 0, .slice none 0 0] hg rfl (.mk _ _ _) (.mk _ _ _) (.mk _ _ _) c12 (Nat.le_refl _) ?_)
      rintro w12 ⟨s0, s1, s2, s3⟩ - b12 -
      have en := encode_any ((HO.out.below b12).at hsm)
      rw [e1, e2] at en
      have B12 := B11.trans (b12.mono B11.size)
      clear hg c12 b12 B11 HO e1 e2 hsm hlg
      go_wp2_with fail
      refine Calls.mono en ?_
      rintro e w13 ⟨rfl, c13⟩
      have B13 := B12.trans (c13.mono B12.size)
      clear en c13 B12 s0 s1 s2 s3
      go_wp2
      go_ret
      exact ⟨rfl, B13⟩
  · clear DT DF EO EL OF RB H0 HLF HZ0 b3 s3 q0 q1 q2 q3
    obtain ⟨wx, hwx⟩ : ∃ wx, w3 = wx := ⟨_, rfl⟩
    rw [hwx] at B3 ⊢
    have BX := B3
    clear B3 hwx
    have ds := DS.out wx
    clear DS
    rcases DC.out with hd | ⟨n, hd, e1, e2, hsm⟩
    · rw [hd] at ds
      clear DC hd
      go_wp2_with fail
      refine Calls.mono ds ?_
      rintro e w11 ⟨v11, rfl, o11, c11⟩
      obtain ⟨ea, em, ec, fa, fm, fc, ga, gm, gc, rfl⟩ := own_form o11
      have HO := Lib.hid o11
      have B11 := BX.trans (c11.mono BX.size)
      have hg := heap_alloc_new w11 zNdO
      have c12 := below_new w11 zNdO
      clear ds o11 c11 BX
      go_wp2_with (with_reducible refine wpList_store_nd rfl (.tmp 9) (.tmp 52) rfl w11.heap.size false (.slice ea em ec) (.slice fa fm fc) (.slice ga gm gc) rfl rfl #[.bool false, .slice none 0 0, .slice none 0 0, .slice none 0 0] hg rfl (.mk _ _ _) (.mk _ _ _) (.mk _ _ _) c12 (Nat.le_refl _) ?_)
      rintro w12 ⟨s0, s1, s2, s3⟩ - b12 -
      have bk := back_any (w := w12) (lf := false) (.mk ea em ec) (.mk fa fm fc) (.mk ga gm gc)
      have NO := Lib.hid ((HO.out.below b12).at ⟨by decide, by decide, by decide⟩)
      have B12 := B11.trans (b12.mono B11.size)
      clear hg c12 b12 B11 HO
      go_wp2_with fail
      refine Calls.mono bk ?_
      rintro e w13 ⟨rfl, c13⟩
      have sm := same_any ((NO.out.below c13).more c13.size) (none_at w13)
      have bz := zero_rn w13
      have B13 := B12.trans (c13.mono B12.size)
      clear bk c13 B12 NO s0 s1 s2 s3
      go_wp2_with fail
      refine Calls.mono sm ?_
      rintro e w14 ⟨rfl, c14⟩
      have B14 := B13.trans (c14.mono B13.size)
      clear sm c14 B13 bz
      go_wp2
      go_ret
      exact ⟨rfl, B14⟩
    · rw [hd] at ds
      clear DC hd
      go_wp2_with fail
      refine Calls.mono ds ?_
      rintro e w11 ⟨v11, rfl, o11, c11⟩
      obtain ⟨ea, em, ec, fa, fm, fc, ga, gm, gc, rfl⟩ := own_form o11
      have HO := Lib.hid o11
      have B11 := BX.trans (c11.mono BX.size)
      have hg := heap_alloc_new w11 zNdO
      have c12 := below_new w11 zNdO
      clear ds o11 c11 BX
      obtain ⟨lg, hlg⟩ : ∃ l, n.leaf = l := ⟨_, rfl⟩
      simp only [hlg] at HO ⊢
      go_wp2_with (with_reducible refine wpList_store_nd rfl (.tmp 9) (.tmp 52) rfl w11.heap.size lg (.slice ea em ec) (.slice fa fm fc) (.slice ga gm gc) rfl rfl #[.bool false, .slice none 0 0, .slice none 0 0, .slice none 0 0] hg rfl (.mk _ _ _) (.mk _ _ _) (.mk _ _ _) c12 (Nat.le_refl _) ?_)
      rintro w12 ⟨s0, s1, s2, s3⟩ - b12 -
      have en := encode_any ((HO.out.below b12).at hsm)
      rw [e1, e2] at en
      have B12 := B11.trans (b12.mono B11.size)
      clear hg c12 b12 B11 HO e1 e2 hsm hlg
      go_wp2_with fail
      refine Calls.mono en ?_
      rintro e w13 ⟨rfl, c13⟩
      have B13 := B12.trans (c13.mono B12.size)
      clear en c13 B12 s0 s1 s2 s3
      go_wp2
      go_ret
      exact ⟨rfl, B13⟩

/-! ### the row -/
theorem laidOut : laidOutB Try.prog = true := by kernel_rfl
theorem bytesInt : Try.prog.bytesOf 3 = 8 := by kernel_rfl
set_option maxRecDepth 100000 in
theorem lifted (os : Os) (started : os.Started) (H : Type) (enc : TypeId × Value → H) :
    ReturnsInHanded {} Try.checked os 4 .any (Rows.nodeInverseSpec.pre6 enc Try.prog Try.f4 Rows.nodeInverseRow.domain false) (Rows.nodeInverseSpec.post enc Try.prog Try.f4 false true false false) := by
  refine returnsInHanded_of_change_sized (C := Try.checked) own started (by kernel_rfl) Try.func4
    (ChangeSpec.witness6 (enc := enc) (C := Try.checked) false ⟨#[], #[.agg #[.bool false, .slice none 0 0, .slice none 0 0, .slice none 0 0], .string ByteArray.empty], []⟩ 8 (by kernel_rfl) (by kernel_rfl) (by kernel_rfl) (by kernel_rfl)) ?_
  intro W base args ds gs before hval0 hW hcnd hsz0 _
  have hval : ∀ (j : Nat) t v, Try.f4.params[j]? = some t → args[j]? = some v → Value.okWide Try.prog W .any base t v := hval0
  have hW' := hW
  obtain ⟨p, q, hA0, hV, rfl, hfz, hnd⟩ := hW
  have hA : DataW.TrodAll enc Try.prog W 0 (fun _ => true) true Try.f4.params.toList args.toList ds p := hA0
  have hsz : (DataW.weightsEach Try.prog (Try.f4.params.toList ++ Rows.nodeInverseSpec.plain.varTypes Try.prog) (ds ++ gs)).all (· ≤ reachBytes) = true := hsz0
  rw [Try.params4] at hA hval hsz
  obtain ⟨v0, vs0, d0, ds0, p0, q0, hargs, rfl, rfl, h0, r0⟩ := trodAll_cons hA
  obtain ⟨v1, vs1, d1, ds1, p1, q1, rfl, rfl, rfl, h1, r1⟩ := trodAll_cons r0
  obtain ⟨rfl, rfl, rfl⟩ := trodAll_nil r1
  obtain rfl : args = #[v0, v1] := by cases args; simp_all
  obtain ⟨rfl, rfl⟩ := trodVars_none hV
  have k0 := h0
  have lt0 := args_lt k0
  obtain ⟨z0, w0⟩ := nd_arg (hval 0 26 v0 rfl rfl) (fun k hk => of_decide_eq_true (List.all_eq_true.1 hsz _ (DataW.weights_mem_each (j := 0) (t := 26) (d := d0) rfl rfl k hk))) h0
  obtain ⟨a1, rfl, rfl, rfl, w1⟩ := Go.ChangeMaps.open_string Try.underlying9 (hval 1 9 v1 rfl rfl) h1
  clear hA0 hval0 hsz0
  refine (walk v0 z0 a1 w1 W w0).mono fun e W' ⟨he, bel⟩ => ?_
  subst he
  exact ⟨_, rfl, _, _, _, [], _, [], hW', trodAll_mk1 (shut_bool Try.underlying4 _), (trodAll_cons_mk (Below.trod laidOut (by kernel_rfl) (of_decide_eq_true (by kernel_rfl)) k0 bel lt0) (trodAll_cons_mk (Go.ChangeMaps.shut_string Try.underlying9 w1) trodAll_mk0)), rfl, bel.frame _, fun h => by cases h⟩

theorem over : Rows.nodeInverseRow.holds Try.pinned (OpenSpec.ofChange Rows.nodeInverseSpec) :=
  OpenClaim.holds_of_wide 4 Try.f4 rfl rfl rfl rfl rfl rfl rfl ⟨rfl, rfl, rfl, rfl, rfl⟩ rfl rfl rfl rfl rfl (by kernel_rfl) Try.func4 (by kernel_rfl)
    (of_decide_eq_true (by kernel_rfl)) (by unfold Func.isWrapper; first | (rw [if_pos (by decide +kernel)]; kernel_rfl) | (rw [if_neg (by decide +kernel)]; exact ⟨rfl, rfl⟩))
    (fun os started H enc _ => lifted os started H enc)
end Go.Proofs.Ytjjdpclobkdbjaa.nodeInverse

namespace Go.Proofs.Ytjjdpclobkdbjaa
/-- The law returns true at every input. -/
theorem nodeInverse_holds : Rows.NodeInverseSaid := nodeInverse.over
end Go.Proofs.Ytjjdpclobkdbjaa

