/- Both halves of a node are in form, smaller than the node, and the node again when they are merged, and the key parts them: the law cisternlaw11.NodeWhole returns true at every input. No condition. -/
import Derived.Test.YtdkmfcmndncmcaaNWhole0
import Derived.Test.YtdkmfcmndncmcaaNBack
import Derived.Test.YtdkmfcmndncmcaaNSame
namespace Go.Proofs.Ytdkmfcmndncmcaa.nodeWhole
set_option maxRecDepth 20000
open Go.RowKit Go.ChangeShapes Go.WideShapes Go.ChangeAt

theorem own : ownKnob Try.prog.godebug = none := by kernel_rfl
theorem own_form {base : Nat} {w : World} {v : Value} {n : Nd} (h : NdOwn base w v n) : ∃ pa pm pc ka km kc ia im ic, v = .agg #[.bool n.leaf, .slice pa pm pc, .slice ka km kc, .slice ia im ic] := by
  obtain ⟨pv, kv, iv, rfl, h1, h2, h3⟩ := h
  obtain ⟨pa, pm, pc, rfl⟩ := h1.slv
  obtain ⟨ka, km, kc, rfl⟩ := h2.slv
  obtain ⟨ia, im, ic, rfl⟩ := h3.slv
  exact ⟨_, _, _, _, _, _, _, _, _, rfl⟩
theorem cells_below {w w1 : World} {g : Nat} {lf : Bool} {pv kv iv : Value} (h : NdCells w g lf pv kv iv) (hg : g < w.heap.size) (hb : Below w.heap.size w w1) : NdCells w1 g lf pv kv iv :=
  ⟨(hb.cell (p := ⟨g, 0, none⟩) hg).trans h.c0, (hb.cell (p := ⟨g, 1, none⟩) hg).trans h.c1, (hb.cell (p := ⟨g, 2, none⟩) hg).trans h.c2, (hb.cell (p := ⟨g, 3, none⟩) hg).trans h.c3⟩
theorem check0 {w : World} {v : Value} {n : Nd} (h : NdAt w.heap.size w v n) (hk : okN n = true) : Calls Try.prog 18 #[v] w fun e w' => e = .returned (.int .i64 0) ∧ Below w.heap.size w w' := by
  have := check_any h
  rw [hk] at this
  exact this
theorem slFlen {α : Type} {E : El α} {B : Nat} {w : World} {a : Option Addr} {m c : Nat} {l : List α} (h : SlAt E B w (.slice a m c) l) : m = l.length := by
  obtain ⟨_, _, e, _⟩ := h
  injection e
theorem le_false {x key : ByteArray} (h : ltS key x = true) : (Op.bytesLess x.toList key.toList || x.toList == key.toList) = false := by
  have h1 : ltS x key = false := ltS_asymm h
  have h2 : (x.toList == key.toList) = false := by
    rw [beq_eq_false_iff_ne]
    intro e
    have h3 := ltS_irrefl key
    unfold ltS at h h3
    rw [e, h3] at h
    cases h
  show (ltS x key || _) = false
  rw [h1, h2]; rfl
set_option maxHeartbeats 12800000 in
set_option maxRecDepth 400000 in
theorem walk (v0 : Value) (z0 : Nd) (W : World) (w0 : NdArg W v0 z0) :
    Calls Try.prog 8 #[v0] W fun e w' => e = .returned (.bool true) ∧ Below W.heap.size W w' := by
  obtain ⟨h0, -, -⟩ := w0
  have H0 := Lib.hid h0
  have OF := Lib.hid (fun w (hb : Below W.heap.size W w) => of_in h0 hb)
  obtain ⟨pv, kv, iv, rfl, h1, h2, h3⟩ := h0
  obtain ⟨pa, pm, pc, rfl, -⟩ := h1.form
  obtain ⟨ka, km, kc, rfl, -⟩ := h2.form
  obtain ⟨ia, im, ic, rfl, -⟩ := h3.form
  clear h1 h2 h3
  obtain ⟨lf, hlf⟩ : ∃ lf, z0.leaf = lf := ⟨_, rfl⟩
  have HLF := Lib.hid hlf
  rw [hlf] at H0 OF ⊢
  clear hlf
  have RB := Lib.hid (fun w1 b => rbox_facts (W := W) (lf := lf) (pv := .slice pa pm pc) (kv := .slice ka km kc) (iv := .slice ia im ic) (w1 := w1) b)
  have b0 : Below (W.heap.size + 1) (W.alloc (rbO lf (.slice pa pm pc) (.slice ka km kc) (.slice ia im ic))) (W.alloc (rbO lf (.slice pa pm pc) (.slice ka km kc) (.slice ia im ic))) := Below.refl _ _
  have hz0 : W.heap.size + 1 ≤ (W.alloc (rbO lf (.slice pa pm pc) (.slice ka km kc) (.slice ia im ic))).heap.size := by simp
  have HZ0 := Lib.hid hz0
  clear hz0
  go_enter Try.func8, Try.ntmps8
  go_wp2_with fail
  refine Calls.mono (nknown_any _) ?_
  rintro e w1 ⟨rfl, c1⟩
  have b1 := Below.thenB b0 c1 HZ0.out
  obtain ⟨⟨q0, q1, q2, q3⟩, B1, s1⟩ := RB.out w1 b1
  clear c1 b0
  go_wp2_with fail
  refine Calls.mono (OF.out _ B1) ?_
  rintro e w2 ⟨v2, rfl, n2, c2⟩
  have b2 := Below.thenB b1 c2 s1
  obtain ⟨-, B2, s2⟩ := RB.out w2 b2
  have sp := split_any n2
  clear b1 B1 s1 c2 n2 q0 q1 q2 q3
  go_wp2_with fail
  refine Calls.mono sp ?_
  rintro e w3 hr
  rcases hr with ⟨er, her, v3, u3, rfl, oa, ob, c3⟩ | ⟨a, key, b, hh, v3, u3, rfl, oa, ob, c3⟩
  · have b3 := Below.thenB b2 c3 s2
    obtain ⟨-, B3, s3⟩ := RB.out w3 b3
    obtain ⟨ta, tm, tc, ua, um, uc, xa, xm, xc, rfl⟩ := own_form oa
    obtain ⟨ta2, tm2, tc2, ua2, um2, uc2, xa2, xm2, xc2, rfl⟩ := own_form ob
    have hg1 := heap_alloc_new w3 zNdO
    have hg2 := heap_alloc_new (w3.alloc zNdO) zNdO
    have hz1 : (w3.alloc zNdO).heap.size = w3.heap.size + 1 := by simp
    have hg1 : ((w3.alloc zNdO).alloc zNdO).heap[w3.heap.size]? = some zNdO := (Below.heap_alloc _ _ _ (by simp)).trans hg1
    rw [hz1] at hg2
    have c5 : Below w3.heap.size w3 ((w3.alloc zNdO).alloc zNdO) := (below_new _ _).trans ((below_new _ _).mono (by simp))
    have hlf0 : Nd.none.leaf = false := rfl
    rw [hlf0]
    clear hz1 oa ob b2 B2 s2 c3 sp hlf0
    go_wp2_with (with_reducible refine wpList_store_nd (a0 := w3) (B := w3.heap.size) rfl (.tmp 3) (.tmp 19) rfl w3.heap.size false (.slice ta tm tc) (.slice ua um uc) (.slice xa xm xc) rfl rfl #[.bool false, .slice none 0 0, .slice none 0 0, .slice none 0 0] hg1 rfl (.mk _ _ _) (.mk _ _ _) (.mk _ _ _) c5 (Nat.le_refl _) ?_)
    rintro w4 - gA c4 k4
    have hg2 := (k4 (w3.heap.size + 1) (by omega)).trans hg2
    go_wp2_with (with_reducible refine wpList_store_nd (a0 := w3) (B := w3.heap.size) rfl (.tmp 5) (.tmp 21) rfl (w3.heap.size + 1) false (.slice ta2 tm2 tc2) (.slice ua2 um2 uc2) (.slice xa2 xm2 xc2) rfl rfl #[.bool false, .slice none 0 0, .slice none 0 0, .slice none 0 0] hg2 rfl (.mk _ _ _) (.mk _ _ _) (.mk _ _ _) c4 (Nat.le_succ _) ?_)
    rintro w5 - gB c5' k5
    have B5 := B3.trans (c5'.mono B3.size)
    clear gA gB c4 k4 k5 hg1 hg2 c5 c5'
    rcases her with rfl | rfl
    · go_wp2
      go_ret
      exact ⟨rfl, B5⟩
    · go_wp2
      go_ret
      exact ⟨rfl, B5⟩
  · have b3 := Below.thenB b2 c3 s2
    obtain ⟨⟨q0, q1, q2, q3⟩, B3, s3⟩ := RB.out w3 b3
    obtain ⟨ta, tm, tc, ua, um, uc, xa, xm, xc, rfl⟩ := own_form oa
    obtain ⟨ta2, tm2, tc2, ua2, um2, uc2, xa2, xm2, xc2, rfl⟩ := own_form ob
    have HH := Lib.hid hh
    have na := oa.at (ok_small hh.oka)
    have nb := ob.at (ok_small hh.okb)
    have la := hh.la.trans HLF.out
    have lb := hh.lb.trans HLF.out
    rw [la] at na ⊢
    rw [lb] at nb ⊢
    have NA := Lib.hid na
    have NB := Lib.hid nb
    clear la lb na nb oa ob hh b2 B2 s2 c3 sp
    -- the two blocks
    have hg1 := heap_alloc_new w3 zNdO
    have hg2 := heap_alloc_new (w3.alloc zNdO) zNdO
    have hz1 : (w3.alloc zNdO).heap.size = w3.heap.size + 1 := by simp
    have hz2 : ((w3.alloc zNdO).alloc zNdO).heap.size = w3.heap.size + 2 := by simp
    have hg1 : ((w3.alloc zNdO).alloc zNdO).heap[w3.heap.size]? = some zNdO := (Below.heap_alloc _ _ _ (by simp)).trans hg1
    rw [hz1] at hg2
    have c5 : Below w3.heap.size w3 ((w3.alloc zNdO).alloc zNdO) := (below_new _ _).trans ((below_new _ _).mono (by simp))
    clear hz1
    go_wp2_with (with_reducible refine wpList_store_nd (a0 := w3) (B := w3.heap.size) rfl (.tmp 3) (.tmp 19) rfl w3.heap.size lf (.slice ta tm tc) (.slice ua um uc) (.slice xa xm xc) rfl rfl #[.bool false, .slice none 0 0, .slice none 0 0, .slice none 0 0] hg1 rfl (.mk _ _ _) (.mk _ _ _) (.mk _ _ _) c5 (Nat.le_refl _) ?_)
    rintro w4 - gA c4 k4
    have hg2 := (k4 (w3.heap.size + 1) (by omega)).trans hg2
    go_wp2_with (with_reducible refine wpList_store_nd (a0 := w3) (B := w3.heap.size) rfl (.tmp 5) (.tmp 21) rfl (w3.heap.size + 1) lf (.slice ta2 tm2 tc2) (.slice ua2 um2 uc2) (.slice xa2 xm2 xc2) rfl rfl #[.bool false, .slice none 0 0, .slice none 0 0, .slice none 0 0] hg2 rfl (.mk _ _ _) (.mk _ _ _) (.mk _ _ _) c4 (Nat.le_succ _) ?_)
    rintro w5 - gB c5' k5
    have gA := (k5 w3.heap.size (by omega)).trans gA
    have hAs : w3.heap.size + 1 < w5.heap.size := lt_of_heap gB
    have b5 := b3.trans (c5'.mono s3)
    obtain ⟨⟨q0, q1, q2, q3⟩, B5, s5⟩ := RB.out w5 b5
    have NA := Lib.hid ((NA.out.below c5').more c5'.size)
    have NB := Lib.hid ((NB.out.below c5').more c5'.size)
    obtain ⟨A, hA⟩ : ∃ A, w3.heap.size = A := ⟨_, rfl⟩
    rw [hA] at gA gB hAs ⊢
    obtain ⟨a0, a1, a2, a3⟩ := NdCells.of gA
    obtain ⟨e0, e1, e2, e3⟩ := NdCells.of gB
    have mg := merge_any NA.out NB.out key
    rw [HH.out.mer] at mg
    clear hA c4 k4 k5 hg1 hg2 c5 c5' b3 B3 s3
    go_wp2_with fail
    refine Calls.mono mg ?_
    rintro e w6 ⟨v6, rfl, om, c6⟩
    obtain ⟨ra, rm, rc, sa, sm, sc, ya, ym, yc, rfl⟩ := own_form om
    have NM := Lib.hid (om.at (ok_small HH.out.ok))
    have hlz := HLF.out
    simp only [hlz] at NM ⊢
    have b6 := b5.trans (c6.mono s5)
    have s6 := (RB.out w6 b6).2.2
    have gA := (c6.block A (by omega)).trans gA
    have gB := (c6.block (A + 1) hAs).trans gB
    have hAs := Nat.lt_of_lt_of_le hAs c6.size
    have NA := Lib.hid ((NA.out.below c6).more c6.size)
    have NB := Lib.hid ((NB.out.below c6).more c6.size)
    have hg := heap_alloc_new w6 zNdO
    have c7' := below_new w6 zNdO
    clear mg om c6 b5 B5 s5 q0 q1 q2 q3 a0 a1 a2 a3 e0 e1 e2 e3 hlz
    go_wp2_with (with_reducible refine wpList_store_nd (a0 := w6) (B := w6.heap.size) rfl (.tmp 7) (.tmp 36) rfl w6.heap.size lf (.slice ra rm rc) (.slice sa sm sc) (.slice ya ym yc) rfl rfl #[.bool false, .slice none 0 0, .slice none 0 0, .slice none 0 0] hg rfl (.mk _ _ _) (.mk _ _ _) (.mk _ _ _) c7' (Nat.le_refl _) ?_)
    rintro w7 - gM c7 -
    have hMs := lt_of_heap gM
    have b7 := b6.trans (c7.mono s6)
    obtain ⟨-, B7, s7⟩ := RB.out w7 b7
    have gA := (c7.block A (by omega)).trans gA
    have gB := (c7.block (A + 1) hAs).trans gB
    have hAs := Nat.lt_of_lt_of_le hAs c7.size
    have NA := Lib.hid ((NA.out.below c7).more c7.size)
    have NB := Lib.hid ((NB.out.below c7).more c7.size)
    have NM := Lib.hid ((NM.out.below c7).more c7.size)
    obtain ⟨M, hM⟩ : ∃ M, w6.heap.size = M := ⟨_, rfl⟩
    rw [hM] at gM hMs ⊢
    have NZ := Lib.hid ((H0.out.below B7).more B7.size)
    have RGA := Lib.hid (fun w' (h : Below w7.heap.size w7 w') => range4s (NdCells.of ((h.block A (by omega)).trans gA)))
    have RGB := Lib.hid (fun w' (h : Below w7.heap.size w7 w') => range4s (NdCells.of ((h.block (A + 1) hAs).trans gB)))
    have RGM := Lib.hid (fun w' (h : Below w7.heap.size w7 w') => range4s (NdCells.of ((h.block M hMs).trans gM)))
    have RGZ := Lib.hid (fun w' (h : Below w7.heap.size w7 w') => range4s (RB.out w' (Below.thenB b7 h s7)).1)
    have BK := Lib.hid (fun (w' : World) => back_any (w := w') (lf := lf) (.mk ra rm rc) (.mk sa sm sc) (.mk ya ym yc))
    have SM := Lib.hid (fun w' (h : Below w7.heap.size w7 w') => same_any ((NM.out.below h).more h.size) ((NZ.out.below h).more h.size))
    have OF7 := Lib.hid (fun w' (h : Below w7.heap.size w7 w') => OF.out w' (B7.trans (h.mono B7.size)))
    have SZ := Lib.hid (fun (w' : World) (v' : Value) (q : NdAt w'.heap.size w' v' z0) => size_ok q HH.out.ok)
    have SZA := Lib.hid (fun w' (h : Below w7.heap.size w7 w') => size_ok ((NA.out.below h).more h.size) HH.out.oka)
    have SZB := Lib.hid (fun w' (h : Below w7.heap.size w7 w') => size_ok ((NB.out.below h).more h.size) HH.out.okb)
    have CKA := Lib.hid (fun w' (h : Below w7.heap.size w7 w') => check0 ((NA.out.below h).more h.size) HH.out.oka)
    have CKB := Lib.hid (fun w' (h : Below w7.heap.size w7 w') => check0 ((NB.out.below h).more h.size) HH.out.okb)
    have hge1 : decide ((sizN z0 : Int) ≤ (sizN a : Int)) = false := decide_eq_false (by have := HH.out.sa; omega)
    have hge2 : decide ((sizN z0 : Int) ≤ (sizN b : Int)) = false := decide_eq_false (by have := HH.out.sb; omega)
    generalize sizN z0 = S at *
    generalize sizN a = SA at *
    generalize sizN b = SB at *
    have CA := Lib.hid (fun w' (h : Below w7.heap.size w7 w') => NdCells.of ((h.block A (by omega)).trans gA))
    have CB := Lib.hid (fun w' (h : Below w7.heap.size w7 w') => NdCells.of ((h.block (A + 1) hAs).trans gB))
    clear hM gA gB gM hMs hAs b6 s6 hg c7' c7 H0 OF HZ0 b7 NZ NM
    go_wp2_with fail
    have hS := (Below.refl w7.heap.size w7).drew
    refine wp_region_held_drew (S := fun w' => Below w7.heap.size w7 w') mixed hS (fun _ => ?_)
    show wpAnyH _ _ _ _ _ 35 (Array.replicate 35 false) _ _
    refine wpAnyH_take_d 0 (some 38) (.int .i64 0) rfl (by kernel_rfl) (by kernel_rfl) (by kernel_rfl) (by kernel_rfl) rfl (fun _ _ _ h => h) (fun _ _ => by kernel_rfl) (by exact hS) ?_
    simp only [Act.put, List.setIfInBounds_toArray, List.set_cons_succ, List.set_cons_zero]
    refine wpAnyH_take_d 1 (some 39) (.bool false) rfl (by kernel_rfl) (by kernel_rfl) (by kernel_rfl) (by kernel_rfl) rfl (fun _ _ _ h => h) (fun _ _ => by kernel_rfl) (by exact hS) ?_
    simp only [Act.put, List.setIfInBounds_toArray, List.set_cons_succ, List.set_cons_zero]
    refine wpAnyH_take_d 2 (some 40) (.bool false) rfl (by kernel_rfl) (by kernel_rfl) (by kernel_rfl) (by kernel_rfl) rfl (fun _ _ _ h => h) (fun _ _ => by kernel_rfl) (by exact hS) ?_
    simp only [Act.put, List.setIfInBounds_toArray, List.set_cons_succ, List.set_cons_zero]
    refine wpAnyH_take_d 3 (some 41) (.agg #[.bool lf, .slice ra rm rc, .slice sa sm sc, .slice ya ym yc]) rfl (by kernel_rfl) (by kernel_rfl) (by kernel_rfl) (by kernel_rfl) rfl (fun _ _ _ h => h) (fun w' h => ex_row rfl rfl (RGM.out _ h) Try.underlying32 rfl (by kernel_rfl)) (by exact hS) ?_
    simp only [Act.put, List.setIfInBounds_toArray, List.set_cons_succ, List.set_cons_zero]
    refine wpAnyH_take_d 5 (some 43) (.agg #[.bool lf, .slice pa pm pc, .slice ka km kc, .slice ia im ic]) rfl (by kernel_rfl) (by kernel_rfl) (by kernel_rfl) (by kernel_rfl) rfl (fun _ _ _ h => h) (fun w' h => ex_row rfl rfl (RGZ.out _ h) Try.underlying26 rfl (by kernel_rfl)) (by exact hS) ?_
    simp only [Act.put, List.setIfInBounds_toArray, List.set_cons_succ, List.set_cons_zero]
    refine wpAnyH_call 4 (some 42) 23 #[.agg #[.bool lf, .slice ra rm rc, .slice sa sm sc, .slice ya ym yc]] rfl (by kernel_rfl) (by kernel_rfl) rfl (by kernel_rfl) (BK.out _) ?_
    rintro e wx ⟨rfl, bx⟩
    have hS := Below.then hS bx (Nat.le_refl _)
    refine ⟨_, rfl, hS, ?_⟩
    simp only [Act.put, List.setIfInBounds_toArray, List.set_cons_succ, List.set_cons_zero]
    refine wpAnyH_call 6 (some 44) 22 #[.agg #[.bool lf, .slice ra rm rc, .slice sa sm sc, .slice ya ym yc], .agg #[.bool lf, .slice pa pm pc, .slice ka km kc, .slice ia im ic]] rfl (by kernel_rfl) (by kernel_rfl) rfl (by kernel_rfl) (SM.out _ hS) ?_
    rintro e wx ⟨rfl, bx⟩
    have hS := Below.then hS bx (Nat.le_refl _)
    refine ⟨_, rfl, hS, ?_⟩
    simp only [Act.put, List.setIfInBounds_toArray, List.set_cons_succ, List.set_cons_zero]
    refine wpAnyH_take_d 7 (some 45) (.bool false) rfl (by kernel_rfl) (by kernel_rfl) (by kernel_rfl) (by kernel_rfl) rfl (fun _ _ _ h => h) (fun _ _ => by kernel_rfl) (by exact hS) ?_
    simp only [Act.put, List.setIfInBounds_toArray, List.set_cons_succ, List.set_cons_zero]
    refine wpAnyH_take_d 8 (some 46) (.bool false) rfl (by kernel_rfl) (by kernel_rfl) (by kernel_rfl) (by kernel_rfl) rfl (fun _ _ _ h => h) (fun _ _ => by kernel_rfl) (by exact hS) ?_
    simp only [Act.put, List.setIfInBounds_toArray, List.set_cons_succ, List.set_cons_zero]
    refine wpAnyH_take_d 9 (some 47) (.bool false) rfl (by kernel_rfl) (by kernel_rfl) (by kernel_rfl) (by kernel_rfl) rfl (fun _ _ _ h => h) (fun _ _ => by kernel_rfl) (by exact hS) ?_
    simp only [Act.put, List.setIfInBounds_toArray, List.set_cons_succ, List.set_cons_zero]
    refine wpAnyH_take_d 10 (some 48) (.agg #[.bool lf, .slice ta tm tc, .slice ua um uc, .slice xa xm xc]) rfl (by kernel_rfl) (by kernel_rfl) (by kernel_rfl) (by kernel_rfl) rfl (fun _ _ _ h => h) (fun w' h => ex_row rfl rfl (RGA.out _ h) Try.underlying32 rfl (by kernel_rfl)) (by exact hS) ?_
    simp only [Act.put, List.setIfInBounds_toArray, List.set_cons_succ, List.set_cons_zero]
    refine wpAnyH_call 11 (some 49) 18 #[.agg #[.bool lf, .slice ta tm tc, .slice ua um uc, .slice xa xm xc]] rfl (by kernel_rfl) (by kernel_rfl) rfl (by kernel_rfl) (CKA.out _ hS) ?_
    rintro e wx ⟨rfl, bx⟩
    have hS := Below.then hS bx (Nat.le_refl _)
    refine ⟨_, rfl, hS, ?_⟩
    simp only [Act.put, List.setIfInBounds_toArray, List.set_cons_succ, List.set_cons_zero]
    refine wpAnyH_take_d 12 (some 50) (.bool false) rfl (by kernel_rfl) (by kernel_rfl) (by kernel_rfl) (by kernel_rfl) rfl (fun _ _ _ h => h) (fun _ _ => by kernel_rfl) (by exact hS) ?_
    simp only [Act.put, List.setIfInBounds_toArray, List.set_cons_succ, List.set_cons_zero]
    refine wpAnyH_take_d 13 (some 51) (.bool false) rfl (by kernel_rfl) (by kernel_rfl) (by kernel_rfl) (by kernel_rfl) rfl (fun _ _ _ h => h) (fun _ _ => by kernel_rfl) (by exact hS) ?_
    simp only [Act.put, List.setIfInBounds_toArray, List.set_cons_succ, List.set_cons_zero]
    refine wpAnyH_take_d 14 (some 52) (.bool false) rfl (by kernel_rfl) (by kernel_rfl) (by kernel_rfl) (by kernel_rfl) rfl (fun _ _ _ h => h) (fun _ _ => by kernel_rfl) (by exact hS) ?_
    simp only [Act.put, List.setIfInBounds_toArray, List.set_cons_succ, List.set_cons_zero]
    refine wpAnyH_take_d 15 (some 53) (.agg #[.bool lf, .slice ta2 tm2 tc2, .slice ua2 um2 uc2, .slice xa2 xm2 xc2]) rfl (by kernel_rfl) (by kernel_rfl) (by kernel_rfl) (by kernel_rfl) rfl (fun _ _ _ h => h) (fun w' h => ex_row rfl rfl (RGB.out _ h) Try.underlying32 rfl (by kernel_rfl)) (by exact hS) ?_
    simp only [Act.put, List.setIfInBounds_toArray, List.set_cons_succ, List.set_cons_zero]
    refine wpAnyH_call 16 (some 54) 18 #[.agg #[.bool lf, .slice ta2 tm2 tc2, .slice ua2 um2 uc2, .slice xa2 xm2 xc2]] rfl (by kernel_rfl) (by kernel_rfl) rfl (by kernel_rfl) (CKB.out _ hS) ?_
    rintro e wx ⟨rfl, bx⟩
    have hS := Below.then hS bx (Nat.le_refl _)
    refine ⟨_, rfl, hS, ?_⟩
    simp only [Act.put, List.setIfInBounds_toArray, List.set_cons_succ, List.set_cons_zero]
    refine wpAnyH_take_d 17 (some 55) (.bool false) rfl (by kernel_rfl) (by kernel_rfl) (by kernel_rfl) (by kernel_rfl) rfl (fun _ _ _ h => h) (fun _ _ => by kernel_rfl) (by exact hS) ?_
    simp only [Act.put, List.setIfInBounds_toArray, List.set_cons_succ, List.set_cons_zero]
    refine wpAnyH_take_d 18 (some 56) (.bool false) rfl (by kernel_rfl) (by kernel_rfl) (by kernel_rfl) (by kernel_rfl) rfl (fun _ _ _ h => h) (fun _ _ => by kernel_rfl) (by exact hS) ?_
    simp only [Act.put, List.setIfInBounds_toArray, List.set_cons_succ, List.set_cons_zero]
    refine wpAnyH_take_d 19 (some 57) (.bool false) rfl (by kernel_rfl) (by kernel_rfl) (by kernel_rfl) (by kernel_rfl) rfl (fun _ _ _ h => h) (fun _ _ => by kernel_rfl) (by exact hS) ?_
    simp only [Act.put, List.setIfInBounds_toArray, List.set_cons_succ, List.set_cons_zero]
    refine wpAnyH_take_d 20 (some 58) (.agg #[.bool lf, .slice ta tm tc, .slice ua um uc, .slice xa xm xc]) rfl (by kernel_rfl) (by kernel_rfl) (by kernel_rfl) (by kernel_rfl) rfl (fun _ _ _ h => h) (fun w' h => ex_row rfl rfl (RGA.out _ h) Try.underlying32 rfl (by kernel_rfl)) (by exact hS) ?_
    simp only [Act.put, List.setIfInBounds_toArray, List.set_cons_succ, List.set_cons_zero]
    refine wpAnyH_take_d 22 (some 60) (.agg #[.bool lf, .slice pa pm pc, .slice ka km kc, .slice ia im ic]) rfl (by kernel_rfl) (by kernel_rfl) (by kernel_rfl) (by kernel_rfl) rfl (fun _ _ _ h => h) (fun w' h => ex_row rfl rfl (RGZ.out _ h) Try.underlying26 rfl (by kernel_rfl)) (by exact hS) ?_
    simp only [Act.put, List.setIfInBounds_toArray, List.set_cons_succ, List.set_cons_zero]
    refine wpAnyH_call 21 (some 59) 20 #[.agg #[.bool lf, .slice ta tm tc, .slice ua um uc, .slice xa xm xc]] rfl (by kernel_rfl) (by kernel_rfl) rfl (by kernel_rfl) (SZA.out _ hS) ?_
    rintro e wx ⟨rfl, bx⟩
    have hS := Below.then hS bx (Nat.le_refl _)
    refine ⟨_, rfl, hS, ?_⟩
    simp only [Act.put, List.setIfInBounds_toArray, List.set_cons_succ, List.set_cons_zero]
    refine wpAnyH_call 23 (some 61) 15 #[.agg #[.bool lf, .slice pa pm pc, .slice ka km kc, .slice ia im ic]] rfl (by kernel_rfl) (by kernel_rfl) rfl (by kernel_rfl) (OF7.out _ hS) ?_
    rintro e wx ⟨v9, rfl, n9, bx⟩
    have hS := Below.then hS bx (Nat.le_refl _)
    refine ⟨_, rfl, hS, ?_⟩
    simp only [Act.put, List.setIfInBounds_toArray, List.set_cons_succ, List.set_cons_zero]
    refine wpAnyH_call 24 (some 62) 20 #[v9] rfl (by kernel_rfl) (by kernel_rfl) rfl (by kernel_rfl) (SZ.out _ _ n9) ?_
    rintro e wx ⟨rfl, bx⟩
    have hS := Below.then hS bx (Nat.le_refl _)
    refine ⟨_, rfl, hS, ?_⟩
    simp only [Act.put, List.setIfInBounds_toArray, List.set_cons_succ, List.set_cons_zero]
    refine wpAnyH_take_d 25 (some 63) (.bool false) rfl (by kernel_rfl) (by kernel_rfl) (by kernel_rfl) (by kernel_rfl) rfl (fun _ _ _ h => h) (fun _ _ => ex_ge rfl rfl rfl hge1) (by exact hS) ?_
    simp only [Act.put, List.setIfInBounds_toArray, List.set_cons_succ, List.set_cons_zero]
    refine wpAnyH_take_d 26 (some 64) (.bool false) rfl (by kernel_rfl) (by kernel_rfl) (by kernel_rfl) (by kernel_rfl) rfl (fun _ _ _ h => h) (fun _ _ => by kernel_rfl) (by exact hS) ?_
    simp only [Act.put, List.setIfInBounds_toArray, List.set_cons_succ, List.set_cons_zero]
    refine wpAnyH_take_d 27 (some 65) (.bool false) rfl (by kernel_rfl) (by kernel_rfl) (by kernel_rfl) (by kernel_rfl) rfl (fun _ _ _ h => h) (fun _ _ => by kernel_rfl) (by exact hS) ?_
    simp only [Act.put, List.setIfInBounds_toArray, List.set_cons_succ, List.set_cons_zero]
    refine wpAnyH_take_d 28 (some 66) (.agg #[.bool lf, .slice ta2 tm2 tc2, .slice ua2 um2 uc2, .slice xa2 xm2 xc2]) rfl (by kernel_rfl) (by kernel_rfl) (by kernel_rfl) (by kernel_rfl) rfl (fun _ _ _ h => h) (fun w' h => ex_row rfl rfl (RGB.out _ h) Try.underlying32 rfl (by kernel_rfl)) (by exact hS) ?_
    simp only [Act.put, List.setIfInBounds_toArray, List.set_cons_succ, List.set_cons_zero]
    refine wpAnyH_take_d 30 (some 68) (.agg #[.bool lf, .slice pa pm pc, .slice ka km kc, .slice ia im ic]) rfl (by kernel_rfl) (by kernel_rfl) (by kernel_rfl) (by kernel_rfl) rfl (fun _ _ _ h => h) (fun w' h => ex_row rfl rfl (RGZ.out _ h) Try.underlying26 rfl (by kernel_rfl)) (by exact hS) ?_
    simp only [Act.put, List.setIfInBounds_toArray, List.set_cons_succ, List.set_cons_zero]
    refine wpAnyH_call 29 (some 67) 20 #[.agg #[.bool lf, .slice ta2 tm2 tc2, .slice ua2 um2 uc2, .slice xa2 xm2 xc2]] rfl (by kernel_rfl) (by kernel_rfl) rfl (by kernel_rfl) (SZB.out _ hS) ?_
    rintro e wx ⟨rfl, bx⟩
    have hS := Below.then hS bx (Nat.le_refl _)
    refine ⟨_, rfl, hS, ?_⟩
    simp only [Act.put, List.setIfInBounds_toArray, List.set_cons_succ, List.set_cons_zero]
    refine wpAnyH_call 31 (some 69) 15 #[.agg #[.bool lf, .slice pa pm pc, .slice ka km kc, .slice ia im ic]] rfl (by kernel_rfl) (by kernel_rfl) rfl (by kernel_rfl) (OF7.out _ hS) ?_
    rintro e wx ⟨v10, rfl, n10, bx⟩
    have hS := Below.then hS bx (Nat.le_refl _)
    refine ⟨_, rfl, hS, ?_⟩
    simp only [Act.put, List.setIfInBounds_toArray, List.set_cons_succ, List.set_cons_zero]
    refine wpAnyH_call 32 (some 70) 20 #[v10] rfl (by kernel_rfl) (by kernel_rfl) rfl (by kernel_rfl) (SZ.out _ _ n10) ?_
    rintro e wx ⟨rfl, bx⟩
    have hS := Below.then hS bx (Nat.le_refl _)
    refine ⟨_, rfl, hS, ?_⟩
    simp only [Act.put, List.setIfInBounds_toArray, List.set_cons_succ, List.set_cons_zero]
    refine wpAnyH_take_d 33 (some 71) (.bool false) rfl (by kernel_rfl) (by kernel_rfl) (by kernel_rfl) (by kernel_rfl) rfl (fun _ _ _ h => h) (fun _ _ => ex_ge rfl rfl rfl hge2) (by exact hS) ?_
    simp only [Act.put, List.setIfInBounds_toArray, List.set_cons_succ, List.set_cons_zero]
    refine wpAnyH_take_d 34 (some 72) (.bool false) rfl (by kernel_rfl) (by kernel_rfl) (by kernel_rfl) (by kernel_rfl) rfl (fun _ _ _ h => h) (fun _ _ => by kernel_rfl) (by exact hS) ?_
    simp only [Act.put, List.setIfInBounds_toArray, List.set_cons_succ, List.set_cons_zero]
    refine wpAnyH_done (by kernel_rfl) ?_ _
    rename_i wx
    have HB := Lib.hid B7
    have PA := Lib.hid (fun (w' : World) (h : Below w7.heap.size w7 w') => (NA.out.below h).more h.size)
    have PB := Lib.hid (fun (w' : World) (h : Below w7.heap.size w7 w') => (NB.out.below h).more h.size)
    clear RGA RGB RGM RGZ BK SM OF7 SZ SZA SZB CKA CKB hge1 hge2 RB B7 s7 n9 n10 NA NB
    go_wp2
    go_loopw [9] (fun iv wr => ∃ k : Nat, k ≤ tm ∧ iv = .int .i64 k ∧ Below w7.heap.size w7 wr) (fun iv _ => tm - (intOf iv).toNat)
    case atStart => exact ⟨0, Nat.zero_le _, rfl, hS⟩
    case round =>
      obtain ⟨k, hk, rfl, hS⟩ := hrel
      obtain ⟨q0, q1, q2, q3⟩ := CA.out _ hS
      by_cases hlt : k < tm
      · obtain ⟨pv', kv', iv', hv, y1, y2, y3⟩ := PA.out _ hS
        obtain ⟨rfl, rfl, rfl⟩ : Value.slice ta tm tc = pv' ∧ Value.slice ua um uc = kv' ∧ Value.slice xa xm xc = iv' := by have hv4 := hv; simp at hv4; exact hv4.2
        have hn := slFlen y1
        have hkk : k < 17592186043904 := by have := y1.len okP; omega
        obtain ⟨gb, go, gc, hv2, hB, hc1, -⟩ := y1.getP (i := k) (by omega)
        obtain ⟨rfl, rfl⟩ : ta = some ⟨gb, go, none⟩ ∧ tc = gc := by injection hv2 with h1 _ h3; exact ⟨h1, h3⟩
        have hl := HH.out.lo k (by omega)
        obtain ⟨x, hx⟩ : ∃ x, (prAt a.ps k).k = x := ⟨_, rfl⟩
        rw [hx] at hl hc1
        have hq : (!(Op.bytesLess x.toList key.toList)) = false := by show (!(ltS x key)) = false; rw [hl]; rfl
        clear hv hv2 hx hl y1 y2 y3 hn
        go_wp2
        go_roundw
        case rel => exact ⟨k + 1, by omega, by go_num, hS⟩
        case measure => simp [intOf]; omega
      · clear hk
        go_wp2
        go_loopw [10] (fun iv wr => ∃ k : Nat, k ≤ tm2 ∧ iv = .int .i64 k ∧ Below w7.heap.size w7 wr) (fun iv _ => tm2 - (intOf iv).toNat)
        case atStart => exact ⟨0, Nat.zero_le _, rfl, hS⟩
        case round =>
          obtain ⟨k, hk, rfl, hS⟩ := hrel
          obtain ⟨q0, q1, q2, q3⟩ := CB.out _ hS
          by_cases hlt : k < tm2
          · obtain ⟨pv', kv', iv', hv, y1, y2, y3⟩ := PB.out _ hS
            obtain ⟨rfl, rfl, rfl⟩ : Value.slice ta2 tm2 tc2 = pv' ∧ Value.slice ua2 um2 uc2 = kv' ∧ Value.slice xa2 xm2 xc2 = iv' := by have hv4 := hv; simp at hv4; exact hv4.2
            have hn := slFlen y1
            have hkk : k < 17592186043904 := by have := y1.len okP; omega
            obtain ⟨gb, go, gc, hv2, hB, hc1, -⟩ := y1.getP (i := k) (by omega)
            obtain ⟨rfl, rfl⟩ : ta2 = some ⟨gb, go, none⟩ ∧ tc2 = gc := by injection hv2 with h1 _ h3; exact ⟨h1, h3⟩
            have hl := HH.out.hi k (by omega)
            obtain ⟨x, hx⟩ : ∃ x, (prAt b.ps k).k = x := ⟨_, rfl⟩
            rw [hx] at hl hc1
            have hq : Op.bytesLess x.toList key.toList = false := hl
            clear hv hv2 hx hl y1 y2 y3 hn
            go_wp2
            go_roundw
            case rel => exact ⟨k + 1, by omega, by go_num, hS⟩
            case measure => simp [intOf]; omega
          · clear hk
            go_wp2
            go_loopw [11] (fun iv wr => ∃ k : Nat, k ≤ um ∧ iv = .int .i64 k ∧ Below w7.heap.size w7 wr) (fun iv _ => um - (intOf iv).toNat)
            case atStart => exact ⟨0, Nat.zero_le _, rfl, hS⟩
            case round =>
              obtain ⟨k, hk, rfl, hS⟩ := hrel
              obtain ⟨q0, q1, q2, q3⟩ := CA.out _ hS
              by_cases hlt : k < um
              · obtain ⟨pv', kv', iv', hv, y1, y2, y3⟩ := PA.out _ hS
                obtain ⟨rfl, rfl, rfl⟩ : Value.slice ta tm tc = pv' ∧ Value.slice ua um uc = kv' ∧ Value.slice xa xm xc = iv' := by have hv4 := hv; simp at hv4; exact hv4.2
                have hn := slFlen y2
                have hkk : k < 17592186043904 := by have := y2.len okS; omega
                obtain ⟨gb, go, gc, hv2, hB, hc1⟩ := y2.getS (i := k) (by omega)
                obtain ⟨rfl, rfl⟩ : ua = some ⟨gb, go, none⟩ ∧ uc = gc := by injection hv2 with h1 _ h3; exact ⟨h1, h3⟩
                have hl := HH.out.klo k (by omega)
                obtain ⟨x, hx⟩ : ∃ x, kAt a.ks k = x := ⟨_, rfl⟩
                rw [hx] at hl hc1
                have hq : (!(Op.bytesLess x.toList key.toList)) = false := by show (!(ltS x key)) = false; rw [hl]; rfl
                clear hv hv2 hx hl y1 y2 y3 hn
                go_wp2
                go_roundw
                case rel => exact ⟨k + 1, by omega, by go_num, hS⟩
                case measure => simp [intOf]; omega
              · clear hk
                go_wp2
                go_loopw [12] (fun iv wr => ∃ k : Nat, k ≤ um2 ∧ iv = .int .i64 k ∧ Below w7.heap.size w7 wr) (fun iv _ => um2 - (intOf iv).toNat)
                case atStart => exact ⟨0, Nat.zero_le _, rfl, hS⟩
                case round =>
                  obtain ⟨k, hk, rfl, hS⟩ := hrel
                  obtain ⟨q0, q1, q2, q3⟩ := CB.out _ hS
                  by_cases hlt : k < um2
                  · obtain ⟨pv', kv', iv', hv, y1, y2, y3⟩ := PB.out _ hS
                    obtain ⟨rfl, rfl, rfl⟩ : Value.slice ta2 tm2 tc2 = pv' ∧ Value.slice ua2 um2 uc2 = kv' ∧ Value.slice xa2 xm2 xc2 = iv' := by have hv4 := hv; simp at hv4; exact hv4.2
                    have hn := slFlen y2
                    have hkk : k < 17592186043904 := by have := y2.len okS; omega
                    obtain ⟨gb, go, gc, hv2, hB, hc1⟩ := y2.getS (i := k) (by omega)
                    obtain ⟨rfl, rfl⟩ : ua2 = some ⟨gb, go, none⟩ ∧ uc2 = gc := by injection hv2 with h1 _ h3; exact ⟨h1, h3⟩
                    have hl := HH.out.khi k (by omega)
                    obtain ⟨x, hx⟩ : ∃ x, kAt b.ks k = x := ⟨_, rfl⟩
                    rw [hx] at hl hc1
                    have hq : (Op.bytesLess x.toList key.toList || x.toList == key.toList) = false := le_false hl
                    clear hv hv2 hx hl y1 y2 y3 hn
                    go_wp2
                    go_roundw
                    case rel => exact ⟨k + 1, by omega, by go_num, hS⟩
                    case measure => simp [intOf]; omega
                  · clear hk
                    obtain ⟨q0, q1, q2, q3⟩ := CB.out _ hS
                    go_wp2
                    go_ret
                    exact ⟨rfl, HB.out.trans (hS.mono HB.out.size)⟩

/-! ### the row -/
theorem laidOut : laidOutB Try.prog = true := by kernel_rfl
theorem bytesInt : Try.prog.bytesOf 3 = 8 := by kernel_rfl
set_option maxRecDepth 100000 in
theorem lifted (os : Os) (started : os.Started) (H : Type) (enc : TypeId × Value → H) :
    ReturnsInHanded {} Try.checked os 8 .any (Rows.nodeWholeSpec.pre6 enc Try.prog Try.f8 Rows.nodeWholeRow.domain false) (Rows.nodeWholeSpec.post enc Try.prog Try.f8 false true false false) := by
  refine returnsInHanded_of_change_sized (C := Try.checked) own started (by kernel_rfl) Try.func8
    (ChangeSpec.witness6 (enc := enc) (C := Try.checked) false ⟨#[], #[.agg #[.bool false, .slice none 0 0, .slice none 0 0, .slice none 0 0]], []⟩ 8 (by kernel_rfl) (by kernel_rfl) (by kernel_rfl) (by kernel_rfl)) ?_
  intro W base args ds gs before hval0 hW hcnd hsz0 _
  have hval : ∀ (j : Nat) t v, Try.f8.params[j]? = some t → args[j]? = some v → Value.okWide Try.prog W .any base t v := hval0
  have hW' := hW
  obtain ⟨p, q, hA0, hV, rfl, hfz, hnd⟩ := hW
  have hA : DataW.TrodAll enc Try.prog W 0 (fun _ => true) true Try.f8.params.toList args.toList ds p := hA0
  have hsz : (DataW.weightsEach Try.prog (Try.f8.params.toList ++ Rows.nodeWholeSpec.plain.varTypes Try.prog) (ds ++ gs)).all (· ≤ reachBytes) = true := hsz0
  rw [Try.params8] at hA hval hsz
  obtain ⟨v0, vs0, d0, ds0, p0, q0, hargs, rfl, rfl, h0, r0⟩ := trodAll_cons hA
  obtain ⟨rfl, rfl, rfl⟩ := trodAll_nil r0
  obtain rfl : args = #[v0] := by cases args; simp_all
  obtain ⟨rfl, rfl⟩ := trodVars_none hV
  have k0 := h0
  have lt0 := args_lt k0
  obtain ⟨z0, w0⟩ := nd_arg (hval 0 26 v0 rfl rfl) (fun k hk => of_decide_eq_true (List.all_eq_true.1 hsz _ (DataW.weights_mem_each (j := 0) (t := 26) (d := d0) rfl rfl k hk))) h0
  clear hA0 hval0 hsz0
  refine (walk v0 z0 W w0).mono fun e W' ⟨he, bel⟩ => ?_
  subst he
  exact ⟨_, rfl, _, _, _, [], _, [], hW', trodAll_mk1 (shut_bool Try.underlying4 _), (trodAll_cons_mk (Below.trod laidOut (by kernel_rfl) (of_decide_eq_true (by kernel_rfl)) k0 bel lt0) trodAll_mk0), rfl, bel.frame _, fun h => by cases h⟩

theorem over : Rows.nodeWholeRow.holds Try.pinned (OpenSpec.ofChange Rows.nodeWholeSpec) :=
  OpenClaim.holds_of_wide 8 Try.f8 rfl rfl rfl rfl rfl rfl rfl ⟨rfl, rfl, rfl, rfl, rfl⟩ rfl rfl rfl rfl rfl (by kernel_rfl) Try.func8 (by kernel_rfl)
    (of_decide_eq_true (by kernel_rfl)) (by unfold Func.isWrapper; first | (rw [if_pos (by decide +kernel)]; kernel_rfl) | (rw [if_neg (by decide +kernel)]; exact ⟨rfl, rfl⟩))
    (fun os started H enc _ => lifted os started H enc)
end Go.Proofs.Ytdkmfcmndncmcaa.nodeWhole

namespace Go.Proofs.Ytdkmfcmndncmcaa
/-- The law returns true at every input. -/
theorem nodeWhole_holds : Rows.NodeWholeSaid := nodeWhole.over
end Go.Proofs.Ytdkmfcmndncmcaa

