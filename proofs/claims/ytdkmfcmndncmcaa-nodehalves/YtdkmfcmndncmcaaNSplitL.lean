/- The contract of node.Split at a leaf. No statement of the seat is proved here. -/
import Derived.Test.YtdkmfcmndncmcaaNSplit
import Derived.Test.YtdkmfcmndncmcaaNDrop
import Derived.Test.YtdkmfcmndncmcaaNKnown
namespace Go.Proofs.Ytdkmfcmndncmcaa
set_option maxRecDepth 20000
open Go.RowKit

theorem range4s {w : World} {g : Nat} {lf : Bool} {pv kv iv : Value} (h : NdCells w g lf pv kv iv) : w.rangeAt g 0 [.bool lf, pv, kv, iv] := by
  intro j y hj
  match j, hj with
  | 0, hj => simp at hj; subst hj; exact h.c0
  | 1, hj => simp at hj; subst hj; exact h.c1
  | 2, hj => simp at hj; subst hj; exact h.c2
  | 3, hj => simp at hj; subst hj; exact h.c3
set_option maxHeartbeats 6400000 in
theorem split_leaf {w : World} {v : Value} {n : Nd} (h : NdAt w.heap.size w v n) (hk : okN n = true) (hl : n.leaf = true) (h2l : 2 ≤ n.ps.length) : Calls Try.prog 31 #[v] w fun e w' => ∃ i, HalfAt n.ps i ∧ SplRet w (lfLo n i) (prAt n.ps i).k (lfHi n i) 0 e w' := by
  have hokk := ok_key hk hl
  have hl255 := (okL_true ((okN_leaf hl).symm.trans hk)).2.2.1
  obtain ⟨pv, kv, iv, rfl, h1, h2, h3⟩ := h
  obtain ⟨pa, pm, pc, rfl, hpm⟩ := h1.form
  obtain ⟨ka, km, kc, rfl, hkm⟩ := h2.form
  obtain ⟨ia, im, ic, rfl, him⟩ := h3.form
  have F := spl_start (w := w) (lf := n.leaf) (n := n) ⟨_, _, _, rfl, h1, h2, h3⟩
  have FB := Lib.hid (fun (w1 w2 : World) (f : SplW w n.leaf (.slice pa pm pc) (.slice ka km kc) (.slice ia im ic) n w1) (b : Below w1.heap.size w1 w2) => f.below (b.mono f.sz) ⟨_, _, _, rfl, h1, h2, h3⟩)
  have fc := formed_any F.at_
  obtain ⟨q0, q1, q2, q3⟩ := F.cs
  have bz := build_nd
  rw [hk] at fc
  obtain ⟨pb, poff, cap', hv, hB0, -, -⟩ := h1.getP (i := 0) (by omega)
  obtain ⟨rfl, -, rfl⟩ : pa = some ⟨pb, poff, none⟩ ∧ pm = n.ps.length ∧ pc = cap' := by cases hv; exact ⟨rfl, rfl, rfl⟩
  have hcap : pm ≤ pc := by
    obtain ⟨_, _, e, hc, _⟩ := h1
    injection e with _ e1 e2
    omega
  have HP := Lib.hid h1
  have HPM := Lib.hid hpm.out
  have HF := Lib.hid (fun (w' : World) (b : Below w.heap.size w w') => half_any ((h1.below b).more b.size) h2l hl255 (fun p hp => ⟨(hokk p hp).2.1, (hokk p hp).2.2⟩))
  have HCL := Lib.hid (fun (w' : World) (b : Below w.heap.size w w') (i : Nat) (hi : i ≤ n.ps.length) => cloneP_any ((((h1.below b).more b.size)).take okP hi))
  have HCD := Lib.hid (fun (w' : World) (b : Below w.heap.size w w') (i : Nat) (hi : i ≤ n.ps.length) (bo : Option Addr) (hbo : ∀ b off, some ⟨pb, poff, none⟩ = some (⟨b, off, none⟩ : Addr) → i < n.ps.length → bo = some ⟨b, off + i * 2, none⟩) => cloneP_any ((((h1.below b).more b.size)).drop okP hi hbo (cap' := pc - i) (by have := hpm.out; omega)))
  have HK := Lib.hid (fun (i : Nat) (hi : i < n.ps.length) => h1.getP hi)
  have hpm2 : 2 ≤ pm := by rw [hpm.out]; exact h2l
  have hpm255 : pm ≤ 255 := by rw [hpm.out]; exact hl255
  have d2 : ¬ (pm : Int) < 2 := by omega
  rw [hl] at F FB
  simp only [hl] at fc q0 ⊢
  clear h2 h3 hpm hkm him hk hl hv hB0 h1 hokk h2l hl255
  go_enter Try.func31, Try.ntmps31
  go_wp2_with fail
  refine fc.mono ?_
  rintro e w4 ⟨rfl, b4⟩
  have F := FB.out _ _ F b4
  obtain ⟨q0, q1, q2, q3⟩ := F.cs
  have hf := HF.out _ F.fr
  clear fc b4 HF
  go_wp2_with fail
  refine hf.mono ?_
  rintro e w5 ⟨i, rfl, hi, b5⟩
  have F := FB.out _ _ F b5
  obtain ⟨q0, q1, q2, q3⟩ := F.cs
  have HI := Lib.hid hi
  have hi1 := hi.one
  have hi2 : i < pm := by rw [HPM.out]; exact hi.lt
  have cl := HCL.out _ F.fr i (by rw [← HPM.out]; omega)
  clear hf b5 hi
  go_wp2_with fail
  refine cl.mono ?_
  rintro e w6 ⟨v6, rfl, o6, b6⟩
  have s5 := F.sz
  have F := FB.out _ _ F b6
  obtain ⟨ua, um, uc, rfl, -⟩ := o6.form'
  have bl := build_leaf (.slice ua um uc) (.mk _ _ _) w6
  have hgn := heap_alloc_new w6 zNdO
  have hbn := below_new w6 zNdO
  have HO6 := Lib.hid (o6.base (b' := w.heap.size + 3) s5)
  have hA3 := F.sz
  clear cl o6 b6 s5 HCL
  go_wp2_with (with_reducible refine wpList_store_nd (a0 := w6) (B := w6.heap.size) rfl (.tmp 7) (.tmp 48) rfl w6.heap.size true (.slice ua um uc) (.slice none 0 0) (.slice none 0 0) rfl rfl #[.bool false, .slice none 0 0, .slice none 0 0, .slice none 0 0] hgn rfl (.mk _ _ _) (.mk _ _ _) (.mk _ _ _) hbn (Nat.le_refl _) ?_)
  rintro w7 hA gA b7 -
  have F := FB.out _ _ F b7
  have HO6 := Lib.hid (HO6.out.below b7)
  have hAs : w6.heap.size < w7.heap.size := World.block_lt_of_cell? _ _ hA.c0
  obtain ⟨A, hAe⟩ : ∃ A, w6.heap.size = A := ⟨_, rfl⟩
  rw [hAe] at gA hAs hA3 ⊢
  clear hA bl hgn hbn b7 hAe q0 q1 q2 q3
  obtain ⟨q0, q1, q2, q3⟩ := F.cs
  obtain ⟨bo, hr2, hbo⟩ := slP_from (some ⟨pb, poff, none⟩) (n := pm) (c := pc) (k := i) (by omega)
  have hr := hr2 w7
  have cd := HCD.out _ F.fr i (by rw [← HPM.out]; omega) bo (fun b off e h => hbo b off e (by rw [← HPM.out] at h; omega))
  rw [← HPM.out] at cd
  clear hr2 hbo HCD
  go_wp2_with fail
  refine cd.mono ?_
  rintro e w8 ⟨v8, rfl, o8, b8⟩
  have s7 := F.sz
  have F := FB.out _ _ F b8
  have s8 := F.sz
  obtain ⟨xa, xm, xc, rfl, -⟩ := o8.form'
  have bl := build_leaf (.slice xa xm xc) (.mk _ _ _) w8
  have hgn := heap_alloc_new w8 zNdO
  have hbn := below_new w8 zNdO
  have HO6 := Lib.hid (HO6.out.below b8)
  have HO8 := Lib.hid (o8.base (b' := w.heap.size + 3) s7)
  have gA := (b8.block A hAs).trans gA
  have hA8 := Nat.lt_of_lt_of_le hAs b8.size
  clear cd o8 b8 s7 hr
  go_wp2_with (with_reducible refine wpList_store_nd (a0 := w8) (B := w8.heap.size) rfl (.tmp 8) (.tmp 54) rfl w8.heap.size true (.slice xa xm xc) (.slice none 0 0) (.slice none 0 0) rfl rfl #[.bool false, .slice none 0 0, .slice none 0 0, .slice none 0 0] hgn rfl (.mk _ _ _) (.mk _ _ _) (.mk _ _ _) hbn (Nat.le_refl _) ?_)
  rintro w9 - gC b9 -
  have F := FB.out _ _ F b9
  have HO6 := Lib.hid (HO6.out.below b9)
  have HO8 := Lib.hid (HO8.out.below b9)
  have gA := (b9.block A hA8).trans gA
  obtain ⟨C, hCe⟩ : ∃ C, w8.heap.size = C := ⟨_, rfl⟩
  rw [hCe] at gC s8 ⊢
  clear bl hgn hbn b9 hCe q0 q1 q2 q3 hAs hA8
  obtain ⟨pb2, poff2, pc2, hv2, hB2, hk2, -⟩ := HK.out i (by rw [← HPM.out]; exact hi2)
  obtain ⟨rfl, rfl⟩ : pb = pb2 ∧ poff = poff2 := by
    injection hv2 with e _ _
    injection e with e
    injection e with e1 e2 _
    exact ⟨e1, e2⟩
  have hkey := (F.fr.cell (p := ⟨pb, poff + i * 2, none⟩) hB2).trans hk2
  generalize hkk : (prAt n.ps i).k = key at *
  have fr := F.fr
  have z1 := F.z1
  have z2 := F.z2
  have RGA := Lib.hid (fun (w' : World) (h : ∀ k, k ≠ w.heap.size + 1 → k ≠ w.heap.size + 2 → w'.heap[k]? = w9.heap[k]?) => range4s (NdCells.of ((h A (by omega) (by omega)).trans gA)))
  have RGC := Lib.hid (fun (w' : World) (h : ∀ k, k ≠ w.heap.size + 1 → k ≠ w.heap.size + 2 → w'.heap[k]? = w9.heap[k]?) => range4s (NdCells.of ((h C (by omega) (by omega)).trans gC)))
  have CX := Lib.hid (fun (w' : World) (h : ∀ k, k ≠ w.heap.size + 1 → k ≠ w.heap.size + 2 → w'.heap[k]? = w9.heap[k]?) => (World.cell?_of_block (w := w9) (w' := w') (a := ⟨w.heap.size, 1, none⟩) (h w.heap.size (by omega) (by omega))).trans F.cs.c1)
  have DK := Lib.hid (fun (w' : World) (h : ∀ k, k ≠ w.heap.size + 1 → k ≠ w.heap.size + 2 → w'.heap[k]? = w9.heap[k]?) => (World.cell?_of_block (w := w9) (w' := w') (a := ⟨pb, poff + i * 2, none⟩) (h _ (Nat.ne_of_lt (Nat.lt_of_lt_of_le hB2 (Nat.le_add_right _ _))) (Nat.ne_of_lt (Nat.lt_of_lt_of_le hB2 (Nat.le_add_right _ _))))).trans hkey)
  clear F FB hk2 hv2 hkey gA gC
  go_wp2_with fail
  have hS : ∀ k, k ≠ w.heap.size + 1 → k ≠ w.heap.size + 2 → w9.drew.heap[k]? = w9.heap[k]? := fun _ _ _ => rfl
  refine wp_region_held_drew (S := fun w' => ∀ k, k ≠ w.heap.size + 1 → k ≠ w.heap.size + 2 → w'.heap[k]? = w9.heap[k]?) mixed hS (fun _ => ?_)
  show wpAnyH _ _ _ _ _ 12 (Array.replicate 12 false) _ _
  refine wpAnyH_take_d 0 (some 55) (.agg #[.bool true, .slice ua um uc, .slice none 0 0, .slice none 0 0]) rfl (by kernel_rfl) (by kernel_rfl) (by kernel_rfl) (by kernel_rfl) rfl (fun _ _ _ h => h) (fun w' h => ex_row rfl rfl (RGA.out _ h) Try.underlying32 rfl (by kernel_rfl)) (by exact hS) ?_
  simp only [Act.put, List.setIfInBounds_toArray, List.set_cons_succ, List.set_cons_zero]
  refine wpAnyH_take_d 1 (some 56) (.pointer (some ⟨w.heap.size, 1, none⟩)) rfl (by kernel_rfl) (by kernel_rfl) (by kernel_rfl) (by kernel_rfl) rfl (fun _ _ _ h => h) (fun _ _ => by kernel_rfl) (by exact hS) ?_
  simp only [Act.put, List.setIfInBounds_toArray, List.set_cons_succ, List.set_cons_zero]
  refine wpAnyH_take_d 2 (some 57) (.slice (some ⟨pb, poff, none⟩) pm pc) rfl (by kernel_rfl) (by kernel_rfl) (by kernel_rfl) (by kernel_rfl) rfl (fun _ _ _ h => h) (fun w' h => exec_load_cell rfl rfl (CX.out _ h) Try.underlying22 rfl) (by exact hS) ?_
  simp only [Act.put, List.setIfInBounds_toArray, List.set_cons_succ, List.set_cons_zero]
  refine wpAnyH_take_d 3 (some 58) (.int .i64 i) rfl (by kernel_rfl) (by kernel_rfl) (by kernel_rfl) (by kernel_rfl) rfl (fun _ _ _ h => h) (fun _ _ => by kernel_rfl) (by exact hS) ?_
  simp only [Act.put, List.setIfInBounds_toArray, List.set_cons_succ, List.set_cons_zero]
  refine wpAnyH_take_d 4 (some 59) (.pointer (some ⟨pb, poff + i * 2, none⟩)) rfl (by kernel_rfl) (by kernel_rfl) (by kernel_rfl) (by kernel_rfl) rfl (fun _ _ _ h => h) (fun _ _ => ex_index 2 rfl rfl rfl hi2 Try.underlying22 szPr) (by exact hS) ?_
  simp only [Act.put, List.setIfInBounds_toArray, List.set_cons_succ, List.set_cons_zero]
  refine wpAnyH_take_d 5 (some 60) (.pointer (some ⟨pb, poff + i * 2, none⟩)) rfl (by kernel_rfl) (by kernel_rfl) (by kernel_rfl) (by kernel_rfl) rfl (fun _ _ _ h => h) (fun _ _ => by kernel_rfl) (by exact hS) ?_
  simp only [Act.put, List.setIfInBounds_toArray, List.set_cons_succ, List.set_cons_zero]
  refine wpAnyH_take_d 6 (some 61) (.string key) rfl (by kernel_rfl) (by kernel_rfl) (by kernel_rfl) (by kernel_rfl) rfl (fun _ _ _ h => h) (fun w' h => exec_load_cell rfl rfl (DK.out _ h) Try.underlying9 rfl) (by exact hS) ?_
  simp only [Act.put, List.setIfInBounds_toArray, List.set_cons_succ, List.set_cons_zero]
  refine wpAnyH_take_d 7 (some 62) (.agg #[.bool true, .slice xa xm xc, .slice none 0 0, .slice none 0 0]) rfl (by kernel_rfl) (by kernel_rfl) (by kernel_rfl) (by kernel_rfl) rfl (fun _ _ _ h => h) (fun w' h => ex_row rfl rfl (RGC.out _ h) Try.underlying32 rfl (by kernel_rfl)) (by exact hS) ?_
  simp only [Act.put, List.setIfInBounds_toArray, List.set_cons_succ, List.set_cons_zero]
  -- left: [(8, ('none', 'Op.store 32 t2 t55', None)), (9, ('3', 'Op.assign t61', None)), (10, ('none', 'Op.store 32 t4 t62', None)), (11, ('5', 'Op.assign (const (0:i64))', None))]
  have z1 : w9.drew.heap[w.heap.size + 1]? = some zNdO := z1
  have z2 : w9.drew.heap[w.heap.size + 2]? = some zNdO := z2
  have o6 : OwnR elP (w.heap.size + 3) w9.drew (.slice ua um uc) (n.ps.take i) := HO6.out
  have o8 : OwnR elP (w.heap.size + 3) w9.drew (.slice xa xm xc) (n.ps.drop i) := HO8.out
  have fr := fr.drew
  clear RGA RGC CX DK
  generalize w9.drew = V at *
  have y1 : ∀ k, k ≠ w.heap.size + 1 → (V.setRow (w.heap.size + 1) #[.bool true, .slice ua um uc, .slice none 0 0, .slice none 0 0]).heap[k]? = V.heap[k]? := fun k h => setRow_other V (w.heap.size + 1) k _ h
  have n1 := setRow_heap V (w.heap.size + 1) _ #[.bool true, .slice ua um uc, .slice none 0 0, .slice none 0 0] _ _ z1
  refine wpAnyH_one_skip 8 rfl (by kernel_rfl) (by kernel_rfl) (ex_store_row rfl rfl rfl z1 (by kernel_rfl) rfl (by simp [Value.oneCell'])) (fun k h1 h2 => (y1 k h1).trans (hS k h1 h2)) ?_
  simp only [Act.put, List.setIfInBounds_toArray]
  have hS : ∀ k, k ≠ w.heap.size + 1 → k ≠ w.heap.size + 2 → (V.setRow (w.heap.size + 1) #[.bool true, .slice ua um uc, .slice none 0 0, .slice none 0 0]).heap[k]? = w9.heap[k]? := fun k h1 h2 => (y1 k h1).trans (hS k h1 h2)
  have z2 := (y1 (w.heap.size + 2) (by omega)).trans z2
  have fr := below_setRow' fr (Nat.le_succ _) #[.bool true, .slice ua um uc, .slice none 0 0, .slice none 0 0]
  have o6 := o6.keepg (by omega) y1
  have o8 := o8.keepg (by omega) y1
  generalize V.setRow (w.heap.size + 1) #[.bool true, .slice ua um uc, .slice none 0 0, .slice none 0 0] = V1 at *
  refine wpAnyH_take_d 9 (some 3) (.string key) rfl (by kernel_rfl) (by kernel_rfl) (by kernel_rfl) (by kernel_rfl) rfl (fun _ _ _ h => h) (fun _ _ => by kernel_rfl) (by exact hS) ?_
  simp only [Act.put]
  have y2 : ∀ k, k ≠ w.heap.size + 2 → (V1.setRow (w.heap.size + 2) #[.bool true, .slice xa xm xc, .slice none 0 0, .slice none 0 0]).heap[k]? = V1.heap[k]? := fun k h => setRow_other V1 (w.heap.size + 2) k _ h
  have n2 := setRow_heap V1 (w.heap.size + 2) _ #[.bool true, .slice xa xm xc, .slice none 0 0, .slice none 0 0] _ _ z2
  refine wpAnyH_one_skip 10 rfl (by kernel_rfl) (by kernel_rfl) (ex_store_row rfl rfl rfl z2 (by kernel_rfl) rfl (by simp [Value.oneCell'])) (fun k h1 h2 => (y2 k h2).trans (hS k h1 h2)) ?_
  simp only [Act.put]
  have hS : ∀ k, k ≠ w.heap.size + 1 → k ≠ w.heap.size + 2 → (V1.setRow (w.heap.size + 2) #[.bool true, .slice xa xm xc, .slice none 0 0, .slice none 0 0]).heap[k]? = w9.heap[k]? := fun k h1 h2 => (y2 k h2).trans (hS k h1 h2)
  have n1 := (y2 (w.heap.size + 1) (by omega)).trans n1
  have fr := below_setRow' fr (Nat.le_add_right _ 2) #[.bool true, .slice xa xm xc, .slice none 0 0, .slice none 0 0]
  have o6 := o6.keepg (by omega) y2
  have o8 := o8.keepg (by omega) y2
  generalize V1.setRow (w.heap.size + 2) #[.bool true, .slice xa xm xc, .slice none 0 0, .slice none 0 0] = V2 at *
  refine wpAnyH_take_d 11 (some 5) (.int .i64 0) rfl (by kernel_rfl) (by kernel_rfl) (by kernel_rfl) (by kernel_rfl) rfl (fun _ _ _ h => h) (fun _ _ => by kernel_rfl) (by exact hS) ?_
  refine wpAnyH_done (by kernel_rfl) ?_ _
  obtain ⟨r0, r1, r2, r3⟩ := NdCells.of n1
  obtain ⟨t0, t1, t2, t3⟩ := NdCells.of n2
  have HFR := Lib.hid fr
  have H6 := Lib.hid o6
  have H8 := Lib.hid o8
  clear fr o6 o8 y1 y2 z1 z2 n1 n2 hS
  go_wp2
  exact bodyPost_ret (v := .tuple #[.agg #[.bool true, .slice ua um uc, .slice none 0 0, .slice none 0 0], .string key, .agg #[.bool true, .slice xa xm xc, .slice none 0 0, .slice none 0 0], .int .i64 0]) (by simp [results, Try.results31, go_sem, r0, r1, r2, r3, t0, t1, t2, t3]) rfl ⟨i, HI.out, _, _, by rw [hkk]; rfl, ⟨_, _, _, rfl, H6.out.base (by omega), OwnR.nil _ _ _, OwnR.nil _ _ _⟩, ⟨_, _, _, rfl, H8.out.base (by omega), OwnR.nil _ _ _, OwnR.nil _ _ _⟩, HFR.out⟩
end Go.Proofs.Ytdkmfcmndncmcaa
