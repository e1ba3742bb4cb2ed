/- The contract of the document's DocSplit at an inner node. No statement of the seat is proved here. -/
import Derived.Test.YtdkmfcmndncmcaaK2
import Derived.Deep.CutRange
import Derived.Deep.Cut
namespace Go.Proofs.Ytdkmfcmndncmcaa
set_option maxRecDepth 20000
open Go.RowKit

set_option maxHeartbeats 12800000 in
theorem docSplit_in {w : World} {v : Value} {n : Nd} (h : NdAt w.heap.size w v n) (hk : okN n = true) (hl : n.leaf = false) (h4 : 4 ≤ n.is.length) : Calls Try.prog 30 #[v] w (SplRet w (inLo n (n.is.length / 2)) (kAt n.ks (n.is.length / 2 - 1)) (inHi n (n.is.length / 2)) 0) := by
  have hok := okI_true ((okN_inner hl).symm.trans hk)
  obtain ⟨pv, kv, iv, rfl, h1, h2, h3⟩ := h
  obtain ⟨pa, pm, pc, rfl, hpm⟩ := h1.form
  obtain ⟨ka, km, kc, rfl, hkm⟩ := h2.form
  obtain ⟨ia, im, ic, rfl, him⟩ := h3.form
  have F := rpl_start (w := w) (lf := n.leaf) (n := n) ⟨_, _, _, rfl, h1, h2, h3⟩
  have FB := Lib.hid (fun (w1 w2 : World) (f : RplW w n.leaf (.slice pa pm pc) (.slice ka km kc) (.slice ia im ic) n w1) (b : Below (w.heap.size + 3) w1 w2) => f.below b ⟨_, _, _, rfl, h1, h2, h3⟩)
  have fc := right_any F.at_
  rw [hk] at fc
  have bz := build_rz
  obtain ⟨q, hq⟩ : ∃ q, n.is.length / 2 = q := ⟨_, rfl⟩
  have hkim : n.ks.length + 1 = n.is.length := by have := hok.2.2.2.1; omega
  have him255 : im ≤ 255 := by rw [him.out]; exact hok.2.2.1
  have him4 : 4 ≤ im := by rw [him.out]; exact h4
  have hkm1 : km + 1 = im := by rw [hkm.out, him.out]; exact hkim
  have hqim : q = im / 2 := by rw [him.out]; exact hq.symm
  have hkc : km ≤ kc := by
    obtain ⟨_, _, e, hc, _⟩ := h2
    injection e with _ e1 e2
    omega
  have hic : im ≤ ic := by
    obtain ⟨_, _, e, hc, _⟩ := h3
    injection e with _ e1 e2
    omega
  have TKL := Lib.hid (fun (w' : World) (b : Below w.heap.size w w') => (((h2.below b).more b.size)).take okS (i := q - 1) (by rw [← hkm.out]; omega))
  have TIL := Lib.hid (fun (w' : World) (b : Below w.heap.size w w') => (((h3.below b).more b.size)).take okZ (i := q) (by rw [← him.out]; omega))
  have LKL : Hid ((([] : List ByteArray).length + (n.ks.take (q - 1)).length) * elS.bytes ≤ 140737488355328) := Lib.hid (by
    have : (n.ks.take (q - 1)).length ≤ 255 := by rw [List.length_take, ← hkm.out]; omega
    show (0 + _) * 16 ≤ _; omega)
  have LIL : Hid ((([] : List Int).length + (n.is.take q).length) * elI.bytes ≤ 140737488355328) := Lib.hid (by
    have : (n.is.take q).length ≤ 255 := by rw [List.length_take, ← him.out]; omega
    show (0 + _) * 8 ≤ _; omega)
  have LKH : Hid ((([] : List ByteArray).length + (n.ks.drop q).length) * elS.bytes ≤ 140737488355328) := Lib.hid (by
    have : (n.ks.drop q).length ≤ 255 := by rw [List.length_drop, ← hkm.out]; omega
    show (0 + _) * 16 ≤ _; omega)
  have LIH : Hid ((([] : List Int).length + (n.is.drop q).length) * elI.bytes ≤ 140737488355328) := Lib.hid (by
    have : (n.is.drop q).length ≤ 255 := by rw [List.length_drop, ← him.out]; omega
    show (0 + _) * 8 ≤ _; omega)
  obtain ⟨kb, hrk, hkb⟩ := slS_from ka (n := km) (c := kc) (k := q) (by omega)
  obtain ⟨ib, hri, hib⟩ := slI_from ia (n := im) (c := ic) (k := q) (by omega)
  have HRK := Lib.hid hrk
  have HRI := Lib.hid hri
  have TKH := Lib.hid (fun (w' : World) (b : Below w.heap.size w w') => ((((h2.below b).more b.size)).drop okS (i := q) (bo := kb) (cap' := kc - q) (by rw [← hkm.out]; omega) (fun b off e hlt => hkb b off e (by rw [← hkm.out] at hlt; omega)) (by rw [← hkm.out]; omega)))
  have TIH := Lib.hid (fun (w' : World) (b : Below w.heap.size w w') => ((((h3.below b).more b.size)).drop okZ (i := q) (bo := ib) (cap' := ic - q) (by rw [← him.out]; omega) (fun b off e hlt => hib b off e (by rw [← him.out] at hlt; omega)) (by rw [← him.out]; omega)))
  rw [← hkm.out] at TKH
  rw [← him.out] at TIH
  obtain ⟨kg, ko, kcap, hkv, hB2, hk2⟩ := h2.getS (i := q - 1) (by rw [← hkm.out]; omega)
  rw [hq]
  simp only [hl] at F FB fc
  have yq : Int.tdiv (im : Int) 2 = (q : Int) := by rw [Int.tdiv_eq_ediv_of_nonneg (by omega)]; omega
  have y1 : IntKind.i64.wrap ((q : Int) - 1) = ((q - 1 : Nat) : Int) := by rw [IntKind.wrap_i64]; omega
  have YW : Hid (wrap64 (q : Int) = (q : Int)) := Lib.hid (by unfold wrap64; omega)
  have yk1 : q - 1 ≤ kc := by omega
  have yi1 : q ≤ ic := by omega
  have d4 : ¬ (im : Int) < 4 := by omega
  obtain ⟨q0, q1, q2, q3⟩ := F.cs
  rw [hl]
  have hqk : q - 1 < km := by omega
  have hq2 : 2 ≤ q := by omega
  have KV := Lib.hid hkv
  rw [← hkm.out] at KV
  clear hkv hkm1 hkim hkc hic him4 him255 hrk hri hok
  clear h1 h2 h3 hpm hkm him hk hq hkb hib h4 hqim hl
  go_enter Try.func30, Try.ntmps30
  go_wp2_with fail
  refine fc.mono ?_
  rintro e w4 ⟨rfl, b4⟩
  have F := FB.out _ _ F (b4.mono F.sz)
  obtain ⟨q0, q1, q2, q3⟩ := F.cs
  clear fc b4
  go_upto_region 7 with fail
  rw [YW.out]
  go_cut [7] from 45 to 59 (fun s wx => ∃ A vk vi, s = .pointer (some ⟨A, 0, none⟩) ∧ SlV vk ∧ SlV vi ∧ RplW w false (.slice pa pm pc) (.slice ka km kc) (.slice ia im ic) n wx ∧ RlfW (w.heap.size + 3) wx A #[.bool false, .slice none 0 0, vk, vi] vk vi (n.ks.take (q - 1)) (n.is.take q))
  case first =>
    obtain ⟨V0, hV0⟩ : ∃ V0, w4.drew = V0 := ⟨_, rfl⟩
    have F := FB.out _ _ F ((Below.refl _ _).drew)
    rw [hV0] at F
    have hb : Below V0.heap.size V0 V0 := Below.refl _ _
    have hs : V0.heap.size ≤ V0.heap.size := Nat.le_refl _
    have hS : Below V0.heap.size V0 w4.drew := by rw [hV0]; exact hb
    have LD := Lib.hid (fun (w' : World) (b : Below V0.heap.size V0 w') => (FB.out _ _ F (b.mono F.sz)).cs)
    have FRX := Lib.hid (fun (w' : World) (b : Below V0.heap.size V0 w') => (FB.out _ _ F (b.mono F.sz)).fr)
    have TIL := Lib.hid (fun (w' : World) (b : Below V0.heap.size V0 w') => TIL.out _ (FRX.out _ b))
    have TKL := Lib.hid (fun (w' : World) (b : Below V0.heap.size V0 w') => TKL.out _ (FRX.out _ b))
    refine wp_region_held_drew (S := fun w' => Below V0.heap.size V0 w') mixed hS (fun _ => ?_)
    rw [hV0] at hS ⊢
    show wpAnyH _ _ _ _ _ 16 (Array.replicate 16 false) _ _
    refine wpAnyH_take_d 1 (some 46) (.pointer (some ⟨w.heap.size, 3, none⟩)) rfl (by kernel_rfl) (by kernel_rfl) (by kernel_rfl) (by kernel_rfl) rfl (fun _ _ _ h => h) (fun _ _ => by kernel_rfl) (by exact hS) ?_
    simp only [Act.put, List.setIfInBounds_toArray, List.set_cons_succ, List.set_cons_zero]
    refine wpAnyH_take_d 2 (some 47) (.slice ia im ic) rfl (by kernel_rfl) (by kernel_rfl) (by kernel_rfl) (by kernel_rfl) rfl (fun _ _ _ h => h) (fun w' h => exec_load_cell rfl rfl (LD.out _ h).c3 Try.underlying24 rfl) (by exact hS) ?_
    simp only [Act.put, List.setIfInBounds_toArray, List.set_cons_succ, List.set_cons_zero]
    refine wpAnyH_take_d 3 (some 48) (.int .i64 q) rfl (by kernel_rfl) (by kernel_rfl) (by kernel_rfl) (by kernel_rfl) rfl (fun _ _ _ h => h) (fun _ _ => by kernel_rfl) (by exact hS) ?_
    simp only [Act.put, List.setIfInBounds_toArray, List.set_cons_succ, List.set_cons_zero]
    refine wpAnyH_take_d 4 (some 49) (.slice ia q ic) rfl (by kernel_rfl) (by kernel_rfl) (by kernel_rfl) (by kernel_rfl) rfl (fun _ _ _ h => h) (fun w' _ => ex_slice rfl rfl rfl rfl (slI_to ia yi1 w')) (by exact hS) ?_
    simp only [Act.put, List.setIfInBounds_toArray, List.set_cons_succ, List.set_cons_zero]
    refine wpAnyH_take_d 7 (some 52) (.pointer (some ⟨w.heap.size, 2, none⟩)) rfl (by kernel_rfl) (by kernel_rfl) (by kernel_rfl) (by kernel_rfl) rfl (fun _ _ _ h => h) (fun _ _ => by kernel_rfl) (by exact hS) ?_
    simp only [Act.put, List.setIfInBounds_toArray, List.set_cons_succ, List.set_cons_zero]
    refine wpAnyH_take_d 8 (some 53) (.slice ka km kc) rfl (by kernel_rfl) (by kernel_rfl) (by kernel_rfl) (by kernel_rfl) rfl (fun _ _ _ h => h) (fun w' h => exec_load_cell rfl rfl (LD.out _ h).c2 Try.underlying23 rfl) (by exact hS) ?_
    simp only [Act.put, List.setIfInBounds_toArray, List.set_cons_succ, List.set_cons_zero]
    refine wpAnyH_take_d 9 (some 54) (.int .i64 q) rfl (by kernel_rfl) (by kernel_rfl) (by kernel_rfl) (by kernel_rfl) rfl (fun _ _ _ h => h) (fun _ _ => by kernel_rfl) (by exact hS) ?_
    simp only [Act.put, List.setIfInBounds_toArray, List.set_cons_succ, List.set_cons_zero]
    refine wpAnyH_take_d 10 (some 55) (.int .i64 ((q - 1 : Nat) : Int)) rfl (by kernel_rfl) (by kernel_rfl) (by kernel_rfl) (by kernel_rfl) rfl (fun _ _ _ h => h) (fun _ _ => ex_sub rfl rfl rfl y1) (by exact hS) ?_
    simp only [Act.put, List.setIfInBounds_toArray, List.set_cons_succ, List.set_cons_zero]
    refine wpAnyH_take_d 11 (some 56) (.slice ka (q - 1) kc) rfl (by kernel_rfl) (by kernel_rfl) (by kernel_rfl) (by kernel_rfl) rfl (fun _ _ _ h => h) (fun w' _ => ex_slice rfl rfl rfl rfl (slS_to ka yk1 w')) (by exact hS) ?_
    simp only [Act.put, List.setIfInBounds_toArray, List.set_cons_succ, List.set_cons_zero]
    -- left: [(0, ('45', 'Op.buildSlice 24 0 #[]', None)), (5, ('50', 'Op.call { builtin append, args := #[t45, t49], argTypes := #[24, 24] }', None)), (6, ('51', 'Op.buildSlice 23 0 #[]', None)), (12, ('57', 'Op.call { builtin append, args := #[t51, t56], argTypes := #[23, 23] }', None)), (13, ('58', 'Op.build 26 #[(3, t50), (2, t57)]', None)), (14, ('7', 'Op.alloc 26', None)), (15, ('none', 'Op.store 26 t7 t58', None))]
    clear hV0 q0 q1 q2 q3
    refine wpAnyH_three (w1 := V0.alloc (.cells #[] 3)) (w2 := V0.alloc (.cells #[] 9)) (w3 := V0.alloc zrbO) 0 6 14 (some 45) (some 51) (some 7) (.slice (some ⟨V0.heap.size, 0, none⟩) 0 0) (.slice (some ⟨V0.heap.size, 0, none⟩) 0 0) (.pointer (some ⟨V0.heap.size, 0, none⟩)) rfl rfl rfl (by kernel_rfl) (by kernel_rfl) (by kernel_rfl) (by kernel_rfl) rfl rfl rfl (ex_b0 rfl (mk0I V0)) (ex_b0 rfl (mk0S V0)) (al_row rfl zero_rnd) (hb.trans ((below_new V0 (.cells #[] 3)).mono hs)) (hb.trans ((below_new V0 (.cells #[] 9)).mono hs)) (hb.trans ((below_new V0 zrbO).mono hs)) ?_ ?_ ?_
    · skip
      obtain ⟨W1, hV⟩ : ∃ x, V0.alloc (.cells #[] 3) = x := ⟨_, rfl⟩
      have bx : Below V0.heap.size V0 W1 := by rw [← hV]; exact below_new V0 _
      have oI : OwnR elI V0.heap.size W1 (.slice (some ⟨V0.heap.size, 0, none⟩) 0 0) [] := by rw [← hV]; exact (OwnR.made elI V0).base hs
      have hb := hb.trans (bx.mono hs)
      have hs := Nat.le_trans hs bx.size
      have hS := hb
      rw [hV]
      clear hV bx
      simp only [Act.put, List.setIfInBounds_toArray, List.set_cons_succ, List.set_cons_zero]
      obtain ⟨a4, n4, c4, W4, hr4, q4, bq4, sq4, kq4⟩ := app_step okZ oI (TIL.out _ hb) LIL.out hs 24
      rw [List.nil_append] at q4
      refine wpAnyH_three (w1 := W4) (w2 := W1.alloc (.cells #[] 9)) (w3 := W1.alloc zrbO) 5 6 14 (some 50) (some 51) (some 7) (.slice a4 n4 c4) (.slice (some ⟨W1.heap.size, 0, none⟩) 0 0) (.pointer (some ⟨W1.heap.size, 0, none⟩)) rfl rfl rfl (by kernel_rfl) (by kernel_rfl) (by kernel_rfl) (by kernel_rfl) rfl rfl rfl (ex_app rfl rfl rfl hr4) (ex_b0 rfl (mk0S W1)) (al_row rfl zero_rnd) (hb.trans bq4) (hb.trans ((below_new W1 (.cells #[] 9)).mono hs)) (hb.trans ((below_new W1 zrbO).mono hs)) ?_ ?_ ?_
      · skip
        have oI := q4
        have hb := hb.trans bq4
        have hs := Nat.le_trans hs sq4
        have hS := hb
        simp only [Act.put, List.setIfInBounds_toArray, List.set_cons_succ, List.set_cons_zero]
        refine wpAnyH_two (w1 := W4.alloc (.cells #[] 9)) (w2 := W4.alloc zrbO) 6 14 (some 51) (some 7) (.slice (some ⟨W4.heap.size, 0, none⟩) 0 0) (.pointer (some ⟨W4.heap.size, 0, none⟩)) rfl rfl (by kernel_rfl) (by kernel_rfl) (by kernel_rfl) rfl rfl (ex_b0 rfl (mk0S W4)) (al_row rfl zero_rnd) (hb.trans ((below_new W4 (.cells #[] 9)).mono hs)) (hb.trans ((below_new W4 zrbO).mono hs)) ?_ ?_
        · skip
          obtain ⟨W7, hV⟩ : ∃ x, W4.alloc (.cells #[] 9) = x := ⟨_, rfl⟩
          have bx : Below W4.heap.size W4 W7 := by rw [← hV]; exact below_new W4 _
          have oI := oI.below bx
          have oS : OwnR elS V0.heap.size W7 (.slice (some ⟨W4.heap.size, 0, none⟩) 0 0) [] := by rw [← hV]; exact (OwnR.made elS W4).base hs
          have hb := hb.trans (bx.mono hs)
          have hs := Nat.le_trans hs bx.size
          have hS := hb
          rw [hV]
          clear hV bx
          simp only [Act.put, List.setIfInBounds_toArray, List.set_cons_succ, List.set_cons_zero]
          obtain ⟨a9, n9, c9, W9, hr9, q9, bq9, sq9, kq9⟩ := app_step okS oS (TKL.out _ hb) LKL.out hs 23
          rw [List.nil_append] at q9
          refine wpAnyH_two (w1 := W9) (w2 := W7.alloc zrbO) 12 14 (some 57) (some 7) (.slice a9 n9 c9) (.pointer (some ⟨W7.heap.size, 0, none⟩)) rfl rfl (by kernel_rfl) (by kernel_rfl) (by kernel_rfl) rfl rfl (ex_app rfl rfl rfl hr9) (al_row rfl zero_rnd) (hb.trans bq9) (hb.trans ((below_new W7 zrbO).mono hs)) ?_ ?_
          · skip
            have oI := own_keep oI kq9 (by decide)
            have oS := q9
            have hb := hb.trans bq9
            have hs := Nat.le_trans hs sq9
            have hS := hb
            simp only [Act.put, List.setIfInBounds_toArray, List.set_cons_succ, List.set_cons_zero]
            refine wpAnyH_take_d 13 (some 58) (.agg #[.bool false, .slice none 0 0, .slice a9 n9 c9, .slice a4 n4 c4]) rfl (by kernel_rfl) (by kernel_rfl) (by kernel_rfl) (by kernel_rfl) rfl (fun _ _ _ h => h) (fun w' _ => ex_build32 rfl rfl rfl (run_build w' 26 _ _ (by kernel_rfl))) (by exact hS) ?_
            simp only [Act.put, List.setIfInBounds_toArray, List.set_cons_succ, List.set_cons_zero]
            refine wpAnyH_one (w1 := W9.alloc zrbO) 14 (some 7) (.pointer (some ⟨W9.heap.size, 0, none⟩)) rfl (by kernel_rfl) (by kernel_rfl) rfl (al_row rfl zero_rnd) (hb.trans ((below_new W9 zrbO).mono hs)) ?_
            obtain ⟨W11, hV⟩ : ∃ x, W9.alloc zrbO = x := ⟨_, rfl⟩
            have bx : Below W9.heap.size W9 W11 := by rw [← hV]; exact below_new W9 _
            have oI := oI.below bx
            have oS := oS.below bx
            have hA : W11.heap[W9.heap.size]? = some zrbO := by rw [← hV]; exact heap_alloc_new W9 _
            have hAlo := hs
            have hb := hb.trans (bx.mono hs)
            have hs := Nat.le_trans hs bx.size
            have hS := hb
            rw [hV]
            clear hV bx
            simp only [Act.put, List.setIfInBounds_toArray, List.set_cons_succ, List.set_cons_zero]
            have hb2 := below_setRow' hb hAlo #[.bool false, .slice none 0 0, .slice a9 n9 c9, .slice a4 n4 c4]
            refine wpAnyH_one_skip 15 rfl (by kernel_rfl) (by kernel_rfl) (ex_store_row rfl rfl rfl hA (by kernel_rfl) rfl (by simp [Value.oneCell'])) hb2 ?_
            simp only [Act.put, List.setIfInBounds_toArray]
            refine wpAnyH_done (by kernel_rfl) ?_ _
            have F2 := FB.out _ _ F (hb2.mono F.sz)
            have H2 : RlfW (w.heap.size + 3) (W11.setRow W9.heap.size #[.bool false, .slice none 0 0, .slice a9 n9 c9, .slice a4 n4 c4]) W9.heap.size #[.bool false, .slice none 0 0, .slice a9 n9 c9, .slice a4 n4 c4] (.slice a9 n9 c9) (.slice a4 n4 c4) (n.ks.take (q - 1)) (n.is.take q) := ⟨setRow_heap _ _ _ #[.bool false, .slice none 0 0, .slice a9 n9 c9, .slice a4 n4 c4] _ _ hA, Nat.le_trans F.sz hAlo, (oS.ner hA (by decide) (fun k hk => setRow_other _ W9.heap.size k #[.bool false, .slice none 0 0, .slice a9 n9 c9, .slice a4 n4 c4] hk)).base F.sz, (oI.ner hA (by decide) (fun k hk => setRow_other _ W9.heap.size k #[.bool false, .slice none 0 0, .slice a9 n9 c9, .slice a4 n4 c4] hk)).base F.sz⟩

            clear hb2 hb hS oS oI hA
            go_wp2
            go_meet
            exact ⟨_, _, _, rfl, .mk _ _ _, .mk _ _ _, F2, H2⟩
          · skip
            obtain ⟨W10, hV⟩ : ∃ x, W7.alloc zrbO = x := ⟨_, rfl⟩
            have bx : Below W7.heap.size W7 W10 := by rw [← hV]; exact below_new W7 _
            have oI := oI.below bx
            have oS := oS.below bx
            have hA : W10.heap[W7.heap.size]? = some zrbO := by rw [← hV]; exact heap_alloc_new W7 _
            have hAlo := hs
            have hb := hb.trans (bx.mono hs)
            have hs := Nat.le_trans hs bx.size
            have hS := hb
            rw [hV]
            clear hV bx
            simp only [Act.put, List.setIfInBounds_toArray, List.set_cons_succ, List.set_cons_zero]
            obtain ⟨a12, n12, c12, W12, hr12, q12, bq12, sq12, kq12⟩ := app_step okS oS (TKL.out _ hb) LKL.out hs 23
            rw [List.nil_append] at q12
            refine wpAnyH_one (w1 := W12) 12 (some 57) (.slice a12 n12 c12) rfl (by kernel_rfl) (by kernel_rfl) rfl (ex_app rfl rfl rfl hr12) (hb.trans bq12) ?_
            have oI := own_keep oI kq12 (by decide)
            have hA := kq12 _ _ _ _ hA (by decide)
            have oS := q12
            have hb := hb.trans bq12
            have hs := Nat.le_trans hs sq12
            have hS := hb
            simp only [Act.put, List.setIfInBounds_toArray, List.set_cons_succ, List.set_cons_zero]
            refine wpAnyH_take_d 13 (some 58) (.agg #[.bool false, .slice none 0 0, .slice a12 n12 c12, .slice a4 n4 c4]) rfl (by kernel_rfl) (by kernel_rfl) (by kernel_rfl) (by kernel_rfl) rfl (fun _ _ _ h => h) (fun w' _ => ex_build32 rfl rfl rfl (run_build w' 26 _ _ (by kernel_rfl))) (by exact hS) ?_
            simp only [Act.put, List.setIfInBounds_toArray, List.set_cons_succ, List.set_cons_zero]
            have hb2 := below_setRow' hb hAlo #[.bool false, .slice none 0 0, .slice a12 n12 c12, .slice a4 n4 c4]
            refine wpAnyH_one_skip 15 rfl (by kernel_rfl) (by kernel_rfl) (ex_store_row rfl rfl rfl hA (by kernel_rfl) rfl (by simp [Value.oneCell'])) hb2 ?_
            simp only [Act.put, List.setIfInBounds_toArray]
            refine wpAnyH_done (by kernel_rfl) ?_ _
            have F2 := FB.out _ _ F (hb2.mono F.sz)
            have H2 : RlfW (w.heap.size + 3) (W12.setRow W7.heap.size #[.bool false, .slice none 0 0, .slice a12 n12 c12, .slice a4 n4 c4]) W7.heap.size #[.bool false, .slice none 0 0, .slice a12 n12 c12, .slice a4 n4 c4] (.slice a12 n12 c12) (.slice a4 n4 c4) (n.ks.take (q - 1)) (n.is.take q) := ⟨setRow_heap _ _ _ #[.bool false, .slice none 0 0, .slice a12 n12 c12, .slice a4 n4 c4] _ _ hA, Nat.le_trans F.sz hAlo, (oS.ner hA (by decide) (fun k hk => setRow_other _ W7.heap.size k #[.bool false, .slice none 0 0, .slice a12 n12 c12, .slice a4 n4 c4] hk)).base F.sz, (oI.ner hA (by decide) (fun k hk => setRow_other _ W7.heap.size k #[.bool false, .slice none 0 0, .slice a12 n12 c12, .slice a4 n4 c4] hk)).base F.sz⟩

            clear hb2 hb hS oS oI hA
            go_wp2
            go_meet
            exact ⟨_, _, _, rfl, .mk _ _ _, .mk _ _ _, F2, H2⟩
        · skip
          obtain ⟨W8, hV⟩ : ∃ x, W4.alloc zrbO = x := ⟨_, rfl⟩
          have bx : Below W4.heap.size W4 W8 := by rw [← hV]; exact below_new W4 _
          have oI := oI.below bx
          have hA : W8.heap[W4.heap.size]? = some zrbO := by rw [← hV]; exact heap_alloc_new W4 _
          have hAlo := hs
          have hb := hb.trans (bx.mono hs)
          have hs := Nat.le_trans hs bx.size
          have hS := hb
          rw [hV]
          clear hV bx
          simp only [Act.put, List.setIfInBounds_toArray, List.set_cons_succ, List.set_cons_zero]
          refine wpAnyH_one (w1 := W8.alloc (.cells #[] 9)) 6 (some 51) (.slice (some ⟨W8.heap.size, 0, none⟩) 0 0) rfl (by kernel_rfl) (by kernel_rfl) rfl (ex_b0 rfl (mk0S W8)) (hb.trans ((below_new W8 (.cells #[] 9)).mono hs)) ?_
          obtain ⟨W13, hV⟩ : ∃ x, W8.alloc (.cells #[] 9) = x := ⟨_, rfl⟩
          have bx : Below W8.heap.size W8 W13 := by rw [← hV]; exact below_new W8 _
          have oI := oI.below bx
          have hA := (bx.block _ (lt_of_heap hA)).trans hA
          have oS : OwnR elS V0.heap.size W13 (.slice (some ⟨W8.heap.size, 0, none⟩) 0 0) [] := by rw [← hV]; exact (OwnR.made elS W8).base hs
          have hb := hb.trans (bx.mono hs)
          have hs := Nat.le_trans hs bx.size
          have hS := hb
          rw [hV]
          clear hV bx
          simp only [Act.put, List.setIfInBounds_toArray, List.set_cons_succ, List.set_cons_zero]
          obtain ⟨a14, n14, c14, W14, hr14, q14, bq14, sq14, kq14⟩ := app_step okS oS (TKL.out _ hb) LKL.out hs 23
          rw [List.nil_append] at q14
          refine wpAnyH_one (w1 := W14) 12 (some 57) (.slice a14 n14 c14) rfl (by kernel_rfl) (by kernel_rfl) rfl (ex_app rfl rfl rfl hr14) (hb.trans bq14) ?_
          have oI := own_keep oI kq14 (by decide)
          have hA := kq14 _ _ _ _ hA (by decide)
          have oS := q14
          have hb := hb.trans bq14
          have hs := Nat.le_trans hs sq14
          have hS := hb
          simp only [Act.put, List.setIfInBounds_toArray, List.set_cons_succ, List.set_cons_zero]
          refine wpAnyH_take_d 13 (some 58) (.agg #[.bool false, .slice none 0 0, .slice a14 n14 c14, .slice a4 n4 c4]) rfl (by kernel_rfl) (by kernel_rfl) (by kernel_rfl) (by kernel_rfl) rfl (fun _ _ _ h => h) (fun w' _ => ex_build32 rfl rfl rfl (run_build w' 26 _ _ (by kernel_rfl))) (by exact hS) ?_
          simp only [Act.put, List.setIfInBounds_toArray, List.set_cons_succ, List.set_cons_zero]
          have hb2 := below_setRow' hb hAlo #[.bool false, .slice none 0 0, .slice a14 n14 c14, .slice a4 n4 c4]
          refine wpAnyH_one_skip 15 rfl (by kernel_rfl) (by kernel_rfl) (ex_store_row rfl rfl rfl hA (by kernel_rfl) rfl (by simp [Value.oneCell'])) hb2 ?_
          simp only [Act.put, List.setIfInBounds_toArray]
          refine wpAnyH_done (by kernel_rfl) ?_ _
          have F2 := FB.out _ _ F (hb2.mono F.sz)
          have H2 : RlfW (w.heap.size + 3) (W14.setRow W4.heap.size #[.bool false, .slice none 0 0, .slice a14 n14 c14, .slice a4 n4 c4]) W4.heap.size #[.bool false, .slice none 0 0, .slice a14 n14 c14, .slice a4 n4 c4] (.slice a14 n14 c14) (.slice a4 n4 c4) (n.ks.take (q - 1)) (n.is.take q) := ⟨setRow_heap _ _ _ #[.bool false, .slice none 0 0, .slice a14 n14 c14, .slice a4 n4 c4] _ _ hA, Nat.le_trans F.sz hAlo, (oS.ner hA (by decide) (fun k hk => setRow_other _ W4.heap.size k #[.bool false, .slice none 0 0, .slice a14 n14 c14, .slice a4 n4 c4] hk)).base F.sz, (oI.ner hA (by decide) (fun k hk => setRow_other _ W4.heap.size k #[.bool false, .slice none 0 0, .slice a14 n14 c14, .slice a4 n4 c4] hk)).base F.sz⟩

          clear hb2 hb hS oS oI hA
          go_wp2
          go_meet
          exact ⟨_, _, _, rfl, .mk _ _ _, .mk _ _ _, F2, H2⟩
      · skip
        obtain ⟨W5, hV⟩ : ∃ x, W1.alloc (.cells #[] 9) = x := ⟨_, rfl⟩
        have bx : Below W1.heap.size W1 W5 := by rw [← hV]; exact below_new W1 _
        have oI := oI.below bx
        have oS : OwnR elS V0.heap.size W5 (.slice (some ⟨W1.heap.size, 0, none⟩) 0 0) [] := by rw [← hV]; exact (OwnR.made elS W1).base hs
        have hb := hb.trans (bx.mono hs)
        have hs := Nat.le_trans hs bx.size
        have hS := hb
        rw [hV]
        clear hV bx
        simp only [Act.put, List.setIfInBounds_toArray, List.set_cons_succ, List.set_cons_zero]
        obtain ⟨a15, n15, c15, W15, hr15, q15, bq15, sq15, kq15⟩ := app_step okZ oI (TIL.out _ hb) LIL.out hs 24
        rw [List.nil_append] at q15
        refine wpAnyH_two (w1 := W15) (w2 := W5.alloc zrbO) 5 14 (some 50) (some 7) (.slice a15 n15 c15) (.pointer (some ⟨W5.heap.size, 0, none⟩)) rfl rfl (by kernel_rfl) (by kernel_rfl) (by kernel_rfl) rfl rfl (ex_app rfl rfl rfl hr15) (al_row rfl zero_rnd) (hb.trans bq15) (hb.trans ((below_new W5 zrbO).mono hs)) ?_ ?_
        · skip
          have oS := own_keep oS kq15 (by decide)
          have oI := q15
          have hb := hb.trans bq15
          have hs := Nat.le_trans hs sq15
          have hS := hb
          simp only [Act.put, List.setIfInBounds_toArray, List.set_cons_succ, List.set_cons_zero]
          obtain ⟨a17, n17, c17, W17, hr17, q17, bq17, sq17, kq17⟩ := app_step okS oS (TKL.out _ hb) LKL.out hs 23
          rw [List.nil_append] at q17
          refine wpAnyH_two (w1 := W17) (w2 := W15.alloc zrbO) 12 14 (some 57) (some 7) (.slice a17 n17 c17) (.pointer (some ⟨W15.heap.size, 0, none⟩)) rfl rfl (by kernel_rfl) (by kernel_rfl) (by kernel_rfl) rfl rfl (ex_app rfl rfl rfl hr17) (al_row rfl zero_rnd) (hb.trans bq17) (hb.trans ((below_new W15 zrbO).mono hs)) ?_ ?_
          · skip
            have oI := own_keep oI kq17 (by decide)
            have oS := q17
            have hb := hb.trans bq17
            have hs := Nat.le_trans hs sq17
            have hS := hb
            simp only [Act.put, List.setIfInBounds_toArray, List.set_cons_succ, List.set_cons_zero]
            refine wpAnyH_take_d 13 (some 58) (.agg #[.bool false, .slice none 0 0, .slice a17 n17 c17, .slice a15 n15 c15]) rfl (by kernel_rfl) (by kernel_rfl) (by kernel_rfl) (by kernel_rfl) rfl (fun _ _ _ h => h) (fun w' _ => ex_build32 rfl rfl rfl (run_build w' 26 _ _ (by kernel_rfl))) (by exact hS) ?_
            simp only [Act.put, List.setIfInBounds_toArray, List.set_cons_succ, List.set_cons_zero]
            refine wpAnyH_one (w1 := W17.alloc zrbO) 14 (some 7) (.pointer (some ⟨W17.heap.size, 0, none⟩)) rfl (by kernel_rfl) (by kernel_rfl) rfl (al_row rfl zero_rnd) (hb.trans ((below_new W17 zrbO).mono hs)) ?_
            obtain ⟨W19, hV⟩ : ∃ x, W17.alloc zrbO = x := ⟨_, rfl⟩
            have bx : Below W17.heap.size W17 W19 := by rw [← hV]; exact below_new W17 _
            have oI := oI.below bx
            have oS := oS.below bx
            have hA : W19.heap[W17.heap.size]? = some zrbO := by rw [← hV]; exact heap_alloc_new W17 _
            have hAlo := hs
            have hb := hb.trans (bx.mono hs)
            have hs := Nat.le_trans hs bx.size
            have hS := hb
            rw [hV]
            clear hV bx
            simp only [Act.put, List.setIfInBounds_toArray, List.set_cons_succ, List.set_cons_zero]
            have hb2 := below_setRow' hb hAlo #[.bool false, .slice none 0 0, .slice a17 n17 c17, .slice a15 n15 c15]
            refine wpAnyH_one_skip 15 rfl (by kernel_rfl) (by kernel_rfl) (ex_store_row rfl rfl rfl hA (by kernel_rfl) rfl (by simp [Value.oneCell'])) hb2 ?_
            simp only [Act.put, List.setIfInBounds_toArray]
            refine wpAnyH_done (by kernel_rfl) ?_ _
            have F2 := FB.out _ _ F (hb2.mono F.sz)
            have H2 : RlfW (w.heap.size + 3) (W19.setRow W17.heap.size #[.bool false, .slice none 0 0, .slice a17 n17 c17, .slice a15 n15 c15]) W17.heap.size #[.bool false, .slice none 0 0, .slice a17 n17 c17, .slice a15 n15 c15] (.slice a17 n17 c17) (.slice a15 n15 c15) (n.ks.take (q - 1)) (n.is.take q) := ⟨setRow_heap _ _ _ #[.bool false, .slice none 0 0, .slice a17 n17 c17, .slice a15 n15 c15] _ _ hA, Nat.le_trans F.sz hAlo, (oS.ner hA (by decide) (fun k hk => setRow_other _ W17.heap.size k #[.bool false, .slice none 0 0, .slice a17 n17 c17, .slice a15 n15 c15] hk)).base F.sz, (oI.ner hA (by decide) (fun k hk => setRow_other _ W17.heap.size k #[.bool false, .slice none 0 0, .slice a17 n17 c17, .slice a15 n15 c15] hk)).base F.sz⟩

            clear hb2 hb hS oS oI hA
            go_wp2
            go_meet
            exact ⟨_, _, _, rfl, .mk _ _ _, .mk _ _ _, F2, H2⟩
          · skip
            obtain ⟨W18, hV⟩ : ∃ x, W15.alloc zrbO = x := ⟨_, rfl⟩
            have bx : Below W15.heap.size W15 W18 := by rw [← hV]; exact below_new W15 _
            have oI := oI.below bx
            have oS := oS.below bx
            have hA : W18.heap[W15.heap.size]? = some zrbO := by rw [← hV]; exact heap_alloc_new W15 _
            have hAlo := hs
            have hb := hb.trans (bx.mono hs)
            have hs := Nat.le_trans hs bx.size
            have hS := hb
            rw [hV]
            clear hV bx
            simp only [Act.put, List.setIfInBounds_toArray, List.set_cons_succ, List.set_cons_zero]
            obtain ⟨a20, n20, c20, W20, hr20, q20, bq20, sq20, kq20⟩ := app_step okS oS (TKL.out _ hb) LKL.out hs 23
            rw [List.nil_append] at q20
            refine wpAnyH_one (w1 := W20) 12 (some 57) (.slice a20 n20 c20) rfl (by kernel_rfl) (by kernel_rfl) rfl (ex_app rfl rfl rfl hr20) (hb.trans bq20) ?_
            have oI := own_keep oI kq20 (by decide)
            have hA := kq20 _ _ _ _ hA (by decide)
            have oS := q20
            have hb := hb.trans bq20
            have hs := Nat.le_trans hs sq20
            have hS := hb
            simp only [Act.put, List.setIfInBounds_toArray, List.set_cons_succ, List.set_cons_zero]
            refine wpAnyH_take_d 13 (some 58) (.agg #[.bool false, .slice none 0 0, .slice a20 n20 c20, .slice a15 n15 c15]) rfl (by kernel_rfl) (by kernel_rfl) (by kernel_rfl) (by kernel_rfl) rfl (fun _ _ _ h => h) (fun w' _ => ex_build32 rfl rfl rfl (run_build w' 26 _ _ (by kernel_rfl))) (by exact hS) ?_
            simp only [Act.put, List.setIfInBounds_toArray, List.set_cons_succ, List.set_cons_zero]
            have hb2 := below_setRow' hb hAlo #[.bool false, .slice none 0 0, .slice a20 n20 c20, .slice a15 n15 c15]
            refine wpAnyH_one_skip 15 rfl (by kernel_rfl) (by kernel_rfl) (ex_store_row rfl rfl rfl hA (by kernel_rfl) rfl (by simp [Value.oneCell'])) hb2 ?_
            simp only [Act.put, List.setIfInBounds_toArray]
            refine wpAnyH_done (by kernel_rfl) ?_ _
            have F2 := FB.out _ _ F (hb2.mono F.sz)
            have H2 : RlfW (w.heap.size + 3) (W20.setRow W15.heap.size #[.bool false, .slice none 0 0, .slice a20 n20 c20, .slice a15 n15 c15]) W15.heap.size #[.bool false, .slice none 0 0, .slice a20 n20 c20, .slice a15 n15 c15] (.slice a20 n20 c20) (.slice a15 n15 c15) (n.ks.take (q - 1)) (n.is.take q) := ⟨setRow_heap _ _ _ #[.bool false, .slice none 0 0, .slice a20 n20 c20, .slice a15 n15 c15] _ _ hA, Nat.le_trans F.sz hAlo, (oS.ner hA (by decide) (fun k hk => setRow_other _ W15.heap.size k #[.bool false, .slice none 0 0, .slice a20 n20 c20, .slice a15 n15 c15] hk)).base F.sz, (oI.ner hA (by decide) (fun k hk => setRow_other _ W15.heap.size k #[.bool false, .slice none 0 0, .slice a20 n20 c20, .slice a15 n15 c15] hk)).base F.sz⟩

            clear hb2 hb hS oS oI hA
            go_wp2
            go_meet
            exact ⟨_, _, _, rfl, .mk _ _ _, .mk _ _ _, F2, H2⟩
        · skip
          obtain ⟨W16, hV⟩ : ∃ x, W5.alloc zrbO = x := ⟨_, rfl⟩
          have bx : Below W5.heap.size W5 W16 := by rw [← hV]; exact below_new W5 _
          have oI := oI.below bx
          have oS := oS.below bx
          have hA : W16.heap[W5.heap.size]? = some zrbO := by rw [← hV]; exact heap_alloc_new W5 _
          have hAlo := hs
          have hb := hb.trans (bx.mono hs)
          have hs := Nat.le_trans hs bx.size
          have hS := hb
          rw [hV]
          clear hV bx
          simp only [Act.put, List.setIfInBounds_toArray, List.set_cons_succ, List.set_cons_zero]
          obtain ⟨a21, n21, c21, W21, hr21, q21, bq21, sq21, kq21⟩ := app_step okZ oI (TIL.out _ hb) LIL.out hs 24
          rw [List.nil_append] at q21
          refine wpAnyH_one (w1 := W21) 5 (some 50) (.slice a21 n21 c21) rfl (by kernel_rfl) (by kernel_rfl) rfl (ex_app rfl rfl rfl hr21) (hb.trans bq21) ?_
          have oS := own_keep oS kq21 (by decide)
          have hA := kq21 _ _ _ _ hA (by decide)
          have oI := q21
          have hb := hb.trans bq21
          have hs := Nat.le_trans hs sq21
          have hS := hb
          simp only [Act.put, List.setIfInBounds_toArray, List.set_cons_succ, List.set_cons_zero]
          obtain ⟨a22, n22, c22, W22, hr22, q22, bq22, sq22, kq22⟩ := app_step okS oS (TKL.out _ hb) LKL.out hs 23
          rw [List.nil_append] at q22
          refine wpAnyH_one (w1 := W22) 12 (some 57) (.slice a22 n22 c22) rfl (by kernel_rfl) (by kernel_rfl) rfl (ex_app rfl rfl rfl hr22) (hb.trans bq22) ?_
          have oI := own_keep oI kq22 (by decide)
          have hA := kq22 _ _ _ _ hA (by decide)
          have oS := q22
          have hb := hb.trans bq22
          have hs := Nat.le_trans hs sq22
          have hS := hb
          simp only [Act.put, List.setIfInBounds_toArray, List.set_cons_succ, List.set_cons_zero]
          refine wpAnyH_take_d 13 (some 58) (.agg #[.bool false, .slice none 0 0, .slice a22 n22 c22, .slice a21 n21 c21]) rfl (by kernel_rfl) (by kernel_rfl) (by kernel_rfl) (by kernel_rfl) rfl (fun _ _ _ h => h) (fun w' _ => ex_build32 rfl rfl rfl (run_build w' 26 _ _ (by kernel_rfl))) (by exact hS) ?_
          simp only [Act.put, List.setIfInBounds_toArray, List.set_cons_succ, List.set_cons_zero]
          have hb2 := below_setRow' hb hAlo #[.bool false, .slice none 0 0, .slice a22 n22 c22, .slice a21 n21 c21]
          refine wpAnyH_one_skip 15 rfl (by kernel_rfl) (by kernel_rfl) (ex_store_row rfl rfl rfl hA (by kernel_rfl) rfl (by simp [Value.oneCell'])) hb2 ?_
          simp only [Act.put, List.setIfInBounds_toArray]
          refine wpAnyH_done (by kernel_rfl) ?_ _
          have F2 := FB.out _ _ F (hb2.mono F.sz)
          have H2 : RlfW (w.heap.size + 3) (W22.setRow W5.heap.size #[.bool false, .slice none 0 0, .slice a22 n22 c22, .slice a21 n21 c21]) W5.heap.size #[.bool false, .slice none 0 0, .slice a22 n22 c22, .slice a21 n21 c21] (.slice a22 n22 c22) (.slice a21 n21 c21) (n.ks.take (q - 1)) (n.is.take q) := ⟨setRow_heap _ _ _ #[.bool false, .slice none 0 0, .slice a22 n22 c22, .slice a21 n21 c21] _ _ hA, Nat.le_trans F.sz hAlo, (oS.ner hA (by decide) (fun k hk => setRow_other _ W5.heap.size k #[.bool false, .slice none 0 0, .slice a22 n22 c22, .slice a21 n21 c21] hk)).base F.sz, (oI.ner hA (by decide) (fun k hk => setRow_other _ W5.heap.size k #[.bool false, .slice none 0 0, .slice a22 n22 c22, .slice a21 n21 c21] hk)).base F.sz⟩

          clear hb2 hb hS oS oI hA
          go_wp2
          go_meet
          exact ⟨_, _, _, rfl, .mk _ _ _, .mk _ _ _, F2, H2⟩
      · skip
        obtain ⟨W6, hV⟩ : ∃ x, W1.alloc zrbO = x := ⟨_, rfl⟩
        have bx : Below W1.heap.size W1 W6 := by rw [← hV]; exact below_new W1 _
        have oI := oI.below bx
        have hA : W6.heap[W1.heap.size]? = some zrbO := by rw [← hV]; exact heap_alloc_new W1 _
        have hAlo := hs
        have hb := hb.trans (bx.mono hs)
        have hs := Nat.le_trans hs bx.size
        have hS := hb
        rw [hV]
        clear hV bx
        simp only [Act.put, List.setIfInBounds_toArray, List.set_cons_succ, List.set_cons_zero]
        obtain ⟨a23, n23, c23, W23, hr23, q23, bq23, sq23, kq23⟩ := app_step okZ oI (TIL.out _ hb) LIL.out hs 24
        rw [List.nil_append] at q23
        refine wpAnyH_two (w1 := W23) (w2 := W6.alloc (.cells #[] 9)) 5 6 (some 50) (some 51) (.slice a23 n23 c23) (.slice (some ⟨W6.heap.size, 0, none⟩) 0 0) rfl rfl (by kernel_rfl) (by kernel_rfl) (by kernel_rfl) rfl rfl (ex_app rfl rfl rfl hr23) (ex_b0 rfl (mk0S W6)) (hb.trans bq23) (hb.trans ((below_new W6 (.cells #[] 9)).mono hs)) ?_ ?_
        · skip
          have hA := kq23 _ _ _ _ hA (by decide)
          have oI := q23
          have hb := hb.trans bq23
          have hs := Nat.le_trans hs sq23
          have hS := hb
          simp only [Act.put, List.setIfInBounds_toArray, List.set_cons_succ, List.set_cons_zero]
          refine wpAnyH_one (w1 := W23.alloc (.cells #[] 9)) 6 (some 51) (.slice (some ⟨W23.heap.size, 0, none⟩) 0 0) rfl (by kernel_rfl) (by kernel_rfl) rfl (ex_b0 rfl (mk0S W23)) (hb.trans ((below_new W23 (.cells #[] 9)).mono hs)) ?_
          obtain ⟨W25, hV⟩ : ∃ x, W23.alloc (.cells #[] 9) = x := ⟨_, rfl⟩
          have bx : Below W23.heap.size W23 W25 := by rw [← hV]; exact below_new W23 _
          have oI := oI.below bx
          have hA := (bx.block _ (lt_of_heap hA)).trans hA
          have oS : OwnR elS V0.heap.size W25 (.slice (some ⟨W23.heap.size, 0, none⟩) 0 0) [] := by rw [← hV]; exact (OwnR.made elS W23).base hs
          have hb := hb.trans (bx.mono hs)
          have hs := Nat.le_trans hs bx.size
          have hS := hb
          rw [hV]
          clear hV bx
          simp only [Act.put, List.setIfInBounds_toArray, List.set_cons_succ, List.set_cons_zero]
          obtain ⟨a26, n26, c26, W26, hr26, q26, bq26, sq26, kq26⟩ := app_step okS oS (TKL.out _ hb) LKL.out hs 23
          rw [List.nil_append] at q26
          refine wpAnyH_one (w1 := W26) 12 (some 57) (.slice a26 n26 c26) rfl (by kernel_rfl) (by kernel_rfl) rfl (ex_app rfl rfl rfl hr26) (hb.trans bq26) ?_
          have oI := own_keep oI kq26 (by decide)
          have hA := kq26 _ _ _ _ hA (by decide)
          have oS := q26
          have hb := hb.trans bq26
          have hs := Nat.le_trans hs sq26
          have hS := hb
          simp only [Act.put, List.setIfInBounds_toArray, List.set_cons_succ, List.set_cons_zero]
          refine wpAnyH_take_d 13 (some 58) (.agg #[.bool false, .slice none 0 0, .slice a26 n26 c26, .slice a23 n23 c23]) rfl (by kernel_rfl) (by kernel_rfl) (by kernel_rfl) (by kernel_rfl) rfl (fun _ _ _ h => h) (fun w' _ => ex_build32 rfl rfl rfl (run_build w' 26 _ _ (by kernel_rfl))) (by exact hS) ?_
          simp only [Act.put, List.setIfInBounds_toArray, List.set_cons_succ, List.set_cons_zero]
          have hb2 := below_setRow' hb hAlo #[.bool false, .slice none 0 0, .slice a26 n26 c26, .slice a23 n23 c23]
          refine wpAnyH_one_skip 15 rfl (by kernel_rfl) (by kernel_rfl) (ex_store_row rfl rfl rfl hA (by kernel_rfl) rfl (by simp [Value.oneCell'])) hb2 ?_
          simp only [Act.put, List.setIfInBounds_toArray]
          refine wpAnyH_done (by kernel_rfl) ?_ _
          have F2 := FB.out _ _ F (hb2.mono F.sz)
          have H2 : RlfW (w.heap.size + 3) (W26.setRow W1.heap.size #[.bool false, .slice none 0 0, .slice a26 n26 c26, .slice a23 n23 c23]) W1.heap.size #[.bool false, .slice none 0 0, .slice a26 n26 c26, .slice a23 n23 c23] (.slice a26 n26 c26) (.slice a23 n23 c23) (n.ks.take (q - 1)) (n.is.take q) := ⟨setRow_heap _ _ _ #[.bool false, .slice none 0 0, .slice a26 n26 c26, .slice a23 n23 c23] _ _ hA, Nat.le_trans F.sz hAlo, (oS.ner hA (by decide) (fun k hk => setRow_other _ W1.heap.size k #[.bool false, .slice none 0 0, .slice a26 n26 c26, .slice a23 n23 c23] hk)).base F.sz, (oI.ner hA (by decide) (fun k hk => setRow_other _ W1.heap.size k #[.bool false, .slice none 0 0, .slice a26 n26 c26, .slice a23 n23 c23] hk)).base F.sz⟩

          clear hb2 hb hS oS oI hA
          go_wp2
          go_meet
          exact ⟨_, _, _, rfl, .mk _ _ _, .mk _ _ _, F2, H2⟩
        · skip
          obtain ⟨W24, hV⟩ : ∃ x, W6.alloc (.cells #[] 9) = x := ⟨_, rfl⟩
          have bx : Below W6.heap.size W6 W24 := by rw [← hV]; exact below_new W6 _
          have oI := oI.below bx
          have hA := (bx.block _ (lt_of_heap hA)).trans hA
          have oS : OwnR elS V0.heap.size W24 (.slice (some ⟨W6.heap.size, 0, none⟩) 0 0) [] := by rw [← hV]; exact (OwnR.made elS W6).base hs
          have hb := hb.trans (bx.mono hs)
          have hs := Nat.le_trans hs bx.size
          have hS := hb
          rw [hV]
          clear hV bx
          simp only [Act.put, List.setIfInBounds_toArray, List.set_cons_succ, List.set_cons_zero]
          obtain ⟨a27, n27, c27, W27, hr27, q27, bq27, sq27, kq27⟩ := app_step okZ oI (TIL.out _ hb) LIL.out hs 24
          rw [List.nil_append] at q27
          refine wpAnyH_one (w1 := W27) 5 (some 50) (.slice a27 n27 c27) rfl (by kernel_rfl) (by kernel_rfl) rfl (ex_app rfl rfl rfl hr27) (hb.trans bq27) ?_
          have hA := kq27 _ _ _ _ hA (by decide)
          have oS := own_keep oS kq27 (by decide)
          have oI := q27
          have hb := hb.trans bq27
          have hs := Nat.le_trans hs sq27
          have hS := hb
          simp only [Act.put, List.setIfInBounds_toArray, List.set_cons_succ, List.set_cons_zero]
          obtain ⟨a28, n28, c28, W28, hr28, q28, bq28, sq28, kq28⟩ := app_step okS oS (TKL.out _ hb) LKL.out hs 23
          rw [List.nil_append] at q28
          refine wpAnyH_one (w1 := W28) 12 (some 57) (.slice a28 n28 c28) rfl (by kernel_rfl) (by kernel_rfl) rfl (ex_app rfl rfl rfl hr28) (hb.trans bq28) ?_
          have oI := own_keep oI kq28 (by decide)
          have hA := kq28 _ _ _ _ hA (by decide)
          have oS := q28
          have hb := hb.trans bq28
          have hs := Nat.le_trans hs sq28
          have hS := hb
          simp only [Act.put, List.setIfInBounds_toArray, List.set_cons_succ, List.set_cons_zero]
          refine wpAnyH_take_d 13 (some 58) (.agg #[.bool false, .slice none 0 0, .slice a28 n28 c28, .slice a27 n27 c27]) rfl (by kernel_rfl) (by kernel_rfl) (by kernel_rfl) (by kernel_rfl) rfl (fun _ _ _ h => h) (fun w' _ => ex_build32 rfl rfl rfl (run_build w' 26 _ _ (by kernel_rfl))) (by exact hS) ?_
          simp only [Act.put, List.setIfInBounds_toArray, List.set_cons_succ, List.set_cons_zero]
          have hb2 := below_setRow' hb hAlo #[.bool false, .slice none 0 0, .slice a28 n28 c28, .slice a27 n27 c27]
          refine wpAnyH_one_skip 15 rfl (by kernel_rfl) (by kernel_rfl) (ex_store_row rfl rfl rfl hA (by kernel_rfl) rfl (by simp [Value.oneCell'])) hb2 ?_
          simp only [Act.put, List.setIfInBounds_toArray]
          refine wpAnyH_done (by kernel_rfl) ?_ _
          have F2 := FB.out _ _ F (hb2.mono F.sz)
          have H2 : RlfW (w.heap.size + 3) (W28.setRow W1.heap.size #[.bool false, .slice none 0 0, .slice a28 n28 c28, .slice a27 n27 c27]) W1.heap.size #[.bool false, .slice none 0 0, .slice a28 n28 c28, .slice a27 n27 c27] (.slice a28 n28 c28) (.slice a27 n27 c27) (n.ks.take (q - 1)) (n.is.take q) := ⟨setRow_heap _ _ _ #[.bool false, .slice none 0 0, .slice a28 n28 c28, .slice a27 n27 c27] _ _ hA, Nat.le_trans F.sz hAlo, (oS.ner hA (by decide) (fun k hk => setRow_other _ W1.heap.size k #[.bool false, .slice none 0 0, .slice a28 n28 c28, .slice a27 n27 c27] hk)).base F.sz, (oI.ner hA (by decide) (fun k hk => setRow_other _ W1.heap.size k #[.bool false, .slice none 0 0, .slice a28 n28 c28, .slice a27 n27 c27] hk)).base F.sz⟩

          clear hb2 hb hS oS oI hA
          go_wp2
          go_meet
          exact ⟨_, _, _, rfl, .mk _ _ _, .mk _ _ _, F2, H2⟩
    · skip
      obtain ⟨W2, hV⟩ : ∃ x, V0.alloc (.cells #[] 9) = x := ⟨_, rfl⟩
      have bx : Below V0.heap.size V0 W2 := by rw [← hV]; exact below_new V0 _
      have oS : OwnR elS V0.heap.size W2 (.slice (some ⟨V0.heap.size, 0, none⟩) 0 0) [] := by rw [← hV]; exact (OwnR.made elS V0).base hs
      have hb := hb.trans (bx.mono hs)
      have hs := Nat.le_trans hs bx.size
      have hS := hb
      rw [hV]
      clear hV bx
      simp only [Act.put, List.setIfInBounds_toArray, List.set_cons_succ, List.set_cons_zero]
      refine wpAnyH_two (w1 := W2.alloc (.cells #[] 3)) (w2 := W2.alloc zrbO) 0 14 (some 45) (some 7) (.slice (some ⟨W2.heap.size, 0, none⟩) 0 0) (.pointer (some ⟨W2.heap.size, 0, none⟩)) rfl rfl (by kernel_rfl) (by kernel_rfl) (by kernel_rfl) rfl rfl (ex_b0 rfl (mk0I W2)) (al_row rfl zero_rnd) (hb.trans ((below_new W2 (.cells #[] 3)).mono hs)) (hb.trans ((below_new W2 zrbO).mono hs)) ?_ ?_
      · skip
        obtain ⟨W29, hV⟩ : ∃ x, W2.alloc (.cells #[] 3) = x := ⟨_, rfl⟩
        have bx : Below W2.heap.size W2 W29 := by rw [← hV]; exact below_new W2 _
        have oS := oS.below bx
        have oI : OwnR elI V0.heap.size W29 (.slice (some ⟨W2.heap.size, 0, none⟩) 0 0) [] := by rw [← hV]; exact (OwnR.made elI W2).base hs
        have hb := hb.trans (bx.mono hs)
        have hs := Nat.le_trans hs bx.size
        have hS := hb
        rw [hV]
        clear hV bx
        simp only [Act.put, List.setIfInBounds_toArray, List.set_cons_succ, List.set_cons_zero]
        obtain ⟨a31, n31, c31, W31, hr31, q31, bq31, sq31, kq31⟩ := app_step okZ oI (TIL.out _ hb) LIL.out hs 24
        rw [List.nil_append] at q31
        refine wpAnyH_two (w1 := W31) (w2 := W29.alloc zrbO) 5 14 (some 50) (some 7) (.slice a31 n31 c31) (.pointer (some ⟨W29.heap.size, 0, none⟩)) rfl rfl (by kernel_rfl) (by kernel_rfl) (by kernel_rfl) rfl rfl (ex_app rfl rfl rfl hr31) (al_row rfl zero_rnd) (hb.trans bq31) (hb.trans ((below_new W29 zrbO).mono hs)) ?_ ?_
        · skip
          have oS := own_keep oS kq31 (by decide)
          have oI := q31
          have hb := hb.trans bq31
          have hs := Nat.le_trans hs sq31
          have hS := hb
          simp only [Act.put, List.setIfInBounds_toArray, List.set_cons_succ, List.set_cons_zero]
          obtain ⟨a33, n33, c33, W33, hr33, q33, bq33, sq33, kq33⟩ := app_step okS oS (TKL.out _ hb) LKL.out hs 23
          rw [List.nil_append] at q33
          refine wpAnyH_two (w1 := W33) (w2 := W31.alloc zrbO) 12 14 (some 57) (some 7) (.slice a33 n33 c33) (.pointer (some ⟨W31.heap.size, 0, none⟩)) rfl rfl (by kernel_rfl) (by kernel_rfl) (by kernel_rfl) rfl rfl (ex_app rfl rfl rfl hr33) (al_row rfl zero_rnd) (hb.trans bq33) (hb.trans ((below_new W31 zrbO).mono hs)) ?_ ?_
          · skip
            have oI := own_keep oI kq33 (by decide)
            have oS := q33
            have hb := hb.trans bq33
            have hs := Nat.le_trans hs sq33
            have hS := hb
            simp only [Act.put, List.setIfInBounds_toArray, List.set_cons_succ, List.set_cons_zero]
            refine wpAnyH_take_d 13 (some 58) (.agg #[.bool false, .slice none 0 0, .slice a33 n33 c33, .slice a31 n31 c31]) rfl (by kernel_rfl) (by kernel_rfl) (by kernel_rfl) (by kernel_rfl) rfl (fun _ _ _ h => h) (fun w' _ => ex_build32 rfl rfl rfl (run_build w' 26 _ _ (by kernel_rfl))) (by exact hS) ?_
            simp only [Act.put, List.setIfInBounds_toArray, List.set_cons_succ, List.set_cons_zero]
            refine wpAnyH_one (w1 := W33.alloc zrbO) 14 (some 7) (.pointer (some ⟨W33.heap.size, 0, none⟩)) rfl (by kernel_rfl) (by kernel_rfl) rfl (al_row rfl zero_rnd) (hb.trans ((below_new W33 zrbO).mono hs)) ?_
            obtain ⟨W35, hV⟩ : ∃ x, W33.alloc zrbO = x := ⟨_, rfl⟩
            have bx : Below W33.heap.size W33 W35 := by rw [← hV]; exact below_new W33 _
            have oS := oS.below bx
            have oI := oI.below bx
            have hA : W35.heap[W33.heap.size]? = some zrbO := by rw [← hV]; exact heap_alloc_new W33 _
            have hAlo := hs
            have hb := hb.trans (bx.mono hs)
            have hs := Nat.le_trans hs bx.size
            have hS := hb
            rw [hV]
            clear hV bx
            simp only [Act.put, List.setIfInBounds_toArray, List.set_cons_succ, List.set_cons_zero]
            have hb2 := below_setRow' hb hAlo #[.bool false, .slice none 0 0, .slice a33 n33 c33, .slice a31 n31 c31]
            refine wpAnyH_one_skip 15 rfl (by kernel_rfl) (by kernel_rfl) (ex_store_row rfl rfl rfl hA (by kernel_rfl) rfl (by simp [Value.oneCell'])) hb2 ?_
            simp only [Act.put, List.setIfInBounds_toArray]
            refine wpAnyH_done (by kernel_rfl) ?_ _
            have F2 := FB.out _ _ F (hb2.mono F.sz)
            have H2 : RlfW (w.heap.size + 3) (W35.setRow W33.heap.size #[.bool false, .slice none 0 0, .slice a33 n33 c33, .slice a31 n31 c31]) W33.heap.size #[.bool false, .slice none 0 0, .slice a33 n33 c33, .slice a31 n31 c31] (.slice a33 n33 c33) (.slice a31 n31 c31) (n.ks.take (q - 1)) (n.is.take q) := ⟨setRow_heap _ _ _ #[.bool false, .slice none 0 0, .slice a33 n33 c33, .slice a31 n31 c31] _ _ hA, Nat.le_trans F.sz hAlo, (oS.ner hA (by decide) (fun k hk => setRow_other _ W33.heap.size k #[.bool false, .slice none 0 0, .slice a33 n33 c33, .slice a31 n31 c31] hk)).base F.sz, (oI.ner hA (by decide) (fun k hk => setRow_other _ W33.heap.size k #[.bool false, .slice none 0 0, .slice a33 n33 c33, .slice a31 n31 c31] hk)).base F.sz⟩

            clear hb2 hb hS oS oI hA
            go_wp2
            go_meet
            exact ⟨_, _, _, rfl, .mk _ _ _, .mk _ _ _, F2, H2⟩
          · skip
            obtain ⟨W34, hV⟩ : ∃ x, W31.alloc zrbO = x := ⟨_, rfl⟩
            have bx : Below W31.heap.size W31 W34 := by rw [← hV]; exact below_new W31 _
            have oS := oS.below bx
            have oI := oI.below bx
            have hA : W34.heap[W31.heap.size]? = some zrbO := by rw [← hV]; exact heap_alloc_new W31 _
            have hAlo := hs
            have hb := hb.trans (bx.mono hs)
            have hs := Nat.le_trans hs bx.size
            have hS := hb
            rw [hV]
            clear hV bx
            simp only [Act.put, List.setIfInBounds_toArray, List.set_cons_succ, List.set_cons_zero]
            obtain ⟨a36, n36, c36, W36, hr36, q36, bq36, sq36, kq36⟩ := app_step okS oS (TKL.out _ hb) LKL.out hs 23
            rw [List.nil_append] at q36
            refine wpAnyH_one (w1 := W36) 12 (some 57) (.slice a36 n36 c36) rfl (by kernel_rfl) (by kernel_rfl) rfl (ex_app rfl rfl rfl hr36) (hb.trans bq36) ?_
            have oI := own_keep oI kq36 (by decide)
            have hA := kq36 _ _ _ _ hA (by decide)
            have oS := q36
            have hb := hb.trans bq36
            have hs := Nat.le_trans hs sq36
            have hS := hb
            simp only [Act.put, List.setIfInBounds_toArray, List.set_cons_succ, List.set_cons_zero]
            refine wpAnyH_take_d 13 (some 58) (.agg #[.bool false, .slice none 0 0, .slice a36 n36 c36, .slice a31 n31 c31]) rfl (by kernel_rfl) (by kernel_rfl) (by kernel_rfl) (by kernel_rfl) rfl (fun _ _ _ h => h) (fun w' _ => ex_build32 rfl rfl rfl (run_build w' 26 _ _ (by kernel_rfl))) (by exact hS) ?_
            simp only [Act.put, List.setIfInBounds_toArray, List.set_cons_succ, List.set_cons_zero]
            have hb2 := below_setRow' hb hAlo #[.bool false, .slice none 0 0, .slice a36 n36 c36, .slice a31 n31 c31]
            refine wpAnyH_one_skip 15 rfl (by kernel_rfl) (by kernel_rfl) (ex_store_row rfl rfl rfl hA (by kernel_rfl) rfl (by simp [Value.oneCell'])) hb2 ?_
            simp only [Act.put, List.setIfInBounds_toArray]
            refine wpAnyH_done (by kernel_rfl) ?_ _
            have F2 := FB.out _ _ F (hb2.mono F.sz)
            have H2 : RlfW (w.heap.size + 3) (W36.setRow W31.heap.size #[.bool false, .slice none 0 0, .slice a36 n36 c36, .slice a31 n31 c31]) W31.heap.size #[.bool false, .slice none 0 0, .slice a36 n36 c36, .slice a31 n31 c31] (.slice a36 n36 c36) (.slice a31 n31 c31) (n.ks.take (q - 1)) (n.is.take q) := ⟨setRow_heap _ _ _ #[.bool false, .slice none 0 0, .slice a36 n36 c36, .slice a31 n31 c31] _ _ hA, Nat.le_trans F.sz hAlo, (oS.ner hA (by decide) (fun k hk => setRow_other _ W31.heap.size k #[.bool false, .slice none 0 0, .slice a36 n36 c36, .slice a31 n31 c31] hk)).base F.sz, (oI.ner hA (by decide) (fun k hk => setRow_other _ W31.heap.size k #[.bool false, .slice none 0 0, .slice a36 n36 c36, .slice a31 n31 c31] hk)).base F.sz⟩

            clear hb2 hb hS oS oI hA
            go_wp2
            go_meet
            exact ⟨_, _, _, rfl, .mk _ _ _, .mk _ _ _, F2, H2⟩
        · skip
          obtain ⟨W32, hV⟩ : ∃ x, W29.alloc zrbO = x := ⟨_, rfl⟩
          have bx : Below W29.heap.size W29 W32 := by rw [← hV]; exact below_new W29 _
          have oS := oS.below bx
          have oI := oI.below bx
          have hA : W32.heap[W29.heap.size]? = some zrbO := by rw [← hV]; exact heap_alloc_new W29 _
          have hAlo := hs
          have hb := hb.trans (bx.mono hs)
          have hs := Nat.le_trans hs bx.size
          have hS := hb
          rw [hV]
          clear hV bx
          simp only [Act.put, List.setIfInBounds_toArray, List.set_cons_succ, List.set_cons_zero]
          obtain ⟨a37, n37, c37, W37, hr37, q37, bq37, sq37, kq37⟩ := app_step okZ oI (TIL.out _ hb) LIL.out hs 24
          rw [List.nil_append] at q37
          refine wpAnyH_one (w1 := W37) 5 (some 50) (.slice a37 n37 c37) rfl (by kernel_rfl) (by kernel_rfl) rfl (ex_app rfl rfl rfl hr37) (hb.trans bq37) ?_
          have oS := own_keep oS kq37 (by decide)
          have hA := kq37 _ _ _ _ hA (by decide)
          have oI := q37
          have hb := hb.trans bq37
          have hs := Nat.le_trans hs sq37
          have hS := hb
          simp only [Act.put, List.setIfInBounds_toArray, List.set_cons_succ, List.set_cons_zero]
          obtain ⟨a38, n38, c38, W38, hr38, q38, bq38, sq38, kq38⟩ := app_step okS oS (TKL.out _ hb) LKL.out hs 23
          rw [List.nil_append] at q38
          refine wpAnyH_one (w1 := W38) 12 (some 57) (.slice a38 n38 c38) rfl (by kernel_rfl) (by kernel_rfl) rfl (ex_app rfl rfl rfl hr38) (hb.trans bq38) ?_
          have oI := own_keep oI kq38 (by decide)
          have hA := kq38 _ _ _ _ hA (by decide)
          have oS := q38
          have hb := hb.trans bq38
          have hs := Nat.le_trans hs sq38
          have hS := hb
          simp only [Act.put, List.setIfInBounds_toArray, List.set_cons_succ, List.set_cons_zero]
          refine wpAnyH_take_d 13 (some 58) (.agg #[.bool false, .slice none 0 0, .slice a38 n38 c38, .slice a37 n37 c37]) rfl (by kernel_rfl) (by kernel_rfl) (by kernel_rfl) (by kernel_rfl) rfl (fun _ _ _ h => h) (fun w' _ => ex_build32 rfl rfl rfl (run_build w' 26 _ _ (by kernel_rfl))) (by exact hS) ?_
          simp only [Act.put, List.setIfInBounds_toArray, List.set_cons_succ, List.set_cons_zero]
          have hb2 := below_setRow' hb hAlo #[.bool false, .slice none 0 0, .slice a38 n38 c38, .slice a37 n37 c37]
          refine wpAnyH_one_skip 15 rfl (by kernel_rfl) (by kernel_rfl) (ex_store_row rfl rfl rfl hA (by kernel_rfl) rfl (by simp [Value.oneCell'])) hb2 ?_
          simp only [Act.put, List.setIfInBounds_toArray]
          refine wpAnyH_done (by kernel_rfl) ?_ _
          have F2 := FB.out _ _ F (hb2.mono F.sz)
          have H2 : RlfW (w.heap.size + 3) (W38.setRow W29.heap.size #[.bool false, .slice none 0 0, .slice a38 n38 c38, .slice a37 n37 c37]) W29.heap.size #[.bool false, .slice none 0 0, .slice a38 n38 c38, .slice a37 n37 c37] (.slice a38 n38 c38) (.slice a37 n37 c37) (n.ks.take (q - 1)) (n.is.take q) := ⟨setRow_heap _ _ _ #[.bool false, .slice none 0 0, .slice a38 n38 c38, .slice a37 n37 c37] _ _ hA, Nat.le_trans F.sz hAlo, (oS.ner hA (by decide) (fun k hk => setRow_other _ W29.heap.size k #[.bool false, .slice none 0 0, .slice a38 n38 c38, .slice a37 n37 c37] hk)).base F.sz, (oI.ner hA (by decide) (fun k hk => setRow_other _ W29.heap.size k #[.bool false, .slice none 0 0, .slice a38 n38 c38, .slice a37 n37 c37] hk)).base F.sz⟩

          clear hb2 hb hS oS oI hA
          go_wp2
          go_meet
          exact ⟨_, _, _, rfl, .mk _ _ _, .mk _ _ _, F2, H2⟩
      · skip
        obtain ⟨W30, hV⟩ : ∃ x, W2.alloc zrbO = x := ⟨_, rfl⟩
        have bx : Below W2.heap.size W2 W30 := by rw [← hV]; exact below_new W2 _
        have oS := oS.below bx
        have hA : W30.heap[W2.heap.size]? = some zrbO := by rw [← hV]; exact heap_alloc_new W2 _
        have hAlo := hs
        have hb := hb.trans (bx.mono hs)
        have hs := Nat.le_trans hs bx.size
        have hS := hb
        rw [hV]
        clear hV bx
        simp only [Act.put, List.setIfInBounds_toArray, List.set_cons_succ, List.set_cons_zero]
        refine wpAnyH_one (w1 := W30.alloc (.cells #[] 3)) 0 (some 45) (.slice (some ⟨W30.heap.size, 0, none⟩) 0 0) rfl (by kernel_rfl) (by kernel_rfl) rfl (ex_b0 rfl (mk0I W30)) (hb.trans ((below_new W30 (.cells #[] 3)).mono hs)) ?_
        obtain ⟨W39, hV⟩ : ∃ x, W30.alloc (.cells #[] 3) = x := ⟨_, rfl⟩
        have bx : Below W30.heap.size W30 W39 := by rw [← hV]; exact below_new W30 _
        have oS := oS.below bx
        have hA := (bx.block _ (lt_of_heap hA)).trans hA
        have oI : OwnR elI V0.heap.size W39 (.slice (some ⟨W30.heap.size, 0, none⟩) 0 0) [] := by rw [← hV]; exact (OwnR.made elI W30).base hs
        have hb := hb.trans (bx.mono hs)
        have hs := Nat.le_trans hs bx.size
        have hS := hb
        rw [hV]
        clear hV bx
        simp only [Act.put, List.setIfInBounds_toArray, List.set_cons_succ, List.set_cons_zero]
        obtain ⟨a40, n40, c40, W40, hr40, q40, bq40, sq40, kq40⟩ := app_step okZ oI (TIL.out _ hb) LIL.out hs 24
        rw [List.nil_append] at q40
        refine wpAnyH_one (w1 := W40) 5 (some 50) (.slice a40 n40 c40) rfl (by kernel_rfl) (by kernel_rfl) rfl (ex_app rfl rfl rfl hr40) (hb.trans bq40) ?_
        have oS := own_keep oS kq40 (by decide)
        have hA := kq40 _ _ _ _ hA (by decide)
        have oI := q40
        have hb := hb.trans bq40
        have hs := Nat.le_trans hs sq40
        have hS := hb
        simp only [Act.put, List.setIfInBounds_toArray, List.set_cons_succ, List.set_cons_zero]
        obtain ⟨a41, n41, c41, W41, hr41, q41, bq41, sq41, kq41⟩ := app_step okS oS (TKL.out _ hb) LKL.out hs 23
        rw [List.nil_append] at q41
        refine wpAnyH_one (w1 := W41) 12 (some 57) (.slice a41 n41 c41) rfl (by kernel_rfl) (by kernel_rfl) rfl (ex_app rfl rfl rfl hr41) (hb.trans bq41) ?_
        have hA := kq41 _ _ _ _ hA (by decide)
        have oI := own_keep oI kq41 (by decide)
        have oS := q41
        have hb := hb.trans bq41
        have hs := Nat.le_trans hs sq41
        have hS := hb
        simp only [Act.put, List.setIfInBounds_toArray, List.set_cons_succ, List.set_cons_zero]
        refine wpAnyH_take_d 13 (some 58) (.agg #[.bool false, .slice none 0 0, .slice a41 n41 c41, .slice a40 n40 c40]) rfl (by kernel_rfl) (by kernel_rfl) (by kernel_rfl) (by kernel_rfl) rfl (fun _ _ _ h => h) (fun w' _ => ex_build32 rfl rfl rfl (run_build w' 26 _ _ (by kernel_rfl))) (by exact hS) ?_
        simp only [Act.put, List.setIfInBounds_toArray, List.set_cons_succ, List.set_cons_zero]
        have hb2 := below_setRow' hb hAlo #[.bool false, .slice none 0 0, .slice a41 n41 c41, .slice a40 n40 c40]
        refine wpAnyH_one_skip 15 rfl (by kernel_rfl) (by kernel_rfl) (ex_store_row rfl rfl rfl hA (by kernel_rfl) rfl (by simp [Value.oneCell'])) hb2 ?_
        simp only [Act.put, List.setIfInBounds_toArray]
        refine wpAnyH_done (by kernel_rfl) ?_ _
        have F2 := FB.out _ _ F (hb2.mono F.sz)
        have H2 : RlfW (w.heap.size + 3) (W41.setRow W2.heap.size #[.bool false, .slice none 0 0, .slice a41 n41 c41, .slice a40 n40 c40]) W2.heap.size #[.bool false, .slice none 0 0, .slice a41 n41 c41, .slice a40 n40 c40] (.slice a41 n41 c41) (.slice a40 n40 c40) (n.ks.take (q - 1)) (n.is.take q) := ⟨setRow_heap _ _ _ #[.bool false, .slice none 0 0, .slice a41 n41 c41, .slice a40 n40 c40] _ _ hA, Nat.le_trans F.sz hAlo, (oS.ner hA (by decide) (fun k hk => setRow_other _ W2.heap.size k #[.bool false, .slice none 0 0, .slice a41 n41 c41, .slice a40 n40 c40] hk)).base F.sz, (oI.ner hA (by decide) (fun k hk => setRow_other _ W2.heap.size k #[.bool false, .slice none 0 0, .slice a41 n41 c41, .slice a40 n40 c40] hk)).base F.sz⟩

        clear hb2 hb hS oS oI hA
        go_wp2
        go_meet
        exact ⟨_, _, _, rfl, .mk _ _ _, .mk _ _ _, F2, H2⟩
    · skip
      obtain ⟨W3, hV⟩ : ∃ x, V0.alloc zrbO = x := ⟨_, rfl⟩
      have bx : Below V0.heap.size V0 W3 := by rw [← hV]; exact below_new V0 _
      have hA : W3.heap[V0.heap.size]? = some zrbO := by rw [← hV]; exact heap_alloc_new V0 _
      have hAlo := hs
      have hb := hb.trans (bx.mono hs)
      have hs := Nat.le_trans hs bx.size
      have hS := hb
      rw [hV]
      clear hV bx
      simp only [Act.put, List.setIfInBounds_toArray, List.set_cons_succ, List.set_cons_zero]
      refine wpAnyH_two (w1 := W3.alloc (.cells #[] 3)) (w2 := W3.alloc (.cells #[] 9)) 0 6 (some 45) (some 51) (.slice (some ⟨W3.heap.size, 0, none⟩) 0 0) (.slice (some ⟨W3.heap.size, 0, none⟩) 0 0) rfl rfl (by kernel_rfl) (by kernel_rfl) (by kernel_rfl) rfl rfl (ex_b0 rfl (mk0I W3)) (ex_b0 rfl (mk0S W3)) (hb.trans ((below_new W3 (.cells #[] 3)).mono hs)) (hb.trans ((below_new W3 (.cells #[] 9)).mono hs)) ?_ ?_
      · skip
        obtain ⟨W42, hV⟩ : ∃ x, W3.alloc (.cells #[] 3) = x := ⟨_, rfl⟩
        have bx : Below W3.heap.size W3 W42 := by rw [← hV]; exact below_new W3 _
        have hA := (bx.block _ (lt_of_heap hA)).trans hA
        have oI : OwnR elI V0.heap.size W42 (.slice (some ⟨W3.heap.size, 0, none⟩) 0 0) [] := by rw [← hV]; exact (OwnR.made elI W3).base hs
        have hb := hb.trans (bx.mono hs)
        have hs := Nat.le_trans hs bx.size
        have hS := hb
        rw [hV]
        clear hV bx
        simp only [Act.put, List.setIfInBounds_toArray, List.set_cons_succ, List.set_cons_zero]
        obtain ⟨a44, n44, c44, W44, hr44, q44, bq44, sq44, kq44⟩ := app_step okZ oI (TIL.out _ hb) LIL.out hs 24
        rw [List.nil_append] at q44
        refine wpAnyH_two (w1 := W44) (w2 := W42.alloc (.cells #[] 9)) 5 6 (some 50) (some 51) (.slice a44 n44 c44) (.slice (some ⟨W42.heap.size, 0, none⟩) 0 0) rfl rfl (by kernel_rfl) (by kernel_rfl) (by kernel_rfl) rfl rfl (ex_app rfl rfl rfl hr44) (ex_b0 rfl (mk0S W42)) (hb.trans bq44) (hb.trans ((below_new W42 (.cells #[] 9)).mono hs)) ?_ ?_
        · skip
          have hA := kq44 _ _ _ _ hA (by decide)
          have oI := q44
          have hb := hb.trans bq44
          have hs := Nat.le_trans hs sq44
          have hS := hb
          simp only [Act.put, List.setIfInBounds_toArray, List.set_cons_succ, List.set_cons_zero]
          refine wpAnyH_one (w1 := W44.alloc (.cells #[] 9)) 6 (some 51) (.slice (some ⟨W44.heap.size, 0, none⟩) 0 0) rfl (by kernel_rfl) (by kernel_rfl) rfl (ex_b0 rfl (mk0S W44)) (hb.trans ((below_new W44 (.cells #[] 9)).mono hs)) ?_
          obtain ⟨W46, hV⟩ : ∃ x, W44.alloc (.cells #[] 9) = x := ⟨_, rfl⟩
          have bx : Below W44.heap.size W44 W46 := by rw [← hV]; exact below_new W44 _
          have hA := (bx.block _ (lt_of_heap hA)).trans hA
          have oI := oI.below bx
          have oS : OwnR elS V0.heap.size W46 (.slice (some ⟨W44.heap.size, 0, none⟩) 0 0) [] := by rw [← hV]; exact (OwnR.made elS W44).base hs
          have hb := hb.trans (bx.mono hs)
          have hs := Nat.le_trans hs bx.size
          have hS := hb
          rw [hV]
          clear hV bx
          simp only [Act.put, List.setIfInBounds_toArray, List.set_cons_succ, List.set_cons_zero]
          obtain ⟨a47, n47, c47, W47, hr47, q47, bq47, sq47, kq47⟩ := app_step okS oS (TKL.out _ hb) LKL.out hs 23
          rw [List.nil_append] at q47
          refine wpAnyH_one (w1 := W47) 12 (some 57) (.slice a47 n47 c47) rfl (by kernel_rfl) (by kernel_rfl) rfl (ex_app rfl rfl rfl hr47) (hb.trans bq47) ?_
          have hA := kq47 _ _ _ _ hA (by decide)
          have oI := own_keep oI kq47 (by decide)
          have oS := q47
          have hb := hb.trans bq47
          have hs := Nat.le_trans hs sq47
          have hS := hb
          simp only [Act.put, List.setIfInBounds_toArray, List.set_cons_succ, List.set_cons_zero]
          refine wpAnyH_take_d 13 (some 58) (.agg #[.bool false, .slice none 0 0, .slice a47 n47 c47, .slice a44 n44 c44]) rfl (by kernel_rfl) (by kernel_rfl) (by kernel_rfl) (by kernel_rfl) rfl (fun _ _ _ h => h) (fun w' _ => ex_build32 rfl rfl rfl (run_build w' 26 _ _ (by kernel_rfl))) (by exact hS) ?_
          simp only [Act.put, List.setIfInBounds_toArray, List.set_cons_succ, List.set_cons_zero]
          have hb2 := below_setRow' hb hAlo #[.bool false, .slice none 0 0, .slice a47 n47 c47, .slice a44 n44 c44]
          refine wpAnyH_one_skip 15 rfl (by kernel_rfl) (by kernel_rfl) (ex_store_row rfl rfl rfl hA (by kernel_rfl) rfl (by simp [Value.oneCell'])) hb2 ?_
          simp only [Act.put, List.setIfInBounds_toArray]
          refine wpAnyH_done (by kernel_rfl) ?_ _
          have F2 := FB.out _ _ F (hb2.mono F.sz)
          have H2 : RlfW (w.heap.size + 3) (W47.setRow V0.heap.size #[.bool false, .slice none 0 0, .slice a47 n47 c47, .slice a44 n44 c44]) V0.heap.size #[.bool false, .slice none 0 0, .slice a47 n47 c47, .slice a44 n44 c44] (.slice a47 n47 c47) (.slice a44 n44 c44) (n.ks.take (q - 1)) (n.is.take q) := ⟨setRow_heap _ _ _ #[.bool false, .slice none 0 0, .slice a47 n47 c47, .slice a44 n44 c44] _ _ hA, Nat.le_trans F.sz hAlo, (oS.ner hA (by decide) (fun k hk => setRow_other _ V0.heap.size k #[.bool false, .slice none 0 0, .slice a47 n47 c47, .slice a44 n44 c44] hk)).base F.sz, (oI.ner hA (by decide) (fun k hk => setRow_other _ V0.heap.size k #[.bool false, .slice none 0 0, .slice a47 n47 c47, .slice a44 n44 c44] hk)).base F.sz⟩

          clear hb2 hb hS oS oI hA
          go_wp2
          go_meet
          exact ⟨_, _, _, rfl, .mk _ _ _, .mk _ _ _, F2, H2⟩
        · skip
          obtain ⟨W45, hV⟩ : ∃ x, W42.alloc (.cells #[] 9) = x := ⟨_, rfl⟩
          have bx : Below W42.heap.size W42 W45 := by rw [← hV]; exact below_new W42 _
          have hA := (bx.block _ (lt_of_heap hA)).trans hA
          have oI := oI.below bx
          have oS : OwnR elS V0.heap.size W45 (.slice (some ⟨W42.heap.size, 0, none⟩) 0 0) [] := by rw [← hV]; exact (OwnR.made elS W42).base hs
          have hb := hb.trans (bx.mono hs)
          have hs := Nat.le_trans hs bx.size
          have hS := hb
          rw [hV]
          clear hV bx
          simp only [Act.put, List.setIfInBounds_toArray, List.set_cons_succ, List.set_cons_zero]
          obtain ⟨a48, n48, c48, W48, hr48, q48, bq48, sq48, kq48⟩ := app_step okZ oI (TIL.out _ hb) LIL.out hs 24
          rw [List.nil_append] at q48
          refine wpAnyH_one (w1 := W48) 5 (some 50) (.slice a48 n48 c48) rfl (by kernel_rfl) (by kernel_rfl) rfl (ex_app rfl rfl rfl hr48) (hb.trans bq48) ?_
          have hA := kq48 _ _ _ _ hA (by decide)
          have oS := own_keep oS kq48 (by decide)
          have oI := q48
          have hb := hb.trans bq48
          have hs := Nat.le_trans hs sq48
          have hS := hb
          simp only [Act.put, List.setIfInBounds_toArray, List.set_cons_succ, List.set_cons_zero]
          obtain ⟨a49, n49, c49, W49, hr49, q49, bq49, sq49, kq49⟩ := app_step okS oS (TKL.out _ hb) LKL.out hs 23
          rw [List.nil_append] at q49
          refine wpAnyH_one (w1 := W49) 12 (some 57) (.slice a49 n49 c49) rfl (by kernel_rfl) (by kernel_rfl) rfl (ex_app rfl rfl rfl hr49) (hb.trans bq49) ?_
          have hA := kq49 _ _ _ _ hA (by decide)
          have oI := own_keep oI kq49 (by decide)
          have oS := q49
          have hb := hb.trans bq49
          have hs := Nat.le_trans hs sq49
          have hS := hb
          simp only [Act.put, List.setIfInBounds_toArray, List.set_cons_succ, List.set_cons_zero]
          refine wpAnyH_take_d 13 (some 58) (.agg #[.bool false, .slice none 0 0, .slice a49 n49 c49, .slice a48 n48 c48]) rfl (by kernel_rfl) (by kernel_rfl) (by kernel_rfl) (by kernel_rfl) rfl (fun _ _ _ h => h) (fun w' _ => ex_build32 rfl rfl rfl (run_build w' 26 _ _ (by kernel_rfl))) (by exact hS) ?_
          simp only [Act.put, List.setIfInBounds_toArray, List.set_cons_succ, List.set_cons_zero]
          have hb2 := below_setRow' hb hAlo #[.bool false, .slice none 0 0, .slice a49 n49 c49, .slice a48 n48 c48]
          refine wpAnyH_one_skip 15 rfl (by kernel_rfl) (by kernel_rfl) (ex_store_row rfl rfl rfl hA (by kernel_rfl) rfl (by simp [Value.oneCell'])) hb2 ?_
          simp only [Act.put, List.setIfInBounds_toArray]
          refine wpAnyH_done (by kernel_rfl) ?_ _
          have F2 := FB.out _ _ F (hb2.mono F.sz)
          have H2 : RlfW (w.heap.size + 3) (W49.setRow V0.heap.size #[.bool false, .slice none 0 0, .slice a49 n49 c49, .slice a48 n48 c48]) V0.heap.size #[.bool false, .slice none 0 0, .slice a49 n49 c49, .slice a48 n48 c48] (.slice a49 n49 c49) (.slice a48 n48 c48) (n.ks.take (q - 1)) (n.is.take q) := ⟨setRow_heap _ _ _ #[.bool false, .slice none 0 0, .slice a49 n49 c49, .slice a48 n48 c48] _ _ hA, Nat.le_trans F.sz hAlo, (oS.ner hA (by decide) (fun k hk => setRow_other _ V0.heap.size k #[.bool false, .slice none 0 0, .slice a49 n49 c49, .slice a48 n48 c48] hk)).base F.sz, (oI.ner hA (by decide) (fun k hk => setRow_other _ V0.heap.size k #[.bool false, .slice none 0 0, .slice a49 n49 c49, .slice a48 n48 c48] hk)).base F.sz⟩

          clear hb2 hb hS oS oI hA
          go_wp2
          go_meet
          exact ⟨_, _, _, rfl, .mk _ _ _, .mk _ _ _, F2, H2⟩
      · skip
        obtain ⟨W43, hV⟩ : ∃ x, W3.alloc (.cells #[] 9) = x := ⟨_, rfl⟩
        have bx : Below W3.heap.size W3 W43 := by rw [← hV]; exact below_new W3 _
        have hA := (bx.block _ (lt_of_heap hA)).trans hA
        have oS : OwnR elS V0.heap.size W43 (.slice (some ⟨W3.heap.size, 0, none⟩) 0 0) [] := by rw [← hV]; exact (OwnR.made elS W3).base hs
        have hb := hb.trans (bx.mono hs)
        have hs := Nat.le_trans hs bx.size
        have hS := hb
        rw [hV]
        clear hV bx
        simp only [Act.put, List.setIfInBounds_toArray, List.set_cons_succ, List.set_cons_zero]
        refine wpAnyH_one (w1 := W43.alloc (.cells #[] 3)) 0 (some 45) (.slice (some ⟨W43.heap.size, 0, none⟩) 0 0) rfl (by kernel_rfl) (by kernel_rfl) rfl (ex_b0 rfl (mk0I W43)) (hb.trans ((below_new W43 (.cells #[] 3)).mono hs)) ?_
        obtain ⟨W50, hV⟩ : ∃ x, W43.alloc (.cells #[] 3) = x := ⟨_, rfl⟩
        have bx : Below W43.heap.size W43 W50 := by rw [← hV]; exact below_new W43 _
        have hA := (bx.block _ (lt_of_heap hA)).trans hA
        have oS := oS.below bx
        have oI : OwnR elI V0.heap.size W50 (.slice (some ⟨W43.heap.size, 0, none⟩) 0 0) [] := by rw [← hV]; exact (OwnR.made elI W43).base hs
        have hb := hb.trans (bx.mono hs)
        have hs := Nat.le_trans hs bx.size
        have hS := hb
        rw [hV]
        clear hV bx
        simp only [Act.put, List.setIfInBounds_toArray, List.set_cons_succ, List.set_cons_zero]
        obtain ⟨a51, n51, c51, W51, hr51, q51, bq51, sq51, kq51⟩ := app_step okZ oI (TIL.out _ hb) LIL.out hs 24
        rw [List.nil_append] at q51
        refine wpAnyH_one (w1 := W51) 5 (some 50) (.slice a51 n51 c51) rfl (by kernel_rfl) (by kernel_rfl) rfl (ex_app rfl rfl rfl hr51) (hb.trans bq51) ?_
        have hA := kq51 _ _ _ _ hA (by decide)
        have oS := own_keep oS kq51 (by decide)
        have oI := q51
        have hb := hb.trans bq51
        have hs := Nat.le_trans hs sq51
        have hS := hb
        simp only [Act.put, List.setIfInBounds_toArray, List.set_cons_succ, List.set_cons_zero]
        obtain ⟨a52, n52, c52, W52, hr52, q52, bq52, sq52, kq52⟩ := app_step okS oS (TKL.out _ hb) LKL.out hs 23
        rw [List.nil_append] at q52
        refine wpAnyH_one (w1 := W52) 12 (some 57) (.slice a52 n52 c52) rfl (by kernel_rfl) (by kernel_rfl) rfl (ex_app rfl rfl rfl hr52) (hb.trans bq52) ?_
        have hA := kq52 _ _ _ _ hA (by decide)
        have oI := own_keep oI kq52 (by decide)
        have oS := q52
        have hb := hb.trans bq52
        have hs := Nat.le_trans hs sq52
        have hS := hb
        simp only [Act.put, List.setIfInBounds_toArray, List.set_cons_succ, List.set_cons_zero]
        refine wpAnyH_take_d 13 (some 58) (.agg #[.bool false, .slice none 0 0, .slice a52 n52 c52, .slice a51 n51 c51]) rfl (by kernel_rfl) (by kernel_rfl) (by kernel_rfl) (by kernel_rfl) rfl (fun _ _ _ h => h) (fun w' _ => ex_build32 rfl rfl rfl (run_build w' 26 _ _ (by kernel_rfl))) (by exact hS) ?_
        simp only [Act.put, List.setIfInBounds_toArray, List.set_cons_succ, List.set_cons_zero]
        have hb2 := below_setRow' hb hAlo #[.bool false, .slice none 0 0, .slice a52 n52 c52, .slice a51 n51 c51]
        refine wpAnyH_one_skip 15 rfl (by kernel_rfl) (by kernel_rfl) (ex_store_row rfl rfl rfl hA (by kernel_rfl) rfl (by simp [Value.oneCell'])) hb2 ?_
        simp only [Act.put, List.setIfInBounds_toArray]
        refine wpAnyH_done (by kernel_rfl) ?_ _
        have F2 := FB.out _ _ F (hb2.mono F.sz)
        have H2 : RlfW (w.heap.size + 3) (W52.setRow V0.heap.size #[.bool false, .slice none 0 0, .slice a52 n52 c52, .slice a51 n51 c51]) V0.heap.size #[.bool false, .slice none 0 0, .slice a52 n52 c52, .slice a51 n51 c51] (.slice a52 n52 c52) (.slice a51 n51 c51) (n.ks.take (q - 1)) (n.is.take q) := ⟨setRow_heap _ _ _ #[.bool false, .slice none 0 0, .slice a52 n52 c52, .slice a51 n51 c51] _ _ hA, Nat.le_trans F.sz hAlo, (oS.ner hA (by decide) (fun k hk => setRow_other _ V0.heap.size k #[.bool false, .slice none 0 0, .slice a52 n52 c52, .slice a51 n51 c51] hk)).base F.sz, (oI.ner hA (by decide) (fun k hk => setRow_other _ V0.heap.size k #[.bool false, .slice none 0 0, .slice a52 n52 c52, .slice a51 n51 c51] hk)).base F.sz⟩

        clear hb2 hb hS oS oI hA
        go_wp2
        go_meet
        exact ⟨_, _, _, rfl, .mk _ _ _, .mk _ _ _, F2, H2⟩
  case rest =>
    obtain ⟨A, vkA, viA, rfl, ⟨ka1, km1, kc1, rfl⟩, ⟨ia1, im1, ic1, rfl⟩, F, G⟩ := hcut
    clear q0 q1 q2 q3
    go_upto_region 8 with fail
    go_cut [8] from 59 to 72 (fun s wx => ∃ C vk vi, s = .pointer (some ⟨C, 0, none⟩) ∧ SlV vk ∧ SlV vi ∧ RplW w false (.slice pa pm pc) (.slice ka km kc) (.slice ia im ic) n wx ∧ RlfW (w.heap.size + 3) wx C #[.bool false, .slice none 0 0, vk, vi] vk vi (n.ks.drop q) (n.is.drop q) ∧ RlfW (w.heap.size + 3) wx A #[.bool false, .slice none 0 0, .slice ka1 km1 kc1, .slice ia1 im1 ic1] (.slice ka1 km1 kc1) (.slice ia1 im1 ic1) (n.ks.take (q - 1)) (n.is.take q))
    case first =>
      obtain ⟨V0, hV0⟩ : ∃ V0, wc.drew = V0 := ⟨_, rfl⟩
      have F := FB.out _ _ F ((Below.refl _ _).drew)
      have G := G.below ((Below.refl _ _).drew)
      rw [hV0] at F G
      have hb : Below V0.heap.size V0 V0 := Below.refl _ _
      have hs : V0.heap.size ≤ V0.heap.size := Nat.le_refl _
      have hS : Below V0.heap.size V0 wc.drew := by rw [hV0]; exact hb
      have LD := Lib.hid (fun (w' : World) (b : Below V0.heap.size V0 w') => (FB.out _ _ F (b.mono F.sz)).cs)
      have FRX := Lib.hid (fun (w' : World) (b : Below V0.heap.size V0 w') => (FB.out _ _ F (b.mono F.sz)).fr)
      have TIH := Lib.hid (fun (w' : World) (b : Below V0.heap.size V0 w') => TIH.out _ (FRX.out _ b))
      have TKH := Lib.hid (fun (w' : World) (b : Below V0.heap.size V0 w') => TKH.out _ (FRX.out _ b))
      refine wp_region_held_drew (S := fun w' => Below V0.heap.size V0 w') mixed hS (fun _ => ?_)
      rw [hV0] at hS ⊢
      show wpAnyH _ _ _ _ _ 15 (Array.replicate 15 false) _ _
      refine wpAnyH_take_d 1 (some 60) (.pointer (some ⟨w.heap.size, 3, none⟩)) rfl (by kernel_rfl) (by kernel_rfl) (by kernel_rfl) (by kernel_rfl) rfl (fun _ _ _ h => h) (fun _ _ => by kernel_rfl) (by exact hS) ?_
      simp only [Act.put, List.setIfInBounds_toArray, List.set_cons_succ, List.set_cons_zero]
      refine wpAnyH_take_d 2 (some 61) (.slice ia im ic) rfl (by kernel_rfl) (by kernel_rfl) (by kernel_rfl) (by kernel_rfl) rfl (fun _ _ _ h => h) (fun w' h => exec_load_cell rfl rfl (LD.out _ h).c3 Try.underlying24 rfl) (by exact hS) ?_
      simp only [Act.put, List.setIfInBounds_toArray, List.set_cons_succ, List.set_cons_zero]
      refine wpAnyH_take_d 3 (some 62) (.int .i64 q) rfl (by kernel_rfl) (by kernel_rfl) (by kernel_rfl) (by kernel_rfl) rfl (fun _ _ _ h => h) (fun _ _ => by kernel_rfl) (by exact hS) ?_
      simp only [Act.put, List.setIfInBounds_toArray, List.set_cons_succ, List.set_cons_zero]
      refine wpAnyH_take_d 4 (some 63) (.slice ib (im - q) (ic - q)) rfl (by kernel_rfl) (by kernel_rfl) (by kernel_rfl) (by kernel_rfl) rfl (fun _ _ _ h => h) (fun w' _ => ex_slice rfl rfl rfl rfl (HRI.out w')) (by exact hS) ?_
      simp only [Act.put, List.setIfInBounds_toArray, List.set_cons_succ, List.set_cons_zero]
      refine wpAnyH_take_d 7 (some 66) (.pointer (some ⟨w.heap.size, 2, none⟩)) rfl (by kernel_rfl) (by kernel_rfl) (by kernel_rfl) (by kernel_rfl) rfl (fun _ _ _ h => h) (fun _ _ => by kernel_rfl) (by exact hS) ?_
      simp only [Act.put, List.setIfInBounds_toArray, List.set_cons_succ, List.set_cons_zero]
      refine wpAnyH_take_d 8 (some 67) (.slice ka km kc) rfl (by kernel_rfl) (by kernel_rfl) (by kernel_rfl) (by kernel_rfl) rfl (fun _ _ _ h => h) (fun w' h => exec_load_cell rfl rfl (LD.out _ h).c2 Try.underlying23 rfl) (by exact hS) ?_
      simp only [Act.put, List.setIfInBounds_toArray, List.set_cons_succ, List.set_cons_zero]
      refine wpAnyH_take_d 9 (some 68) (.int .i64 q) rfl (by kernel_rfl) (by kernel_rfl) (by kernel_rfl) (by kernel_rfl) rfl (fun _ _ _ h => h) (fun _ _ => by kernel_rfl) (by exact hS) ?_
      simp only [Act.put, List.setIfInBounds_toArray, List.set_cons_succ, List.set_cons_zero]
      refine wpAnyH_take_d 10 (some 69) (.slice kb (km - q) (kc - q)) rfl (by kernel_rfl) (by kernel_rfl) (by kernel_rfl) (by kernel_rfl) rfl (fun _ _ _ h => h) (fun w' _ => ex_slice rfl rfl rfl rfl (HRK.out w')) (by exact hS) ?_
      simp only [Act.put, List.setIfInBounds_toArray, List.set_cons_succ, List.set_cons_zero]
      -- left: [(0, ('59', 'Op.buildSlice 24 0 #[]', None)), (5, ('64', 'Op.call { builtin append, args := #[t59, t63], argTypes := #[24, 24] }', None)), (6, ('65', 'Op.buildSlice 23 0 #[]', None)), (11, ('70', 'Op.call { builtin append, args := #[t65, t69], argTypes := #[23, 23] }', None)), (12, ('71', 'Op.build 26 #[(3, t64), (2, t70)]', None)), (13, ('8', 'Op.alloc 26', None)), (14, ('none', 'Op.store 26 t8 t71', None))]
      clear hV0
      refine wpAnyH_three (w1 := V0.alloc (.cells #[] 3)) (w2 := V0.alloc (.cells #[] 9)) (w3 := V0.alloc zrbO) 0 6 13 (some 59) (some 65) (some 8) (.slice (some ⟨V0.heap.size, 0, none⟩) 0 0) (.slice (some ⟨V0.heap.size, 0, none⟩) 0 0) (.pointer (some ⟨V0.heap.size, 0, none⟩)) rfl rfl rfl (by kernel_rfl) (by kernel_rfl) (by kernel_rfl) (by kernel_rfl) rfl rfl rfl (ex_b0 rfl (mk0I V0)) (ex_b0 rfl (mk0S V0)) (al_row rfl zero_rnd) (hb.trans ((below_new V0 (.cells #[] 3)).mono hs)) (hb.trans ((below_new V0 (.cells #[] 9)).mono hs)) (hb.trans ((below_new V0 zrbO).mono hs)) ?_ ?_ ?_
      · skip
        obtain ⟨W1, hV⟩ : ∃ x, V0.alloc (.cells #[] 3) = x := ⟨_, rfl⟩
        have bx : Below V0.heap.size V0 W1 := by rw [← hV]; exact below_new V0 _
        have oI : OwnR elI V0.heap.size W1 (.slice (some ⟨V0.heap.size, 0, none⟩) 0 0) [] := by rw [← hV]; exact (OwnR.made elI V0).base hs
        have hb := hb.trans (bx.mono hs)
        have hs := Nat.le_trans hs bx.size
        have hS := hb
        rw [hV]
        clear hV bx
        simp only [Act.put, List.setIfInBounds_toArray, List.set_cons_succ, List.set_cons_zero]
        obtain ⟨a4, n4, c4, W4, hr4, q4, bq4, sq4, kq4⟩ := app_step okZ oI (TIH.out _ hb) LIH.out hs 24
        rw [List.nil_append] at q4
        refine wpAnyH_three (w1 := W4) (w2 := W1.alloc (.cells #[] 9)) (w3 := W1.alloc zrbO) 5 6 13 (some 64) (some 65) (some 8) (.slice a4 n4 c4) (.slice (some ⟨W1.heap.size, 0, none⟩) 0 0) (.pointer (some ⟨W1.heap.size, 0, none⟩)) rfl rfl rfl (by kernel_rfl) (by kernel_rfl) (by kernel_rfl) (by kernel_rfl) rfl rfl rfl (ex_app rfl rfl rfl hr4) (ex_b0 rfl (mk0S W1)) (al_row rfl zero_rnd) (hb.trans bq4) (hb.trans ((below_new W1 (.cells #[] 9)).mono hs)) (hb.trans ((below_new W1 zrbO).mono hs)) ?_ ?_ ?_
        · skip
          have oI := q4
          have hb := hb.trans bq4
          have hs := Nat.le_trans hs sq4
          have hS := hb
          simp only [Act.put, List.setIfInBounds_toArray, List.set_cons_succ, List.set_cons_zero]
          refine wpAnyH_two (w1 := W4.alloc (.cells #[] 9)) (w2 := W4.alloc zrbO) 6 13 (some 65) (some 8) (.slice (some ⟨W4.heap.size, 0, none⟩) 0 0) (.pointer (some ⟨W4.heap.size, 0, none⟩)) rfl rfl (by kernel_rfl) (by kernel_rfl) (by kernel_rfl) rfl rfl (ex_b0 rfl (mk0S W4)) (al_row rfl zero_rnd) (hb.trans ((below_new W4 (.cells #[] 9)).mono hs)) (hb.trans ((below_new W4 zrbO).mono hs)) ?_ ?_
          · skip
            obtain ⟨W7, hV⟩ : ∃ x, W4.alloc (.cells #[] 9) = x := ⟨_, rfl⟩
            have bx : Below W4.heap.size W4 W7 := by rw [← hV]; exact below_new W4 _
            have oI := oI.below bx
            have oS : OwnR elS V0.heap.size W7 (.slice (some ⟨W4.heap.size, 0, none⟩) 0 0) [] := by rw [← hV]; exact (OwnR.made elS W4).base hs
            have hb := hb.trans (bx.mono hs)
            have hs := Nat.le_trans hs bx.size
            have hS := hb
            rw [hV]
            clear hV bx
            simp only [Act.put, List.setIfInBounds_toArray, List.set_cons_succ, List.set_cons_zero]
            obtain ⟨a9, n9, c9, W9, hr9, q9, bq9, sq9, kq9⟩ := app_step okS oS (TKH.out _ hb) LKH.out hs 23
            rw [List.nil_append] at q9
            refine wpAnyH_two (w1 := W9) (w2 := W7.alloc zrbO) 11 13 (some 70) (some 8) (.slice a9 n9 c9) (.pointer (some ⟨W7.heap.size, 0, none⟩)) rfl rfl (by kernel_rfl) (by kernel_rfl) (by kernel_rfl) rfl rfl (ex_app rfl rfl rfl hr9) (al_row rfl zero_rnd) (hb.trans bq9) (hb.trans ((below_new W7 zrbO).mono hs)) ?_ ?_
            · skip
              have oI := own_keep oI kq9 (by decide)
              have oS := q9
              have hb := hb.trans bq9
              have hs := Nat.le_trans hs sq9
              have hS := hb
              simp only [Act.put, List.setIfInBounds_toArray, List.set_cons_succ, List.set_cons_zero]
              refine wpAnyH_take_d 12 (some 71) (.agg #[.bool false, .slice none 0 0, .slice a9 n9 c9, .slice a4 n4 c4]) rfl (by kernel_rfl) (by kernel_rfl) (by kernel_rfl) (by kernel_rfl) rfl (fun _ _ _ h => h) (fun w' _ => ex_build32 rfl rfl rfl (run_build w' 26 _ _ (by kernel_rfl))) (by exact hS) ?_
              simp only [Act.put, List.setIfInBounds_toArray, List.set_cons_succ, List.set_cons_zero]
              refine wpAnyH_one (w1 := W9.alloc zrbO) 13 (some 8) (.pointer (some ⟨W9.heap.size, 0, none⟩)) rfl (by kernel_rfl) (by kernel_rfl) rfl (al_row rfl zero_rnd) (hb.trans ((below_new W9 zrbO).mono hs)) ?_
              obtain ⟨W11, hV⟩ : ∃ x, W9.alloc zrbO = x := ⟨_, rfl⟩
              have bx : Below W9.heap.size W9 W11 := by rw [← hV]; exact below_new W9 _
              have oI := oI.below bx
              have oS := oS.below bx
              have hA : W11.heap[W9.heap.size]? = some zrbO := by rw [← hV]; exact heap_alloc_new W9 _
              have hAlo := hs
              have hb := hb.trans (bx.mono hs)
              have hs := Nat.le_trans hs bx.size
              have hS := hb
              rw [hV]
              clear hV bx
              simp only [Act.put, List.setIfInBounds_toArray, List.set_cons_succ, List.set_cons_zero]
              have hb2 := below_setRow' hb hAlo #[.bool false, .slice none 0 0, .slice a9 n9 c9, .slice a4 n4 c4]
              refine wpAnyH_one_skip 14 rfl (by kernel_rfl) (by kernel_rfl) (ex_store_row rfl rfl rfl hA (by kernel_rfl) rfl (by simp [Value.oneCell'])) hb2 ?_
              simp only [Act.put, List.setIfInBounds_toArray]
              refine wpAnyH_done (by kernel_rfl) ?_ _
              have F2 := FB.out _ _ F (hb2.mono F.sz)
              have H2 : RlfW (w.heap.size + 3) (W11.setRow W9.heap.size #[.bool false, .slice none 0 0, .slice a9 n9 c9, .slice a4 n4 c4]) W9.heap.size #[.bool false, .slice none 0 0, .slice a9 n9 c9, .slice a4 n4 c4] (.slice a9 n9 c9) (.slice a4 n4 c4) (n.ks.drop q) (n.is.drop q) := ⟨setRow_heap _ _ _ #[.bool false, .slice none 0 0, .slice a9 n9 c9, .slice a4 n4 c4] _ _ hA, Nat.le_trans F.sz hAlo, (oS.ner hA (by decide) (fun k hk => setRow_other _ W9.heap.size k #[.bool false, .slice none 0 0, .slice a9 n9 c9, .slice a4 n4 c4] hk)).base F.sz, (oI.ner hA (by decide) (fun k hk => setRow_other _ W9.heap.size k #[.bool false, .slice none 0 0, .slice a9 n9 c9, .slice a4 n4 c4] hk)).base F.sz⟩
              have G2 := G.below hb2
              clear hb2 hb hS oS oI hA
              go_wp2
              go_meet
              exact ⟨_, _, _, rfl, .mk _ _ _, .mk _ _ _, F2, H2, G2⟩
            · skip
              obtain ⟨W10, hV⟩ : ∃ x, W7.alloc zrbO = x := ⟨_, rfl⟩
              have bx : Below W7.heap.size W7 W10 := by rw [← hV]; exact below_new W7 _
              have oI := oI.below bx
              have oS := oS.below bx
              have hA : W10.heap[W7.heap.size]? = some zrbO := by rw [← hV]; exact heap_alloc_new W7 _
              have hAlo := hs
              have hb := hb.trans (bx.mono hs)
              have hs := Nat.le_trans hs bx.size
              have hS := hb
              rw [hV]
              clear hV bx
              simp only [Act.put, List.setIfInBounds_toArray, List.set_cons_succ, List.set_cons_zero]
              obtain ⟨a12, n12, c12, W12, hr12, q12, bq12, sq12, kq12⟩ := app_step okS oS (TKH.out _ hb) LKH.out hs 23
              rw [List.nil_append] at q12
              refine wpAnyH_one (w1 := W12) 11 (some 70) (.slice a12 n12 c12) rfl (by kernel_rfl) (by kernel_rfl) rfl (ex_app rfl rfl rfl hr12) (hb.trans bq12) ?_
              have oI := own_keep oI kq12 (by decide)
              have hA := kq12 _ _ _ _ hA (by decide)
              have oS := q12
              have hb := hb.trans bq12
              have hs := Nat.le_trans hs sq12
              have hS := hb
              simp only [Act.put, List.setIfInBounds_toArray, List.set_cons_succ, List.set_cons_zero]
              refine wpAnyH_take_d 12 (some 71) (.agg #[.bool false, .slice none 0 0, .slice a12 n12 c12, .slice a4 n4 c4]) rfl (by kernel_rfl) (by kernel_rfl) (by kernel_rfl) (by kernel_rfl) rfl (fun _ _ _ h => h) (fun w' _ => ex_build32 rfl rfl rfl (run_build w' 26 _ _ (by kernel_rfl))) (by exact hS) ?_
              simp only [Act.put, List.setIfInBounds_toArray, List.set_cons_succ, List.set_cons_zero]
              have hb2 := below_setRow' hb hAlo #[.bool false, .slice none 0 0, .slice a12 n12 c12, .slice a4 n4 c4]
              refine wpAnyH_one_skip 14 rfl (by kernel_rfl) (by kernel_rfl) (ex_store_row rfl rfl rfl hA (by kernel_rfl) rfl (by simp [Value.oneCell'])) hb2 ?_
              simp only [Act.put, List.setIfInBounds_toArray]
              refine wpAnyH_done (by kernel_rfl) ?_ _
              have F2 := FB.out _ _ F (hb2.mono F.sz)
              have H2 : RlfW (w.heap.size + 3) (W12.setRow W7.heap.size #[.bool false, .slice none 0 0, .slice a12 n12 c12, .slice a4 n4 c4]) W7.heap.size #[.bool false, .slice none 0 0, .slice a12 n12 c12, .slice a4 n4 c4] (.slice a12 n12 c12) (.slice a4 n4 c4) (n.ks.drop q) (n.is.drop q) := ⟨setRow_heap _ _ _ #[.bool false, .slice none 0 0, .slice a12 n12 c12, .slice a4 n4 c4] _ _ hA, Nat.le_trans F.sz hAlo, (oS.ner hA (by decide) (fun k hk => setRow_other _ W7.heap.size k #[.bool false, .slice none 0 0, .slice a12 n12 c12, .slice a4 n4 c4] hk)).base F.sz, (oI.ner hA (by decide) (fun k hk => setRow_other _ W7.heap.size k #[.bool false, .slice none 0 0, .slice a12 n12 c12, .slice a4 n4 c4] hk)).base F.sz⟩
              have G2 := G.below hb2
              clear hb2 hb hS oS oI hA
              go_wp2
              go_meet
              exact ⟨_, _, _, rfl, .mk _ _ _, .mk _ _ _, F2, H2, G2⟩
          · skip
            obtain ⟨W8, hV⟩ : ∃ x, W4.alloc zrbO = x := ⟨_, rfl⟩
            have bx : Below W4.heap.size W4 W8 := by rw [← hV]; exact below_new W4 _
            have oI := oI.below bx
            have hA : W8.heap[W4.heap.size]? = some zrbO := by rw [← hV]; exact heap_alloc_new W4 _
            have hAlo := hs
            have hb := hb.trans (bx.mono hs)
            have hs := Nat.le_trans hs bx.size
            have hS := hb
            rw [hV]
            clear hV bx
            simp only [Act.put, List.setIfInBounds_toArray, List.set_cons_succ, List.set_cons_zero]
            refine wpAnyH_one (w1 := W8.alloc (.cells #[] 9)) 6 (some 65) (.slice (some ⟨W8.heap.size, 0, none⟩) 0 0) rfl (by kernel_rfl) (by kernel_rfl) rfl (ex_b0 rfl (mk0S W8)) (hb.trans ((below_new W8 (.cells #[] 9)).mono hs)) ?_
            obtain ⟨W13, hV⟩ : ∃ x, W8.alloc (.cells #[] 9) = x := ⟨_, rfl⟩
            have bx : Below W8.heap.size W8 W13 := by rw [← hV]; exact below_new W8 _
            have oI := oI.below bx
            have hA := (bx.block _ (lt_of_heap hA)).trans hA
            have oS : OwnR elS V0.heap.size W13 (.slice (some ⟨W8.heap.size, 0, none⟩) 0 0) [] := by rw [← hV]; exact (OwnR.made elS W8).base hs
            have hb := hb.trans (bx.mono hs)
            have hs := Nat.le_trans hs bx.size
            have hS := hb
            rw [hV]
            clear hV bx
            simp only [Act.put, List.setIfInBounds_toArray, List.set_cons_succ, List.set_cons_zero]
            obtain ⟨a14, n14, c14, W14, hr14, q14, bq14, sq14, kq14⟩ := app_step okS oS (TKH.out _ hb) LKH.out hs 23
            rw [List.nil_append] at q14
            refine wpAnyH_one (w1 := W14) 11 (some 70) (.slice a14 n14 c14) rfl (by kernel_rfl) (by kernel_rfl) rfl (ex_app rfl rfl rfl hr14) (hb.trans bq14) ?_
            have oI := own_keep oI kq14 (by decide)
            have hA := kq14 _ _ _ _ hA (by decide)
            have oS := q14
            have hb := hb.trans bq14
            have hs := Nat.le_trans hs sq14
            have hS := hb
            simp only [Act.put, List.setIfInBounds_toArray, List.set_cons_succ, List.set_cons_zero]
            refine wpAnyH_take_d 12 (some 71) (.agg #[.bool false, .slice none 0 0, .slice a14 n14 c14, .slice a4 n4 c4]) rfl (by kernel_rfl) (by kernel_rfl) (by kernel_rfl) (by kernel_rfl) rfl (fun _ _ _ h => h) (fun w' _ => ex_build32 rfl rfl rfl (run_build w' 26 _ _ (by kernel_rfl))) (by exact hS) ?_
            simp only [Act.put, List.setIfInBounds_toArray, List.set_cons_succ, List.set_cons_zero]
            have hb2 := below_setRow' hb hAlo #[.bool false, .slice none 0 0, .slice a14 n14 c14, .slice a4 n4 c4]
            refine wpAnyH_one_skip 14 rfl (by kernel_rfl) (by kernel_rfl) (ex_store_row rfl rfl rfl hA (by kernel_rfl) rfl (by simp [Value.oneCell'])) hb2 ?_
            simp only [Act.put, List.setIfInBounds_toArray]
            refine wpAnyH_done (by kernel_rfl) ?_ _
            have F2 := FB.out _ _ F (hb2.mono F.sz)
            have H2 : RlfW (w.heap.size + 3) (W14.setRow W4.heap.size #[.bool false, .slice none 0 0, .slice a14 n14 c14, .slice a4 n4 c4]) W4.heap.size #[.bool false, .slice none 0 0, .slice a14 n14 c14, .slice a4 n4 c4] (.slice a14 n14 c14) (.slice a4 n4 c4) (n.ks.drop q) (n.is.drop q) := ⟨setRow_heap _ _ _ #[.bool false, .slice none 0 0, .slice a14 n14 c14, .slice a4 n4 c4] _ _ hA, Nat.le_trans F.sz hAlo, (oS.ner hA (by decide) (fun k hk => setRow_other _ W4.heap.size k #[.bool false, .slice none 0 0, .slice a14 n14 c14, .slice a4 n4 c4] hk)).base F.sz, (oI.ner hA (by decide) (fun k hk => setRow_other _ W4.heap.size k #[.bool false, .slice none 0 0, .slice a14 n14 c14, .slice a4 n4 c4] hk)).base F.sz⟩
            have G2 := G.below hb2
            clear hb2 hb hS oS oI hA
            go_wp2
            go_meet
            exact ⟨_, _, _, rfl, .mk _ _ _, .mk _ _ _, F2, H2, G2⟩
        · skip
          obtain ⟨W5, hV⟩ : ∃ x, W1.alloc (.cells #[] 9) = x := ⟨_, rfl⟩
          have bx : Below W1.heap.size W1 W5 := by rw [← hV]; exact below_new W1 _
          have oI := oI.below bx
          have oS : OwnR elS V0.heap.size W5 (.slice (some ⟨W1.heap.size, 0, none⟩) 0 0) [] := by rw [← hV]; exact (OwnR.made elS W1).base hs
          have hb := hb.trans (bx.mono hs)
          have hs := Nat.le_trans hs bx.size
          have hS := hb
          rw [hV]
          clear hV bx
          simp only [Act.put, List.setIfInBounds_toArray, List.set_cons_succ, List.set_cons_zero]
          obtain ⟨a15, n15, c15, W15, hr15, q15, bq15, sq15, kq15⟩ := app_step okZ oI (TIH.out _ hb) LIH.out hs 24
          rw [List.nil_append] at q15
          refine wpAnyH_two (w1 := W15) (w2 := W5.alloc zrbO) 5 13 (some 64) (some 8) (.slice a15 n15 c15) (.pointer (some ⟨W5.heap.size, 0, none⟩)) rfl rfl (by kernel_rfl) (by kernel_rfl) (by kernel_rfl) rfl rfl (ex_app rfl rfl rfl hr15) (al_row rfl zero_rnd) (hb.trans bq15) (hb.trans ((below_new W5 zrbO).mono hs)) ?_ ?_
          · skip
            have oS := own_keep oS kq15 (by decide)
            have oI := q15
            have hb := hb.trans bq15
            have hs := Nat.le_trans hs sq15
            have hS := hb
            simp only [Act.put, List.setIfInBounds_toArray, List.set_cons_succ, List.set_cons_zero]
            obtain ⟨a17, n17, c17, W17, hr17, q17, bq17, sq17, kq17⟩ := app_step okS oS (TKH.out _ hb) LKH.out hs 23
            rw [List.nil_append] at q17
            refine wpAnyH_two (w1 := W17) (w2 := W15.alloc zrbO) 11 13 (some 70) (some 8) (.slice a17 n17 c17) (.pointer (some ⟨W15.heap.size, 0, none⟩)) rfl rfl (by kernel_rfl) (by kernel_rfl) (by kernel_rfl) rfl rfl (ex_app rfl rfl rfl hr17) (al_row rfl zero_rnd) (hb.trans bq17) (hb.trans ((below_new W15 zrbO).mono hs)) ?_ ?_
            · skip
              have oI := own_keep oI kq17 (by decide)
              have oS := q17
              have hb := hb.trans bq17
              have hs := Nat.le_trans hs sq17
              have hS := hb
              simp only [Act.put, List.setIfInBounds_toArray, List.set_cons_succ, List.set_cons_zero]
              refine wpAnyH_take_d 12 (some 71) (.agg #[.bool false, .slice none 0 0, .slice a17 n17 c17, .slice a15 n15 c15]) rfl (by kernel_rfl) (by kernel_rfl) (by kernel_rfl) (by kernel_rfl) rfl (fun _ _ _ h => h) (fun w' _ => ex_build32 rfl rfl rfl (run_build w' 26 _ _ (by kernel_rfl))) (by exact hS) ?_
              simp only [Act.put, List.setIfInBounds_toArray, List.set_cons_succ, List.set_cons_zero]
              refine wpAnyH_one (w1 := W17.alloc zrbO) 13 (some 8) (.pointer (some ⟨W17.heap.size, 0, none⟩)) rfl (by kernel_rfl) (by kernel_rfl) rfl (al_row rfl zero_rnd) (hb.trans ((below_new W17 zrbO).mono hs)) ?_
              obtain ⟨W19, hV⟩ : ∃ x, W17.alloc zrbO = x := ⟨_, rfl⟩
              have bx : Below W17.heap.size W17 W19 := by rw [← hV]; exact below_new W17 _
              have oI := oI.below bx
              have oS := oS.below bx
              have hA : W19.heap[W17.heap.size]? = some zrbO := by rw [← hV]; exact heap_alloc_new W17 _
              have hAlo := hs
              have hb := hb.trans (bx.mono hs)
              have hs := Nat.le_trans hs bx.size
              have hS := hb
              rw [hV]
              clear hV bx
              simp only [Act.put, List.setIfInBounds_toArray, List.set_cons_succ, List.set_cons_zero]
              have hb2 := below_setRow' hb hAlo #[.bool false, .slice none 0 0, .slice a17 n17 c17, .slice a15 n15 c15]
              refine wpAnyH_one_skip 14 rfl (by kernel_rfl) (by kernel_rfl) (ex_store_row rfl rfl rfl hA (by kernel_rfl) rfl (by simp [Value.oneCell'])) hb2 ?_
              simp only [Act.put, List.setIfInBounds_toArray]
              refine wpAnyH_done (by kernel_rfl) ?_ _
              have F2 := FB.out _ _ F (hb2.mono F.sz)
              have H2 : RlfW (w.heap.size + 3) (W19.setRow W17.heap.size #[.bool false, .slice none 0 0, .slice a17 n17 c17, .slice a15 n15 c15]) W17.heap.size #[.bool false, .slice none 0 0, .slice a17 n17 c17, .slice a15 n15 c15] (.slice a17 n17 c17) (.slice a15 n15 c15) (n.ks.drop q) (n.is.drop q) := ⟨setRow_heap _ _ _ #[.bool false, .slice none 0 0, .slice a17 n17 c17, .slice a15 n15 c15] _ _ hA, Nat.le_trans F.sz hAlo, (oS.ner hA (by decide) (fun k hk => setRow_other _ W17.heap.size k #[.bool false, .slice none 0 0, .slice a17 n17 c17, .slice a15 n15 c15] hk)).base F.sz, (oI.ner hA (by decide) (fun k hk => setRow_other _ W17.heap.size k #[.bool false, .slice none 0 0, .slice a17 n17 c17, .slice a15 n15 c15] hk)).base F.sz⟩
              have G2 := G.below hb2
              clear hb2 hb hS oS oI hA
              go_wp2
              go_meet
              exact ⟨_, _, _, rfl, .mk _ _ _, .mk _ _ _, F2, H2, G2⟩
            · skip
              obtain ⟨W18, hV⟩ : ∃ x, W15.alloc zrbO = x := ⟨_, rfl⟩
              have bx : Below W15.heap.size W15 W18 := by rw [← hV]; exact below_new W15 _
              have oI := oI.below bx
              have oS := oS.below bx
              have hA : W18.heap[W15.heap.size]? = some zrbO := by rw [← hV]; exact heap_alloc_new W15 _
              have hAlo := hs
              have hb := hb.trans (bx.mono hs)
              have hs := Nat.le_trans hs bx.size
              have hS := hb
              rw [hV]
              clear hV bx
              simp only [Act.put, List.setIfInBounds_toArray, List.set_cons_succ, List.set_cons_zero]
              obtain ⟨a20, n20, c20, W20, hr20, q20, bq20, sq20, kq20⟩ := app_step okS oS (TKH.out _ hb) LKH.out hs 23
              rw [List.nil_append] at q20
              refine wpAnyH_one (w1 := W20) 11 (some 70) (.slice a20 n20 c20) rfl (by kernel_rfl) (by kernel_rfl) rfl (ex_app rfl rfl rfl hr20) (hb.trans bq20) ?_
              have oI := own_keep oI kq20 (by decide)
              have hA := kq20 _ _ _ _ hA (by decide)
              have oS := q20
              have hb := hb.trans bq20
              have hs := Nat.le_trans hs sq20
              have hS := hb
              simp only [Act.put, List.setIfInBounds_toArray, List.set_cons_succ, List.set_cons_zero]
              refine wpAnyH_take_d 12 (some 71) (.agg #[.bool false, .slice none 0 0, .slice a20 n20 c20, .slice a15 n15 c15]) rfl (by kernel_rfl) (by kernel_rfl) (by kernel_rfl) (by kernel_rfl) rfl (fun _ _ _ h => h) (fun w' _ => ex_build32 rfl rfl rfl (run_build w' 26 _ _ (by kernel_rfl))) (by exact hS) ?_
              simp only [Act.put, List.setIfInBounds_toArray, List.set_cons_succ, List.set_cons_zero]
              have hb2 := below_setRow' hb hAlo #[.bool false, .slice none 0 0, .slice a20 n20 c20, .slice a15 n15 c15]
              refine wpAnyH_one_skip 14 rfl (by kernel_rfl) (by kernel_rfl) (ex_store_row rfl rfl rfl hA (by kernel_rfl) rfl (by simp [Value.oneCell'])) hb2 ?_
              simp only [Act.put, List.setIfInBounds_toArray]
              refine wpAnyH_done (by kernel_rfl) ?_ _
              have F2 := FB.out _ _ F (hb2.mono F.sz)
              have H2 : RlfW (w.heap.size + 3) (W20.setRow W15.heap.size #[.bool false, .slice none 0 0, .slice a20 n20 c20, .slice a15 n15 c15]) W15.heap.size #[.bool false, .slice none 0 0, .slice a20 n20 c20, .slice a15 n15 c15] (.slice a20 n20 c20) (.slice a15 n15 c15) (n.ks.drop q) (n.is.drop q) := ⟨setRow_heap _ _ _ #[.bool false, .slice none 0 0, .slice a20 n20 c20, .slice a15 n15 c15] _ _ hA, Nat.le_trans F.sz hAlo, (oS.ner hA (by decide) (fun k hk => setRow_other _ W15.heap.size k #[.bool false, .slice none 0 0, .slice a20 n20 c20, .slice a15 n15 c15] hk)).base F.sz, (oI.ner hA (by decide) (fun k hk => setRow_other _ W15.heap.size k #[.bool false, .slice none 0 0, .slice a20 n20 c20, .slice a15 n15 c15] hk)).base F.sz⟩
              have G2 := G.below hb2
              clear hb2 hb hS oS oI hA
              go_wp2
              go_meet
              exact ⟨_, _, _, rfl, .mk _ _ _, .mk _ _ _, F2, H2, G2⟩
          · skip
            obtain ⟨W16, hV⟩ : ∃ x, W5.alloc zrbO = x := ⟨_, rfl⟩
            have bx : Below W5.heap.size W5 W16 := by rw [← hV]; exact below_new W5 _
            have oI := oI.below bx
            have oS := oS.below bx
            have hA : W16.heap[W5.heap.size]? = some zrbO := by rw [← hV]; exact heap_alloc_new W5 _
            have hAlo := hs
            have hb := hb.trans (bx.mono hs)
            have hs := Nat.le_trans hs bx.size
            have hS := hb
            rw [hV]
            clear hV bx
            simp only [Act.put, List.setIfInBounds_toArray, List.set_cons_succ, List.set_cons_zero]
            obtain ⟨a21, n21, c21, W21, hr21, q21, bq21, sq21, kq21⟩ := app_step okZ oI (TIH.out _ hb) LIH.out hs 24
            rw [List.nil_append] at q21
            refine wpAnyH_one (w1 := W21) 5 (some 64) (.slice a21 n21 c21) rfl (by kernel_rfl) (by kernel_rfl) rfl (ex_app rfl rfl rfl hr21) (hb.trans bq21) ?_
            have oS := own_keep oS kq21 (by decide)
            have hA := kq21 _ _ _ _ hA (by decide)
            have oI := q21
            have hb := hb.trans bq21
            have hs := Nat.le_trans hs sq21
            have hS := hb
            simp only [Act.put, List.setIfInBounds_toArray, List.set_cons_succ, List.set_cons_zero]
            obtain ⟨a22, n22, c22, W22, hr22, q22, bq22, sq22, kq22⟩ := app_step okS oS (TKH.out _ hb) LKH.out hs 23
            rw [List.nil_append] at q22
            refine wpAnyH_one (w1 := W22) 11 (some 70) (.slice a22 n22 c22) rfl (by kernel_rfl) (by kernel_rfl) rfl (ex_app rfl rfl rfl hr22) (hb.trans bq22) ?_
            have oI := own_keep oI kq22 (by decide)
            have hA := kq22 _ _ _ _ hA (by decide)
            have oS := q22
            have hb := hb.trans bq22
            have hs := Nat.le_trans hs sq22
            have hS := hb
            simp only [Act.put, List.setIfInBounds_toArray, List.set_cons_succ, List.set_cons_zero]
            refine wpAnyH_take_d 12 (some 71) (.agg #[.bool false, .slice none 0 0, .slice a22 n22 c22, .slice a21 n21 c21]) rfl (by kernel_rfl) (by kernel_rfl) (by kernel_rfl) (by kernel_rfl) rfl (fun _ _ _ h => h) (fun w' _ => ex_build32 rfl rfl rfl (run_build w' 26 _ _ (by kernel_rfl))) (by exact hS) ?_
            simp only [Act.put, List.setIfInBounds_toArray, List.set_cons_succ, List.set_cons_zero]
            have hb2 := below_setRow' hb hAlo #[.bool false, .slice none 0 0, .slice a22 n22 c22, .slice a21 n21 c21]
            refine wpAnyH_one_skip 14 rfl (by kernel_rfl) (by kernel_rfl) (ex_store_row rfl rfl rfl hA (by kernel_rfl) rfl (by simp [Value.oneCell'])) hb2 ?_
            simp only [Act.put, List.setIfInBounds_toArray]
            refine wpAnyH_done (by kernel_rfl) ?_ _
            have F2 := FB.out _ _ F (hb2.mono F.sz)
            have H2 : RlfW (w.heap.size + 3) (W22.setRow W5.heap.size #[.bool false, .slice none 0 0, .slice a22 n22 c22, .slice a21 n21 c21]) W5.heap.size #[.bool false, .slice none 0 0, .slice a22 n22 c22, .slice a21 n21 c21] (.slice a22 n22 c22) (.slice a21 n21 c21) (n.ks.drop q) (n.is.drop q) := ⟨setRow_heap _ _ _ #[.bool false, .slice none 0 0, .slice a22 n22 c22, .slice a21 n21 c21] _ _ hA, Nat.le_trans F.sz hAlo, (oS.ner hA (by decide) (fun k hk => setRow_other _ W5.heap.size k #[.bool false, .slice none 0 0, .slice a22 n22 c22, .slice a21 n21 c21] hk)).base F.sz, (oI.ner hA (by decide) (fun k hk => setRow_other _ W5.heap.size k #[.bool false, .slice none 0 0, .slice a22 n22 c22, .slice a21 n21 c21] hk)).base F.sz⟩
            have G2 := G.below hb2
            clear hb2 hb hS oS oI hA
            go_wp2
            go_meet
            exact ⟨_, _, _, rfl, .mk _ _ _, .mk _ _ _, F2, H2, G2⟩
        · skip
          obtain ⟨W6, hV⟩ : ∃ x, W1.alloc zrbO = x := ⟨_, rfl⟩
          have bx : Below W1.heap.size W1 W6 := by rw [← hV]; exact below_new W1 _
          have oI := oI.below bx
          have hA : W6.heap[W1.heap.size]? = some zrbO := by rw [← hV]; exact heap_alloc_new W1 _
          have hAlo := hs
          have hb := hb.trans (bx.mono hs)
          have hs := Nat.le_trans hs bx.size
          have hS := hb
          rw [hV]
          clear hV bx
          simp only [Act.put, List.setIfInBounds_toArray, List.set_cons_succ, List.set_cons_zero]
          obtain ⟨a23, n23, c23, W23, hr23, q23, bq23, sq23, kq23⟩ := app_step okZ oI (TIH.out _ hb) LIH.out hs 24
          rw [List.nil_append] at q23
          refine wpAnyH_two (w1 := W23) (w2 := W6.alloc (.cells #[] 9)) 5 6 (some 64) (some 65) (.slice a23 n23 c23) (.slice (some ⟨W6.heap.size, 0, none⟩) 0 0) rfl rfl (by kernel_rfl) (by kernel_rfl) (by kernel_rfl) rfl rfl (ex_app rfl rfl rfl hr23) (ex_b0 rfl (mk0S W6)) (hb.trans bq23) (hb.trans ((below_new W6 (.cells #[] 9)).mono hs)) ?_ ?_
          · skip
            have hA := kq23 _ _ _ _ hA (by decide)
            have oI := q23
            have hb := hb.trans bq23
            have hs := Nat.le_trans hs sq23
            have hS := hb
            simp only [Act.put, List.setIfInBounds_toArray, List.set_cons_succ, List.set_cons_zero]
            refine wpAnyH_one (w1 := W23.alloc (.cells #[] 9)) 6 (some 65) (.slice (some ⟨W23.heap.size, 0, none⟩) 0 0) rfl (by kernel_rfl) (by kernel_rfl) rfl (ex_b0 rfl (mk0S W23)) (hb.trans ((below_new W23 (.cells #[] 9)).mono hs)) ?_
            obtain ⟨W25, hV⟩ : ∃ x, W23.alloc (.cells #[] 9) = x := ⟨_, rfl⟩
            have bx : Below W23.heap.size W23 W25 := by rw [← hV]; exact below_new W23 _
            have oI := oI.below bx
            have hA := (bx.block _ (lt_of_heap hA)).trans hA
            have oS : OwnR elS V0.heap.size W25 (.slice (some ⟨W23.heap.size, 0, none⟩) 0 0) [] := by rw [← hV]; exact (OwnR.made elS W23).base hs
            have hb := hb.trans (bx.mono hs)
            have hs := Nat.le_trans hs bx.size
            have hS := hb
            rw [hV]
            clear hV bx
            simp only [Act.put, List.setIfInBounds_toArray, List.set_cons_succ, List.set_cons_zero]
            obtain ⟨a26, n26, c26, W26, hr26, q26, bq26, sq26, kq26⟩ := app_step okS oS (TKH.out _ hb) LKH.out hs 23
            rw [List.nil_append] at q26
            refine wpAnyH_one (w1 := W26) 11 (some 70) (.slice a26 n26 c26) rfl (by kernel_rfl) (by kernel_rfl) rfl (ex_app rfl rfl rfl hr26) (hb.trans bq26) ?_
            have oI := own_keep oI kq26 (by decide)
            have hA := kq26 _ _ _ _ hA (by decide)
            have oS := q26
            have hb := hb.trans bq26
            have hs := Nat.le_trans hs sq26
            have hS := hb
            simp only [Act.put, List.setIfInBounds_toArray, List.set_cons_succ, List.set_cons_zero]
            refine wpAnyH_take_d 12 (some 71) (.agg #[.bool false, .slice none 0 0, .slice a26 n26 c26, .slice a23 n23 c23]) rfl (by kernel_rfl) (by kernel_rfl) (by kernel_rfl) (by kernel_rfl) rfl (fun _ _ _ h => h) (fun w' _ => ex_build32 rfl rfl rfl (run_build w' 26 _ _ (by kernel_rfl))) (by exact hS) ?_
            simp only [Act.put, List.setIfInBounds_toArray, List.set_cons_succ, List.set_cons_zero]
            have hb2 := below_setRow' hb hAlo #[.bool false, .slice none 0 0, .slice a26 n26 c26, .slice a23 n23 c23]
            refine wpAnyH_one_skip 14 rfl (by kernel_rfl) (by kernel_rfl) (ex_store_row rfl rfl rfl hA (by kernel_rfl) rfl (by simp [Value.oneCell'])) hb2 ?_
            simp only [Act.put, List.setIfInBounds_toArray]
            refine wpAnyH_done (by kernel_rfl) ?_ _
            have F2 := FB.out _ _ F (hb2.mono F.sz)
            have H2 : RlfW (w.heap.size + 3) (W26.setRow W1.heap.size #[.bool false, .slice none 0 0, .slice a26 n26 c26, .slice a23 n23 c23]) W1.heap.size #[.bool false, .slice none 0 0, .slice a26 n26 c26, .slice a23 n23 c23] (.slice a26 n26 c26) (.slice a23 n23 c23) (n.ks.drop q) (n.is.drop q) := ⟨setRow_heap _ _ _ #[.bool false, .slice none 0 0, .slice a26 n26 c26, .slice a23 n23 c23] _ _ hA, Nat.le_trans F.sz hAlo, (oS.ner hA (by decide) (fun k hk => setRow_other _ W1.heap.size k #[.bool false, .slice none 0 0, .slice a26 n26 c26, .slice a23 n23 c23] hk)).base F.sz, (oI.ner hA (by decide) (fun k hk => setRow_other _ W1.heap.size k #[.bool false, .slice none 0 0, .slice a26 n26 c26, .slice a23 n23 c23] hk)).base F.sz⟩
            have G2 := G.below hb2
            clear hb2 hb hS oS oI hA
            go_wp2
            go_meet
            exact ⟨_, _, _, rfl, .mk _ _ _, .mk _ _ _, F2, H2, G2⟩
          · skip
            obtain ⟨W24, hV⟩ : ∃ x, W6.alloc (.cells #[] 9) = x := ⟨_, rfl⟩
            have bx : Below W6.heap.size W6 W24 := by rw [← hV]; exact below_new W6 _
            have oI := oI.below bx
            have hA := (bx.block _ (lt_of_heap hA)).trans hA
            have oS : OwnR elS V0.heap.size W24 (.slice (some ⟨W6.heap.size, 0, none⟩) 0 0) [] := by rw [← hV]; exact (OwnR.made elS W6).base hs
            have hb := hb.trans (bx.mono hs)
            have hs := Nat.le_trans hs bx.size
            have hS := hb
            rw [hV]
            clear hV bx
            simp only [Act.put, List.setIfInBounds_toArray, List.set_cons_succ, List.set_cons_zero]
            obtain ⟨a27, n27, c27, W27, hr27, q27, bq27, sq27, kq27⟩ := app_step okZ oI (TIH.out _ hb) LIH.out hs 24
            rw [List.nil_append] at q27
            refine wpAnyH_one (w1 := W27) 5 (some 64) (.slice a27 n27 c27) rfl (by kernel_rfl) (by kernel_rfl) rfl (ex_app rfl rfl rfl hr27) (hb.trans bq27) ?_
            have hA := kq27 _ _ _ _ hA (by decide)
            have oS := own_keep oS kq27 (by decide)
            have oI := q27
            have hb := hb.trans bq27
            have hs := Nat.le_trans hs sq27
            have hS := hb
            simp only [Act.put, List.setIfInBounds_toArray, List.set_cons_succ, List.set_cons_zero]
            obtain ⟨a28, n28, c28, W28, hr28, q28, bq28, sq28, kq28⟩ := app_step okS oS (TKH.out _ hb) LKH.out hs 23
            rw [List.nil_append] at q28
            refine wpAnyH_one (w1 := W28) 11 (some 70) (.slice a28 n28 c28) rfl (by kernel_rfl) (by kernel_rfl) rfl (ex_app rfl rfl rfl hr28) (hb.trans bq28) ?_
            have oI := own_keep oI kq28 (by decide)
            have hA := kq28 _ _ _ _ hA (by decide)
            have oS := q28
            have hb := hb.trans bq28
            have hs := Nat.le_trans hs sq28
            have hS := hb
            simp only [Act.put, List.setIfInBounds_toArray, List.set_cons_succ, List.set_cons_zero]
            refine wpAnyH_take_d 12 (some 71) (.agg #[.bool false, .slice none 0 0, .slice a28 n28 c28, .slice a27 n27 c27]) rfl (by kernel_rfl) (by kernel_rfl) (by kernel_rfl) (by kernel_rfl) rfl (fun _ _ _ h => h) (fun w' _ => ex_build32 rfl rfl rfl (run_build w' 26 _ _ (by kernel_rfl))) (by exact hS) ?_
            simp only [Act.put, List.setIfInBounds_toArray, List.set_cons_succ, List.set_cons_zero]
            have hb2 := below_setRow' hb hAlo #[.bool false, .slice none 0 0, .slice a28 n28 c28, .slice a27 n27 c27]
            refine wpAnyH_one_skip 14 rfl (by kernel_rfl) (by kernel_rfl) (ex_store_row rfl rfl rfl hA (by kernel_rfl) rfl (by simp [Value.oneCell'])) hb2 ?_
            simp only [Act.put, List.setIfInBounds_toArray]
            refine wpAnyH_done (by kernel_rfl) ?_ _
            have F2 := FB.out _ _ F (hb2.mono F.sz)
            have H2 : RlfW (w.heap.size + 3) (W28.setRow W1.heap.size #[.bool false, .slice none 0 0, .slice a28 n28 c28, .slice a27 n27 c27]) W1.heap.size #[.bool false, .slice none 0 0, .slice a28 n28 c28, .slice a27 n27 c27] (.slice a28 n28 c28) (.slice a27 n27 c27) (n.ks.drop q) (n.is.drop q) := ⟨setRow_heap _ _ _ #[.bool false, .slice none 0 0, .slice a28 n28 c28, .slice a27 n27 c27] _ _ hA, Nat.le_trans F.sz hAlo, (oS.ner hA (by decide) (fun k hk => setRow_other _ W1.heap.size k #[.bool false, .slice none 0 0, .slice a28 n28 c28, .slice a27 n27 c27] hk)).base F.sz, (oI.ner hA (by decide) (fun k hk => setRow_other _ W1.heap.size k #[.bool false, .slice none 0 0, .slice a28 n28 c28, .slice a27 n27 c27] hk)).base F.sz⟩
            have G2 := G.below hb2
            clear hb2 hb hS oS oI hA
            go_wp2
            go_meet
            exact ⟨_, _, _, rfl, .mk _ _ _, .mk _ _ _, F2, H2, G2⟩
      · skip
        obtain ⟨W2, hV⟩ : ∃ x, V0.alloc (.cells #[] 9) = x := ⟨_, rfl⟩
        have bx : Below V0.heap.size V0 W2 := by rw [← hV]; exact below_new V0 _
        have oS : OwnR elS V0.heap.size W2 (.slice (some ⟨V0.heap.size, 0, none⟩) 0 0) [] := by rw [← hV]; exact (OwnR.made elS V0).base hs
        have hb := hb.trans (bx.mono hs)
        have hs := Nat.le_trans hs bx.size
        have hS := hb
        rw [hV]
        clear hV bx
        simp only [Act.put, List.setIfInBounds_toArray, List.set_cons_succ, List.set_cons_zero]
        refine wpAnyH_two (w1 := W2.alloc (.cells #[] 3)) (w2 := W2.alloc zrbO) 0 13 (some 59) (some 8) (.slice (some ⟨W2.heap.size, 0, none⟩) 0 0) (.pointer (some ⟨W2.heap.size, 0, none⟩)) rfl rfl (by kernel_rfl) (by kernel_rfl) (by kernel_rfl) rfl rfl (ex_b0 rfl (mk0I W2)) (al_row rfl zero_rnd) (hb.trans ((below_new W2 (.cells #[] 3)).mono hs)) (hb.trans ((below_new W2 zrbO).mono hs)) ?_ ?_
        · skip
          obtain ⟨W29, hV⟩ : ∃ x, W2.alloc (.cells #[] 3) = x := ⟨_, rfl⟩
          have bx : Below W2.heap.size W2 W29 := by rw [← hV]; exact below_new W2 _
          have oS := oS.below bx
          have oI : OwnR elI V0.heap.size W29 (.slice (some ⟨W2.heap.size, 0, none⟩) 0 0) [] := by rw [← hV]; exact (OwnR.made elI W2).base hs
          have hb := hb.trans (bx.mono hs)
          have hs := Nat.le_trans hs bx.size
          have hS := hb
          rw [hV]
          clear hV bx
          simp only [Act.put, List.setIfInBounds_toArray, List.set_cons_succ, List.set_cons_zero]
          obtain ⟨a31, n31, c31, W31, hr31, q31, bq31, sq31, kq31⟩ := app_step okZ oI (TIH.out _ hb) LIH.out hs 24
          rw [List.nil_append] at q31
          refine wpAnyH_two (w1 := W31) (w2 := W29.alloc zrbO) 5 13 (some 64) (some 8) (.slice a31 n31 c31) (.pointer (some ⟨W29.heap.size, 0, none⟩)) rfl rfl (by kernel_rfl) (by kernel_rfl) (by kernel_rfl) rfl rfl (ex_app rfl rfl rfl hr31) (al_row rfl zero_rnd) (hb.trans bq31) (hb.trans ((below_new W29 zrbO).mono hs)) ?_ ?_
          · skip
            have oS := own_keep oS kq31 (by decide)
            have oI := q31
            have hb := hb.trans bq31
            have hs := Nat.le_trans hs sq31
            have hS := hb
            simp only [Act.put, List.setIfInBounds_toArray, List.set_cons_succ, List.set_cons_zero]
            obtain ⟨a33, n33, c33, W33, hr33, q33, bq33, sq33, kq33⟩ := app_step okS oS (TKH.out _ hb) LKH.out hs 23
            rw [List.nil_append] at q33
            refine wpAnyH_two (w1 := W33) (w2 := W31.alloc zrbO) 11 13 (some 70) (some 8) (.slice a33 n33 c33) (.pointer (some ⟨W31.heap.size, 0, none⟩)) rfl rfl (by kernel_rfl) (by kernel_rfl) (by kernel_rfl) rfl rfl (ex_app rfl rfl rfl hr33) (al_row rfl zero_rnd) (hb.trans bq33) (hb.trans ((below_new W31 zrbO).mono hs)) ?_ ?_
            · skip
              have oI := own_keep oI kq33 (by decide)
              have oS := q33
              have hb := hb.trans bq33
              have hs := Nat.le_trans hs sq33
              have hS := hb
              simp only [Act.put, List.setIfInBounds_toArray, List.set_cons_succ, List.set_cons_zero]
              refine wpAnyH_take_d 12 (some 71) (.agg #[.bool false, .slice none 0 0, .slice a33 n33 c33, .slice a31 n31 c31]) rfl (by kernel_rfl) (by kernel_rfl) (by kernel_rfl) (by kernel_rfl) rfl (fun _ _ _ h => h) (fun w' _ => ex_build32 rfl rfl rfl (run_build w' 26 _ _ (by kernel_rfl))) (by exact hS) ?_
              simp only [Act.put, List.setIfInBounds_toArray, List.set_cons_succ, List.set_cons_zero]
              refine wpAnyH_one (w1 := W33.alloc zrbO) 13 (some 8) (.pointer (some ⟨W33.heap.size, 0, none⟩)) rfl (by kernel_rfl) (by kernel_rfl) rfl (al_row rfl zero_rnd) (hb.trans ((below_new W33 zrbO).mono hs)) ?_
              obtain ⟨W35, hV⟩ : ∃ x, W33.alloc zrbO = x := ⟨_, rfl⟩
              have bx : Below W33.heap.size W33 W35 := by rw [← hV]; exact below_new W33 _
              have oS := oS.below bx
              have oI := oI.below bx
              have hA : W35.heap[W33.heap.size]? = some zrbO := by rw [← hV]; exact heap_alloc_new W33 _
              have hAlo := hs
              have hb := hb.trans (bx.mono hs)
              have hs := Nat.le_trans hs bx.size
              have hS := hb
              rw [hV]
              clear hV bx
              simp only [Act.put, List.setIfInBounds_toArray, List.set_cons_succ, List.set_cons_zero]
              have hb2 := below_setRow' hb hAlo #[.bool false, .slice none 0 0, .slice a33 n33 c33, .slice a31 n31 c31]
              refine wpAnyH_one_skip 14 rfl (by kernel_rfl) (by kernel_rfl) (ex_store_row rfl rfl rfl hA (by kernel_rfl) rfl (by simp [Value.oneCell'])) hb2 ?_
              simp only [Act.put, List.setIfInBounds_toArray]
              refine wpAnyH_done (by kernel_rfl) ?_ _
              have F2 := FB.out _ _ F (hb2.mono F.sz)
              have H2 : RlfW (w.heap.size + 3) (W35.setRow W33.heap.size #[.bool false, .slice none 0 0, .slice a33 n33 c33, .slice a31 n31 c31]) W33.heap.size #[.bool false, .slice none 0 0, .slice a33 n33 c33, .slice a31 n31 c31] (.slice a33 n33 c33) (.slice a31 n31 c31) (n.ks.drop q) (n.is.drop q) := ⟨setRow_heap _ _ _ #[.bool false, .slice none 0 0, .slice a33 n33 c33, .slice a31 n31 c31] _ _ hA, Nat.le_trans F.sz hAlo, (oS.ner hA (by decide) (fun k hk => setRow_other _ W33.heap.size k #[.bool false, .slice none 0 0, .slice a33 n33 c33, .slice a31 n31 c31] hk)).base F.sz, (oI.ner hA (by decide) (fun k hk => setRow_other _ W33.heap.size k #[.bool false, .slice none 0 0, .slice a33 n33 c33, .slice a31 n31 c31] hk)).base F.sz⟩
              have G2 := G.below hb2
              clear hb2 hb hS oS oI hA
              go_wp2
              go_meet
              exact ⟨_, _, _, rfl, .mk _ _ _, .mk _ _ _, F2, H2, G2⟩
            · skip
              obtain ⟨W34, hV⟩ : ∃ x, W31.alloc zrbO = x := ⟨_, rfl⟩
              have bx : Below W31.heap.size W31 W34 := by rw [← hV]; exact below_new W31 _
              have oS := oS.below bx
              have oI := oI.below bx
              have hA : W34.heap[W31.heap.size]? = some zrbO := by rw [← hV]; exact heap_alloc_new W31 _
              have hAlo := hs
              have hb := hb.trans (bx.mono hs)
              have hs := Nat.le_trans hs bx.size
              have hS := hb
              rw [hV]
              clear hV bx
              simp only [Act.put, List.setIfInBounds_toArray, List.set_cons_succ, List.set_cons_zero]
              obtain ⟨a36, n36, c36, W36, hr36, q36, bq36, sq36, kq36⟩ := app_step okS oS (TKH.out _ hb) LKH.out hs 23
              rw [List.nil_append] at q36
              refine wpAnyH_one (w1 := W36) 11 (some 70) (.slice a36 n36 c36) rfl (by kernel_rfl) (by kernel_rfl) rfl (ex_app rfl rfl rfl hr36) (hb.trans bq36) ?_
              have oI := own_keep oI kq36 (by decide)
              have hA := kq36 _ _ _ _ hA (by decide)
              have oS := q36
              have hb := hb.trans bq36
              have hs := Nat.le_trans hs sq36
              have hS := hb
              simp only [Act.put, List.setIfInBounds_toArray, List.set_cons_succ, List.set_cons_zero]
              refine wpAnyH_take_d 12 (some 71) (.agg #[.bool false, .slice none 0 0, .slice a36 n36 c36, .slice a31 n31 c31]) rfl (by kernel_rfl) (by kernel_rfl) (by kernel_rfl) (by kernel_rfl) rfl (fun _ _ _ h => h) (fun w' _ => ex_build32 rfl rfl rfl (run_build w' 26 _ _ (by kernel_rfl))) (by exact hS) ?_
              simp only [Act.put, List.setIfInBounds_toArray, List.set_cons_succ, List.set_cons_zero]
              have hb2 := below_setRow' hb hAlo #[.bool false, .slice none 0 0, .slice a36 n36 c36, .slice a31 n31 c31]
              refine wpAnyH_one_skip 14 rfl (by kernel_rfl) (by kernel_rfl) (ex_store_row rfl rfl rfl hA (by kernel_rfl) rfl (by simp [Value.oneCell'])) hb2 ?_
              simp only [Act.put, List.setIfInBounds_toArray]
              refine wpAnyH_done (by kernel_rfl) ?_ _
              have F2 := FB.out _ _ F (hb2.mono F.sz)
              have H2 : RlfW (w.heap.size + 3) (W36.setRow W31.heap.size #[.bool false, .slice none 0 0, .slice a36 n36 c36, .slice a31 n31 c31]) W31.heap.size #[.bool false, .slice none 0 0, .slice a36 n36 c36, .slice a31 n31 c31] (.slice a36 n36 c36) (.slice a31 n31 c31) (n.ks.drop q) (n.is.drop q) := ⟨setRow_heap _ _ _ #[.bool false, .slice none 0 0, .slice a36 n36 c36, .slice a31 n31 c31] _ _ hA, Nat.le_trans F.sz hAlo, (oS.ner hA (by decide) (fun k hk => setRow_other _ W31.heap.size k #[.bool false, .slice none 0 0, .slice a36 n36 c36, .slice a31 n31 c31] hk)).base F.sz, (oI.ner hA (by decide) (fun k hk => setRow_other _ W31.heap.size k #[.bool false, .slice none 0 0, .slice a36 n36 c36, .slice a31 n31 c31] hk)).base F.sz⟩
              have G2 := G.below hb2
              clear hb2 hb hS oS oI hA
              go_wp2
              go_meet
              exact ⟨_, _, _, rfl, .mk _ _ _, .mk _ _ _, F2, H2, G2⟩
          · skip
            obtain ⟨W32, hV⟩ : ∃ x, W29.alloc zrbO = x := ⟨_, rfl⟩
            have bx : Below W29.heap.size W29 W32 := by rw [← hV]; exact below_new W29 _
            have oS := oS.below bx
            have oI := oI.below bx
            have hA : W32.heap[W29.heap.size]? = some zrbO := by rw [← hV]; exact heap_alloc_new W29 _
            have hAlo := hs
            have hb := hb.trans (bx.mono hs)
            have hs := Nat.le_trans hs bx.size
            have hS := hb
            rw [hV]
            clear hV bx
            simp only [Act.put, List.setIfInBounds_toArray, List.set_cons_succ, List.set_cons_zero]
            obtain ⟨a37, n37, c37, W37, hr37, q37, bq37, sq37, kq37⟩ := app_step okZ oI (TIH.out _ hb) LIH.out hs 24
            rw [List.nil_append] at q37
            refine wpAnyH_one (w1 := W37) 5 (some 64) (.slice a37 n37 c37) rfl (by kernel_rfl) (by kernel_rfl) rfl (ex_app rfl rfl rfl hr37) (hb.trans bq37) ?_
            have oS := own_keep oS kq37 (by decide)
            have hA := kq37 _ _ _ _ hA (by decide)
            have oI := q37
            have hb := hb.trans bq37
            have hs := Nat.le_trans hs sq37
            have hS := hb
            simp only [Act.put, List.setIfInBounds_toArray, List.set_cons_succ, List.set_cons_zero]
            obtain ⟨a38, n38, c38, W38, hr38, q38, bq38, sq38, kq38⟩ := app_step okS oS (TKH.out _ hb) LKH.out hs 23
            rw [List.nil_append] at q38
            refine wpAnyH_one (w1 := W38) 11 (some 70) (.slice a38 n38 c38) rfl (by kernel_rfl) (by kernel_rfl) rfl (ex_app rfl rfl rfl hr38) (hb.trans bq38) ?_
            have oI := own_keep oI kq38 (by decide)
            have hA := kq38 _ _ _ _ hA (by decide)
            have oS := q38
            have hb := hb.trans bq38
            have hs := Nat.le_trans hs sq38
            have hS := hb
            simp only [Act.put, List.setIfInBounds_toArray, List.set_cons_succ, List.set_cons_zero]
            refine wpAnyH_take_d 12 (some 71) (.agg #[.bool false, .slice none 0 0, .slice a38 n38 c38, .slice a37 n37 c37]) rfl (by kernel_rfl) (by kernel_rfl) (by kernel_rfl) (by kernel_rfl) rfl (fun _ _ _ h => h) (fun w' _ => ex_build32 rfl rfl rfl (run_build w' 26 _ _ (by kernel_rfl))) (by exact hS) ?_
            simp only [Act.put, List.setIfInBounds_toArray, List.set_cons_succ, List.set_cons_zero]
            have hb2 := below_setRow' hb hAlo #[.bool false, .slice none 0 0, .slice a38 n38 c38, .slice a37 n37 c37]
            refine wpAnyH_one_skip 14 rfl (by kernel_rfl) (by kernel_rfl) (ex_store_row rfl rfl rfl hA (by kernel_rfl) rfl (by simp [Value.oneCell'])) hb2 ?_
            simp only [Act.put, List.setIfInBounds_toArray]
            refine wpAnyH_done (by kernel_rfl) ?_ _
            have F2 := FB.out _ _ F (hb2.mono F.sz)
            have H2 : RlfW (w.heap.size + 3) (W38.setRow W29.heap.size #[.bool false, .slice none 0 0, .slice a38 n38 c38, .slice a37 n37 c37]) W29.heap.size #[.bool false, .slice none 0 0, .slice a38 n38 c38, .slice a37 n37 c37] (.slice a38 n38 c38) (.slice a37 n37 c37) (n.ks.drop q) (n.is.drop q) := ⟨setRow_heap _ _ _ #[.bool false, .slice none 0 0, .slice a38 n38 c38, .slice a37 n37 c37] _ _ hA, Nat.le_trans F.sz hAlo, (oS.ner hA (by decide) (fun k hk => setRow_other _ W29.heap.size k #[.bool false, .slice none 0 0, .slice a38 n38 c38, .slice a37 n37 c37] hk)).base F.sz, (oI.ner hA (by decide) (fun k hk => setRow_other _ W29.heap.size k #[.bool false, .slice none 0 0, .slice a38 n38 c38, .slice a37 n37 c37] hk)).base F.sz⟩
            have G2 := G.below hb2
            clear hb2 hb hS oS oI hA
            go_wp2
            go_meet
            exact ⟨_, _, _, rfl, .mk _ _ _, .mk _ _ _, F2, H2, G2⟩
        · skip
          obtain ⟨W30, hV⟩ : ∃ x, W2.alloc zrbO = x := ⟨_, rfl⟩
          have bx : Below W2.heap.size W2 W30 := by rw [← hV]; exact below_new W2 _
          have oS := oS.below bx
          have hA : W30.heap[W2.heap.size]? = some zrbO := by rw [← hV]; exact heap_alloc_new W2 _
          have hAlo := hs
          have hb := hb.trans (bx.mono hs)
          have hs := Nat.le_trans hs bx.size
          have hS := hb
          rw [hV]
          clear hV bx
          simp only [Act.put, List.setIfInBounds_toArray, List.set_cons_succ, List.set_cons_zero]
          refine wpAnyH_one (w1 := W30.alloc (.cells #[] 3)) 0 (some 59) (.slice (some ⟨W30.heap.size, 0, none⟩) 0 0) rfl (by kernel_rfl) (by kernel_rfl) rfl (ex_b0 rfl (mk0I W30)) (hb.trans ((below_new W30 (.cells #[] 3)).mono hs)) ?_
          obtain ⟨W39, hV⟩ : ∃ x, W30.alloc (.cells #[] 3) = x := ⟨_, rfl⟩
          have bx : Below W30.heap.size W30 W39 := by rw [← hV]; exact below_new W30 _
          have oS := oS.below bx
          have hA := (bx.block _ (lt_of_heap hA)).trans hA
          have oI : OwnR elI V0.heap.size W39 (.slice (some ⟨W30.heap.size, 0, none⟩) 0 0) [] := by rw [← hV]; exact (OwnR.made elI W30).base hs
          have hb := hb.trans (bx.mono hs)
          have hs := Nat.le_trans hs bx.size
          have hS := hb
          rw [hV]
          clear hV bx
          simp only [Act.put, List.setIfInBounds_toArray, List.set_cons_succ, List.set_cons_zero]
          obtain ⟨a40, n40, c40, W40, hr40, q40, bq40, sq40, kq40⟩ := app_step okZ oI (TIH.out _ hb) LIH.out hs 24
          rw [List.nil_append] at q40
          refine wpAnyH_one (w1 := W40) 5 (some 64) (.slice a40 n40 c40) rfl (by kernel_rfl) (by kernel_rfl) rfl (ex_app rfl rfl rfl hr40) (hb.trans bq40) ?_
          have oS := own_keep oS kq40 (by decide)
          have hA := kq40 _ _ _ _ hA (by decide)
          have oI := q40
          have hb := hb.trans bq40
          have hs := Nat.le_trans hs sq40
          have hS := hb
          simp only [Act.put, List.setIfInBounds_toArray, List.set_cons_succ, List.set_cons_zero]
          obtain ⟨a41, n41, c41, W41, hr41, q41, bq41, sq41, kq41⟩ := app_step okS oS (TKH.out _ hb) LKH.out hs 23
          rw [List.nil_append] at q41
          refine wpAnyH_one (w1 := W41) 11 (some 70) (.slice a41 n41 c41) rfl (by kernel_rfl) (by kernel_rfl) rfl (ex_app rfl rfl rfl hr41) (hb.trans bq41) ?_
          have hA := kq41 _ _ _ _ hA (by decide)
          have oI := own_keep oI kq41 (by decide)
          have oS := q41
          have hb := hb.trans bq41
          have hs := Nat.le_trans hs sq41
          have hS := hb
          simp only [Act.put, List.setIfInBounds_toArray, List.set_cons_succ, List.set_cons_zero]
          refine wpAnyH_take_d 12 (some 71) (.agg #[.bool false, .slice none 0 0, .slice a41 n41 c41, .slice a40 n40 c40]) rfl (by kernel_rfl) (by kernel_rfl) (by kernel_rfl) (by kernel_rfl) rfl (fun _ _ _ h => h) (fun w' _ => ex_build32 rfl rfl rfl (run_build w' 26 _ _ (by kernel_rfl))) (by exact hS) ?_
          simp only [Act.put, List.setIfInBounds_toArray, List.set_cons_succ, List.set_cons_zero]
          have hb2 := below_setRow' hb hAlo #[.bool false, .slice none 0 0, .slice a41 n41 c41, .slice a40 n40 c40]
          refine wpAnyH_one_skip 14 rfl (by kernel_rfl) (by kernel_rfl) (ex_store_row rfl rfl rfl hA (by kernel_rfl) rfl (by simp [Value.oneCell'])) hb2 ?_
          simp only [Act.put, List.setIfInBounds_toArray]
          refine wpAnyH_done (by kernel_rfl) ?_ _
          have F2 := FB.out _ _ F (hb2.mono F.sz)
          have H2 : RlfW (w.heap.size + 3) (W41.setRow W2.heap.size #[.bool false, .slice none 0 0, .slice a41 n41 c41, .slice a40 n40 c40]) W2.heap.size #[.bool false, .slice none 0 0, .slice a41 n41 c41, .slice a40 n40 c40] (.slice a41 n41 c41) (.slice a40 n40 c40) (n.ks.drop q) (n.is.drop q) := ⟨setRow_heap _ _ _ #[.bool false, .slice none 0 0, .slice a41 n41 c41, .slice a40 n40 c40] _ _ hA, Nat.le_trans F.sz hAlo, (oS.ner hA (by decide) (fun k hk => setRow_other _ W2.heap.size k #[.bool false, .slice none 0 0, .slice a41 n41 c41, .slice a40 n40 c40] hk)).base F.sz, (oI.ner hA (by decide) (fun k hk => setRow_other _ W2.heap.size k #[.bool false, .slice none 0 0, .slice a41 n41 c41, .slice a40 n40 c40] hk)).base F.sz⟩
          have G2 := G.below hb2
          clear hb2 hb hS oS oI hA
          go_wp2
          go_meet
          exact ⟨_, _, _, rfl, .mk _ _ _, .mk _ _ _, F2, H2, G2⟩
      · skip
        obtain ⟨W3, hV⟩ : ∃ x, V0.alloc zrbO = x := ⟨_, rfl⟩
        have bx : Below V0.heap.size V0 W3 := by rw [← hV]; exact below_new V0 _
        have hA : W3.heap[V0.heap.size]? = some zrbO := by rw [← hV]; exact heap_alloc_new V0 _
        have hAlo := hs
        have hb := hb.trans (bx.mono hs)
        have hs := Nat.le_trans hs bx.size
        have hS := hb
        rw [hV]
        clear hV bx
        simp only [Act.put, List.setIfInBounds_toArray, List.set_cons_succ, List.set_cons_zero]
        refine wpAnyH_two (w1 := W3.alloc (.cells #[] 3)) (w2 := W3.alloc (.cells #[] 9)) 0 6 (some 59) (some 65) (.slice (some ⟨W3.heap.size, 0, none⟩) 0 0) (.slice (some ⟨W3.heap.size, 0, none⟩) 0 0) rfl rfl (by kernel_rfl) (by kernel_rfl) (by kernel_rfl) rfl rfl (ex_b0 rfl (mk0I W3)) (ex_b0 rfl (mk0S W3)) (hb.trans ((below_new W3 (.cells #[] 3)).mono hs)) (hb.trans ((below_new W3 (.cells #[] 9)).mono hs)) ?_ ?_
        · skip
          obtain ⟨W42, hV⟩ : ∃ x, W3.alloc (.cells #[] 3) = x := ⟨_, rfl⟩
          have bx : Below W3.heap.size W3 W42 := by rw [← hV]; exact below_new W3 _
          have hA := (bx.block _ (lt_of_heap hA)).trans hA
          have oI : OwnR elI V0.heap.size W42 (.slice (some ⟨W3.heap.size, 0, none⟩) 0 0) [] := by rw [← hV]; exact (OwnR.made elI W3).base hs
          have hb := hb.trans (bx.mono hs)
          have hs := Nat.le_trans hs bx.size
          have hS := hb
          rw [hV]
          clear hV bx
          simp only [Act.put, List.setIfInBounds_toArray, List.set_cons_succ, List.set_cons_zero]
          obtain ⟨a44, n44, c44, W44, hr44, q44, bq44, sq44, kq44⟩ := app_step okZ oI (TIH.out _ hb) LIH.out hs 24
          rw [List.nil_append] at q44
          refine wpAnyH_two (w1 := W44) (w2 := W42.alloc (.cells #[] 9)) 5 6 (some 64) (some 65) (.slice a44 n44 c44) (.slice (some ⟨W42.heap.size, 0, none⟩) 0 0) rfl rfl (by kernel_rfl) (by kernel_rfl) (by kernel_rfl) rfl rfl (ex_app rfl rfl rfl hr44) (ex_b0 rfl (mk0S W42)) (hb.trans bq44) (hb.trans ((below_new W42 (.cells #[] 9)).mono hs)) ?_ ?_
          · skip
            have hA := kq44 _ _ _ _ hA (by decide)
            have oI := q44
            have hb := hb.trans bq44
            have hs := Nat.le_trans hs sq44
            have hS := hb
            simp only [Act.put, List.setIfInBounds_toArray, List.set_cons_succ, List.set_cons_zero]
            refine wpAnyH_one (w1 := W44.alloc (.cells #[] 9)) 6 (some 65) (.slice (some ⟨W44.heap.size, 0, none⟩) 0 0) rfl (by kernel_rfl) (by kernel_rfl) rfl (ex_b0 rfl (mk0S W44)) (hb.trans ((below_new W44 (.cells #[] 9)).mono hs)) ?_
            obtain ⟨W46, hV⟩ : ∃ x, W44.alloc (.cells #[] 9) = x := ⟨_, rfl⟩
            have bx : Below W44.heap.size W44 W46 := by rw [← hV]; exact below_new W44 _
            have hA := (bx.block _ (lt_of_heap hA)).trans hA
            have oI := oI.below bx
            have oS : OwnR elS V0.heap.size W46 (.slice (some ⟨W44.heap.size, 0, none⟩) 0 0) [] := by rw [← hV]; exact (OwnR.made elS W44).base hs
            have hb := hb.trans (bx.mono hs)
            have hs := Nat.le_trans hs bx.size
            have hS := hb
            rw [hV]
            clear hV bx
            simp only [Act.put, List.setIfInBounds_toArray, List.set_cons_succ, List.set_cons_zero]
            obtain ⟨a47, n47, c47, W47, hr47, q47, bq47, sq47, kq47⟩ := app_step okS oS (TKH.out _ hb) LKH.out hs 23
            rw [List.nil_append] at q47
            refine wpAnyH_one (w1 := W47) 11 (some 70) (.slice a47 n47 c47) rfl (by kernel_rfl) (by kernel_rfl) rfl (ex_app rfl rfl rfl hr47) (hb.trans bq47) ?_
            have hA := kq47 _ _ _ _ hA (by decide)
            have oI := own_keep oI kq47 (by decide)
            have oS := q47
            have hb := hb.trans bq47
            have hs := Nat.le_trans hs sq47
            have hS := hb
            simp only [Act.put, List.setIfInBounds_toArray, List.set_cons_succ, List.set_cons_zero]
            refine wpAnyH_take_d 12 (some 71) (.agg #[.bool false, .slice none 0 0, .slice a47 n47 c47, .slice a44 n44 c44]) rfl (by kernel_rfl) (by kernel_rfl) (by kernel_rfl) (by kernel_rfl) rfl (fun _ _ _ h => h) (fun w' _ => ex_build32 rfl rfl rfl (run_build w' 26 _ _ (by kernel_rfl))) (by exact hS) ?_
            simp only [Act.put, List.setIfInBounds_toArray, List.set_cons_succ, List.set_cons_zero]
            have hb2 := below_setRow' hb hAlo #[.bool false, .slice none 0 0, .slice a47 n47 c47, .slice a44 n44 c44]
            refine wpAnyH_one_skip 14 rfl (by kernel_rfl) (by kernel_rfl) (ex_store_row rfl rfl rfl hA (by kernel_rfl) rfl (by simp [Value.oneCell'])) hb2 ?_
            simp only [Act.put, List.setIfInBounds_toArray]
            refine wpAnyH_done (by kernel_rfl) ?_ _
            have F2 := FB.out _ _ F (hb2.mono F.sz)
            have H2 : RlfW (w.heap.size + 3) (W47.setRow V0.heap.size #[.bool false, .slice none 0 0, .slice a47 n47 c47, .slice a44 n44 c44]) V0.heap.size #[.bool false, .slice none 0 0, .slice a47 n47 c47, .slice a44 n44 c44] (.slice a47 n47 c47) (.slice a44 n44 c44) (n.ks.drop q) (n.is.drop q) := ⟨setRow_heap _ _ _ #[.bool false, .slice none 0 0, .slice a47 n47 c47, .slice a44 n44 c44] _ _ hA, Nat.le_trans F.sz hAlo, (oS.ner hA (by decide) (fun k hk => setRow_other _ V0.heap.size k #[.bool false, .slice none 0 0, .slice a47 n47 c47, .slice a44 n44 c44] hk)).base F.sz, (oI.ner hA (by decide) (fun k hk => setRow_other _ V0.heap.size k #[.bool false, .slice none 0 0, .slice a47 n47 c47, .slice a44 n44 c44] hk)).base F.sz⟩
            have G2 := G.below hb2
            clear hb2 hb hS oS oI hA
            go_wp2
            go_meet
            exact ⟨_, _, _, rfl, .mk _ _ _, .mk _ _ _, F2, H2, G2⟩
          · skip
            obtain ⟨W45, hV⟩ : ∃ x, W42.alloc (.cells #[] 9) = x := ⟨_, rfl⟩
            have bx : Below W42.heap.size W42 W45 := by rw [← hV]; exact below_new W42 _
            have hA := (bx.block _ (lt_of_heap hA)).trans hA
            have oI := oI.below bx
            have oS : OwnR elS V0.heap.size W45 (.slice (some ⟨W42.heap.size, 0, none⟩) 0 0) [] := by rw [← hV]; exact (OwnR.made elS W42).base hs
            have hb := hb.trans (bx.mono hs)
            have hs := Nat.le_trans hs bx.size
            have hS := hb
            rw [hV]
            clear hV bx
            simp only [Act.put, List.setIfInBounds_toArray, List.set_cons_succ, List.set_cons_zero]
            obtain ⟨a48, n48, c48, W48, hr48, q48, bq48, sq48, kq48⟩ := app_step okZ oI (TIH.out _ hb) LIH.out hs 24
            rw [List.nil_append] at q48
            refine wpAnyH_one (w1 := W48) 5 (some 64) (.slice a48 n48 c48) rfl (by kernel_rfl) (by kernel_rfl) rfl (ex_app rfl rfl rfl hr48) (hb.trans bq48) ?_
            have hA := kq48 _ _ _ _ hA (by decide)
            have oS := own_keep oS kq48 (by decide)
            have oI := q48
            have hb := hb.trans bq48
            have hs := Nat.le_trans hs sq48
            have hS := hb
            simp only [Act.put, List.setIfInBounds_toArray, List.set_cons_succ, List.set_cons_zero]
            obtain ⟨a49, n49, c49, W49, hr49, q49, bq49, sq49, kq49⟩ := app_step okS oS (TKH.out _ hb) LKH.out hs 23
            rw [List.nil_append] at q49
            refine wpAnyH_one (w1 := W49) 11 (some 70) (.slice a49 n49 c49) rfl (by kernel_rfl) (by kernel_rfl) rfl (ex_app rfl rfl rfl hr49) (hb.trans bq49) ?_
            have hA := kq49 _ _ _ _ hA (by decide)
            have oI := own_keep oI kq49 (by decide)
            have oS := q49
            have hb := hb.trans bq49
            have hs := Nat.le_trans hs sq49
            have hS := hb
            simp only [Act.put, List.setIfInBounds_toArray, List.set_cons_succ, List.set_cons_zero]
            refine wpAnyH_take_d 12 (some 71) (.agg #[.bool false, .slice none 0 0, .slice a49 n49 c49, .slice a48 n48 c48]) rfl (by kernel_rfl) (by kernel_rfl) (by kernel_rfl) (by kernel_rfl) rfl (fun _ _ _ h => h) (fun w' _ => ex_build32 rfl rfl rfl (run_build w' 26 _ _ (by kernel_rfl))) (by exact hS) ?_
            simp only [Act.put, List.setIfInBounds_toArray, List.set_cons_succ, List.set_cons_zero]
            have hb2 := below_setRow' hb hAlo #[.bool false, .slice none 0 0, .slice a49 n49 c49, .slice a48 n48 c48]
            refine wpAnyH_one_skip 14 rfl (by kernel_rfl) (by kernel_rfl) (ex_store_row rfl rfl rfl hA (by kernel_rfl) rfl (by simp [Value.oneCell'])) hb2 ?_
            simp only [Act.put, List.setIfInBounds_toArray]
            refine wpAnyH_done (by kernel_rfl) ?_ _
            have F2 := FB.out _ _ F (hb2.mono F.sz)
            have H2 : RlfW (w.heap.size + 3) (W49.setRow V0.heap.size #[.bool false, .slice none 0 0, .slice a49 n49 c49, .slice a48 n48 c48]) V0.heap.size #[.bool false, .slice none 0 0, .slice a49 n49 c49, .slice a48 n48 c48] (.slice a49 n49 c49) (.slice a48 n48 c48) (n.ks.drop q) (n.is.drop q) := ⟨setRow_heap _ _ _ #[.bool false, .slice none 0 0, .slice a49 n49 c49, .slice a48 n48 c48] _ _ hA, Nat.le_trans F.sz hAlo, (oS.ner hA (by decide) (fun k hk => setRow_other _ V0.heap.size k #[.bool false, .slice none 0 0, .slice a49 n49 c49, .slice a48 n48 c48] hk)).base F.sz, (oI.ner hA (by decide) (fun k hk => setRow_other _ V0.heap.size k #[.bool false, .slice none 0 0, .slice a49 n49 c49, .slice a48 n48 c48] hk)).base F.sz⟩
            have G2 := G.below hb2
            clear hb2 hb hS oS oI hA
            go_wp2
            go_meet
            exact ⟨_, _, _, rfl, .mk _ _ _, .mk _ _ _, F2, H2, G2⟩
        · skip
          obtain ⟨W43, hV⟩ : ∃ x, W3.alloc (.cells #[] 9) = x := ⟨_, rfl⟩
          have bx : Below W3.heap.size W3 W43 := by rw [← hV]; exact below_new W3 _
          have hA := (bx.block _ (lt_of_heap hA)).trans hA
          have oS : OwnR elS V0.heap.size W43 (.slice (some ⟨W3.heap.size, 0, none⟩) 0 0) [] := by rw [← hV]; exact (OwnR.made elS W3).base hs
          have hb := hb.trans (bx.mono hs)
          have hs := Nat.le_trans hs bx.size
          have hS := hb
          rw [hV]
          clear hV bx
          simp only [Act.put, List.setIfInBounds_toArray, List.set_cons_succ, List.set_cons_zero]
          refine wpAnyH_one (w1 := W43.alloc (.cells #[] 3)) 0 (some 59) (.slice (some ⟨W43.heap.size, 0, none⟩) 0 0) rfl (by kernel_rfl) (by kernel_rfl) rfl (ex_b0 rfl (mk0I W43)) (hb.trans ((below_new W43 (.cells #[] 3)).mono hs)) ?_
          obtain ⟨W50, hV⟩ : ∃ x, W43.alloc (.cells #[] 3) = x := ⟨_, rfl⟩
          have bx : Below W43.heap.size W43 W50 := by rw [← hV]; exact below_new W43 _
          have hA := (bx.block _ (lt_of_heap hA)).trans hA
          have oS := oS.below bx
          have oI : OwnR elI V0.heap.size W50 (.slice (some ⟨W43.heap.size, 0, none⟩) 0 0) [] := by rw [← hV]; exact (OwnR.made elI W43).base hs
          have hb := hb.trans (bx.mono hs)
          have hs := Nat.le_trans hs bx.size
          have hS := hb
          rw [hV]
          clear hV bx
          simp only [Act.put, List.setIfInBounds_toArray, List.set_cons_succ, List.set_cons_zero]
          obtain ⟨a51, n51, c51, W51, hr51, q51, bq51, sq51, kq51⟩ := app_step okZ oI (TIH.out _ hb) LIH.out hs 24
          rw [List.nil_append] at q51
          refine wpAnyH_one (w1 := W51) 5 (some 64) (.slice a51 n51 c51) rfl (by kernel_rfl) (by kernel_rfl) rfl (ex_app rfl rfl rfl hr51) (hb.trans bq51) ?_
          have hA := kq51 _ _ _ _ hA (by decide)
          have oS := own_keep oS kq51 (by decide)
          have oI := q51
          have hb := hb.trans bq51
          have hs := Nat.le_trans hs sq51
          have hS := hb
          simp only [Act.put, List.setIfInBounds_toArray, List.set_cons_succ, List.set_cons_zero]
          obtain ⟨a52, n52, c52, W52, hr52, q52, bq52, sq52, kq52⟩ := app_step okS oS (TKH.out _ hb) LKH.out hs 23
          rw [List.nil_append] at q52
          refine wpAnyH_one (w1 := W52) 11 (some 70) (.slice a52 n52 c52) rfl (by kernel_rfl) (by kernel_rfl) rfl (ex_app rfl rfl rfl hr52) (hb.trans bq52) ?_
          have hA := kq52 _ _ _ _ hA (by decide)
          have oI := own_keep oI kq52 (by decide)
          have oS := q52
          have hb := hb.trans bq52
          have hs := Nat.le_trans hs sq52
          have hS := hb
          simp only [Act.put, List.setIfInBounds_toArray, List.set_cons_succ, List.set_cons_zero]
          refine wpAnyH_take_d 12 (some 71) (.agg #[.bool false, .slice none 0 0, .slice a52 n52 c52, .slice a51 n51 c51]) rfl (by kernel_rfl) (by kernel_rfl) (by kernel_rfl) (by kernel_rfl) rfl (fun _ _ _ h => h) (fun w' _ => ex_build32 rfl rfl rfl (run_build w' 26 _ _ (by kernel_rfl))) (by exact hS) ?_
          simp only [Act.put, List.setIfInBounds_toArray, List.set_cons_succ, List.set_cons_zero]
          have hb2 := below_setRow' hb hAlo #[.bool false, .slice none 0 0, .slice a52 n52 c52, .slice a51 n51 c51]
          refine wpAnyH_one_skip 14 rfl (by kernel_rfl) (by kernel_rfl) (ex_store_row rfl rfl rfl hA (by kernel_rfl) rfl (by simp [Value.oneCell'])) hb2 ?_
          simp only [Act.put, List.setIfInBounds_toArray]
          refine wpAnyH_done (by kernel_rfl) ?_ _
          have F2 := FB.out _ _ F (hb2.mono F.sz)
          have H2 : RlfW (w.heap.size + 3) (W52.setRow V0.heap.size #[.bool false, .slice none 0 0, .slice a52 n52 c52, .slice a51 n51 c51]) V0.heap.size #[.bool false, .slice none 0 0, .slice a52 n52 c52, .slice a51 n51 c51] (.slice a52 n52 c52) (.slice a51 n51 c51) (n.ks.drop q) (n.is.drop q) := ⟨setRow_heap _ _ _ #[.bool false, .slice none 0 0, .slice a52 n52 c52, .slice a51 n51 c51] _ _ hA, Nat.le_trans F.sz hAlo, (oS.ner hA (by decide) (fun k hk => setRow_other _ V0.heap.size k #[.bool false, .slice none 0 0, .slice a52 n52 c52, .slice a51 n51 c51] hk)).base F.sz, (oI.ner hA (by decide) (fun k hk => setRow_other _ V0.heap.size k #[.bool false, .slice none 0 0, .slice a52 n52 c52, .slice a51 n51 c51] hk)).base F.sz⟩
          have G2 := G.below hb2
          clear hb2 hb hS oS oI hA
          go_wp2
          go_meet
          exact ⟨_, _, _, rfl, .mk _ _ _, .mk _ _ _, F2, H2, G2⟩
    case rest =>
      obtain ⟨C, vkC, viC, rfl, ⟨ka2, km2, kc2, rfl⟩, ⟨ia2, im2, ic2, rfl⟩, F2, H, G2⟩ := hcut
      have kv := KV.out
      obtain ⟨rfl, rfl⟩ : ka = some ⟨kg, ko, none⟩ ∧ kc = kcap := by
        injection kv with e1 e2 e3
        exact ⟨e1, e3⟩
      have key2 := (F2.fr.cell (p := ⟨kg, ko + (q - 1), none⟩) hB2).trans hk2
      generalize hkk : kAt n.ks (q - 1) = key at *
      have fr := F2.fr
      have z1 := F2.z1
      have z2 := F2.z2
      have hAl := G2.lo
      have hCl := H.lo
      have RGA := Lib.hid (fun (w' : World) (h : ∀ k, k ≠ w.heap.size + 1 → k ≠ w.heap.size + 2 → w'.heap[k]? = wc.heap[k]?) => range4s (NdCells.of ((h A (by omega) (by omega)).trans G2.a)))
      have RGC := Lib.hid (fun (w' : World) (h : ∀ k, k ≠ w.heap.size + 1 → k ≠ w.heap.size + 2 → w'.heap[k]? = wc.heap[k]?) => range4s (NdCells.of ((h C (by omega) (by omega)).trans H.a)))
      have CX := Lib.hid (fun (w' : World) (h : ∀ k, k ≠ w.heap.size + 1 → k ≠ w.heap.size + 2 → w'.heap[k]? = wc.heap[k]?) => (World.cell?_of_block (w := wc) (w' := w') (a := ⟨w.heap.size, 2, none⟩) (h w.heap.size (by omega) (by omega))).trans F2.cs.c2)
      have DK := Lib.hid (fun (w' : World) (h : ∀ k, k ≠ w.heap.size + 1 → k ≠ w.heap.size + 2 → w'.heap[k]? = wc.heap[k]?) => (World.cell?_of_block (w := wc) (w' := w') (a := ⟨kg, ko + (q - 1), none⟩) (h _ (Nat.ne_of_lt (Nat.lt_of_lt_of_le hB2 (Nat.le_add_right _ _))) (Nat.ne_of_lt (Nat.lt_of_lt_of_le hB2 (Nat.le_add_right _ _))))).trans key2)
      have HO6 := Lib.hid (And.intro G2.k G2.i)
      have HO8 := Lib.hid (And.intro H.k H.i)
      clear F2 G2 H F G key2 hk2 KV kv TKL TIL TKH TIH LKL LIL LKH LIH HRK HRI FB bz
      go_upto_region 9 with fail
      have hS : ∀ k, k ≠ w.heap.size + 1 → k ≠ w.heap.size + 2 → wc.drew.heap[k]? = wc.heap[k]? := fun _ _ _ => rfl
      refine wp_region_held_drew (S := fun w' => ∀ k, k ≠ w.heap.size + 1 → k ≠ w.heap.size + 2 → w'.heap[k]? = wc.heap[k]?) mixed hS (fun _ => ?_)
      show wpAnyH _ _ _ _ _ 12 (Array.replicate 12 false) _ _
      refine wpAnyH_take_d 0 (some 72) (.agg #[.bool false, .slice none 0 0, .slice ka1 km1 kc1, .slice ia1 im1 ic1]) rfl (by kernel_rfl) (by kernel_rfl) (by kernel_rfl) (by kernel_rfl) rfl (fun _ _ _ h => h) (fun w' h => ex_row rfl rfl (RGA.out _ h) Try.underlying26 rfl (by kernel_rfl)) (by exact hS) ?_
      simp only [Act.put, List.setIfInBounds_toArray, List.set_cons_succ, List.set_cons_zero]
      refine wpAnyH_take_d 1 (some 73) (.pointer (some ⟨w.heap.size, 2, none⟩)) rfl (by kernel_rfl) (by kernel_rfl) (by kernel_rfl) (by kernel_rfl) rfl (fun _ _ _ h => h) (fun _ _ => by kernel_rfl) (by exact hS) ?_
      simp only [Act.put, List.setIfInBounds_toArray, List.set_cons_succ, List.set_cons_zero]
      refine wpAnyH_take_d 2 (some 74) (.slice (some ⟨kg, ko, none⟩) km kc) rfl (by kernel_rfl) (by kernel_rfl) (by kernel_rfl) (by kernel_rfl) rfl (fun _ _ _ h => h) (fun w' h => exec_load_cell rfl rfl (CX.out _ h) Try.underlying23 rfl) (by exact hS) ?_
      simp only [Act.put, List.setIfInBounds_toArray, List.set_cons_succ, List.set_cons_zero]
      refine wpAnyH_take_d 3 (some 75) (.int .i64 q) rfl (by kernel_rfl) (by kernel_rfl) (by kernel_rfl) (by kernel_rfl) rfl (fun _ _ _ h => h) (fun _ _ => by kernel_rfl) (by exact hS) ?_
      simp only [Act.put, List.setIfInBounds_toArray, List.set_cons_succ, List.set_cons_zero]
      refine wpAnyH_take_d 4 (some 76) (.int .i64 ((q - 1 : Nat) : Int)) rfl (by kernel_rfl) (by kernel_rfl) (by kernel_rfl) (by kernel_rfl) rfl (fun _ _ _ h => h) (fun _ _ => ex_sub rfl rfl rfl y1) (by exact hS) ?_
      simp only [Act.put, List.setIfInBounds_toArray, List.set_cons_succ, List.set_cons_zero]
      refine wpAnyH_take_d 5 (some 77) (.pointer (some ⟨kg, ko + (q - 1), none⟩)) rfl (by kernel_rfl) (by kernel_rfl) (by kernel_rfl) (by kernel_rfl) rfl (fun _ _ _ h => h) (fun _ _ => ex_index1 rfl rfl rfl hqk Try.underlying23 (by kernel_rfl)) (by exact hS) ?_
      simp only [Act.put, List.setIfInBounds_toArray, List.set_cons_succ, List.set_cons_zero]
      refine wpAnyH_take_d 6 (some 78) (.string key) rfl (by kernel_rfl) (by kernel_rfl) (by kernel_rfl) (by kernel_rfl) rfl (fun _ _ _ h => h) (fun w' h => exec_load_cell rfl rfl (DK.out _ h) Try.underlying9 rfl) (by exact hS) ?_
      simp only [Act.put, List.setIfInBounds_toArray, List.set_cons_succ, List.set_cons_zero]
      refine wpAnyH_take_d 7 (some 79) (.agg #[.bool false, .slice none 0 0, .slice ka2 km2 kc2, .slice ia2 im2 ic2]) rfl (by kernel_rfl) (by kernel_rfl) (by kernel_rfl) (by kernel_rfl) rfl (fun _ _ _ h => h) (fun w' h => ex_row rfl rfl (RGC.out _ h) Try.underlying26 rfl (by kernel_rfl)) (by exact hS) ?_
      simp only [Act.put, List.setIfInBounds_toArray, List.set_cons_succ, List.set_cons_zero]
      -- left: [(8, ('none', 'Op.store 26 t2 t72', None)), (9, ('3', 'Op.assign t78', None)), (10, ('none', 'Op.store 26 t4 t79', None)), (11, ('5', 'Op.assign (const (0:i64))', None))]
      have z1 : wc.drew.heap[w.heap.size + 1]? = some zrbO := z1
      have z2 : wc.drew.heap[w.heap.size + 2]? = some zrbO := z2
      have o6 : OwnR elS (w.heap.size + 3) wc.drew (.slice ka1 km1 kc1) (n.ks.take (q - 1)) ∧ OwnR elI (w.heap.size + 3) wc.drew (.slice ia1 im1 ic1) (n.is.take q) := HO6.out
      have o8 : OwnR elS (w.heap.size + 3) wc.drew (.slice ka2 km2 kc2) (n.ks.drop q) ∧ OwnR elI (w.heap.size + 3) wc.drew (.slice ia2 im2 ic2) (n.is.drop q) := HO8.out
      have fr := fr.drew
      clear RGA RGC CX DK
      generalize wc.drew = V at *
      have y1 : ∀ k, k ≠ w.heap.size + 1 → (V.setRow (w.heap.size + 1) #[.bool false, .slice none 0 0, .slice ka1 km1 kc1, .slice ia1 im1 ic1]).heap[k]? = V.heap[k]? := fun k h => setRow_other V (w.heap.size + 1) k _ h
      have n1 := setRow_heap V (w.heap.size + 1) _ #[.bool false, .slice none 0 0, .slice ka1 km1 kc1, .slice ia1 im1 ic1] _ _ z1
      refine wpAnyH_one_skip 8 rfl (by kernel_rfl) (by kernel_rfl) (ex_store_row rfl rfl rfl z1 (by kernel_rfl) rfl (by simp [Value.oneCell'])) (fun k h1 h2 => (y1 k h1).trans (hS k h1 h2)) ?_
      simp only [Act.put, List.setIfInBounds_toArray]
      have hS : ∀ k, k ≠ w.heap.size + 1 → k ≠ w.heap.size + 2 → (V.setRow (w.heap.size + 1) #[.bool false, .slice none 0 0, .slice ka1 km1 kc1, .slice ia1 im1 ic1]).heap[k]? = wc.heap[k]? := fun k h1 h2 => (y1 k h1).trans (hS k h1 h2)
      have z2 := (y1 (w.heap.size + 2) (by omega)).trans z2
      have fr := below_setRow' fr (Nat.le_succ _) #[.bool false, .slice none 0 0, .slice ka1 km1 kc1, .slice ia1 im1 ic1]
      have o6 := And.intro (o6.1.keepg (by omega) y1) (o6.2.keepg (by omega) y1)
      have o8 := And.intro (o8.1.keepg (by omega) y1) (o8.2.keepg (by omega) y1)
      generalize V.setRow (w.heap.size + 1) #[.bool false, .slice none 0 0, .slice ka1 km1 kc1, .slice ia1 im1 ic1] = V1 at *
      refine wpAnyH_take_d 9 (some 3) (.string key) rfl (by kernel_rfl) (by kernel_rfl) (by kernel_rfl) (by kernel_rfl) rfl (fun _ _ _ h => h) (fun _ _ => by kernel_rfl) (by exact hS) ?_
      simp only [Act.put]
      have y2 : ∀ k, k ≠ w.heap.size + 2 → (V1.setRow (w.heap.size + 2) #[.bool false, .slice none 0 0, .slice ka2 km2 kc2, .slice ia2 im2 ic2]).heap[k]? = V1.heap[k]? := fun k h => setRow_other V1 (w.heap.size + 2) k _ h
      have n2 := setRow_heap V1 (w.heap.size + 2) _ #[.bool false, .slice none 0 0, .slice ka2 km2 kc2, .slice ia2 im2 ic2] _ _ z2
      refine wpAnyH_one_skip 10 rfl (by kernel_rfl) (by kernel_rfl) (ex_store_row rfl rfl rfl z2 (by kernel_rfl) rfl (by simp [Value.oneCell'])) (fun k h1 h2 => (y2 k h2).trans (hS k h1 h2)) ?_
      simp only [Act.put]
      have hS : ∀ k, k ≠ w.heap.size + 1 → k ≠ w.heap.size + 2 → (V1.setRow (w.heap.size + 2) #[.bool false, .slice none 0 0, .slice ka2 km2 kc2, .slice ia2 im2 ic2]).heap[k]? = wc.heap[k]? := fun k h1 h2 => (y2 k h2).trans (hS k h1 h2)
      have n1 := (y2 (w.heap.size + 1) (by omega)).trans n1
      have fr := below_setRow' fr (Nat.le_add_right _ 2) #[.bool false, .slice none 0 0, .slice ka2 km2 kc2, .slice ia2 im2 ic2]
      have o6 := And.intro (o6.1.keepg (by omega) y2) (o6.2.keepg (by omega) y2)
      have o8 := And.intro (o8.1.keepg (by omega) y2) (o8.2.keepg (by omega) y2)
      generalize V1.setRow (w.heap.size + 2) #[.bool false, .slice none 0 0, .slice ka2 km2 kc2, .slice ia2 im2 ic2] = V2 at *
      refine wpAnyH_take_d 11 (some 5) (.int .i64 0) rfl (by kernel_rfl) (by kernel_rfl) (by kernel_rfl) (by kernel_rfl) rfl (fun _ _ _ h => h) (fun _ _ => by kernel_rfl) (by exact hS) ?_
      refine wpAnyH_done (by kernel_rfl) ?_ _
      obtain ⟨r0, r1, r2, r3⟩ := NdCells.of n1
      obtain ⟨t0, t1, t2, t3⟩ := NdCells.of n2
      have HFR := Lib.hid fr
      have H6 := Lib.hid o6
      have H8 := Lib.hid o8
      clear fr o6 o8 y1 y2 z1 z2 n1 n2 hS
      go_wp2
      exact bodyPost_ret (v := .tuple #[.agg #[.bool false, .slice none 0 0, .slice ka1 km1 kc1, .slice ia1 im1 ic1], .string key, .agg #[.bool false, .slice none 0 0, .slice ka2 km2 kc2, .slice ia2 im2 ic2], .int .i64 0]) (by simp [results, Try.results30, go_sem, r0, r1, r2, r3, t0, t1, t2, t3]) rfl ⟨_, _, rfl, ⟨_, _, _, rfl, OwnR.nil _ _ _, H6.out.1.base (by omega), H6.out.2.base (by omega)⟩, ⟨_, _, _, rfl, OwnR.nil _ _ _, H8.out.1.base (by omega), H8.out.2.base (by omega)⟩, HFR.out⟩
end Go.Proofs.Ytdkmfcmndncmcaa
