/- The contracts of the document's own DocDecodePairs and SamePairs. No statement of the seat is proved here. -/
import Derived.Test.YtmkomhdlcbimoaaRPDoc
namespace Go.Proofs.Ytmkomhdlcbimoaa
set_option maxRecDepth 20000
open Go.RowKit

theorem pdec_doc {bs : List UInt8} (h0 : unsE bs = 0) (hl : 2 ≤ (unsR bs).length) : pdecOk (unsR bs) = true ↔ (epE (itAt (unsR bs) 1).n (prsOf (unsR bs)) = 0 ∧ blobB (itAt (unsR bs) 1).n (prsOf (unsR bs)) = bs) := by
  obtain ⟨u1, u2, u3⟩ := unsE_zero h0
  constructor
  · intro h
    unfold pdecOk pshB at h
    simp only [Bool.and_eq_true, decide_eq_true_eq, Bool.not_eq_true'] at h
    obtain ⟨⟨⟨k1, k2⟩, k3⟩, k4⟩ := h
    have hp := pairs_of u1 k1 k2
    refine ⟨epE_ok k3 k4, ?_⟩
    unfold blobB
    rw [← hp]; exact u2.symm
  · rintro ⟨h1, h2⟩
    obtain ⟨k3, k4⟩ := epE_zero h1
    have hin : inI (itAt (unsR bs) 1).n := (itAt_ok u3 (by omega)).2.1
    obtain ⟨v1, v2⟩ := uns_seal (encE_pairs k3 k4) (pairI_ok hin (sizes_ok k4))
    have e : unsR bs = pairI (itAt (unsR bs) 1).n (prsOf (unsR bs)) := by
      have h2' : sealed (packB (pairI (itAt (unsR bs) 1).n (prsOf (unsR bs)))) = bs := h2
      rw [h2'] at v2; exact v2
    unfold pdecOk pshB
    rw [k3, k4]
    have s1 : shapeB (unsR bs) 4 2 = true := by rw [e]; exact pairI_shape _ _
    have s2 : (unsR bs).length % 2 = 0 := by rw [e, pairI_length]; omega
    rw [s1, decide_eq_true s2]; rfl
theorem pdec_short {it : List It} (h : it.length < 2) : pdecOk it = false := by
  unfold pdecOk pshB shapeB
  rw [decide_eq_false (by omega)]; rfl
set_option maxRecDepth 20000 in
set_option maxHeartbeats 1600000 in
theorem docDecPairs_any (bs : List UInt8) (hbs : bs.length + 8 ≤ 140737488355328) (w : World) : Calls Try.prog 25 #[.string (strOf bs)] w (PRetE w.heap.size w (pdecN bs) (pdecL bs) (pdecE bs)) := by
  have hu := unpacked_any bs hbs w
  by_cases c0 : unsE bs = 0
  · rw [c0] at hu
    obtain ⟨u1, u2, u3⟩ := unsE_zero c0
    obtain ⟨s1, s2⟩ := encE_short u1
    have e1 : pdecE bs = if pdecOk (unsR bs) then 0 else 2 := by unfold pdecE; rw [if_neg (by simpa using c0)]
    have eN : pdecN bs = if pdecOk (unsR bs) then (itAt (unsR bs) 1).n else 0 := by unfold pdecN; rw [e1]; cases pdecOk (unsR bs) <;> rfl
    have eL : pdecL bs = if pdecOk (unsR bs) then prsOf (unsR bs) else [] := by unfold pdecL; rw [e1]; cases pdecOk (unsR bs) <;> rfl
    have hpd := fun hl => pdec_doc c0 hl
    have hsh := fun h => pdec_short (it := unsR bs) h
    have HPD := Lib.hid hpd
    have HSH := Lib.hid hsh
    have HF : Hid (pdecOk (unsR bs) = false → ∀ e w', PRetE w.heap.size w 0 [] 2 e w' → PRetE w.heap.size w (pdecN bs) (pdecL bs) (pdecE bs) e w') := Lib.hid fun h e w' hd => by rw [e1, eN, eL, h]; exact hd
    have HT : Hid (pdecOk (unsR bs) = true → ∀ e w', PRetE w.heap.size w (itAt (unsR bs) 1).n (prsOf (unsR bs)) 0 e w' → PRetE w.heap.size w (pdecN bs) (pdecL bs) (pdecE bs) e w') := Lib.hid fun h e w' hd => by rw [e1, eN, eL, h]; exact hd
    generalize PRetE w.heap.size w (pdecN bs) (pdecL bs) (pdecE bs) = POST at HF HT ⊢
    clear e1 eN eL c0 u2 hpd hsh
    generalize unsR bs = it at *
    have U3 := Lib.hid u3
    have S2 := Lib.hid s2
    have hpo := Lib.hid (prsOf_ok s2)
    clear u3 s2 u1
    go_enter Try.func25, Try.ntmps25
    go_wp2_with fail
    refine Calls.mono hu ?_
    rintro e w2 ⟨v2, rfl, h2, B2⟩
    obtain ⟨ao1, cap1, hv1, hc1, hl1, -, hcells⟩ := h2.items U3.out
    have HC := Lib.hid hcells
    generalize hM : it.length = M at *
    have HMM := Lib.hid hM
    subst hv1
    clear hu h2 hcells hM
    go_wp2
    go_loopw [7, 8] (fun lv iv wr => ∃ k : Nat, k ≤ (M - 2) / 2 ∧ iv = .int .i64 ((2 * k + 2 : Nat) : Int) ∧ OwnP w2.heap.size wr lv ((prsOf it).take k) ∧ Below w2.heap.size w2 wr) (fun _ iv _ => M - (intOf iv).toNat)
    case atStart => exact ⟨0, Nat.zero_le _, rfl, OwnP.nil _ _, Below.refl _ _⟩
    case round =>
      obtain ⟨k, hk, rfl, ho, hb⟩ := hrel
      obtain ⟨lo, lm, lc, hlv, hlm⟩ := ho.form'
      subst hlv
      have hsub : IntKind.i64.wrap ((M : Int) - 1) = (M : Int) - 1 := by rw [IntKind.wrap_i64]; omega
      by_cases hlt : k < (M - 2) / 2
      · have hq : ((2 * k + 2 : Nat) : Int) < (M : Int) - 1 := by omega
        obtain ⟨b, off, rfl, hB2, hc⟩ := HC.out (by omega)
        have d1 := (hc (2 * k + 2) (by omega)).2.2
        have d2 := (hc (2 * k + 2 + 1) (by omega)).2.2
        have hN := Lib.hid (prsOf_succ it k (by rw [HMM.out]; exact hlt))
        have x1 : (itAt it (2 * k + 2)).s.size ≤ 140737488355328 := S2.out _ (itAt_mem (by rw [HMM.out]; omega))
        have x2 : (itAt it (2 * k + 2 + 1)).s.size ≤ 140737488355328 := S2.out _ (itAt_mem (by rw [HMM.out]; omega))
        have hsz : ((prsOf it).take k).length ≤ 4000 := by rw [List.length_take, prsOf_length]; omega
        generalize (itAt it (2 * k + 2)).s = xk at d1 hN x1
        generalize (itAt it (2 * k + 2 + 1)).s = xv at d2 hN x2
        generalize (prsOf it).take k = L at ho hN hsz
        have hk4 : 2 * k + 2 + 1 < M := by omega
        have hkk : 2 * k + 2 < M := by omega
        have hax : IntKind.i64.wrap (((2 * k + 2 : Nat) : Int) + 1) = ((2 * k + 2 + 1 : Nat) : Int) := by rw [IntKind.wrap_i64]; omega
        have hnx : IntKind.i64.wrap (((2 * k + 2 : Nat) : Int) + 2) = ((2 * (k + 1) + 2 : Nat) : Int) := by rw [IntKind.wrap_i64]; omega
        clear HC hc HF HT HPD HSH
        go_wp2_with fail
        have hS : Below w2.heap.size w2 wr.drew := hb.drew
        have o0 := ho.below ((Below.refl wr.heap.size wr).drew)
        refine wp_region_held_drew (S := fun w' => Below w2.heap.size w2 w') mixed hS (fun _ => ?_)
        show wpAnyH _ _ _ _ _ 16 (Array.replicate 16 false) _ _
        refine wpAnyH_take_d 0 (some 25) (.slice lo lm lc) rfl (by kernel_rfl) (by kernel_rfl) (by kernel_rfl) (by kernel_rfl) rfl (fun _ _ _ h => h) (fun _ _ => by kernel_rfl) (by exact hS) ?_
        simp only [Act.put, List.setIfInBounds_toArray, List.set_cons_succ, List.set_cons_zero]
        refine wpAnyH_take_d 1 (some 26) (.slice (some ⟨b, off, none⟩) M cap1) rfl (by kernel_rfl) (by kernel_rfl) (by kernel_rfl) (by kernel_rfl) rfl (fun _ _ _ h => h) (fun _ _ => by kernel_rfl) (by exact hS) ?_
        simp only [Act.put, List.setIfInBounds_toArray, List.set_cons_succ, List.set_cons_zero]
        refine wpAnyH_take_d 2 (some 27) (.int .i64 ((2 * k + 2 : Nat) : Int)) rfl (by kernel_rfl) (by kernel_rfl) (by kernel_rfl) (by kernel_rfl) rfl (fun _ _ _ h => h) (fun _ _ => by kernel_rfl) (by exact hS) ?_
        simp only [Act.put, List.setIfInBounds_toArray, List.set_cons_succ, List.set_cons_zero]
        refine wpAnyH_take_d 3 (some 28) (.pointer (some ⟨b, off + (2 * k + 2) * 3, none⟩)) rfl (by kernel_rfl) (by kernel_rfl) (by kernel_rfl) (by kernel_rfl) rfl (fun _ _ _ h => h) (fun w' h => exec_indexAddr3r rfl rfl rfl hkk Try.underlying74 szItemR) (by exact hS) ?_
        simp only [Act.put, List.setIfInBounds_toArray, List.set_cons_succ, List.set_cons_zero]
        refine wpAnyH_take_d 4 (some 29) (.pointer (some ⟨b, off + (2 * k + 2) * 3 + 2, none⟩)) rfl (by kernel_rfl) (by kernel_rfl) (by kernel_rfl) (by kernel_rfl) rfl (fun _ _ _ h => h) (fun _ _ => by kernel_rfl) (by exact hS) ?_
        simp only [Act.put, List.setIfInBounds_toArray, List.set_cons_succ, List.set_cons_zero]
        refine wpAnyH_take_d 5 (some 30) (.string xk) rfl (by kernel_rfl) (by kernel_rfl) (by kernel_rfl) (by kernel_rfl) rfl (fun _ _ _ h => h) (fun w' h => exec_load_cell rfl rfl ((h.cell hB2).trans d1) Try.underlying9 rfl) (by exact hS) ?_
        simp only [Act.put, List.setIfInBounds_toArray, List.set_cons_succ, List.set_cons_zero]
        refine wpAnyH_take_d 6 (some 31) (.slice (some ⟨b, off, none⟩) M cap1) rfl (by kernel_rfl) (by kernel_rfl) (by kernel_rfl) (by kernel_rfl) rfl (fun _ _ _ h => h) (fun _ _ => by kernel_rfl) (by exact hS) ?_
        simp only [Act.put, List.setIfInBounds_toArray, List.set_cons_succ, List.set_cons_zero]
        refine wpAnyH_take_d 7 (some 32) (.int .i64 ((2 * k + 2 : Nat) : Int)) rfl (by kernel_rfl) (by kernel_rfl) (by kernel_rfl) (by kernel_rfl) rfl (fun _ _ _ h => h) (fun _ _ => by kernel_rfl) (by exact hS) ?_
        simp only [Act.put, List.setIfInBounds_toArray, List.set_cons_succ, List.set_cons_zero]
        refine wpAnyH_take_d 8 (some 33) (.int .i64 ((2 * k + 2 + 1 : Nat) : Int)) rfl (by kernel_rfl) (by kernel_rfl) (by kernel_rfl) (by kernel_rfl) rfl (fun _ _ _ h => h) (fun w' h => exec_add rfl rfl rfl hax) (by exact hS) ?_
        simp only [Act.put, List.setIfInBounds_toArray, List.set_cons_succ, List.set_cons_zero]
        refine wpAnyH_take_d 9 (some 34) (.pointer (some ⟨b, off + (2 * k + 2 + 1) * 3, none⟩)) rfl (by kernel_rfl) (by kernel_rfl) (by kernel_rfl) (by kernel_rfl) rfl (fun _ _ _ h => h) (fun w' h => exec_indexAddr3r rfl rfl rfl hk4 Try.underlying74 szItemR) (by exact hS) ?_
        simp only [Act.put, List.setIfInBounds_toArray, List.set_cons_succ, List.set_cons_zero]
        refine wpAnyH_take_d 10 (some 35) (.pointer (some ⟨b, off + (2 * k + 2 + 1) * 3 + 2, none⟩)) rfl (by kernel_rfl) (by kernel_rfl) (by kernel_rfl) (by kernel_rfl) rfl (fun _ _ _ h => h) (fun _ _ => by kernel_rfl) (by exact hS) ?_
        simp only [Act.put, List.setIfInBounds_toArray, List.set_cons_succ, List.set_cons_zero]
        refine wpAnyH_take_d 11 (some 36) (.string xv) rfl (by kernel_rfl) (by kernel_rfl) (by kernel_rfl) (by kernel_rfl) rfl (fun _ _ _ h => h) (fun w' h => exec_load_cell rfl rfl ((h.cell hB2).trans d2) Try.underlying9 rfl) (by exact hS) ?_
        simp only [Act.put, List.setIfInBounds_toArray, List.set_cons_succ, List.set_cons_zero]
        refine wpAnyH_take_d 12 (some 37) (.agg #[.string xk, .string xv]) rfl (by kernel_rfl) (by kernel_rfl) (by kernel_rfl) (by kernel_rfl) rfl (fun _ _ _ h => h) (fun _ _ => by kernel_rfl) (by exact hS) ?_
        simp only [Act.put, List.setIfInBounds_toArray, List.set_cons_succ, List.set_cons_zero]
        generalize wr.drew = w4 at hS o0 ⊢
        have hbs := build_pairs_one w4 ⟨xk, xv⟩
        have hit := pairs_one w4 ⟨xk, xv⟩ ⟨x1, x2⟩
        have o5 := o0.alloc (.cells #[.string xk, .string xv] 66)
        have hS : Below w2.heap.size w2 (w4.alloc (.cells #[.string xk, .string xv] 66)) := hS.alloc hS.size _
        refine wpAnyH_one 13 (some 38) (.slice (some ⟨w4.heap.size, 0, none⟩) 1 1) rfl (by kernel_rfl) (by kernel_rfl) rfl (exec_b1 rfl rfl hbs) (by exact hS) ?_
        simp only [Act.put, List.setIfInBounds_toArray, List.set_cons_succ, List.set_cons_zero]
        obtain ⟨v7, w7, hr7, h7, b7, s7⟩ := own_append_pairs o5 hit (by simp; omega) hS.size 54
        have hS : Below w2.heap.size w2 w7 := hS.trans b7
        obtain ⟨ao7, m7, cap7, hv7, hm7⟩ := h7.form'
        subst hv7
        refine wpAnyH_one 14 (some 39) (.slice ao7 m7 cap7) rfl (by kernel_rfl) (by kernel_rfl) rfl (exec_append3 rfl rfl rfl hr7) (by exact hS) ?_
        simp only [Act.put, List.setIfInBounds_toArray, List.set_cons_succ, List.set_cons_zero]
        refine wpAnyH_take_d 15 (some 7) (.slice ao7 m7 cap7) rfl (by kernel_rfl) (by kernel_rfl) (by kernel_rfl) (by kernel_rfl) rfl (fun _ _ _ h => h) (fun _ _ => by kernel_rfl) (by exact hS) ?_
        simp only [Act.put, List.setIfInBounds_toArray, List.set_cons_succ, List.set_cons_zero]
        refine wpAnyH_done (by kernel_rfl) ?_ _
        go_wp2
        go_roundw
        case rel => exact ⟨k + 1, by omega, by rw [← hnx]; first | rfl | go_num, by rw [hN.out]; exact h7, hS⟩
        case measure => simp [intOf]; omega
      · have hq : ¬ ((2 * k + 2 : Nat) : Int) < (M : Int) - 1 := by omega
        rw [List.take_of_length_le (by rw [prsOf_length, HMM.out]; omega)] at ho
        have B3 := B2.trans (hb.mono B2.size)
        by_cases hM2 : M < 2
        · have hM2' : (M : Int) < 2 := by omega
          have hdf := HSH.out hM2
          have HP := Lib.hid (HF.out hdf)
          clear hdf HF HT HPD HSH HC ho
          go_wp2
          exact HP.out _ _ ⟨_, rfl, OwnP.nil _ _, B3⟩
        · have hM2' : ¬ (M : Int) < 2 := by omega
          obtain ⟨b, off, rfl, hB2, hc⟩ := HC.out (by omega)
          have cN := (hb.cell (p := ⟨b, off + 1 * 3 + 1, none⟩) hB2).trans (hc 1 (by omega)).2.1
          have hin : inI (itAt it 1).n := (itAt_ok U3.out (i := 1) (by rw [HMM.out]; omega)).2.1
          have hde := docEncPairs_any (ho.pairs hpo.out) (itAt it 1).n hin
          have hiff := HPD.out (by omega)
          have h1M : (1 : Nat) < M := by omega
          have ho' := ho.base B2.size
          generalize (itAt it 1).n = n at *
          generalize prsOf it = L at *
          clear HC hc HPD HSH ho
          by_cases c1 : epE n L = 0
          · have er : epR n L = blobB n L := by unfold epR; rw [if_pos c1]
            rw [c1, er] at hde
            by_cases c2 : blobB n L = bs
            · have HP := Lib.hid (HT.out (hiff.2 ⟨c1, c2⟩))
              rw [c2] at hde
              clear hiff HF HT c1 c2 er
              go_wp2_with fail
              refine Calls.mono hde ?_
              rintro e w4 ⟨rfl, b4⟩
              have cN' := (b4.cell (World.block_lt_of_cell? _ _ cN)).trans cN
              clear hde
              go_wp2
              exact HP.out _ _ ⟨_, rfl, ho'.below b4, B3.trans (b4.mono B3.size)⟩
            · have HP := Lib.hid (HF.out (by rw [← Bool.not_eq_true]; exact fun h => c2 (hiff.1 h).2))
              have hsq : ((strOf (blobB n L)).toList == (strOf bs).toList) = false := by
                rw [strOf_toList, strOf_toList]; simpa using c2
              generalize strOf (blobB n L) = sx at hde hsq
              clear hiff HF HT c1 c2 er
              go_wp2_with fail
              refine Calls.mono hde ?_
              rintro e w4 ⟨rfl, b4⟩
              clear hde
              go_wp2
              exact HP.out _ _ ⟨_, rfl, OwnP.nil _ _, B3.trans (b4.mono B3.size)⟩
          · have HP := Lib.hid (HF.out (by rw [← Bool.not_eq_true]; exact fun h => c1 (hiff.1 h).1))
            have hq1 : (epE n L != 0) = true := by simpa using c1
            generalize epE n L = E at hde hq1
            clear hiff HF HT c1
            go_wp2_with fail
            refine Calls.mono hde ?_
            rintro e w4 ⟨rfl, b4⟩
            clear hde
            go_wp2
            exact HP.out _ _ ⟨_, rfl, OwnP.nil _ _, B3.trans (b4.mono B3.size)⟩
  · have e1 : pdecE bs = unsE bs := by unfold pdecE; rw [if_pos c0]
    have eN : pdecN bs = 0 := by unfold pdecN; rw [e1, if_neg c0]
    have eL : pdecL bs = [] := by unfold pdecL; rw [e1, if_neg c0]
    rw [e1, eN, eL]
    have hq : (unsE bs != 0) = true := by simpa using c0
    generalize unsE bs = E at hq hu
    clear e1 eN eL c0
    go_enter Try.func25, Try.ntmps25
    go_wp2_with fail
    refine Calls.mono hu ?_
    rintro e w1 ⟨v1, rfl, h1, b1⟩
    obtain ⟨ao1, m1, cap1, hv1, hm1⟩ := h1.form'
    subst hv1
    clear hu h1
    go_wp2
    go_ret3
    exact ⟨_, rfl, OwnP.nil _ _, b1⟩
set_option maxRecDepth 20000 in
set_option maxHeartbeats 1600000 in
theorem samePairs_eq {B B' : Nat} {w : World} {v1 v2 : Value} {l : List Pr} (h1 : PairsAt B w v1 l) (h2 : PairsAt B' w v2 l) : Calls Try.prog 27 #[v1, v2] w fun e w' => e = .returned (.bool true) ∧ Below w.heap.size w w' := by
  obtain ⟨ao, cap, rfl, a1, a2, a3, a4⟩ := h1
  obtain ⟨ao', cap', rfl, b1, b2, b3, b4⟩ := h2
  obtain ⟨m, hm⟩ : ∃ m, l.length = m := ⟨_, rfl⟩
  rw [hm] at a1 a2 a4 b4 ⊢
  clear a3 b1 b2 b3 hm
  go_enter Try.func27, Try.ntmps27
  go_wp2
  go_loopw [5] (fun i wr => ∃ j : Nat, j ≤ m ∧ i = .int .i64 j ∧ Below w.heap.size w wr) (fun i _ => m - (intOf i).toNat)
  case atStart => exact ⟨0, Nat.zero_le _, rfl, Below.refl _ _⟩
  case round =>
    obtain ⟨j, hj, rfl, hb⟩ := hrel
    by_cases hlt : j < m
    · obtain ⟨b, off, rfl, hB, hc⟩ := a4 (by omega)
      obtain ⟨b', off', rfl, hB', hc'⟩ := b4 (by omega)
      obtain ⟨d1, d2⟩ := hc j hlt
      obtain ⟨e1, e2⟩ := hc' j hlt
      have d1' := (hb.cell (World.block_lt_of_cell? _ _ d1)).trans d1
      have d2' := (hb.cell (World.block_lt_of_cell? _ _ d2)).trans d2
      have e1' := (hb.cell (World.block_lt_of_cell? _ _ e1)).trans e1
      have e2' := (hb.cell (World.block_lt_of_cell? _ _ e2)).trans e2
      generalize prAt l j = x at d1' d2' e1' e2'
      obtain ⟨xk, xv⟩ := x
      simp only at d1' d2' e1' e2'
      have hbd := hb.drew
      clear d1 d2 e1 e2 hc hc' a4 b4
      go_wp2_with fail
      go_region
      go_wp2
      go_roundw
      case rel => exact ⟨j + 1, by omega, by go_num, hbd⟩
      case measure => simp [intOf]; omega
    · clear a4 b4
      go_wp2
      go_ret
      exact ⟨rfl, hb⟩
end Go.Proofs.Ytmkomhdlcbimoaa
