/- The contracts of the document's own pairsOf, DocEncodePairs, SamePairs. No statement of the seat is proved here. -/
import Derived.Test.YtmkomhdlcbimoaaRPFit
namespace Go.Proofs.Ytmkomhdlcbimoaa
set_option maxRecDepth 20000
open Go.RowKit

theorem build_nums (w : World) (n : Int) : (Instr.buildSlice 74 2 #[(0, .agg #[.int .i64 1, .int .i64 4, .string ⟨#[]⟩]), (1, .agg #[.int .i64 1, .int .i64 n, .string ⟨#[]⟩])]).run Try.prog w = .ok (.slice (some ⟨w.heap.size, 0, none⟩) 2 2) (w.alloc (.cells #[.int .i64 1, .int .i64 4, .string ⟨#[]⟩, .int .i64 1, .int .i64 n, .string ⟨#[]⟩] 77)) := by
  kernel_rfl
theorem own_nums (w : World) (n : Int) : OwnI w.heap.size (w.alloc (.cells #[.int .i64 1, .int .i64 4, .string ⟨#[]⟩, .int .i64 1, .int .i64 n, .string ⟨#[]⟩] 77)) (.slice (some ⟨w.heap.size, 0, none⟩) 2 2) (pairI n []) :=
  ⟨rfl, .inr ⟨w.heap.size, 2, _, rfl, Nat.le_refl _, heap_alloc_new w _, Nat.le_refl _, by unfold maxLen; omega, rfl, rfl⟩⟩
set_option maxRecDepth 20000 in
set_option maxHeartbeats 1600000 in
theorem pairsOf_any {w : World} {v : Value} {l : List Pr} (h : PairsAt w.heap.size w v l) (n : Int) (hn : inI n) (hB : bigP l = false) (hO : okP n l = true) : Calls Try.prog 41 #[.int .i64 n, v] w fun e w' => e = .returned (.string (strOf (blobB n l))) ∧ Below w.heap.size w w' := by
  obtain ⟨ao, cap, rfl, h1, h2, h3, h4⟩ := h
  have HE := Lib.hid (encE_pairs hB hO)
  have hlen := (bigP_false hB).1
  have HP : Hid ((packB (pairI n l)).length + 8 ≤ 140737488355328) := Lib.hid (by rw [packP_length]; have := (bigP_false hB).2; omega)
  have HOK := Lib.hid (pairI_ok hn h3)
  have HM := Lib.hid fun i hi => prAt_ok h3 (i := i) hi
  clear h3 hB hO
  obtain ⟨m, hm⟩ : ∃ m, l.length = m := ⟨_, rfl⟩
  rw [hm] at h1 h2 h4 hlen ⊢
  have HL := Lib.hid hm
  clear hm
  have hb1 : ∀ w, (Instr.build 77 #[(0, .int .i64 1), (1, .int .i64 4)]).run Try.prog w = .ok (.agg #[.int .i64 1, .int .i64 4, .string ⟨#[]⟩]) w := fun w => build_it1 4 w
  have hb2 : ∀ w, (Instr.build 77 #[(0, .int .i64 1), (1, .int .i64 n)]).run Try.prog w = .ok (.agg #[.int .i64 1, .int .i64 n, .string ⟨#[]⟩]) w := fun w => build_it1 n w
  have hbn := build_nums w n
  have o1 := own_nums w n
  have B1 := below_new w (.cells #[.int .i64 1, .int .i64 4, .string ⟨#[]⟩, .int .i64 1, .int .i64 n, .string ⟨#[]⟩] 77)
  unfold blobB
  go_enter Try.func41, Try.ntmps41
  go_wp2
  clear hb1 hb2 hbn
  go_loopw [5, 6] (fun sv iv wr => ∃ k : Nat, k ≤ m ∧ iv = .int .i64 k ∧ OwnI w.heap.size wr sv (pairI n (l.take k)) ∧ Below w.heap.size w wr) (fun _ iv _ => m - (intOf iv).toNat)
  case atStart => exact ⟨0, Nat.zero_le _, rfl, o1, B1⟩
  case round =>
    obtain ⟨k, hk, rfl, ho, hb⟩ := hrel
    obtain ⟨so, sm, sc, hsv, hsm⟩ := ho.form'
    subst hsv
    by_cases hlt : k < m
    · have hlt' : k < l.length := by rw [HL.out]; exact hlt
      obtain ⟨b, off, rfl, hB, hc⟩ := h4 (by omega)
      obtain ⟨d1, d2⟩ := hc k hlt
      have hN := Lib.hid (pairI_take n l k hlt')
      have hsz : (pairI n (l.take k)).length ≤ 4000 := by rw [pairI_length, List.length_take]; omega
      have hxo := HM.out k hlt'
      generalize prAt l k = x at d1 d2 hN hxo
      generalize pairI n (l.take k) = L at hN hsz ho
      obtain ⟨xk, xv⟩ := x
      obtain ⟨x1, x2⟩ := hxo
      simp only at d1 d2 x1 x2
      have y1 : xk.size ≤ maxLen := by unfold maxLen; omega
      have y2 : xv.size ≤ maxLen := by unfold maxLen; omega
      clear hc h4
      go_wp2_with fail
      have hS : Below w.heap.size w wr.drew := hb.drew
      have o2 := ho.below ((Below.refl wr.heap.size wr).drew)
      refine wp_region_held_drew (S := fun w' => Below w.heap.size w w') mixed hS (fun _ => ?_)
      show wpAnyH _ _ _ _ _ 16 (Array.replicate 16 false) _ _
      refine wpAnyH_take_d 0 (some 17) (.slice so sm sc) rfl (by kernel_rfl) (by kernel_rfl) (by kernel_rfl) (by kernel_rfl) rfl (fun _ _ _ h => h) (fun _ _ => by kernel_rfl) (by exact hS) ?_
      simp only [Act.put, List.setIfInBounds_toArray, List.set_cons_succ, List.set_cons_zero]
      refine wpAnyH_take_d 1 (some 18) (.slice (some ⟨b, off, none⟩) m cap) rfl (by kernel_rfl) (by kernel_rfl) (by kernel_rfl) (by kernel_rfl) rfl (fun _ _ _ h => h) (fun _ _ => by kernel_rfl) (by exact hS) ?_
      simp only [Act.put, List.setIfInBounds_toArray, List.set_cons_succ, List.set_cons_zero]
      refine wpAnyH_take_d 2 (some 19) (.int .i64 (k : Nat)) rfl (by kernel_rfl) (by kernel_rfl) (by kernel_rfl) (by kernel_rfl) rfl (fun _ _ _ h => h) (fun _ _ => by kernel_rfl) (by exact hS) ?_
      simp only [Act.put, List.setIfInBounds_toArray, List.set_cons_succ, List.set_cons_zero]
      refine wpAnyH_take_d 3 (some 20) (.pointer (some ⟨b, off + k * 2, none⟩)) rfl (by kernel_rfl) (by kernel_rfl) (by kernel_rfl) (by kernel_rfl) rfl (fun _ _ _ h => h) (fun w' h => exec_indexAddr2r rfl rfl rfl hlt Try.underlying54 szPair) (by exact hS) ?_
      simp only [Act.put, List.setIfInBounds_toArray, List.set_cons_succ, List.set_cons_zero]
      refine wpAnyH_take_d 4 (some 21) (.pointer (some ⟨b, off + k * 2, none⟩)) rfl (by kernel_rfl) (by kernel_rfl) (by kernel_rfl) (by kernel_rfl) rfl (fun _ _ _ h => h) (fun _ _ => by kernel_rfl) (by exact hS) ?_
      simp only [Act.put, List.setIfInBounds_toArray, List.set_cons_succ, List.set_cons_zero]
      refine wpAnyH_take_d 5 (some 22) (.string xk) rfl (by kernel_rfl) (by kernel_rfl) (by kernel_rfl) (by kernel_rfl) rfl (fun _ _ _ h => h) (fun w' h => exec_load_cell rfl rfl ((h.cell hB).trans d1) Try.underlying9 rfl) (by exact hS) ?_
      simp only [Act.put, List.setIfInBounds_toArray, List.set_cons_succ, List.set_cons_zero]
      refine wpAnyH_take_d 6 (some 23) (.agg #[.int .i64 2, .int .i64 0, .string xk]) rfl (by kernel_rfl) (by kernel_rfl) (by kernel_rfl) (by kernel_rfl) rfl (fun _ _ _ h => h) (fun _ _ => by kernel_rfl) (by exact hS) ?_
      simp only [Act.put, List.setIfInBounds_toArray, List.set_cons_succ, List.set_cons_zero]
      refine wpAnyH_take_d 7 (some 24) (.slice (some ⟨b, off, none⟩) m cap) rfl (by kernel_rfl) (by kernel_rfl) (by kernel_rfl) (by kernel_rfl) rfl (fun _ _ _ h => h) (fun _ _ => by kernel_rfl) (by exact hS) ?_
      simp only [Act.put, List.setIfInBounds_toArray, List.set_cons_succ, List.set_cons_zero]
      refine wpAnyH_take_d 8 (some 25) (.int .i64 (k : Nat)) rfl (by kernel_rfl) (by kernel_rfl) (by kernel_rfl) (by kernel_rfl) rfl (fun _ _ _ h => h) (fun _ _ => by kernel_rfl) (by exact hS) ?_
      simp only [Act.put, List.setIfInBounds_toArray, List.set_cons_succ, List.set_cons_zero]
      refine wpAnyH_take_d 9 (some 26) (.pointer (some ⟨b, off + k * 2, none⟩)) rfl (by kernel_rfl) (by kernel_rfl) (by kernel_rfl) (by kernel_rfl) rfl (fun _ _ _ h => h) (fun w' h => exec_indexAddr2r rfl rfl rfl hlt Try.underlying54 szPair) (by exact hS) ?_
      simp only [Act.put, List.setIfInBounds_toArray, List.set_cons_succ, List.set_cons_zero]
      refine wpAnyH_take_d 10 (some 27) (.pointer (some ⟨b, off + k * 2 + 1, none⟩)) rfl (by kernel_rfl) (by kernel_rfl) (by kernel_rfl) (by kernel_rfl) rfl (fun _ _ _ h => h) (fun _ _ => by kernel_rfl) (by exact hS) ?_
      simp only [Act.put, List.setIfInBounds_toArray, List.set_cons_succ, List.set_cons_zero]
      refine wpAnyH_take_d 11 (some 28) (.string xv) rfl (by kernel_rfl) (by kernel_rfl) (by kernel_rfl) (by kernel_rfl) rfl (fun _ _ _ h => h) (fun w' h => exec_load_cell rfl rfl ((h.cell hB).trans d2) Try.underlying9 rfl) (by exact hS) ?_
      simp only [Act.put, List.setIfInBounds_toArray, List.set_cons_succ, List.set_cons_zero]
      refine wpAnyH_take_d 12 (some 29) (.agg #[.int .i64 2, .int .i64 0, .string xv]) rfl (by kernel_rfl) (by kernel_rfl) (by kernel_rfl) (by kernel_rfl) rfl (fun _ _ _ h => h) (fun _ _ => by kernel_rfl) (by exact hS) ?_
      simp only [Act.put, List.setIfInBounds_toArray, List.set_cons_succ, List.set_cons_zero]
      generalize wr.drew = w6 at hS o2 ⊢
      have hbs := build_two w6 xk xv
      have hit := items_two w6 xk xv y1 y2
      have o5 := o2.alloc (.cells #[.int .i64 2, .int .i64 0, .string xk, .int .i64 2, .int .i64 0, .string xv] 77)
      have hS : Below w.heap.size w (w6.alloc (.cells #[.int .i64 2, .int .i64 0, .string xk, .int .i64 2, .int .i64 0, .string xv] 77)) := hS.alloc hS.size _
      refine wpAnyH_one 13 (some 30) (.slice (some ⟨w6.heap.size, 0, none⟩) 2 2) rfl (by kernel_rfl) (by kernel_rfl) rfl (exec_b2 rfl rfl rfl hbs) (by exact hS) ?_
      simp only [Act.put, List.setIfInBounds_toArray, List.set_cons_succ, List.set_cons_zero]
      obtain ⟨v7, w7, hr7, h7, b7, s7⟩ := own_append_items o5 hit (by simp; omega) hS.size 74
      have hS : Below w.heap.size w w7 := hS.trans b7
      obtain ⟨ao7, m7, cap7, hv7, hm7⟩ := h7.form'
      subst hv7
      refine wpAnyH_one 14 (some 31) (.slice ao7 m7 cap7) rfl (by kernel_rfl) (by kernel_rfl) rfl (exec_append3 rfl rfl rfl hr7) (by exact hS) ?_
      simp only [Act.put, List.setIfInBounds_toArray, List.set_cons_succ, List.set_cons_zero]
      refine wpAnyH_take_d 15 (some 5) (.slice ao7 m7 cap7) rfl (by kernel_rfl) (by kernel_rfl) (by kernel_rfl) (by kernel_rfl) rfl (fun _ _ _ h => h) (fun _ _ => by kernel_rfl) (by exact hS) ?_
      simp only [Act.put, List.setIfInBounds_toArray, List.set_cons_succ, List.set_cons_zero]
      refine wpAnyH_done (by kernel_rfl) ?_ _
      go_wp2
      go_roundw
      case rel => exact ⟨k + 1, by omega, by go_num, by rw [hN.out]; exact h7, hS⟩
      case measure => simp [intOf]; omega
    · rw [List.take_of_length_le (by rw [HL.out]; omega)] at ho
      have hen := refEncode_any (ho.items HOK.out) HE.out
      rw [encR_pack HE.out] at hen
      clear h4
      go_wp2_with fail
      refine Calls.mono hen ?_
      rintro e w4 ⟨rfl, b4⟩
      have B5 := hb.trans (b4.mono hb.size)
      have hse := refSeal_any (packB (pairI n l)) HP.out w4
      clear hen ho
      go_wp2_with fail
      refine Calls.mono hse ?_
      rintro e w5 ⟨rfl, b5⟩
      have B6 := B5.trans (b5.mono B5.size)
      clear hse
      go_wp2
      go_ret
      exact ⟨rfl, B6⟩
set_option maxRecDepth 20000 in
set_option maxHeartbeats 1600000 in
theorem docEncPairs_any {w : World} {v : Value} {l : List Pr} (h : PairsAt w.heap.size w v l) (n : Int) (hn : inI n) : Calls Try.prog 23 #[.int .i64 n, v] w (StrRetE w (strOf (epR n l)) (epE n l)) := by
  have hsi := refSize_any h
  have hfi := fun w' (hb : Below w.heap.size w w') => refFit_any ((h.below hb).more hb.size)
  have hpo := fun w' (hb : Below w.heap.size w w') => pairsOf_any ((h.below hb).more hb.size) n hn
  obtain ⟨ao, cap, rfl, h1, h2, h3, h4⟩ := h
  obtain ⟨m, hm⟩ : ∃ m, l.length = m := ⟨_, rfl⟩
  rw [hm] at hsi hfi hpo h2 ⊢
  have HFI := Lib.hid hfi
  have HPO := Lib.hid hpo
  clear hfi hpo h3 h4 h1
  by_cases c1 : 1900 < m
  · have e1 : epE n l = 14 := by unfold epE bigP; rw [decide_eq_true (by omega)]; rfl
    have e2 : epR n l = [] := by unfold epR; rw [e1]; rfl
    rw [e1, e2]
    clear e1 e2 hm
    have c1' : (1900 : Int) < (m : Int) := by omega
    go_enter Try.func23, Try.ntmps23
    go_wp2
    go_ret2
    exact ⟨rfl, Below.refl _ _⟩
  · have hbig : bigP l = decide (60000 < 22 + sizP l) := by unfold bigP; rw [decide_eq_false (by omega)]; rfl
    have HBIG := Lib.hid hbig
    have HMM := Lib.hid hm
    have c1' : ¬ (1900 : Int) < (m : Int) := by omega
    clear hbig hm c1
    by_cases c2 : 60000 < 22 + sizP l
    · have e1 : epE n l = 14 := by unfold epE; rw [HBIG.out, decide_eq_true c2]; rfl
      have e2 : epR n l = [] := by unfold epR; rw [e1]; rfl
      rw [e1, e2]
      clear e1 e2
      go_enter Try.func23, Try.ntmps23
      go_wp2_with fail
      refine Calls.mono hsi ?_
      rintro e w1 ⟨z, rfl, hz, b1⟩
      have hz' : (60000 : Int) < (z : Int) := by have := hz.2 c2; omega
      clear hsi hz c2
      go_wp2
      go_ret2
      exact ⟨rfl, b1⟩
    · have hb : bigP l = false := by rw [HBIG.out, decide_eq_false c2]
      have HB := Lib.hid hb
      have HC2 := Lib.hid c2
      clear hb c2 HBIG
      by_cases c3 : 0 ≤ n
      · have c3' : ¬ n < 0 := by omega
        cases hf : fitP l
        · have e1 : epE n l = 2 := by unfold epE okP; rw [HB.out, hf]; rfl
          have e2 : epR n l = [] := by unfold epR; rw [e1]; rfl
          rw [e1, e2]
          rw [hf] at HFI
          clear e1 e2 hf HPO
          go_enter Try.func23, Try.ntmps23
          go_wp2_with fail
          refine Calls.mono hsi ?_
          rintro e w1 ⟨z, rfl, hz, b1⟩
          have hz' : ¬ (60000 : Int) < (z : Int) := fun h => HC2.out (hz.1 (by omega))
          have hf1 := HFI.out w1 b1
          clear hsi hz
          go_wp2_with fail
          refine Calls.mono hf1 ?_
          rintro e w2 ⟨rfl, b2⟩
          clear hf1
          go_wp2
          go_ret2
          exact ⟨rfl, b1.trans (b2.mono b1.size)⟩
        · have ho : okP n l = true := by unfold okP; rw [hf, decide_eq_true c3]; rfl
          have e1 := epE_ok HB.out ho
          have e2 : epR n l = blobB n l := by unfold epR; rw [e1]; rfl
          rw [e1, e2]
          rw [hf] at HFI
          have HOK := Lib.hid ho
          clear e1 e2 hf ho c3
          go_enter Try.func23, Try.ntmps23
          go_wp2_with fail
          refine Calls.mono hsi ?_
          rintro e w1 ⟨z, rfl, hz, b1⟩
          have hz' : ¬ (60000 : Int) < (z : Int) := fun h => HC2.out (hz.1 (by omega))
          have hf1 := HFI.out w1 b1
          clear hsi hz
          go_wp2_with fail
          refine Calls.mono hf1 ?_
          rintro e w2 ⟨rfl, b2⟩
          have bb2 := b1.trans (b2.mono b1.size)
          have hp1 := HPO.out w2 bb2 HB.out HOK.out
          clear hf1
          go_wp2_with fail
          refine Calls.mono hp1 ?_
          rintro e w3 ⟨rfl, b3⟩
          clear hp1
          go_wp2
          go_ret2
          exact ⟨rfl, bb2.trans (b3.mono bb2.size)⟩
      · have c3' : n < 0 := by omega
        have e1 : epE n l = 2 := by unfold epE okP; rw [HB.out, decide_eq_false c3, Bool.and_false]; rfl
        have e2 : epR n l = [] := by unfold epR; rw [e1]; rfl
        rw [e1, e2]
        clear e1 e2 c3 HPO HFI
        go_enter Try.func23, Try.ntmps23
        go_wp2_with fail
        refine Calls.mono hsi ?_
        rintro e w1 ⟨z, rfl, hz, b1⟩
        have hz' : ¬ (60000 : Int) < (z : Int) := fun h => HC2.out (hz.1 (by omega))
        clear hsi hz
        go_wp2
        go_ret2
        exact ⟨rfl, b1⟩
end Go.Proofs.Ytmkomhdlcbimoaa
