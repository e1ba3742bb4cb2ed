/- The contract of the document's Right. No statement of the seat is proved here. -/
import Derived.Test.YtdkmfcmndncmcaaNKnown
import Derived.Test.YtdkmfcmndncmcaaNLf
namespace Go.Proofs.Ytdkmfcmndncmcaa
set_option maxRecDepth 20000
open Go.RowKit

def shapeB (lf : Bool) (p k i : Nat) : Bool := decide (p ≤ 255) && decide (i ≤ 255) && (if lf then decide (k = 0) && decide (i = 0) else decide (p = 0) && decide (1 ≤ i) && decide (k = i - 1))
theorem okN_alt (n : Nd) : okN n = (shapeB n.leaf n.ps.length n.ks.length n.is.length && risB (ksOf n.ps) && okVs n.ps && risB n.ks && okIs n.is) := by
  obtain ⟨lf, ps, ks, is⟩ := n
  cases lf
  · show okI _ = _
    unfold okI shapeB
    simp only [Bool.false_eq_true, if_false]
    by_cases h0 : ps.length = 0
    · have e : ps = [] := List.eq_nil_of_length_eq_zero h0
      subst e
      have e1 : risB (ksOf []) = true := rfl
      have e2 : okVs [] = true := rfl
      rw [e1, e2]
      simp only [List.length_nil, decide_true, Bool.true_and, Bool.and_true]
      rw [decide_eq_true (by omega : (0 : Nat) ≤ 255), Bool.true_and]
      cases decide (is.length ≤ 255) <;> cases decide (1 ≤ is.length) <;> simp
    · rw [decide_eq_false h0]; simp
  · show okL _ = _
    unfold okL shapeB
    simp only [if_true]
    by_cases h1 : ks.length = 0
    · by_cases h2 : is.length = 0
      · have e1 : ks = [] := List.eq_nil_of_length_eq_zero h1
        have e2 : is = [] := List.eq_nil_of_length_eq_zero h2
        subst e1; subst e2
        have e3 : risB [] = true := rfl
        have e4 : okIs [] = true := rfl
        rw [e3, e4]; simp
      · rw [decide_eq_false h2]; simp
    · rw [decide_eq_false h1]; simp
theorem risAt_at {l : List ByteArray} {k : Nat} : risAt l k = (okK (kAt l k) && (decide (k = 0) || ltS (kAt l (k - 1)) (kAt l k))) := rfl
theorem alt_false1 {n : Nd} (h : shapeB n.leaf n.ps.length n.ks.length n.is.length = false) : okN n = false := by rw [okN_alt, h]; rfl
theorem alt_false2 {n : Nd} (h : risB (ksOf n.ps) = false) : okN n = false := by rw [okN_alt, h]; simp
theorem alt_false3 {n : Nd} (h : okVs n.ps = false) : okN n = false := by rw [okN_alt, h]; simp
theorem alt_false4 {n : Nd} (h : risB n.ks = false) : okN n = false := by rw [okN_alt, h]; simp
theorem alt_false5 {n : Nd} (h : okIs n.is = false) : okN n = false := by rw [okN_alt, h]; simp
theorem sub_fact {k : Nat} (h : 0 < k) (hk : k ≤ 255) : IntKind.i64.wrap ((k : Int) - 1) = ((k - 1 : Nat) : Int) := by rw [IntKind.wrap_i64]; omega
theorem shape_no {lf : Bool} {p k i : Nat} (h : 255 < p ∨ 255 < i ∨ (lf = true ∧ (0 < k ∨ 0 < i)) ∨ (lf = false ∧ (0 < p ∨ i = 0 ∨ ¬ k = i - 1))) : shapeB lf p k i = false := by
  unfold shapeB
  rcases h with h | h | ⟨rfl, h⟩ | ⟨rfl, h⟩
  · rw [decide_eq_false (by omega : ¬ p ≤ 255)]; rfl
  · rw [decide_eq_false (by omega : ¬ i ≤ 255)]; simp
  · simp only [if_true]
    rcases h with h | h
    · rw [decide_eq_false (by omega : ¬ k = 0)]; simp
    · rw [decide_eq_false (by omega : ¬ i = 0)]; simp
  · simp only [Bool.false_eq_true, if_false]
    rcases h with h | h | h
    · rw [decide_eq_false (by omega : ¬ p = 0)]; simp
    · rw [decide_eq_false (by omega : ¬ 1 ≤ i)]; simp
    · rw [decide_eq_false h]; simp
theorem shape_leaf {p k i : Nat} (h1 : p ≤ 255) (h2 : k = 0) (h3 : i = 0) : shapeB true p k i = true := by
  subst h2; subst h3; unfold shapeB; simp [h1]
theorem shape_inner {p k i : Nat} (h1 : p = 0) (h2 : 1 ≤ i) (h3 : i ≤ 255) (h4 : k = i - 1) : shapeB false p k i = true := by
  subst h1; subst h4; unfold shapeB; simp [h2, h3]
set_option maxHeartbeats 6400000 in
theorem right_any {w : World} {v : Value} {n : Nd} (h : NdAt w.heap.size w v n) : Calls Try.prog 19 #[v] w fun e w' => e = .returned (.bool (okN n)) ∧ Below w.heap.size w w' := by
  obtain ⟨pv, kv, iv, rfl, h1, h2, h3⟩ := h
  obtain ⟨pa, pm, pc, rfl, hpm⟩ := h1.form
  obtain ⟨ka, km, kc, rfl, hkm⟩ := h2.form
  obtain ⟨ia, im, ic, rfl, him⟩ := h3.form
  have HP := Lib.hid h1
  have HK2 := Lib.hid h2
  have HI := Lib.hid h3
  have m1 : pm ≤ 17592186043904 := by rw [hpm.out]; exact h1.len okP
  have m2 : km ≤ 17592186043904 := by rw [hkm.out]; exact h2.len okS
  have m3 : im ≤ 17592186043904 := by rw [him.out]; exact h3.len okZ
  have RB := Lib.hid (fun (w1 : World) b => rbox_facts (W := w) (lf := n.leaf) (pv := .slice pa pm pc) (kv := .slice ka km kc) (iv := .slice ia im ic) (w1 := w1) b)
  have hsh : shapeB n.leaf n.ps.length n.ks.length n.is.length = shapeB n.leaf pm km im := by rw [hpm.out, hkm.out, him.out]
  obtain ⟨lf, hlf⟩ : ∃ b, n.leaf = b := ⟨_, rfl⟩
  rw [hlf] at RB hsh
  obtain ⟨SB, hb0, SBd, br, fin⟩ : ∃ SB : World → Prop, SB (w.alloc (rbO lf (.slice pa pm pc) (.slice ka km kc) (.slice ia im ic))) ∧ (∀ w', SB w' → SB w'.drew) ∧ (∀ w', SB w' → NdCells w' w.heap.size lf (.slice pa pm pc) (.slice ka km kc) (.slice ia im ic)) ∧ ∀ w', SB w' → Below w.heap.size w w' :=
    ⟨fun w' => Below (w.heap.size + 1) (w.alloc (rbO lf (.slice pa pm pc) (.slice ka km kc) (.slice ia im ic))) w', Below.refl _ _, fun _ h => h.drew, fun _ h => (RB.out _ h).1, fun _ h => (RB.out _ h).2.1⟩
  have BR := Lib.hid br
  have FIN := Lib.hid fin
  obtain ⟨q0, q1, q2, q3⟩ := br _ hb0
  rw [hlf]
  clear h1 h2 h3 RB br fin
  by_cases c1 : 255 < pm
  · have d1 : (255 : Int) < (pm : Int) := by omega
    have HF := Lib.hid (alt_false1 (show shapeB n.leaf n.ps.length n.ks.length n.is.length = false by rw [hlf, hsh]; exact shape_no (.inl c1)))
    clear hsh hlf
    go_enter Try.func19, Try.ntmps19
    go_wp2
    go_ret
    exact ⟨by rw [HF.out]; rfl, FIN.out _ hb0⟩
  · by_cases c2 : 255 < im
    · have d2 : (255 : Int) < (im : Int) := by omega
      have HF := Lib.hid (alt_false1 (show shapeB n.leaf n.ps.length n.ks.length n.is.length = false by rw [hlf, hsh]; exact shape_no (.inr (.inl c2))))
      clear hsh hlf
      go_enter Try.func19, Try.ntmps19
      go_wp2
      go_ret
      exact ⟨by rw [HF.out]; rfl, FIN.out _ hb0⟩
    · cases lf
      · by_cases c3 : 0 < pm
        · have d3 : (0 : Int) < (pm : Int) := by omega
          have HF := Lib.hid (alt_false1 (show shapeB n.leaf n.ps.length n.ks.length n.is.length = false by rw [hlf, hsh]; exact shape_no (.inr (.inr (.inr ⟨rfl, .inl c3⟩)))))
          clear hsh hlf
          go_enter Try.func19, Try.ntmps19
          go_wp2
          go_ret
          exact ⟨by rw [HF.out]; rfl, FIN.out _ hb0⟩
        · have d3 : ¬ (0 : Int) < (pm : Int) := by omega
          by_cases c4 : im = 0
          · have d4 : (((im : Nat) : Int) == 0) = true := by rw [beq_iff_eq]; omega
            have HF := Lib.hid (alt_false1 (show shapeB n.leaf n.ps.length n.ks.length n.is.length = false by rw [hlf, hsh]; exact shape_no (.inr (.inr (.inr ⟨rfl, .inr (.inl c4)⟩)))))
            clear hsh hlf c4
            go_enter Try.func19, Try.ntmps19
            go_wp2
            go_ret
            exact ⟨by rw [HF.out]; rfl, FIN.out _ hb0⟩
          · have d4 : (((im : Nat) : Int) == 0) = false := by rw [beq_eq_false_iff_ne]; omega
            by_cases c5 : km = im - 1
            · have d5 : (((km : Nat) : Int) != (im : Int) - 1) = false := by rw [bne, Bool.not_eq_false', beq_iff_eq]; omega
              have d6 : (((km : Nat) : Int) == (im : Int) - 1) = true := by rw [beq_iff_eq]; omega
              have HSH := Lib.hid (show shapeB n.leaf n.ps.length n.ks.length n.is.length = true by rw [hlf, hsh]; exact shape_inner (by omega) (by omega) (by omega) c5)
              have hk255 : km ≤ 255 := by omega
              clear hsh hlf c5
              go_enter Try.func19, Try.ntmps19
              go_wp2
              clear q0 q1 q2 q3
              go_loopw [3] (fun iv wr => ∃ k : Nat, k ≤ pm ∧ iv = .int .i64 k ∧ Hid (∀ j, j < k → risAt (ksOf n.ps) j = true ∧ decide (48 < (prAt n.ps j).v.size) = false) ∧ SB wr) (fun iv _ => pm - (intOf iv).toNat)
              case atStart => exact ⟨0, Nat.zero_le _, rfl, Lib.hid (fun j hj => by omega), hb0⟩
              case round =>
                obtain ⟨k, hk, rfl, hf, hb⟩ := hrel
                obtain ⟨q0, q1, q2, q3⟩ := BR.out _ hb
                by_cases hlt : k < pm
                · exact absurd hlt (by omega)
                · have HRP := Lib.hid (show risB (ksOf n.ps) = true from risB_true (fun j hj => (hf.out j (by rw [ksOf_length, ← hpm.out] at hj; omega)).1))
                  have HVP := Lib.hid (show okVs n.ps = true from okVs_true (fun j hj => (hf.out j (by rw [← hpm.out] at hj; omega)).2))
                  clear hf
                  go_wp2
                  clear q0 q1 q2 q3
                  go_loopw [4] (fun iv wr => ∃ k : Nat, k ≤ km ∧ iv = .int .i64 k ∧ Hid (∀ j, j < k → risAt n.ks j = true) ∧ SB wr) (fun iv _ => km - (intOf iv).toNat)
                  case atStart => exact ⟨0, Nat.zero_le _, rfl, Lib.hid (fun j hj => by omega), hb⟩
                  case round =>
                    obtain ⟨k, hk, rfl, hf, hb⟩ := hrel
                    obtain ⟨q0, q1, q2, q3⟩ := BR.out _ hb
                    by_cases hlt : k < km
                    · have hltk : k < n.ks.length := by rw [← hkm.out]; exact hlt
                      obtain ⟨kb, koff, cap', hv, hB, hc1⟩ := HK2.out.getS hltk
                      obtain ⟨rfl, rfl⟩ : ka = some ⟨kb, koff, none⟩ ∧ kc = cap' := by injection hv with h1 _ h3; exact ⟨h1, h3⟩
                      have D1 := Lib.hid (fun w' (h : SB w') => ((FIN.out _ h).cell (p := ⟨kb, koff + k, none⟩) hB).trans hc1)
                      have hra := risAt_at (l := n.ks) (k := k)
                      have TR := Lib.hid (fun q => risB_false hltk q)
                      have KEY := Lib.hid (fun w' => refKey_any (kAt n.ks k) w')
                      have HX0 := Lib.hid (show ∀ (a : risAt n.ks k = true), ∀ j, j < k + 1 → risAt n.ks j = true from fun a j hj => by
                        by_cases e : j = k
                        · subst e; exact a
                        · exact hf.out j (by omega))
                      obtain ⟨xk, hx⟩ : ∃ x, kAt n.ks k = x := ⟨_, rfl⟩
                      rw [hx] at D1 hra KEY
                      clear hv hc1 hx
                      cases hK : okK xk
                      · rw [hK, Bool.false_and] at hra
                        have HF := Lib.hid (alt_false4 (TR.out hra))
                        rw [hK] at KEY
                        clear hra hK
                        go_wp2_with fail
                        have hS := SBd _ hb
                        refine wp_region_held_drew (S := SB) mixed hS (fun _ => ?_)
                        show wpAnyH _ _ _ _ _ 25 (Array.replicate 25 false) _ _
                        refine wpAnyH_take_d 0 (some 109) (.pointer (some ⟨w.heap.size, 2, none⟩)) rfl (by kernel_rfl) (by kernel_rfl) (by kernel_rfl) (by kernel_rfl) rfl (fun _ _ _ h => h) (fun _ _ => by kernel_rfl) (by exact hS) ?_
                        simp only [Act.put, List.setIfInBounds_toArray, List.set_cons_succ, List.set_cons_zero]
                        refine wpAnyH_take_d 1 (some 110) (.slice (some ⟨kb, koff, none⟩) km kc) rfl (by kernel_rfl) (by kernel_rfl) (by kernel_rfl) (by kernel_rfl) rfl (fun _ _ _ h => h) (fun w' h => exec_load_cell rfl rfl (BR.out _ h).c2 Try.underlying23 rfl) (by exact hS) ?_
                        simp only [Act.put, List.setIfInBounds_toArray, List.set_cons_succ, List.set_cons_zero]
                        refine wpAnyH_take_d 2 (some 111) (.int .i64 k) rfl (by kernel_rfl) (by kernel_rfl) (by kernel_rfl) (by kernel_rfl) rfl (fun _ _ _ h => h) (fun _ _ => by kernel_rfl) (by exact hS) ?_
                        simp only [Act.put, List.setIfInBounds_toArray, List.set_cons_succ, List.set_cons_zero]
                        refine wpAnyH_take_d 3 (some 112) (.pointer (some ⟨kb, koff + k, none⟩)) rfl (by kernel_rfl) (by kernel_rfl) (by kernel_rfl) (by kernel_rfl) rfl (fun _ _ _ h => h) (fun _ _ => ex_index1 rfl rfl rfl hlt Try.underlying23 (by kernel_rfl)) (by exact hS) ?_
                        simp only [Act.put, List.setIfInBounds_toArray, List.set_cons_succ, List.set_cons_zero]
                        refine wpAnyH_take_d 4 (some 113) (.string xk) rfl (by kernel_rfl) (by kernel_rfl) (by kernel_rfl) (by kernel_rfl) rfl (fun _ _ _ h => h) (fun w' h => exec_load_cell rfl rfl (D1.out _ h) Try.underlying9 rfl) (by exact hS) ?_
                        simp only [Act.put, List.setIfInBounds_toArray, List.set_cons_succ, List.set_cons_zero]
                        refine wpAnyH_call 5 (some 114) 34 #[.string xk] rfl (by kernel_rfl) (by kernel_rfl) rfl (by kernel_rfl) (KEY.out _) ?_
                        rintro e _ ⟨rfl, rfl⟩
                        refine ⟨_, rfl, hS, ?_⟩
                        simp only [Act.put, List.setIfInBounds_toArray, List.set_cons_succ, List.set_cons_zero]
                        refine wpAnyH_take_d 6 (some 115) (.bool true) rfl (by kernel_rfl) (by kernel_rfl) (by kernel_rfl) (by kernel_rfl) rfl (fun _ _ _ h => h) (fun _ _ => by kernel_rfl) (by exact hS) ?_
                        simp only [Act.put, List.setIfInBounds_toArray, List.set_cons_succ, List.set_cons_zero]
                        refine wpAnyH_take_d 7 (some 116) (.bool true) rfl (by kernel_rfl) (by kernel_rfl) (by kernel_rfl) (by kernel_rfl) rfl (fun _ _ _ h => h) (fun _ _ => by kernel_rfl) (by exact hS) ?_
                        simp only [Act.put, List.setIfInBounds_toArray, List.set_cons_succ, List.set_cons_zero]
                        refine wpAnyH_skip_d 8 (some 117) rfl (by kernel_rfl) (by kernel_rfl) (by kernel_rfl) (by kernel_rfl) rfl (fun _ _ _ h => h) (by exact hS) ?_
                        simp only [Act.put, List.setIfInBounds_toArray, List.set_cons_succ, List.set_cons_zero]
                        refine wpAnyH_skip_d 9 (some 118) rfl (by kernel_rfl) (by kernel_rfl) (by kernel_rfl) (by kernel_rfl) rfl (fun _ _ _ h => h) (by exact hS) ?_
                        simp only [Act.put, List.setIfInBounds_toArray, List.set_cons_succ, List.set_cons_zero]
                        refine wpAnyH_skip_d 10 (some 119) rfl (by kernel_rfl) (by kernel_rfl) (by kernel_rfl) (by kernel_rfl) rfl (fun _ _ _ h => h) (by exact hS) ?_
                        simp only [Act.put, List.setIfInBounds_toArray, List.set_cons_succ, List.set_cons_zero]
                        refine wpAnyH_skip_d 11 (some 120) rfl (by kernel_rfl) (by kernel_rfl) (by kernel_rfl) (by kernel_rfl) rfl (fun _ _ _ h => h) (by exact hS) ?_
                        simp only [Act.put, List.setIfInBounds_toArray, List.set_cons_succ, List.set_cons_zero]
                        refine wpAnyH_skip_d 12 (some 121) rfl (by kernel_rfl) (by kernel_rfl) (by kernel_rfl) (by kernel_rfl) rfl (fun _ _ _ h => h) (by exact hS) ?_
                        simp only [Act.put, List.setIfInBounds_toArray, List.set_cons_succ, List.set_cons_zero]
                        refine wpAnyH_skip_d 13 (some 122) rfl (by kernel_rfl) (by kernel_rfl) (by kernel_rfl) (by kernel_rfl) rfl (fun _ _ _ h => h) (by exact hS) ?_
                        simp only [Act.put, List.setIfInBounds_toArray, List.set_cons_succ, List.set_cons_zero]
                        refine wpAnyH_skip_d 14 (some 123) rfl (by kernel_rfl) (by kernel_rfl) (by kernel_rfl) (by kernel_rfl) rfl (fun _ _ _ h => h) (by exact hS) ?_
                        simp only [Act.put, List.setIfInBounds_toArray, List.set_cons_succ, List.set_cons_zero]
                        refine wpAnyH_skip_d 15 (some 124) rfl (by kernel_rfl) (by kernel_rfl) (by kernel_rfl) (by kernel_rfl) rfl (fun _ _ _ h => h) (by exact hS) ?_
                        simp only [Act.put, List.setIfInBounds_toArray, List.set_cons_succ, List.set_cons_zero]
                        refine wpAnyH_skip_d 16 (some 125) rfl (by kernel_rfl) (by kernel_rfl) (by kernel_rfl) (by kernel_rfl) rfl (fun _ _ _ h => h) (by exact hS) ?_
                        simp only [Act.put, List.setIfInBounds_toArray, List.set_cons_succ, List.set_cons_zero]
                        refine wpAnyH_skip_d 17 (some 126) rfl (by kernel_rfl) (by kernel_rfl) (by kernel_rfl) (by kernel_rfl) rfl (fun _ _ _ h => h) (by exact hS) ?_
                        simp only [Act.put, List.setIfInBounds_toArray, List.set_cons_succ, List.set_cons_zero]
                        refine wpAnyH_skip_d 18 (some 127) rfl (by kernel_rfl) (by kernel_rfl) (by kernel_rfl) (by kernel_rfl) rfl (fun _ _ _ h => h) (by exact hS) ?_
                        simp only [Act.put, List.setIfInBounds_toArray, List.set_cons_succ, List.set_cons_zero]
                        refine wpAnyH_skip_d 19 (some 128) rfl (by kernel_rfl) (by kernel_rfl) (by kernel_rfl) (by kernel_rfl) rfl (fun _ _ _ h => h) (by exact hS) ?_
                        simp only [Act.put, List.setIfInBounds_toArray, List.set_cons_succ, List.set_cons_zero]
                        refine wpAnyH_skip_d 20 (some 129) rfl (by kernel_rfl) (by kernel_rfl) (by kernel_rfl) (by kernel_rfl) rfl (fun _ _ _ h => h) (by exact hS) ?_
                        simp only [Act.put, List.setIfInBounds_toArray, List.set_cons_succ, List.set_cons_zero]
                        refine wpAnyH_skip_d 21 (some 130) rfl (by kernel_rfl) (by kernel_rfl) (by kernel_rfl) (by kernel_rfl) rfl (fun _ _ _ h => h) (by exact hS) ?_
                        simp only [Act.put, List.setIfInBounds_toArray, List.set_cons_succ, List.set_cons_zero]
                        refine wpAnyH_skip_d 22 (some 131) rfl (by kernel_rfl) (by kernel_rfl) (by kernel_rfl) (by kernel_rfl) rfl (fun _ _ _ h => h) (by exact hS) ?_
                        simp only [Act.put, List.setIfInBounds_toArray, List.set_cons_succ, List.set_cons_zero]
                        refine wpAnyH_skip_d 23 (some 132) rfl (by kernel_rfl) (by kernel_rfl) (by kernel_rfl) (by kernel_rfl) rfl (fun _ _ _ h => h) (by exact hS) ?_
                        simp only [Act.put, List.setIfInBounds_toArray, List.set_cons_succ, List.set_cons_zero]
                        refine wpAnyH_take_d 24 (some 133) (.bool true) rfl (by kernel_rfl) (by kernel_rfl) (by kernel_rfl) (by kernel_rfl) rfl (fun _ _ _ h => h) (fun _ _ => by kernel_rfl) (by exact hS) ?_
                        simp only [Act.put, List.setIfInBounds_toArray, List.set_cons_succ, List.set_cons_zero]
                        refine wpAnyH_done (by kernel_rfl) ?_ _
                        have hb := hS
                        clear hS
                        go_wp2
                        go_ret
                        exact ⟨by rw [HF.out]; rfl, FIN.out _ hb⟩
                      · rw [hK] at KEY
                        by_cases h0 : k = 0
                        · have hr1 : risAt n.ks k = true := by rw [hra, hK, decide_eq_true h0]; rfl
                          have HF := Lib.hid (HX0.out hr1)
                          have g3 : decide ((0 : Int) < (k : Int)) = false := by simp; omega
                          clear hra hK hr1 h0
                          go_wp2_with fail
                          have hS := SBd _ hb
                          refine wp_region_held_drew (S := SB) mixed hS (fun _ => ?_)
                          show wpAnyH _ _ _ _ _ 25 (Array.replicate 25 false) _ _
                          refine wpAnyH_take_d 0 (some 109) (.pointer (some ⟨w.heap.size, 2, none⟩)) rfl (by kernel_rfl) (by kernel_rfl) (by kernel_rfl) (by kernel_rfl) rfl (fun _ _ _ h => h) (fun _ _ => by kernel_rfl) (by exact hS) ?_
                          simp only [Act.put, List.setIfInBounds_toArray, List.set_cons_succ, List.set_cons_zero]
                          refine wpAnyH_take_d 1 (some 110) (.slice (some ⟨kb, koff, none⟩) km kc) rfl (by kernel_rfl) (by kernel_rfl) (by kernel_rfl) (by kernel_rfl) rfl (fun _ _ _ h => h) (fun w' h => exec_load_cell rfl rfl (BR.out _ h).c2 Try.underlying23 rfl) (by exact hS) ?_
                          simp only [Act.put, List.setIfInBounds_toArray, List.set_cons_succ, List.set_cons_zero]
                          refine wpAnyH_take_d 2 (some 111) (.int .i64 k) rfl (by kernel_rfl) (by kernel_rfl) (by kernel_rfl) (by kernel_rfl) rfl (fun _ _ _ h => h) (fun _ _ => by kernel_rfl) (by exact hS) ?_
                          simp only [Act.put, List.setIfInBounds_toArray, List.set_cons_succ, List.set_cons_zero]
                          refine wpAnyH_take_d 3 (some 112) (.pointer (some ⟨kb, koff + k, none⟩)) rfl (by kernel_rfl) (by kernel_rfl) (by kernel_rfl) (by kernel_rfl) rfl (fun _ _ _ h => h) (fun _ _ => ex_index1 rfl rfl rfl hlt Try.underlying23 (by kernel_rfl)) (by exact hS) ?_
                          simp only [Act.put, List.setIfInBounds_toArray, List.set_cons_succ, List.set_cons_zero]
                          refine wpAnyH_take_d 4 (some 113) (.string xk) rfl (by kernel_rfl) (by kernel_rfl) (by kernel_rfl) (by kernel_rfl) rfl (fun _ _ _ h => h) (fun w' h => exec_load_cell rfl rfl (D1.out _ h) Try.underlying9 rfl) (by exact hS) ?_
                          simp only [Act.put, List.setIfInBounds_toArray, List.set_cons_succ, List.set_cons_zero]
                          refine wpAnyH_call 5 (some 114) 34 #[.string xk] rfl (by kernel_rfl) (by kernel_rfl) rfl (by kernel_rfl) (KEY.out _) ?_
                          rintro e _ ⟨rfl, rfl⟩
                          refine ⟨_, rfl, hS, ?_⟩
                          simp only [Act.put, List.setIfInBounds_toArray, List.set_cons_succ, List.set_cons_zero]
                          refine wpAnyH_take_d 6 (some 115) (.bool false) rfl (by kernel_rfl) (by kernel_rfl) (by kernel_rfl) (by kernel_rfl) rfl (fun _ _ _ h => h) (fun _ _ => by kernel_rfl) (by exact hS) ?_
                          simp only [Act.put, List.setIfInBounds_toArray, List.set_cons_succ, List.set_cons_zero]
                          refine wpAnyH_take_d 7 (some 116) (.bool false) rfl (by kernel_rfl) (by kernel_rfl) (by kernel_rfl) (by kernel_rfl) rfl (fun _ _ _ h => h) (fun _ _ => by kernel_rfl) (by exact hS) ?_
                          simp only [Act.put, List.setIfInBounds_toArray, List.set_cons_succ, List.set_cons_zero]
                          refine wpAnyH_take_d 8 (some 117) (.int .i64 k) rfl (by kernel_rfl) (by kernel_rfl) (by kernel_rfl) (by kernel_rfl) rfl (fun _ _ _ h => h) (fun _ _ => by kernel_rfl) (by exact hS) ?_
                          simp only [Act.put, List.setIfInBounds_toArray, List.set_cons_succ, List.set_cons_zero]
                          refine wpAnyH_take_d 9 (some 118) (.bool false) rfl (by kernel_rfl) (by kernel_rfl) (by kernel_rfl) (by kernel_rfl) rfl (fun _ _ _ h => h) (fun _ _ => ex_gt rfl rfl rfl g3) (by exact hS) ?_
                          simp only [Act.put, List.setIfInBounds_toArray, List.set_cons_succ, List.set_cons_zero]
                          refine wpAnyH_take_d 10 (some 119) (.bool false) rfl (by kernel_rfl) (by kernel_rfl) (by kernel_rfl) (by kernel_rfl) rfl (fun _ _ _ h => h) (fun _ _ => by kernel_rfl) (by exact hS) ?_
                          simp only [Act.put, List.setIfInBounds_toArray, List.set_cons_succ, List.set_cons_zero]
                          refine wpAnyH_skip_d 11 (some 120) rfl (by kernel_rfl) (by kernel_rfl) (by kernel_rfl) (by kernel_rfl) rfl (fun _ _ _ h => h) (by exact hS) ?_
                          simp only [Act.put, List.setIfInBounds_toArray, List.set_cons_succ, List.set_cons_zero]
                          refine wpAnyH_skip_d 12 (some 121) rfl (by kernel_rfl) (by kernel_rfl) (by kernel_rfl) (by kernel_rfl) rfl (fun _ _ _ h => h) (by exact hS) ?_
                          simp only [Act.put, List.setIfInBounds_toArray, List.set_cons_succ, List.set_cons_zero]
                          refine wpAnyH_skip_d 13 (some 122) rfl (by kernel_rfl) (by kernel_rfl) (by kernel_rfl) (by kernel_rfl) rfl (fun _ _ _ h => h) (by exact hS) ?_
                          simp only [Act.put, List.setIfInBounds_toArray, List.set_cons_succ, List.set_cons_zero]
                          refine wpAnyH_skip_d 14 (some 123) rfl (by kernel_rfl) (by kernel_rfl) (by kernel_rfl) (by kernel_rfl) rfl (fun _ _ _ h => h) (by exact hS) ?_
                          simp only [Act.put, List.setIfInBounds_toArray, List.set_cons_succ, List.set_cons_zero]
                          refine wpAnyH_skip_d 15 (some 124) rfl (by kernel_rfl) (by kernel_rfl) (by kernel_rfl) (by kernel_rfl) rfl (fun _ _ _ h => h) (by exact hS) ?_
                          simp only [Act.put, List.setIfInBounds_toArray, List.set_cons_succ, List.set_cons_zero]
                          refine wpAnyH_skip_d 16 (some 125) rfl (by kernel_rfl) (by kernel_rfl) (by kernel_rfl) (by kernel_rfl) rfl (fun _ _ _ h => h) (by exact hS) ?_
                          simp only [Act.put, List.setIfInBounds_toArray, List.set_cons_succ, List.set_cons_zero]
                          refine wpAnyH_skip_d 17 (some 126) rfl (by kernel_rfl) (by kernel_rfl) (by kernel_rfl) (by kernel_rfl) rfl (fun _ _ _ h => h) (by exact hS) ?_
                          simp only [Act.put, List.setIfInBounds_toArray, List.set_cons_succ, List.set_cons_zero]
                          refine wpAnyH_skip_d 18 (some 127) rfl (by kernel_rfl) (by kernel_rfl) (by kernel_rfl) (by kernel_rfl) rfl (fun _ _ _ h => h) (by exact hS) ?_
                          simp only [Act.put, List.setIfInBounds_toArray, List.set_cons_succ, List.set_cons_zero]
                          refine wpAnyH_skip_d 19 (some 128) rfl (by kernel_rfl) (by kernel_rfl) (by kernel_rfl) (by kernel_rfl) rfl (fun _ _ _ h => h) (by exact hS) ?_
                          simp only [Act.put, List.setIfInBounds_toArray, List.set_cons_succ, List.set_cons_zero]
                          refine wpAnyH_skip_d 20 (some 129) rfl (by kernel_rfl) (by kernel_rfl) (by kernel_rfl) (by kernel_rfl) rfl (fun _ _ _ h => h) (by exact hS) ?_
                          simp only [Act.put, List.setIfInBounds_toArray, List.set_cons_succ, List.set_cons_zero]
                          refine wpAnyH_skip_d 21 (some 130) rfl (by kernel_rfl) (by kernel_rfl) (by kernel_rfl) (by kernel_rfl) rfl (fun _ _ _ h => h) (by exact hS) ?_
                          simp only [Act.put, List.setIfInBounds_toArray, List.set_cons_succ, List.set_cons_zero]
                          refine wpAnyH_skip_d 22 (some 131) rfl (by kernel_rfl) (by kernel_rfl) (by kernel_rfl) (by kernel_rfl) rfl (fun _ _ _ h => h) (by exact hS) ?_
                          simp only [Act.put, List.setIfInBounds_toArray, List.set_cons_succ, List.set_cons_zero]
                          refine wpAnyH_take_d 23 (some 132) (.bool false) rfl (by kernel_rfl) (by kernel_rfl) (by kernel_rfl) (by kernel_rfl) rfl (fun _ _ _ h => h) (fun _ _ => by kernel_rfl) (by exact hS) ?_
                          simp only [Act.put, List.setIfInBounds_toArray, List.set_cons_succ, List.set_cons_zero]
                          refine wpAnyH_take_d 24 (some 133) (.bool false) rfl (by kernel_rfl) (by kernel_rfl) (by kernel_rfl) (by kernel_rfl) rfl (fun _ _ _ h => h) (fun _ _ => by kernel_rfl) (by exact hS) ?_
                          simp only [Act.put, List.setIfInBounds_toArray, List.set_cons_succ, List.set_cons_zero]
                          refine wpAnyH_done (by kernel_rfl) ?_ _
                          have hb := hS
                          clear hS
                          go_wp2
                          go_roundw
                          case rel => exact ⟨k + 1, by omega, by go_num, HF, hb⟩
                          case measure => simp [intOf]; omega
                        · have g3 : decide ((0 : Int) < (k : Int)) = true := by simp; omega
                          have hk1 : k - 1 < n.ks.length := by omega
                          have hw := sub_fact (k := k) (by omega) (by omega)
                          have hlt1 : k - 1 < km := by omega
                          obtain ⟨b', off', cap'', hv, hB', hc⟩ := HK2.out.getS hk1
                          obtain ⟨rfl, rfl⟩ : kb = b' ∧ koff = off' := by injection hv with h1 _ _; injection h1 with h1; injection h1 with h1 h2; exact ⟨h1, h2⟩
                          have E1 := Lib.hid (fun w' (h : SB w') => ((FIN.out _ h).cell (p := ⟨kb, koff + (k - 1), none⟩) hB').trans hc)
                          rw [hK, decide_eq_false h0, Bool.false_or, Bool.true_and] at hra
                          obtain ⟨yk, hy⟩ : ∃ y, kAt n.ks (k - 1) = y := ⟨_, rfl⟩
                          rw [hy] at E1 hra
                          clear hv hc hy hK h0
                          cases hlt2 : ltS yk xk
                          · have hge : (!(Op.bytesLess yk.toList xk.toList)) = true := by show (!(ltS yk xk)) = true; rw [hlt2]; rfl
                            have HF := Lib.hid (alt_false4 (TR.out (hra.trans hlt2)))
                            clear hra hlt2
                            go_wp2_with fail
                            have hS := SBd _ hb
                            refine wp_region_held_drew (S := SB) mixed hS (fun _ => ?_)
                            show wpAnyH _ _ _ _ _ 25 (Array.replicate 25 false) _ _
                            refine wpAnyH_take_d 0 (some 109) (.pointer (some ⟨w.heap.size, 2, none⟩)) rfl (by kernel_rfl) (by kernel_rfl) (by kernel_rfl) (by kernel_rfl) rfl (fun _ _ _ h => h) (fun _ _ => by kernel_rfl) (by exact hS) ?_
                            simp only [Act.put, List.setIfInBounds_toArray, List.set_cons_succ, List.set_cons_zero]
                            refine wpAnyH_take_d 1 (some 110) (.slice (some ⟨kb, koff, none⟩) km kc) rfl (by kernel_rfl) (by kernel_rfl) (by kernel_rfl) (by kernel_rfl) rfl (fun _ _ _ h => h) (fun w' h => exec_load_cell rfl rfl (BR.out _ h).c2 Try.underlying23 rfl) (by exact hS) ?_
                            simp only [Act.put, List.setIfInBounds_toArray, List.set_cons_succ, List.set_cons_zero]
                            refine wpAnyH_take_d 2 (some 111) (.int .i64 k) rfl (by kernel_rfl) (by kernel_rfl) (by kernel_rfl) (by kernel_rfl) rfl (fun _ _ _ h => h) (fun _ _ => by kernel_rfl) (by exact hS) ?_
                            simp only [Act.put, List.setIfInBounds_toArray, List.set_cons_succ, List.set_cons_zero]
                            refine wpAnyH_take_d 3 (some 112) (.pointer (some ⟨kb, koff + k, none⟩)) rfl (by kernel_rfl) (by kernel_rfl) (by kernel_rfl) (by kernel_rfl) rfl (fun _ _ _ h => h) (fun _ _ => ex_index1 rfl rfl rfl hlt Try.underlying23 (by kernel_rfl)) (by exact hS) ?_
                            simp only [Act.put, List.setIfInBounds_toArray, List.set_cons_succ, List.set_cons_zero]
                            refine wpAnyH_take_d 4 (some 113) (.string xk) rfl (by kernel_rfl) (by kernel_rfl) (by kernel_rfl) (by kernel_rfl) rfl (fun _ _ _ h => h) (fun w' h => exec_load_cell rfl rfl (D1.out _ h) Try.underlying9 rfl) (by exact hS) ?_
                            simp only [Act.put, List.setIfInBounds_toArray, List.set_cons_succ, List.set_cons_zero]
                            refine wpAnyH_call 5 (some 114) 34 #[.string xk] rfl (by kernel_rfl) (by kernel_rfl) rfl (by kernel_rfl) (KEY.out _) ?_
                            rintro e _ ⟨rfl, rfl⟩
                            refine ⟨_, rfl, hS, ?_⟩
                            simp only [Act.put, List.setIfInBounds_toArray, List.set_cons_succ, List.set_cons_zero]
                            refine wpAnyH_take_d 6 (some 115) (.bool false) rfl (by kernel_rfl) (by kernel_rfl) (by kernel_rfl) (by kernel_rfl) rfl (fun _ _ _ h => h) (fun _ _ => by kernel_rfl) (by exact hS) ?_
                            simp only [Act.put, List.setIfInBounds_toArray, List.set_cons_succ, List.set_cons_zero]
                            refine wpAnyH_take_d 7 (some 116) (.bool false) rfl (by kernel_rfl) (by kernel_rfl) (by kernel_rfl) (by kernel_rfl) rfl (fun _ _ _ h => h) (fun _ _ => by kernel_rfl) (by exact hS) ?_
                            simp only [Act.put, List.setIfInBounds_toArray, List.set_cons_succ, List.set_cons_zero]
                            refine wpAnyH_take_d 8 (some 117) (.int .i64 k) rfl (by kernel_rfl) (by kernel_rfl) (by kernel_rfl) (by kernel_rfl) rfl (fun _ _ _ h => h) (fun _ _ => by kernel_rfl) (by exact hS) ?_
                            simp only [Act.put, List.setIfInBounds_toArray, List.set_cons_succ, List.set_cons_zero]
                            refine wpAnyH_take_d 9 (some 118) (.bool true) rfl (by kernel_rfl) (by kernel_rfl) (by kernel_rfl) (by kernel_rfl) rfl (fun _ _ _ h => h) (fun _ _ => ex_gt rfl rfl rfl g3) (by exact hS) ?_
                            simp only [Act.put, List.setIfInBounds_toArray, List.set_cons_succ, List.set_cons_zero]
                            refine wpAnyH_take_d 10 (some 119) (.bool true) rfl (by kernel_rfl) (by kernel_rfl) (by kernel_rfl) (by kernel_rfl) rfl (fun _ _ _ h => h) (fun _ _ => by kernel_rfl) (by exact hS) ?_
                            simp only [Act.put, List.setIfInBounds_toArray, List.set_cons_succ, List.set_cons_zero]
                            refine wpAnyH_take_d 11 (some 120) (.pointer (some ⟨w.heap.size, 2, none⟩)) rfl (by kernel_rfl) (by kernel_rfl) (by kernel_rfl) (by kernel_rfl) rfl (fun _ _ _ h => h) (fun _ _ => by kernel_rfl) (by exact hS) ?_
                            simp only [Act.put, List.setIfInBounds_toArray, List.set_cons_succ, List.set_cons_zero]
                            refine wpAnyH_take_d 12 (some 121) (.slice (some ⟨kb, koff, none⟩) km kc) rfl (by kernel_rfl) (by kernel_rfl) (by kernel_rfl) (by kernel_rfl) rfl (fun _ _ _ h => h) (fun w' h => exec_load_cell rfl rfl (BR.out _ h).c2 Try.underlying23 rfl) (by exact hS) ?_
                            simp only [Act.put, List.setIfInBounds_toArray, List.set_cons_succ, List.set_cons_zero]
                            refine wpAnyH_take_d 13 (some 122) (.int .i64 k) rfl (by kernel_rfl) (by kernel_rfl) (by kernel_rfl) (by kernel_rfl) rfl (fun _ _ _ h => h) (fun _ _ => by kernel_rfl) (by exact hS) ?_
                            simp only [Act.put, List.setIfInBounds_toArray, List.set_cons_succ, List.set_cons_zero]
                            refine wpAnyH_take_d 14 (some 123) (.int .i64 (k - 1 : Nat)) rfl (by kernel_rfl) (by kernel_rfl) (by kernel_rfl) (by kernel_rfl) rfl (fun _ _ _ h => h) (fun _ _ => ex_sub rfl rfl rfl hw) (by exact hS) ?_
                            simp only [Act.put, List.setIfInBounds_toArray, List.set_cons_succ, List.set_cons_zero]
                            refine wpAnyH_take_d 15 (some 124) (.pointer (some ⟨kb, koff + (k - 1), none⟩)) rfl (by kernel_rfl) (by kernel_rfl) (by kernel_rfl) (by kernel_rfl) rfl (fun _ _ _ h => h) (fun _ _ => ex_index1 rfl rfl rfl hlt1 Try.underlying23 (by kernel_rfl)) (by exact hS) ?_
                            simp only [Act.put, List.setIfInBounds_toArray, List.set_cons_succ, List.set_cons_zero]
                            refine wpAnyH_take_d 16 (some 125) (.string yk) rfl (by kernel_rfl) (by kernel_rfl) (by kernel_rfl) (by kernel_rfl) rfl (fun _ _ _ h => h) (fun w' h => exec_load_cell rfl rfl (E1.out _ h) Try.underlying9 rfl) (by exact hS) ?_
                            simp only [Act.put, List.setIfInBounds_toArray, List.set_cons_succ, List.set_cons_zero]
                            refine wpAnyH_take_d 17 (some 126) (.pointer (some ⟨w.heap.size, 2, none⟩)) rfl (by kernel_rfl) (by kernel_rfl) (by kernel_rfl) (by kernel_rfl) rfl (fun _ _ _ h => h) (fun _ _ => by kernel_rfl) (by exact hS) ?_
                            simp only [Act.put, List.setIfInBounds_toArray, List.set_cons_succ, List.set_cons_zero]
                            refine wpAnyH_take_d 18 (some 127) (.slice (some ⟨kb, koff, none⟩) km kc) rfl (by kernel_rfl) (by kernel_rfl) (by kernel_rfl) (by kernel_rfl) rfl (fun _ _ _ h => h) (fun w' h => exec_load_cell rfl rfl (BR.out _ h).c2 Try.underlying23 rfl) (by exact hS) ?_
                            simp only [Act.put, List.setIfInBounds_toArray, List.set_cons_succ, List.set_cons_zero]
                            refine wpAnyH_take_d 19 (some 128) (.int .i64 k) rfl (by kernel_rfl) (by kernel_rfl) (by kernel_rfl) (by kernel_rfl) rfl (fun _ _ _ h => h) (fun _ _ => by kernel_rfl) (by exact hS) ?_
                            simp only [Act.put, List.setIfInBounds_toArray, List.set_cons_succ, List.set_cons_zero]
                            refine wpAnyH_take_d 20 (some 129) (.pointer (some ⟨kb, koff + k, none⟩)) rfl (by kernel_rfl) (by kernel_rfl) (by kernel_rfl) (by kernel_rfl) rfl (fun _ _ _ h => h) (fun _ _ => ex_index1 rfl rfl rfl hlt Try.underlying23 (by kernel_rfl)) (by exact hS) ?_
                            simp only [Act.put, List.setIfInBounds_toArray, List.set_cons_succ, List.set_cons_zero]
                            refine wpAnyH_take_d 21 (some 130) (.string xk) rfl (by kernel_rfl) (by kernel_rfl) (by kernel_rfl) (by kernel_rfl) rfl (fun _ _ _ h => h) (fun w' h => exec_load_cell rfl rfl (D1.out _ h) Try.underlying9 rfl) (by exact hS) ?_
                            simp only [Act.put, List.setIfInBounds_toArray, List.set_cons_succ, List.set_cons_zero]
                            refine wpAnyH_take_d 22 (some 131) (.bool true) rfl (by kernel_rfl) (by kernel_rfl) (by kernel_rfl) (by kernel_rfl) rfl (fun _ _ _ h => h) (fun _ _ => ex_sge rfl rfl rfl hge) (by exact hS) ?_
                            simp only [Act.put, List.setIfInBounds_toArray, List.set_cons_succ, List.set_cons_zero]
                            refine wpAnyH_take_d 23 (some 132) (.bool true) rfl (by kernel_rfl) (by kernel_rfl) (by kernel_rfl) (by kernel_rfl) rfl (fun _ _ _ h => h) (fun _ _ => by kernel_rfl) (by exact hS) ?_
                            simp only [Act.put, List.setIfInBounds_toArray, List.set_cons_succ, List.set_cons_zero]
                            refine wpAnyH_take_d 24 (some 133) (.bool true) rfl (by kernel_rfl) (by kernel_rfl) (by kernel_rfl) (by kernel_rfl) rfl (fun _ _ _ h => h) (fun _ _ => by kernel_rfl) (by exact hS) ?_
                            simp only [Act.put, List.setIfInBounds_toArray, List.set_cons_succ, List.set_cons_zero]
                            refine wpAnyH_done (by kernel_rfl) ?_ _
                            have hb := hS
                            clear hS
                            go_wp2
                            go_ret
                            exact ⟨by rw [HF.out]; rfl, FIN.out _ hb⟩
                          · have hge : (!(Op.bytesLess yk.toList xk.toList)) = false := by show (!(ltS yk xk)) = false; rw [hlt2]; rfl
                            have HF := Lib.hid (HX0.out (hra.trans hlt2))
                            clear hra hlt2
                            go_wp2_with fail
                            have hS := SBd _ hb
                            refine wp_region_held_drew (S := SB) mixed hS (fun _ => ?_)
                            show wpAnyH _ _ _ _ _ 25 (Array.replicate 25 false) _ _
                            refine wpAnyH_take_d 0 (some 109) (.pointer (some ⟨w.heap.size, 2, none⟩)) rfl (by kernel_rfl) (by kernel_rfl) (by kernel_rfl) (by kernel_rfl) rfl (fun _ _ _ h => h) (fun _ _ => by kernel_rfl) (by exact hS) ?_
                            simp only [Act.put, List.setIfInBounds_toArray, List.set_cons_succ, List.set_cons_zero]
                            refine wpAnyH_take_d 1 (some 110) (.slice (some ⟨kb, koff, none⟩) km kc) rfl (by kernel_rfl) (by kernel_rfl) (by kernel_rfl) (by kernel_rfl) rfl (fun _ _ _ h => h) (fun w' h => exec_load_cell rfl rfl (BR.out _ h).c2 Try.underlying23 rfl) (by exact hS) ?_
                            simp only [Act.put, List.setIfInBounds_toArray, List.set_cons_succ, List.set_cons_zero]
                            refine wpAnyH_take_d 2 (some 111) (.int .i64 k) rfl (by kernel_rfl) (by kernel_rfl) (by kernel_rfl) (by kernel_rfl) rfl (fun _ _ _ h => h) (fun _ _ => by kernel_rfl) (by exact hS) ?_
                            simp only [Act.put, List.setIfInBounds_toArray, List.set_cons_succ, List.set_cons_zero]
                            refine wpAnyH_take_d 3 (some 112) (.pointer (some ⟨kb, koff + k, none⟩)) rfl (by kernel_rfl) (by kernel_rfl) (by kernel_rfl) (by kernel_rfl) rfl (fun _ _ _ h => h) (fun _ _ => ex_index1 rfl rfl rfl hlt Try.underlying23 (by kernel_rfl)) (by exact hS) ?_
                            simp only [Act.put, List.setIfInBounds_toArray, List.set_cons_succ, List.set_cons_zero]
                            refine wpAnyH_take_d 4 (some 113) (.string xk) rfl (by kernel_rfl) (by kernel_rfl) (by kernel_rfl) (by kernel_rfl) rfl (fun _ _ _ h => h) (fun w' h => exec_load_cell rfl rfl (D1.out _ h) Try.underlying9 rfl) (by exact hS) ?_
                            simp only [Act.put, List.setIfInBounds_toArray, List.set_cons_succ, List.set_cons_zero]
                            refine wpAnyH_call 5 (some 114) 34 #[.string xk] rfl (by kernel_rfl) (by kernel_rfl) rfl (by kernel_rfl) (KEY.out _) ?_
                            rintro e _ ⟨rfl, rfl⟩
                            refine ⟨_, rfl, hS, ?_⟩
                            simp only [Act.put, List.setIfInBounds_toArray, List.set_cons_succ, List.set_cons_zero]
                            refine wpAnyH_take_d 6 (some 115) (.bool false) rfl (by kernel_rfl) (by kernel_rfl) (by kernel_rfl) (by kernel_rfl) rfl (fun _ _ _ h => h) (fun _ _ => by kernel_rfl) (by exact hS) ?_
                            simp only [Act.put, List.setIfInBounds_toArray, List.set_cons_succ, List.set_cons_zero]
                            refine wpAnyH_take_d 7 (some 116) (.bool false) rfl (by kernel_rfl) (by kernel_rfl) (by kernel_rfl) (by kernel_rfl) rfl (fun _ _ _ h => h) (fun _ _ => by kernel_rfl) (by exact hS) ?_
                            simp only [Act.put, List.setIfInBounds_toArray, List.set_cons_succ, List.set_cons_zero]
                            refine wpAnyH_take_d 8 (some 117) (.int .i64 k) rfl (by kernel_rfl) (by kernel_rfl) (by kernel_rfl) (by kernel_rfl) rfl (fun _ _ _ h => h) (fun _ _ => by kernel_rfl) (by exact hS) ?_
                            simp only [Act.put, List.setIfInBounds_toArray, List.set_cons_succ, List.set_cons_zero]
                            refine wpAnyH_take_d 9 (some 118) (.bool true) rfl (by kernel_rfl) (by kernel_rfl) (by kernel_rfl) (by kernel_rfl) rfl (fun _ _ _ h => h) (fun _ _ => ex_gt rfl rfl rfl g3) (by exact hS) ?_
                            simp only [Act.put, List.setIfInBounds_toArray, List.set_cons_succ, List.set_cons_zero]
                            refine wpAnyH_take_d 10 (some 119) (.bool true) rfl (by kernel_rfl) (by kernel_rfl) (by kernel_rfl) (by kernel_rfl) rfl (fun _ _ _ h => h) (fun _ _ => by kernel_rfl) (by exact hS) ?_
                            simp only [Act.put, List.setIfInBounds_toArray, List.set_cons_succ, List.set_cons_zero]
                            refine wpAnyH_take_d 11 (some 120) (.pointer (some ⟨w.heap.size, 2, none⟩)) rfl (by kernel_rfl) (by kernel_rfl) (by kernel_rfl) (by kernel_rfl) rfl (fun _ _ _ h => h) (fun _ _ => by kernel_rfl) (by exact hS) ?_
                            simp only [Act.put, List.setIfInBounds_toArray, List.set_cons_succ, List.set_cons_zero]
                            refine wpAnyH_take_d 12 (some 121) (.slice (some ⟨kb, koff, none⟩) km kc) rfl (by kernel_rfl) (by kernel_rfl) (by kernel_rfl) (by kernel_rfl) rfl (fun _ _ _ h => h) (fun w' h => exec_load_cell rfl rfl (BR.out _ h).c2 Try.underlying23 rfl) (by exact hS) ?_
                            simp only [Act.put, List.setIfInBounds_toArray, List.set_cons_succ, List.set_cons_zero]
                            refine wpAnyH_take_d 13 (some 122) (.int .i64 k) rfl (by kernel_rfl) (by kernel_rfl) (by kernel_rfl) (by kernel_rfl) rfl (fun _ _ _ h => h) (fun _ _ => by kernel_rfl) (by exact hS) ?_
                            simp only [Act.put, List.setIfInBounds_toArray, List.set_cons_succ, List.set_cons_zero]
                            refine wpAnyH_take_d 14 (some 123) (.int .i64 (k - 1 : Nat)) rfl (by kernel_rfl) (by kernel_rfl) (by kernel_rfl) (by kernel_rfl) rfl (fun _ _ _ h => h) (fun _ _ => ex_sub rfl rfl rfl hw) (by exact hS) ?_
                            simp only [Act.put, List.setIfInBounds_toArray, List.set_cons_succ, List.set_cons_zero]
                            refine wpAnyH_take_d 15 (some 124) (.pointer (some ⟨kb, koff + (k - 1), none⟩)) rfl (by kernel_rfl) (by kernel_rfl) (by kernel_rfl) (by kernel_rfl) rfl (fun _ _ _ h => h) (fun _ _ => ex_index1 rfl rfl rfl hlt1 Try.underlying23 (by kernel_rfl)) (by exact hS) ?_
                            simp only [Act.put, List.setIfInBounds_toArray, List.set_cons_succ, List.set_cons_zero]
                            refine wpAnyH_take_d 16 (some 125) (.string yk) rfl (by kernel_rfl) (by kernel_rfl) (by kernel_rfl) (by kernel_rfl) rfl (fun _ _ _ h => h) (fun w' h => exec_load_cell rfl rfl (E1.out _ h) Try.underlying9 rfl) (by exact hS) ?_
                            simp only [Act.put, List.setIfInBounds_toArray, List.set_cons_succ, List.set_cons_zero]
                            refine wpAnyH_take_d 17 (some 126) (.pointer (some ⟨w.heap.size, 2, none⟩)) rfl (by kernel_rfl) (by kernel_rfl) (by kernel_rfl) (by kernel_rfl) rfl (fun _ _ _ h => h) (fun _ _ => by kernel_rfl) (by exact hS) ?_
                            simp only [Act.put, List.setIfInBounds_toArray, List.set_cons_succ, List.set_cons_zero]
                            refine wpAnyH_take_d 18 (some 127) (.slice (some ⟨kb, koff, none⟩) km kc) rfl (by kernel_rfl) (by kernel_rfl) (by kernel_rfl) (by kernel_rfl) rfl (fun _ _ _ h => h) (fun w' h => exec_load_cell rfl rfl (BR.out _ h).c2 Try.underlying23 rfl) (by exact hS) ?_
                            simp only [Act.put, List.setIfInBounds_toArray, List.set_cons_succ, List.set_cons_zero]
                            refine wpAnyH_take_d 19 (some 128) (.int .i64 k) rfl (by kernel_rfl) (by kernel_rfl) (by kernel_rfl) (by kernel_rfl) rfl (fun _ _ _ h => h) (fun _ _ => by kernel_rfl) (by exact hS) ?_
                            simp only [Act.put, List.setIfInBounds_toArray, List.set_cons_succ, List.set_cons_zero]
                            refine wpAnyH_take_d 20 (some 129) (.pointer (some ⟨kb, koff + k, none⟩)) rfl (by kernel_rfl) (by kernel_rfl) (by kernel_rfl) (by kernel_rfl) rfl (fun _ _ _ h => h) (fun _ _ => ex_index1 rfl rfl rfl hlt Try.underlying23 (by kernel_rfl)) (by exact hS) ?_
                            simp only [Act.put, List.setIfInBounds_toArray, List.set_cons_succ, List.set_cons_zero]
                            refine wpAnyH_take_d 21 (some 130) (.string xk) rfl (by kernel_rfl) (by kernel_rfl) (by kernel_rfl) (by kernel_rfl) rfl (fun _ _ _ h => h) (fun w' h => exec_load_cell rfl rfl (D1.out _ h) Try.underlying9 rfl) (by exact hS) ?_
                            simp only [Act.put, List.setIfInBounds_toArray, List.set_cons_succ, List.set_cons_zero]
                            refine wpAnyH_take_d 22 (some 131) (.bool false) rfl (by kernel_rfl) (by kernel_rfl) (by kernel_rfl) (by kernel_rfl) rfl (fun _ _ _ h => h) (fun _ _ => ex_sge rfl rfl rfl hge) (by exact hS) ?_
                            simp only [Act.put, List.setIfInBounds_toArray, List.set_cons_succ, List.set_cons_zero]
                            refine wpAnyH_take_d 23 (some 132) (.bool false) rfl (by kernel_rfl) (by kernel_rfl) (by kernel_rfl) (by kernel_rfl) rfl (fun _ _ _ h => h) (fun _ _ => by kernel_rfl) (by exact hS) ?_
                            simp only [Act.put, List.setIfInBounds_toArray, List.set_cons_succ, List.set_cons_zero]
                            refine wpAnyH_take_d 24 (some 133) (.bool false) rfl (by kernel_rfl) (by kernel_rfl) (by kernel_rfl) (by kernel_rfl) rfl (fun _ _ _ h => h) (fun _ _ => by kernel_rfl) (by exact hS) ?_
                            simp only [Act.put, List.setIfInBounds_toArray, List.set_cons_succ, List.set_cons_zero]
                            refine wpAnyH_done (by kernel_rfl) ?_ _
                            have hb := hS
                            clear hS
                            go_wp2
                            go_roundw
                            case rel => exact ⟨k + 1, by omega, by go_num, HF, hb⟩
                            case measure => simp [intOf]; omega
                    · have HRK := Lib.hid (show risB n.ks = true from risB_true (fun j hj => hf.out j (by rw [← hkm.out] at hj; omega)))
                      clear hf
                      go_wp2
                      clear q0 q1 q2 q3
                      go_loopw [5] (fun iv wr => ∃ k : Nat, k ≤ im ∧ iv = .int .i64 k ∧ Hid (∀ j, j < k → badI (n.is.getD j 0) = false) ∧ SB wr) (fun iv _ => im - (intOf iv).toNat)
                      case atStart => exact ⟨0, Nat.zero_le _, rfl, Lib.hid (fun j hj => by omega), hb⟩
                      case round =>
                        obtain ⟨k, hk, rfl, hf, hb⟩ := hrel
                        obtain ⟨q0, q1, q2, q3⟩ := BR.out _ hb
                        by_cases hlt : k < im
                        · have hltk : k < n.is.length := by rw [← him.out]; exact hlt
                          obtain ⟨ib, ioff, cap', hv, hB, hc1⟩ := HI.out.getI hltk
                          obtain ⟨rfl, rfl⟩ : ia = some ⟨ib, ioff, none⟩ ∧ ic = cap' := by injection hv with h1 _ h3; exact ⟨h1, h3⟩
                          have d1 := ((FIN.out _ hb).cell (p := ⟨ib, ioff + k, none⟩) hB).trans hc1
                          have TI := Lib.hid (fun q => okIs_false hltk q)
                          have HX0 := Lib.hid (show ∀ (a : badI (n.is.getD k 0) = false), ∀ j, j < k + 1 → badI (n.is.getD j 0) = false from fun a j hj => by
                            by_cases e : j = k
                            · subst e; exact a
                            · exact hf.out j (by omega))
                          obtain ⟨z, hz⟩ : ∃ z, n.is.getD k 0 = z := ⟨_, rfl⟩
                          rw [hz] at d1 TI HX0
                          clear hv hc1 hz
                          cases g1 : decide (z < 1)
                          · cases g2 : decide (65535 < z)
                            · have HF := Lib.hid (HX0.out (by unfold badI; rw [g1, g2]; rfl))
                              clear TI HX0
                              go_wp2
                              go_roundw
                              case rel => exact ⟨k + 1, by omega, by go_num, HF, hb⟩
                              case measure => simp [intOf]; omega
                            · have HF := Lib.hid (alt_false5 (TI.out (by unfold badI; rw [g1, g2]; rfl)))
                              clear TI HX0
                              go_wp2
                              go_ret
                              exact ⟨by rw [HF.out]; rfl, FIN.out _ hb⟩
                          · have HF := Lib.hid (alt_false5 (TI.out (by unfold badI; rw [g1]; rfl)))
                            clear TI HX0
                            go_wp2
                            go_ret
                            exact ⟨by rw [HF.out]; rfl, FIN.out _ hb⟩
                        · have HF := Lib.hid (show okN n = true by
                            rw [okN_alt, HSH.out, HRP.out, HVP.out, HRK.out, okIs_true (fun j hj => hf.out j (by rw [← him.out] at hj; omega))]; rfl)
                          clear hf
                          go_wp2
                          go_ret
                          exact ⟨by rw [HF.out]; rfl, FIN.out _ hb⟩
            · have d5 : (((km : Nat) : Int) != (im : Int) - 1) = true := by rw [bne, Bool.not_eq_true', beq_eq_false_iff_ne]; omega
              have d6 : (((km : Nat) : Int) == (im : Int) - 1) = false := by rw [beq_eq_false_iff_ne]; omega
              have HF := Lib.hid (alt_false1 (show shapeB n.leaf n.ps.length n.ks.length n.is.length = false by rw [hlf, hsh]; exact shape_no (.inr (.inr (.inr ⟨rfl, .inr (.inr c5)⟩)))))
              clear hsh hlf
              go_enter Try.func19, Try.ntmps19
              go_wp2
              go_ret
              exact ⟨by rw [HF.out]; rfl, FIN.out _ hb0⟩
      · by_cases c3 : 0 < km
        · have d3 : (0 : Int) < (km : Int) := by omega
          have HF := Lib.hid (alt_false1 (show shapeB n.leaf n.ps.length n.ks.length n.is.length = false by rw [hlf, hsh]; exact shape_no (.inr (.inr (.inl ⟨rfl, .inl c3⟩)))))
          clear hsh hlf
          go_enter Try.func19, Try.ntmps19
          go_wp2
          go_ret
          exact ⟨by rw [HF.out]; rfl, FIN.out _ hb0⟩
        · have d3 : ¬ (0 : Int) < (km : Int) := by omega
          by_cases c4 : 0 < im
          · have d4 : (0 : Int) < (im : Int) := by omega
            have HF := Lib.hid (alt_false1 (show shapeB n.leaf n.ps.length n.ks.length n.is.length = false by rw [hlf, hsh]; exact shape_no (.inr (.inr (.inl ⟨rfl, .inr c4⟩)))))
            clear hsh hlf
            go_enter Try.func19, Try.ntmps19
            go_wp2
            go_ret
            exact ⟨by rw [HF.out]; rfl, FIN.out _ hb0⟩
          · have d4 : ¬ (0 : Int) < (im : Int) := by omega
            have HSH := Lib.hid (show shapeB n.leaf n.ps.length n.ks.length n.is.length = true by rw [hlf, hsh]; exact shape_leaf (by omega) (by omega) (by omega))
            have hk255 : km ≤ 255 := by omega
            clear hsh hlf
            go_enter Try.func19, Try.ntmps19
            go_wp2
            clear q0 q1 q2 q3
            go_loopw [3] (fun iv wr => ∃ k : Nat, k ≤ pm ∧ iv = .int .i64 k ∧ Hid (∀ j, j < k → risAt (ksOf n.ps) j = true ∧ decide (48 < (prAt n.ps j).v.size) = false) ∧ SB wr) (fun iv _ => pm - (intOf iv).toNat)
            case atStart => exact ⟨0, Nat.zero_le _, rfl, Lib.hid (fun j hj => by omega), hb0⟩
            case round =>
              obtain ⟨k, hk, rfl, hf, hb⟩ := hrel
              obtain ⟨q0, q1, q2, q3⟩ := BR.out _ hb
              by_cases hlt : k < pm
              · have hlt' : k < n.ps.length := by rw [← hpm.out]; exact hlt
                have hltk : k < (ksOf n.ps).length := by rw [ksOf_length]; exact hlt'
                obtain ⟨pb, poff, cap', hv, hB, hc1, hc2⟩ := HP.out.getP hlt'
                obtain ⟨rfl, rfl⟩ : pa = some ⟨pb, poff, none⟩ ∧ pc = cap' := by injection hv with h1 _ h3; exact ⟨h1, h3⟩
                have D1 := Lib.hid (fun w' (h : SB w') => ((FIN.out _ h).cell (p := ⟨pb, poff + k * 2, none⟩) hB).trans hc1)
                have D2 := Lib.hid (fun w' (h : SB w') => ((FIN.out _ h).cell (p := ⟨pb, poff + k * 2 + 1, none⟩) hB).trans hc2)
                have hra := risAt_at (l := ksOf n.ps) (k := k)
                rw [ksOf_at _ hlt'] at hra
                have TV := Lib.hid (fun q => okVs_false hlt' q)
                have TR := Lib.hid (fun q => risB_false hltk q)
                have KEY := Lib.hid (fun w' => refKey_any (prAt n.ps k).k w')
                have HX0 := Lib.hid (show ∀ (a : risAt (ksOf n.ps) k = true) (b : decide (48 < (prAt n.ps k).v.size) = false), ∀ j, j < k + 1 → risAt (ksOf n.ps) j = true ∧ decide (48 < (prAt n.ps j).v.size) = false from fun a b j hj => by
                  by_cases e : j = k
                  · subst e; exact ⟨a, b⟩
                  · exact hf.out j (by omega))
                obtain ⟨x, hx⟩ : ∃ x, prAt n.ps k = x := ⟨_, rfl⟩
                rw [hx] at D1 D2 hra TV KEY HX0
                obtain ⟨xk, xv⟩ := x
                simp only at D1 D2 hra TV KEY HX0
                clear hv hc1 hc2 hx
                cases hK : okK xk
                · rw [hK, Bool.false_and] at hra
                  have HF := Lib.hid (alt_false2 (TR.out hra))
                  rw [hK] at KEY
                  clear hra hK
                  go_wp2_with fail
                  have hS := SBd _ hb
                  refine wp_region_held_drew (S := SB) mixed hS (fun _ => ?_)
                  show wpAnyH _ _ _ _ _ 38 (Array.replicate 38 false) _ _
                  refine wpAnyH_take_d 0 (some 64) (.pointer (some ⟨w.heap.size, 1, none⟩)) rfl (by kernel_rfl) (by kernel_rfl) (by kernel_rfl) (by kernel_rfl) rfl (fun _ _ _ h => h) (fun _ _ => by kernel_rfl) (by exact hS) ?_
                  simp only [Act.put, List.setIfInBounds_toArray, List.set_cons_succ, List.set_cons_zero]
                  refine wpAnyH_take_d 1 (some 65) (.slice (some ⟨pb, poff, none⟩) pm pc) rfl (by kernel_rfl) (by kernel_rfl) (by kernel_rfl) (by kernel_rfl) rfl (fun _ _ _ h => h) (fun w' h => exec_load_cell rfl rfl (BR.out _ h).c1 Try.underlying22 rfl) (by exact hS) ?_
                  simp only [Act.put, List.setIfInBounds_toArray, List.set_cons_succ, List.set_cons_zero]
                  refine wpAnyH_take_d 2 (some 66) (.int .i64 k) rfl (by kernel_rfl) (by kernel_rfl) (by kernel_rfl) (by kernel_rfl) rfl (fun _ _ _ h => h) (fun _ _ => by kernel_rfl) (by exact hS) ?_
                  simp only [Act.put, List.setIfInBounds_toArray, List.set_cons_succ, List.set_cons_zero]
                  refine wpAnyH_take_d 3 (some 67) (.pointer (some ⟨pb, poff + k * 2, none⟩)) rfl (by kernel_rfl) (by kernel_rfl) (by kernel_rfl) (by kernel_rfl) rfl (fun _ _ _ h => h) (fun _ _ => ex_index 2 rfl rfl rfl hlt Try.underlying22 szPr) (by exact hS) ?_
                  simp only [Act.put, List.setIfInBounds_toArray, List.set_cons_succ, List.set_cons_zero]
                  refine wpAnyH_take_d 4 (some 68) (.pointer (some ⟨pb, poff + k * 2, none⟩)) rfl (by kernel_rfl) (by kernel_rfl) (by kernel_rfl) (by kernel_rfl) rfl (fun _ _ _ h => h) (fun _ _ => by kernel_rfl) (by exact hS) ?_
                  simp only [Act.put, List.setIfInBounds_toArray, List.set_cons_succ, List.set_cons_zero]
                  refine wpAnyH_take_d 5 (some 69) (.string xk) rfl (by kernel_rfl) (by kernel_rfl) (by kernel_rfl) (by kernel_rfl) rfl (fun _ _ _ h => h) (fun w' h => exec_load_cell rfl rfl (D1.out _ h) Try.underlying9 rfl) (by exact hS) ?_
                  simp only [Act.put, List.setIfInBounds_toArray, List.set_cons_succ, List.set_cons_zero]
                  refine wpAnyH_call 6 (some 70) 34 #[.string xk] rfl (by kernel_rfl) (by kernel_rfl) rfl (by kernel_rfl) (KEY.out _) ?_
                  rintro e _ ⟨rfl, rfl⟩
                  refine ⟨_, rfl, hS, ?_⟩
                  simp only [Act.put, List.setIfInBounds_toArray, List.set_cons_succ, List.set_cons_zero]
                  refine wpAnyH_take_d 7 (some 71) (.bool true) rfl (by kernel_rfl) (by kernel_rfl) (by kernel_rfl) (by kernel_rfl) rfl (fun _ _ _ h => h) (fun _ _ => by kernel_rfl) (by exact hS) ?_
                  simp only [Act.put, List.setIfInBounds_toArray, List.set_cons_succ, List.set_cons_zero]
                  refine wpAnyH_take_d 8 (some 72) (.bool true) rfl (by kernel_rfl) (by kernel_rfl) (by kernel_rfl) (by kernel_rfl) rfl (fun _ _ _ h => h) (fun _ _ => by kernel_rfl) (by exact hS) ?_
                  simp only [Act.put, List.setIfInBounds_toArray, List.set_cons_succ, List.set_cons_zero]
                  refine wpAnyH_skip_d 9 (some 73) rfl (by kernel_rfl) (by kernel_rfl) (by kernel_rfl) (by kernel_rfl) rfl (fun _ _ _ h => h) (by exact hS) ?_
                  simp only [Act.put, List.setIfInBounds_toArray, List.set_cons_succ, List.set_cons_zero]
                  refine wpAnyH_skip_d 10 (some 74) rfl (by kernel_rfl) (by kernel_rfl) (by kernel_rfl) (by kernel_rfl) rfl (fun _ _ _ h => h) (by exact hS) ?_
                  simp only [Act.put, List.setIfInBounds_toArray, List.set_cons_succ, List.set_cons_zero]
                  refine wpAnyH_skip_d 11 (some 75) rfl (by kernel_rfl) (by kernel_rfl) (by kernel_rfl) (by kernel_rfl) rfl (fun _ _ _ h => h) (by exact hS) ?_
                  simp only [Act.put, List.setIfInBounds_toArray, List.set_cons_succ, List.set_cons_zero]
                  refine wpAnyH_skip_d 12 (some 76) rfl (by kernel_rfl) (by kernel_rfl) (by kernel_rfl) (by kernel_rfl) rfl (fun _ _ _ h => h) (by exact hS) ?_
                  simp only [Act.put, List.setIfInBounds_toArray, List.set_cons_succ, List.set_cons_zero]
                  refine wpAnyH_skip_d 13 (some 77) rfl (by kernel_rfl) (by kernel_rfl) (by kernel_rfl) (by kernel_rfl) rfl (fun _ _ _ h => h) (by exact hS) ?_
                  simp only [Act.put, List.setIfInBounds_toArray, List.set_cons_succ, List.set_cons_zero]
                  refine wpAnyH_skip_d 14 (some 78) rfl (by kernel_rfl) (by kernel_rfl) (by kernel_rfl) (by kernel_rfl) rfl (fun _ _ _ h => h) (by exact hS) ?_
                  simp only [Act.put, List.setIfInBounds_toArray, List.set_cons_succ, List.set_cons_zero]
                  refine wpAnyH_skip_d 15 (some 79) rfl (by kernel_rfl) (by kernel_rfl) (by kernel_rfl) (by kernel_rfl) rfl (fun _ _ _ h => h) (by exact hS) ?_
                  simp only [Act.put, List.setIfInBounds_toArray, List.set_cons_succ, List.set_cons_zero]
                  refine wpAnyH_skip_d 16 (some 80) rfl (by kernel_rfl) (by kernel_rfl) (by kernel_rfl) (by kernel_rfl) rfl (fun _ _ _ h => h) (by exact hS) ?_
                  simp only [Act.put, List.setIfInBounds_toArray, List.set_cons_succ, List.set_cons_zero]
                  refine wpAnyH_take_d 17 (some 81) (.bool true) rfl (by kernel_rfl) (by kernel_rfl) (by kernel_rfl) (by kernel_rfl) rfl (fun _ _ _ h => h) (fun _ _ => by kernel_rfl) (by exact hS) ?_
                  simp only [Act.put, List.setIfInBounds_toArray, List.set_cons_succ, List.set_cons_zero]
                  refine wpAnyH_take_d 18 (some 82) (.bool true) rfl (by kernel_rfl) (by kernel_rfl) (by kernel_rfl) (by kernel_rfl) rfl (fun _ _ _ h => h) (fun _ _ => by kernel_rfl) (by exact hS) ?_
                  simp only [Act.put, List.setIfInBounds_toArray, List.set_cons_succ, List.set_cons_zero]
                  refine wpAnyH_skip_d 19 (some 83) rfl (by kernel_rfl) (by kernel_rfl) (by kernel_rfl) (by kernel_rfl) rfl (fun _ _ _ h => h) (by exact hS) ?_
                  simp only [Act.put, List.setIfInBounds_toArray, List.set_cons_succ, List.set_cons_zero]
                  refine wpAnyH_skip_d 20 (some 84) rfl (by kernel_rfl) (by kernel_rfl) (by kernel_rfl) (by kernel_rfl) rfl (fun _ _ _ h => h) (by exact hS) ?_
                  simp only [Act.put, List.setIfInBounds_toArray, List.set_cons_succ, List.set_cons_zero]
                  refine wpAnyH_skip_d 21 (some 85) rfl (by kernel_rfl) (by kernel_rfl) (by kernel_rfl) (by kernel_rfl) rfl (fun _ _ _ h => h) (by exact hS) ?_
                  simp only [Act.put, List.setIfInBounds_toArray, List.set_cons_succ, List.set_cons_zero]
                  refine wpAnyH_skip_d 22 (some 86) rfl (by kernel_rfl) (by kernel_rfl) (by kernel_rfl) (by kernel_rfl) rfl (fun _ _ _ h => h) (by exact hS) ?_
                  simp only [Act.put, List.setIfInBounds_toArray, List.set_cons_succ, List.set_cons_zero]
                  refine wpAnyH_skip_d 23 (some 87) rfl (by kernel_rfl) (by kernel_rfl) (by kernel_rfl) (by kernel_rfl) rfl (fun _ _ _ h => h) (by exact hS) ?_
                  simp only [Act.put, List.setIfInBounds_toArray, List.set_cons_succ, List.set_cons_zero]
                  refine wpAnyH_skip_d 24 (some 88) rfl (by kernel_rfl) (by kernel_rfl) (by kernel_rfl) (by kernel_rfl) rfl (fun _ _ _ h => h) (by exact hS) ?_
                  simp only [Act.put, List.setIfInBounds_toArray, List.set_cons_succ, List.set_cons_zero]
                  refine wpAnyH_skip_d 25 (some 89) rfl (by kernel_rfl) (by kernel_rfl) (by kernel_rfl) (by kernel_rfl) rfl (fun _ _ _ h => h) (by exact hS) ?_
                  simp only [Act.put, List.setIfInBounds_toArray, List.set_cons_succ, List.set_cons_zero]
                  refine wpAnyH_skip_d 26 (some 90) rfl (by kernel_rfl) (by kernel_rfl) (by kernel_rfl) (by kernel_rfl) rfl (fun _ _ _ h => h) (by exact hS) ?_
                  simp only [Act.put, List.setIfInBounds_toArray, List.set_cons_succ, List.set_cons_zero]
                  refine wpAnyH_skip_d 27 (some 91) rfl (by kernel_rfl) (by kernel_rfl) (by kernel_rfl) (by kernel_rfl) rfl (fun _ _ _ h => h) (by exact hS) ?_
                  simp only [Act.put, List.setIfInBounds_toArray, List.set_cons_succ, List.set_cons_zero]
                  refine wpAnyH_skip_d 28 (some 92) rfl (by kernel_rfl) (by kernel_rfl) (by kernel_rfl) (by kernel_rfl) rfl (fun _ _ _ h => h) (by exact hS) ?_
                  simp only [Act.put, List.setIfInBounds_toArray, List.set_cons_succ, List.set_cons_zero]
                  refine wpAnyH_skip_d 29 (some 93) rfl (by kernel_rfl) (by kernel_rfl) (by kernel_rfl) (by kernel_rfl) rfl (fun _ _ _ h => h) (by exact hS) ?_
                  simp only [Act.put, List.setIfInBounds_toArray, List.set_cons_succ, List.set_cons_zero]
                  refine wpAnyH_skip_d 30 (some 94) rfl (by kernel_rfl) (by kernel_rfl) (by kernel_rfl) (by kernel_rfl) rfl (fun _ _ _ h => h) (by exact hS) ?_
                  simp only [Act.put, List.setIfInBounds_toArray, List.set_cons_succ, List.set_cons_zero]
                  refine wpAnyH_skip_d 31 (some 95) rfl (by kernel_rfl) (by kernel_rfl) (by kernel_rfl) (by kernel_rfl) rfl (fun _ _ _ h => h) (by exact hS) ?_
                  simp only [Act.put, List.setIfInBounds_toArray, List.set_cons_succ, List.set_cons_zero]
                  refine wpAnyH_skip_d 32 (some 96) rfl (by kernel_rfl) (by kernel_rfl) (by kernel_rfl) (by kernel_rfl) rfl (fun _ _ _ h => h) (by exact hS) ?_
                  simp only [Act.put, List.setIfInBounds_toArray, List.set_cons_succ, List.set_cons_zero]
                  refine wpAnyH_skip_d 33 (some 97) rfl (by kernel_rfl) (by kernel_rfl) (by kernel_rfl) (by kernel_rfl) rfl (fun _ _ _ h => h) (by exact hS) ?_
                  simp only [Act.put, List.setIfInBounds_toArray, List.set_cons_succ, List.set_cons_zero]
                  refine wpAnyH_skip_d 34 (some 98) rfl (by kernel_rfl) (by kernel_rfl) (by kernel_rfl) (by kernel_rfl) rfl (fun _ _ _ h => h) (by exact hS) ?_
                  simp only [Act.put, List.setIfInBounds_toArray, List.set_cons_succ, List.set_cons_zero]
                  refine wpAnyH_skip_d 35 (some 99) rfl (by kernel_rfl) (by kernel_rfl) (by kernel_rfl) (by kernel_rfl) rfl (fun _ _ _ h => h) (by exact hS) ?_
                  simp only [Act.put, List.setIfInBounds_toArray, List.set_cons_succ, List.set_cons_zero]
                  refine wpAnyH_skip_d 36 (some 100) rfl (by kernel_rfl) (by kernel_rfl) (by kernel_rfl) (by kernel_rfl) rfl (fun _ _ _ h => h) (by exact hS) ?_
                  simp only [Act.put, List.setIfInBounds_toArray, List.set_cons_succ, List.set_cons_zero]
                  refine wpAnyH_take_d 37 (some 101) (.bool true) rfl (by kernel_rfl) (by kernel_rfl) (by kernel_rfl) (by kernel_rfl) rfl (fun _ _ _ h => h) (fun _ _ => by kernel_rfl) (by exact hS) ?_
                  simp only [Act.put, List.setIfInBounds_toArray, List.set_cons_succ, List.set_cons_zero]
                  refine wpAnyH_done (by kernel_rfl) ?_ _
                  have hb := hS
                  clear hS
                  go_wp2
                  go_ret
                  exact ⟨by rw [HF.out]; rfl, FIN.out _ hb⟩
                · rw [hK] at KEY
                  cases g2' : decide (48 < xv.size)
                  · have g2 : decide ((48 : Int) < (xv.size : Int)) = false := by simp only [decide_eq_false_iff_not] at g2' ⊢; omega
                    by_cases h0 : k = 0
                    · have hr1 : risAt (ksOf n.ps) k = true := by rw [hra, hK, decide_eq_true h0]; rfl
                      have HF := Lib.hid (HX0.out hr1 g2')
                      have g3 : decide ((0 : Int) < (k : Int)) = false := by simp; omega
                      clear hra hK g2' hr1 h0
                      go_wp2_with fail
                      have hS := SBd _ hb
                      refine wp_region_held_drew (S := SB) mixed hS (fun _ => ?_)
                      show wpAnyH _ _ _ _ _ 38 (Array.replicate 38 false) _ _
                      refine wpAnyH_take_d 0 (some 64) (.pointer (some ⟨w.heap.size, 1, none⟩)) rfl (by kernel_rfl) (by kernel_rfl) (by kernel_rfl) (by kernel_rfl) rfl (fun _ _ _ h => h) (fun _ _ => by kernel_rfl) (by exact hS) ?_
                      simp only [Act.put, List.setIfInBounds_toArray, List.set_cons_succ, List.set_cons_zero]
                      refine wpAnyH_take_d 1 (some 65) (.slice (some ⟨pb, poff, none⟩) pm pc) rfl (by kernel_rfl) (by kernel_rfl) (by kernel_rfl) (by kernel_rfl) rfl (fun _ _ _ h => h) (fun w' h => exec_load_cell rfl rfl (BR.out _ h).c1 Try.underlying22 rfl) (by exact hS) ?_
                      simp only [Act.put, List.setIfInBounds_toArray, List.set_cons_succ, List.set_cons_zero]
                      refine wpAnyH_take_d 2 (some 66) (.int .i64 k) rfl (by kernel_rfl) (by kernel_rfl) (by kernel_rfl) (by kernel_rfl) rfl (fun _ _ _ h => h) (fun _ _ => by kernel_rfl) (by exact hS) ?_
                      simp only [Act.put, List.setIfInBounds_toArray, List.set_cons_succ, List.set_cons_zero]
                      refine wpAnyH_take_d 3 (some 67) (.pointer (some ⟨pb, poff + k * 2, none⟩)) rfl (by kernel_rfl) (by kernel_rfl) (by kernel_rfl) (by kernel_rfl) rfl (fun _ _ _ h => h) (fun _ _ => ex_index 2 rfl rfl rfl hlt Try.underlying22 szPr) (by exact hS) ?_
                      simp only [Act.put, List.setIfInBounds_toArray, List.set_cons_succ, List.set_cons_zero]
                      refine wpAnyH_take_d 4 (some 68) (.pointer (some ⟨pb, poff + k * 2, none⟩)) rfl (by kernel_rfl) (by kernel_rfl) (by kernel_rfl) (by kernel_rfl) rfl (fun _ _ _ h => h) (fun _ _ => by kernel_rfl) (by exact hS) ?_
                      simp only [Act.put, List.setIfInBounds_toArray, List.set_cons_succ, List.set_cons_zero]
                      refine wpAnyH_take_d 5 (some 69) (.string xk) rfl (by kernel_rfl) (by kernel_rfl) (by kernel_rfl) (by kernel_rfl) rfl (fun _ _ _ h => h) (fun w' h => exec_load_cell rfl rfl (D1.out _ h) Try.underlying9 rfl) (by exact hS) ?_
                      simp only [Act.put, List.setIfInBounds_toArray, List.set_cons_succ, List.set_cons_zero]
                      refine wpAnyH_call 6 (some 70) 34 #[.string xk] rfl (by kernel_rfl) (by kernel_rfl) rfl (by kernel_rfl) (KEY.out _) ?_
                      rintro e _ ⟨rfl, rfl⟩
                      refine ⟨_, rfl, hS, ?_⟩
                      simp only [Act.put, List.setIfInBounds_toArray, List.set_cons_succ, List.set_cons_zero]
                      refine wpAnyH_take_d 7 (some 71) (.bool false) rfl (by kernel_rfl) (by kernel_rfl) (by kernel_rfl) (by kernel_rfl) rfl (fun _ _ _ h => h) (fun _ _ => by kernel_rfl) (by exact hS) ?_
                      simp only [Act.put, List.setIfInBounds_toArray, List.set_cons_succ, List.set_cons_zero]
                      refine wpAnyH_take_d 8 (some 72) (.bool false) rfl (by kernel_rfl) (by kernel_rfl) (by kernel_rfl) (by kernel_rfl) rfl (fun _ _ _ h => h) (fun _ _ => by kernel_rfl) (by exact hS) ?_
                      simp only [Act.put, List.setIfInBounds_toArray, List.set_cons_succ, List.set_cons_zero]
                      refine wpAnyH_take_d 9 (some 73) (.pointer (some ⟨w.heap.size, 1, none⟩)) rfl (by kernel_rfl) (by kernel_rfl) (by kernel_rfl) (by kernel_rfl) rfl (fun _ _ _ h => h) (fun _ _ => by kernel_rfl) (by exact hS) ?_
                      simp only [Act.put, List.setIfInBounds_toArray, List.set_cons_succ, List.set_cons_zero]
                      refine wpAnyH_take_d 10 (some 74) (.slice (some ⟨pb, poff, none⟩) pm pc) rfl (by kernel_rfl) (by kernel_rfl) (by kernel_rfl) (by kernel_rfl) rfl (fun _ _ _ h => h) (fun w' h => exec_load_cell rfl rfl (BR.out _ h).c1 Try.underlying22 rfl) (by exact hS) ?_
                      simp only [Act.put, List.setIfInBounds_toArray, List.set_cons_succ, List.set_cons_zero]
                      refine wpAnyH_take_d 11 (some 75) (.int .i64 k) rfl (by kernel_rfl) (by kernel_rfl) (by kernel_rfl) (by kernel_rfl) rfl (fun _ _ _ h => h) (fun _ _ => by kernel_rfl) (by exact hS) ?_
                      simp only [Act.put, List.setIfInBounds_toArray, List.set_cons_succ, List.set_cons_zero]
                      refine wpAnyH_take_d 12 (some 76) (.pointer (some ⟨pb, poff + k * 2, none⟩)) rfl (by kernel_rfl) (by kernel_rfl) (by kernel_rfl) (by kernel_rfl) rfl (fun _ _ _ h => h) (fun _ _ => ex_index 2 rfl rfl rfl hlt Try.underlying22 szPr) (by exact hS) ?_
                      simp only [Act.put, List.setIfInBounds_toArray, List.set_cons_succ, List.set_cons_zero]
                      refine wpAnyH_take_d 13 (some 77) (.pointer (some ⟨pb, poff + k * 2 + 1, none⟩)) rfl (by kernel_rfl) (by kernel_rfl) (by kernel_rfl) (by kernel_rfl) rfl (fun _ _ _ h => h) (fun _ _ => by kernel_rfl) (by exact hS) ?_
                      simp only [Act.put, List.setIfInBounds_toArray, List.set_cons_succ, List.set_cons_zero]
                      refine wpAnyH_take_d 14 (some 78) (.string xv) rfl (by kernel_rfl) (by kernel_rfl) (by kernel_rfl) (by kernel_rfl) rfl (fun _ _ _ h => h) (fun w' h => exec_load_cell rfl rfl (D2.out _ h) Try.underlying9 rfl) (by exact hS) ?_
                      simp only [Act.put, List.setIfInBounds_toArray, List.set_cons_succ, List.set_cons_zero]
                      refine wpAnyH_take_d 15 (some 79) (.int .i64 xv.size) rfl (by kernel_rfl) (by kernel_rfl) (by kernel_rfl) (by kernel_rfl) rfl (fun _ _ _ h => h) (fun _ _ => ex_slen rfl rfl Try.underlying9) (by exact hS) ?_
                      simp only [Act.put, List.setIfInBounds_toArray, List.set_cons_succ, List.set_cons_zero]
                      refine wpAnyH_take_d 16 (some 80) (.bool false) rfl (by kernel_rfl) (by kernel_rfl) (by kernel_rfl) (by kernel_rfl) rfl (fun _ _ _ h => h) (fun _ _ => ex_gt rfl rfl rfl g2) (by exact hS) ?_
                      simp only [Act.put, List.setIfInBounds_toArray, List.set_cons_succ, List.set_cons_zero]
                      refine wpAnyH_take_d 17 (some 81) (.bool false) rfl (by kernel_rfl) (by kernel_rfl) (by kernel_rfl) (by kernel_rfl) rfl (fun _ _ _ h => h) (fun _ _ => by kernel_rfl) (by exact hS) ?_
                      simp only [Act.put, List.setIfInBounds_toArray, List.set_cons_succ, List.set_cons_zero]
                      refine wpAnyH_take_d 18 (some 82) (.bool false) rfl (by kernel_rfl) (by kernel_rfl) (by kernel_rfl) (by kernel_rfl) rfl (fun _ _ _ h => h) (fun _ _ => by kernel_rfl) (by exact hS) ?_
                      simp only [Act.put, List.setIfInBounds_toArray, List.set_cons_succ, List.set_cons_zero]
                      refine wpAnyH_take_d 19 (some 83) (.int .i64 k) rfl (by kernel_rfl) (by kernel_rfl) (by kernel_rfl) (by kernel_rfl) rfl (fun _ _ _ h => h) (fun _ _ => by kernel_rfl) (by exact hS) ?_
                      simp only [Act.put, List.setIfInBounds_toArray, List.set_cons_succ, List.set_cons_zero]
                      refine wpAnyH_take_d 20 (some 84) (.bool false) rfl (by kernel_rfl) (by kernel_rfl) (by kernel_rfl) (by kernel_rfl) rfl (fun _ _ _ h => h) (fun _ _ => ex_gt rfl rfl rfl g3) (by exact hS) ?_
                      simp only [Act.put, List.setIfInBounds_toArray, List.set_cons_succ, List.set_cons_zero]
                      refine wpAnyH_take_d 21 (some 85) (.bool false) rfl (by kernel_rfl) (by kernel_rfl) (by kernel_rfl) (by kernel_rfl) rfl (fun _ _ _ h => h) (fun _ _ => by kernel_rfl) (by exact hS) ?_
                      simp only [Act.put, List.setIfInBounds_toArray, List.set_cons_succ, List.set_cons_zero]
                      refine wpAnyH_skip_d 22 (some 86) rfl (by kernel_rfl) (by kernel_rfl) (by kernel_rfl) (by kernel_rfl) rfl (fun _ _ _ h => h) (by exact hS) ?_
                      simp only [Act.put, List.setIfInBounds_toArray, List.set_cons_succ, List.set_cons_zero]
                      refine wpAnyH_skip_d 23 (some 87) rfl (by kernel_rfl) (by kernel_rfl) (by kernel_rfl) (by kernel_rfl) rfl (fun _ _ _ h => h) (by exact hS) ?_
                      simp only [Act.put, List.setIfInBounds_toArray, List.set_cons_succ, List.set_cons_zero]
                      refine wpAnyH_skip_d 24 (some 88) rfl (by kernel_rfl) (by kernel_rfl) (by kernel_rfl) (by kernel_rfl) rfl (fun _ _ _ h => h) (by exact hS) ?_
                      simp only [Act.put, List.setIfInBounds_toArray, List.set_cons_succ, List.set_cons_zero]
                      refine wpAnyH_skip_d 25 (some 89) rfl (by kernel_rfl) (by kernel_rfl) (by kernel_rfl) (by kernel_rfl) rfl (fun _ _ _ h => h) (by exact hS) ?_
                      simp only [Act.put, List.setIfInBounds_toArray, List.set_cons_succ, List.set_cons_zero]
                      refine wpAnyH_skip_d 26 (some 90) rfl (by kernel_rfl) (by kernel_rfl) (by kernel_rfl) (by kernel_rfl) rfl (fun _ _ _ h => h) (by exact hS) ?_
                      simp only [Act.put, List.setIfInBounds_toArray, List.set_cons_succ, List.set_cons_zero]
                      refine wpAnyH_skip_d 27 (some 91) rfl (by kernel_rfl) (by kernel_rfl) (by kernel_rfl) (by kernel_rfl) rfl (fun _ _ _ h => h) (by exact hS) ?_
                      simp only [Act.put, List.setIfInBounds_toArray, List.set_cons_succ, List.set_cons_zero]
                      refine wpAnyH_skip_d 28 (some 92) rfl (by kernel_rfl) (by kernel_rfl) (by kernel_rfl) (by kernel_rfl) rfl (fun _ _ _ h => h) (by exact hS) ?_
                      simp only [Act.put, List.setIfInBounds_toArray, List.set_cons_succ, List.set_cons_zero]
                      refine wpAnyH_skip_d 29 (some 93) rfl (by kernel_rfl) (by kernel_rfl) (by kernel_rfl) (by kernel_rfl) rfl (fun _ _ _ h => h) (by exact hS) ?_
                      simp only [Act.put, List.setIfInBounds_toArray, List.set_cons_succ, List.set_cons_zero]
                      refine wpAnyH_skip_d 30 (some 94) rfl (by kernel_rfl) (by kernel_rfl) (by kernel_rfl) (by kernel_rfl) rfl (fun _ _ _ h => h) (by exact hS) ?_
                      simp only [Act.put, List.setIfInBounds_toArray, List.set_cons_succ, List.set_cons_zero]
                      refine wpAnyH_skip_d 31 (some 95) rfl (by kernel_rfl) (by kernel_rfl) (by kernel_rfl) (by kernel_rfl) rfl (fun _ _ _ h => h) (by exact hS) ?_
                      simp only [Act.put, List.setIfInBounds_toArray, List.set_cons_succ, List.set_cons_zero]
                      refine wpAnyH_skip_d 32 (some 96) rfl (by kernel_rfl) (by kernel_rfl) (by kernel_rfl) (by kernel_rfl) rfl (fun _ _ _ h => h) (by exact hS) ?_
                      simp only [Act.put, List.setIfInBounds_toArray, List.set_cons_succ, List.set_cons_zero]
                      refine wpAnyH_skip_d 33 (some 97) rfl (by kernel_rfl) (by kernel_rfl) (by kernel_rfl) (by kernel_rfl) rfl (fun _ _ _ h => h) (by exact hS) ?_
                      simp only [Act.put, List.setIfInBounds_toArray, List.set_cons_succ, List.set_cons_zero]
                      refine wpAnyH_skip_d 34 (some 98) rfl (by kernel_rfl) (by kernel_rfl) (by kernel_rfl) (by kernel_rfl) rfl (fun _ _ _ h => h) (by exact hS) ?_
                      simp only [Act.put, List.setIfInBounds_toArray, List.set_cons_succ, List.set_cons_zero]
                      refine wpAnyH_skip_d 35 (some 99) rfl (by kernel_rfl) (by kernel_rfl) (by kernel_rfl) (by kernel_rfl) rfl (fun _ _ _ h => h) (by exact hS) ?_
                      simp only [Act.put, List.setIfInBounds_toArray, List.set_cons_succ, List.set_cons_zero]
                      refine wpAnyH_take_d 36 (some 100) (.bool false) rfl (by kernel_rfl) (by kernel_rfl) (by kernel_rfl) (by kernel_rfl) rfl (fun _ _ _ h => h) (fun _ _ => by kernel_rfl) (by exact hS) ?_
                      simp only [Act.put, List.setIfInBounds_toArray, List.set_cons_succ, List.set_cons_zero]
                      refine wpAnyH_take_d 37 (some 101) (.bool false) rfl (by kernel_rfl) (by kernel_rfl) (by kernel_rfl) (by kernel_rfl) rfl (fun _ _ _ h => h) (fun _ _ => by kernel_rfl) (by exact hS) ?_
                      simp only [Act.put, List.setIfInBounds_toArray, List.set_cons_succ, List.set_cons_zero]
                      refine wpAnyH_done (by kernel_rfl) ?_ _
                      have hb := hS
                      clear hS
                      go_wp2
                      go_roundw
                      case rel => exact ⟨k + 1, by omega, by go_num, HF, hb⟩
                      case measure => simp [intOf]; omega
                    · have g3 : decide ((0 : Int) < (k : Int)) = true := by simp; omega
                      have hk1 : k - 1 < n.ps.length := by omega
                      have hw := sub_fact (k := k) (by omega) (by omega)
                      have hlt1 : k - 1 < pm := by omega
                      obtain ⟨b', off', cap'', hv, hB', hc, -⟩ := HP.out.getP hk1
                      obtain ⟨rfl, rfl⟩ : pb = b' ∧ poff = off' := by injection hv with h1 _ _; injection h1 with h1; injection h1 with h1 h2; exact ⟨h1, h2⟩
                      have E1 := Lib.hid (fun w' (h : SB w') => ((FIN.out _ h).cell (p := ⟨pb, poff + (k - 1) * 2, none⟩) hB').trans hc)
                      rw [hK, decide_eq_false h0, Bool.false_or, Bool.true_and, ksOf_at _ hk1] at hra
                      obtain ⟨yk, hy⟩ : ∃ y, (prAt n.ps (k - 1)).k = y := ⟨_, rfl⟩
                      rw [hy] at E1 hra
                      clear hv hc hy hK h0
                      cases hlt2 : ltS yk xk
                      · have hge : (!(Op.bytesLess yk.toList xk.toList)) = true := by show (!(ltS yk xk)) = true; rw [hlt2]; rfl
                        have HF := Lib.hid (alt_false2 (TR.out (hra.trans hlt2)))
                        clear hra hlt2 g2'
                        go_wp2_with fail
                        have hS := SBd _ hb
                        refine wp_region_held_drew (S := SB) mixed hS (fun _ => ?_)
                        show wpAnyH _ _ _ _ _ 38 (Array.replicate 38 false) _ _
                        refine wpAnyH_take_d 0 (some 64) (.pointer (some ⟨w.heap.size, 1, none⟩)) rfl (by kernel_rfl) (by kernel_rfl) (by kernel_rfl) (by kernel_rfl) rfl (fun _ _ _ h => h) (fun _ _ => by kernel_rfl) (by exact hS) ?_
                        simp only [Act.put, List.setIfInBounds_toArray, List.set_cons_succ, List.set_cons_zero]
                        refine wpAnyH_take_d 1 (some 65) (.slice (some ⟨pb, poff, none⟩) pm pc) rfl (by kernel_rfl) (by kernel_rfl) (by kernel_rfl) (by kernel_rfl) rfl (fun _ _ _ h => h) (fun w' h => exec_load_cell rfl rfl (BR.out _ h).c1 Try.underlying22 rfl) (by exact hS) ?_
                        simp only [Act.put, List.setIfInBounds_toArray, List.set_cons_succ, List.set_cons_zero]
                        refine wpAnyH_take_d 2 (some 66) (.int .i64 k) rfl (by kernel_rfl) (by kernel_rfl) (by kernel_rfl) (by kernel_rfl) rfl (fun _ _ _ h => h) (fun _ _ => by kernel_rfl) (by exact hS) ?_
                        simp only [Act.put, List.setIfInBounds_toArray, List.set_cons_succ, List.set_cons_zero]
                        refine wpAnyH_take_d 3 (some 67) (.pointer (some ⟨pb, poff + k * 2, none⟩)) rfl (by kernel_rfl) (by kernel_rfl) (by kernel_rfl) (by kernel_rfl) rfl (fun _ _ _ h => h) (fun _ _ => ex_index 2 rfl rfl rfl hlt Try.underlying22 szPr) (by exact hS) ?_
                        simp only [Act.put, List.setIfInBounds_toArray, List.set_cons_succ, List.set_cons_zero]
                        refine wpAnyH_take_d 4 (some 68) (.pointer (some ⟨pb, poff + k * 2, none⟩)) rfl (by kernel_rfl) (by kernel_rfl) (by kernel_rfl) (by kernel_rfl) rfl (fun _ _ _ h => h) (fun _ _ => by kernel_rfl) (by exact hS) ?_
                        simp only [Act.put, List.setIfInBounds_toArray, List.set_cons_succ, List.set_cons_zero]
                        refine wpAnyH_take_d 5 (some 69) (.string xk) rfl (by kernel_rfl) (by kernel_rfl) (by kernel_rfl) (by kernel_rfl) rfl (fun _ _ _ h => h) (fun w' h => exec_load_cell rfl rfl (D1.out _ h) Try.underlying9 rfl) (by exact hS) ?_
                        simp only [Act.put, List.setIfInBounds_toArray, List.set_cons_succ, List.set_cons_zero]
                        refine wpAnyH_call 6 (some 70) 34 #[.string xk] rfl (by kernel_rfl) (by kernel_rfl) rfl (by kernel_rfl) (KEY.out _) ?_
                        rintro e _ ⟨rfl, rfl⟩
                        refine ⟨_, rfl, hS, ?_⟩
                        simp only [Act.put, List.setIfInBounds_toArray, List.set_cons_succ, List.set_cons_zero]
                        refine wpAnyH_take_d 7 (some 71) (.bool false) rfl (by kernel_rfl) (by kernel_rfl) (by kernel_rfl) (by kernel_rfl) rfl (fun _ _ _ h => h) (fun _ _ => by kernel_rfl) (by exact hS) ?_
                        simp only [Act.put, List.setIfInBounds_toArray, List.set_cons_succ, List.set_cons_zero]
                        refine wpAnyH_take_d 8 (some 72) (.bool false) rfl (by kernel_rfl) (by kernel_rfl) (by kernel_rfl) (by kernel_rfl) rfl (fun _ _ _ h => h) (fun _ _ => by kernel_rfl) (by exact hS) ?_
                        simp only [Act.put, List.setIfInBounds_toArray, List.set_cons_succ, List.set_cons_zero]
                        refine wpAnyH_take_d 9 (some 73) (.pointer (some ⟨w.heap.size, 1, none⟩)) rfl (by kernel_rfl) (by kernel_rfl) (by kernel_rfl) (by kernel_rfl) rfl (fun _ _ _ h => h) (fun _ _ => by kernel_rfl) (by exact hS) ?_
                        simp only [Act.put, List.setIfInBounds_toArray, List.set_cons_succ, List.set_cons_zero]
                        refine wpAnyH_take_d 10 (some 74) (.slice (some ⟨pb, poff, none⟩) pm pc) rfl (by kernel_rfl) (by kernel_rfl) (by kernel_rfl) (by kernel_rfl) rfl (fun _ _ _ h => h) (fun w' h => exec_load_cell rfl rfl (BR.out _ h).c1 Try.underlying22 rfl) (by exact hS) ?_
                        simp only [Act.put, List.setIfInBounds_toArray, List.set_cons_succ, List.set_cons_zero]
                        refine wpAnyH_take_d 11 (some 75) (.int .i64 k) rfl (by kernel_rfl) (by kernel_rfl) (by kernel_rfl) (by kernel_rfl) rfl (fun _ _ _ h => h) (fun _ _ => by kernel_rfl) (by exact hS) ?_
                        simp only [Act.put, List.setIfInBounds_toArray, List.set_cons_succ, List.set_cons_zero]
                        refine wpAnyH_take_d 12 (some 76) (.pointer (some ⟨pb, poff + k * 2, none⟩)) rfl (by kernel_rfl) (by kernel_rfl) (by kernel_rfl) (by kernel_rfl) rfl (fun _ _ _ h => h) (fun _ _ => ex_index 2 rfl rfl rfl hlt Try.underlying22 szPr) (by exact hS) ?_
                        simp only [Act.put, List.setIfInBounds_toArray, List.set_cons_succ, List.set_cons_zero]
                        refine wpAnyH_take_d 13 (some 77) (.pointer (some ⟨pb, poff + k * 2 + 1, none⟩)) rfl (by kernel_rfl) (by kernel_rfl) (by kernel_rfl) (by kernel_rfl) rfl (fun _ _ _ h => h) (fun _ _ => by kernel_rfl) (by exact hS) ?_
                        simp only [Act.put, List.setIfInBounds_toArray, List.set_cons_succ, List.set_cons_zero]
                        refine wpAnyH_take_d 14 (some 78) (.string xv) rfl (by kernel_rfl) (by kernel_rfl) (by kernel_rfl) (by kernel_rfl) rfl (fun _ _ _ h => h) (fun w' h => exec_load_cell rfl rfl (D2.out _ h) Try.underlying9 rfl) (by exact hS) ?_
                        simp only [Act.put, List.setIfInBounds_toArray, List.set_cons_succ, List.set_cons_zero]
                        refine wpAnyH_take_d 15 (some 79) (.int .i64 xv.size) rfl (by kernel_rfl) (by kernel_rfl) (by kernel_rfl) (by kernel_rfl) rfl (fun _ _ _ h => h) (fun _ _ => ex_slen rfl rfl Try.underlying9) (by exact hS) ?_
                        simp only [Act.put, List.setIfInBounds_toArray, List.set_cons_succ, List.set_cons_zero]
                        refine wpAnyH_take_d 16 (some 80) (.bool false) rfl (by kernel_rfl) (by kernel_rfl) (by kernel_rfl) (by kernel_rfl) rfl (fun _ _ _ h => h) (fun _ _ => ex_gt rfl rfl rfl g2) (by exact hS) ?_
                        simp only [Act.put, List.setIfInBounds_toArray, List.set_cons_succ, List.set_cons_zero]
                        refine wpAnyH_take_d 17 (some 81) (.bool false) rfl (by kernel_rfl) (by kernel_rfl) (by kernel_rfl) (by kernel_rfl) rfl (fun _ _ _ h => h) (fun _ _ => by kernel_rfl) (by exact hS) ?_
                        simp only [Act.put, List.setIfInBounds_toArray, List.set_cons_succ, List.set_cons_zero]
                        refine wpAnyH_take_d 18 (some 82) (.bool false) rfl (by kernel_rfl) (by kernel_rfl) (by kernel_rfl) (by kernel_rfl) rfl (fun _ _ _ h => h) (fun _ _ => by kernel_rfl) (by exact hS) ?_
                        simp only [Act.put, List.setIfInBounds_toArray, List.set_cons_succ, List.set_cons_zero]
                        refine wpAnyH_take_d 19 (some 83) (.int .i64 k) rfl (by kernel_rfl) (by kernel_rfl) (by kernel_rfl) (by kernel_rfl) rfl (fun _ _ _ h => h) (fun _ _ => by kernel_rfl) (by exact hS) ?_
                        simp only [Act.put, List.setIfInBounds_toArray, List.set_cons_succ, List.set_cons_zero]
                        refine wpAnyH_take_d 20 (some 84) (.bool true) rfl (by kernel_rfl) (by kernel_rfl) (by kernel_rfl) (by kernel_rfl) rfl (fun _ _ _ h => h) (fun _ _ => ex_gt rfl rfl rfl g3) (by exact hS) ?_
                        simp only [Act.put, List.setIfInBounds_toArray, List.set_cons_succ, List.set_cons_zero]
                        refine wpAnyH_take_d 21 (some 85) (.bool true) rfl (by kernel_rfl) (by kernel_rfl) (by kernel_rfl) (by kernel_rfl) rfl (fun _ _ _ h => h) (fun _ _ => by kernel_rfl) (by exact hS) ?_
                        simp only [Act.put, List.setIfInBounds_toArray, List.set_cons_succ, List.set_cons_zero]
                        refine wpAnyH_take_d 22 (some 86) (.pointer (some ⟨w.heap.size, 1, none⟩)) rfl (by kernel_rfl) (by kernel_rfl) (by kernel_rfl) (by kernel_rfl) rfl (fun _ _ _ h => h) (fun _ _ => by kernel_rfl) (by exact hS) ?_
                        simp only [Act.put, List.setIfInBounds_toArray, List.set_cons_succ, List.set_cons_zero]
                        refine wpAnyH_take_d 23 (some 87) (.slice (some ⟨pb, poff, none⟩) pm pc) rfl (by kernel_rfl) (by kernel_rfl) (by kernel_rfl) (by kernel_rfl) rfl (fun _ _ _ h => h) (fun w' h => exec_load_cell rfl rfl (BR.out _ h).c1 Try.underlying22 rfl) (by exact hS) ?_
                        simp only [Act.put, List.setIfInBounds_toArray, List.set_cons_succ, List.set_cons_zero]
                        refine wpAnyH_take_d 24 (some 88) (.int .i64 k) rfl (by kernel_rfl) (by kernel_rfl) (by kernel_rfl) (by kernel_rfl) rfl (fun _ _ _ h => h) (fun _ _ => by kernel_rfl) (by exact hS) ?_
                        simp only [Act.put, List.setIfInBounds_toArray, List.set_cons_succ, List.set_cons_zero]
                        refine wpAnyH_take_d 25 (some 89) (.int .i64 (k - 1 : Nat)) rfl (by kernel_rfl) (by kernel_rfl) (by kernel_rfl) (by kernel_rfl) rfl (fun _ _ _ h => h) (fun _ _ => ex_sub rfl rfl rfl hw) (by exact hS) ?_
                        simp only [Act.put, List.setIfInBounds_toArray, List.set_cons_succ, List.set_cons_zero]
                        refine wpAnyH_take_d 26 (some 90) (.pointer (some ⟨pb, poff + (k - 1) * 2, none⟩)) rfl (by kernel_rfl) (by kernel_rfl) (by kernel_rfl) (by kernel_rfl) rfl (fun _ _ _ h => h) (fun _ _ => ex_index 2 rfl rfl rfl hlt1 Try.underlying22 szPr) (by exact hS) ?_
                        simp only [Act.put, List.setIfInBounds_toArray, List.set_cons_succ, List.set_cons_zero]
                        refine wpAnyH_take_d 27 (some 91) (.pointer (some ⟨pb, poff + (k - 1) * 2, none⟩)) rfl (by kernel_rfl) (by kernel_rfl) (by kernel_rfl) (by kernel_rfl) rfl (fun _ _ _ h => h) (fun _ _ => by kernel_rfl) (by exact hS) ?_
                        simp only [Act.put, List.setIfInBounds_toArray, List.set_cons_succ, List.set_cons_zero]
                        refine wpAnyH_take_d 28 (some 92) (.string yk) rfl (by kernel_rfl) (by kernel_rfl) (by kernel_rfl) (by kernel_rfl) rfl (fun _ _ _ h => h) (fun w' h => exec_load_cell rfl rfl (E1.out _ h) Try.underlying9 rfl) (by exact hS) ?_
                        simp only [Act.put, List.setIfInBounds_toArray, List.set_cons_succ, List.set_cons_zero]
                        refine wpAnyH_take_d 29 (some 93) (.pointer (some ⟨w.heap.size, 1, none⟩)) rfl (by kernel_rfl) (by kernel_rfl) (by kernel_rfl) (by kernel_rfl) rfl (fun _ _ _ h => h) (fun _ _ => by kernel_rfl) (by exact hS) ?_
                        simp only [Act.put, List.setIfInBounds_toArray, List.set_cons_succ, List.set_cons_zero]
                        refine wpAnyH_take_d 30 (some 94) (.slice (some ⟨pb, poff, none⟩) pm pc) rfl (by kernel_rfl) (by kernel_rfl) (by kernel_rfl) (by kernel_rfl) rfl (fun _ _ _ h => h) (fun w' h => exec_load_cell rfl rfl (BR.out _ h).c1 Try.underlying22 rfl) (by exact hS) ?_
                        simp only [Act.put, List.setIfInBounds_toArray, List.set_cons_succ, List.set_cons_zero]
                        refine wpAnyH_take_d 31 (some 95) (.int .i64 k) rfl (by kernel_rfl) (by kernel_rfl) (by kernel_rfl) (by kernel_rfl) rfl (fun _ _ _ h => h) (fun _ _ => by kernel_rfl) (by exact hS) ?_
                        simp only [Act.put, List.setIfInBounds_toArray, List.set_cons_succ, List.set_cons_zero]
                        refine wpAnyH_take_d 32 (some 96) (.pointer (some ⟨pb, poff + k * 2, none⟩)) rfl (by kernel_rfl) (by kernel_rfl) (by kernel_rfl) (by kernel_rfl) rfl (fun _ _ _ h => h) (fun _ _ => ex_index 2 rfl rfl rfl hlt Try.underlying22 szPr) (by exact hS) ?_
                        simp only [Act.put, List.setIfInBounds_toArray, List.set_cons_succ, List.set_cons_zero]
                        refine wpAnyH_take_d 33 (some 97) (.pointer (some ⟨pb, poff + k * 2, none⟩)) rfl (by kernel_rfl) (by kernel_rfl) (by kernel_rfl) (by kernel_rfl) rfl (fun _ _ _ h => h) (fun _ _ => by kernel_rfl) (by exact hS) ?_
                        simp only [Act.put, List.setIfInBounds_toArray, List.set_cons_succ, List.set_cons_zero]
                        refine wpAnyH_take_d 34 (some 98) (.string xk) rfl (by kernel_rfl) (by kernel_rfl) (by kernel_rfl) (by kernel_rfl) rfl (fun _ _ _ h => h) (fun w' h => exec_load_cell rfl rfl (D1.out _ h) Try.underlying9 rfl) (by exact hS) ?_
                        simp only [Act.put, List.setIfInBounds_toArray, List.set_cons_succ, List.set_cons_zero]
                        refine wpAnyH_take_d 35 (some 99) (.bool true) rfl (by kernel_rfl) (by kernel_rfl) (by kernel_rfl) (by kernel_rfl) rfl (fun _ _ _ h => h) (fun _ _ => ex_sge rfl rfl rfl hge) (by exact hS) ?_
                        simp only [Act.put, List.setIfInBounds_toArray, List.set_cons_succ, List.set_cons_zero]
                        refine wpAnyH_take_d 36 (some 100) (.bool true) rfl (by kernel_rfl) (by kernel_rfl) (by kernel_rfl) (by kernel_rfl) rfl (fun _ _ _ h => h) (fun _ _ => by kernel_rfl) (by exact hS) ?_
                        simp only [Act.put, List.setIfInBounds_toArray, List.set_cons_succ, List.set_cons_zero]
                        refine wpAnyH_take_d 37 (some 101) (.bool true) rfl (by kernel_rfl) (by kernel_rfl) (by kernel_rfl) (by kernel_rfl) rfl (fun _ _ _ h => h) (fun _ _ => by kernel_rfl) (by exact hS) ?_
                        simp only [Act.put, List.setIfInBounds_toArray, List.set_cons_succ, List.set_cons_zero]
                        refine wpAnyH_done (by kernel_rfl) ?_ _
                        have hb := hS
                        clear hS
                        go_wp2
                        go_ret
                        exact ⟨by rw [HF.out]; rfl, FIN.out _ hb⟩
                      · have hge : (!(Op.bytesLess yk.toList xk.toList)) = false := by show (!(ltS yk xk)) = false; rw [hlt2]; rfl
                        have HF := Lib.hid (HX0.out (hra.trans hlt2) g2')
                        clear hra hlt2 g2'
                        go_wp2_with fail
                        have hS := SBd _ hb
                        refine wp_region_held_drew (S := SB) mixed hS (fun _ => ?_)
                        show wpAnyH _ _ _ _ _ 38 (Array.replicate 38 false) _ _
                        refine wpAnyH_take_d 0 (some 64) (.pointer (some ⟨w.heap.size, 1, none⟩)) rfl (by kernel_rfl) (by kernel_rfl) (by kernel_rfl) (by kernel_rfl) rfl (fun _ _ _ h => h) (fun _ _ => by kernel_rfl) (by exact hS) ?_
                        simp only [Act.put, List.setIfInBounds_toArray, List.set_cons_succ, List.set_cons_zero]
                        refine wpAnyH_take_d 1 (some 65) (.slice (some ⟨pb, poff, none⟩) pm pc) rfl (by kernel_rfl) (by kernel_rfl) (by kernel_rfl) (by kernel_rfl) rfl (fun _ _ _ h => h) (fun w' h => exec_load_cell rfl rfl (BR.out _ h).c1 Try.underlying22 rfl) (by exact hS) ?_
                        simp only [Act.put, List.setIfInBounds_toArray, List.set_cons_succ, List.set_cons_zero]
                        refine wpAnyH_take_d 2 (some 66) (.int .i64 k) rfl (by kernel_rfl) (by kernel_rfl) (by kernel_rfl) (by kernel_rfl) rfl (fun _ _ _ h => h) (fun _ _ => by kernel_rfl) (by exact hS) ?_
                        simp only [Act.put, List.setIfInBounds_toArray, List.set_cons_succ, List.set_cons_zero]
                        refine wpAnyH_take_d 3 (some 67) (.pointer (some ⟨pb, poff + k * 2, none⟩)) rfl (by kernel_rfl) (by kernel_rfl) (by kernel_rfl) (by kernel_rfl) rfl (fun _ _ _ h => h) (fun _ _ => ex_index 2 rfl rfl rfl hlt Try.underlying22 szPr) (by exact hS) ?_
                        simp only [Act.put, List.setIfInBounds_toArray, List.set_cons_succ, List.set_cons_zero]
                        refine wpAnyH_take_d 4 (some 68) (.pointer (some ⟨pb, poff + k * 2, none⟩)) rfl (by kernel_rfl) (by kernel_rfl) (by kernel_rfl) (by kernel_rfl) rfl (fun _ _ _ h => h) (fun _ _ => by kernel_rfl) (by exact hS) ?_
                        simp only [Act.put, List.setIfInBounds_toArray, List.set_cons_succ, List.set_cons_zero]
                        refine wpAnyH_take_d 5 (some 69) (.string xk) rfl (by kernel_rfl) (by kernel_rfl) (by kernel_rfl) (by kernel_rfl) rfl (fun _ _ _ h => h) (fun w' h => exec_load_cell rfl rfl (D1.out _ h) Try.underlying9 rfl) (by exact hS) ?_
                        simp only [Act.put, List.setIfInBounds_toArray, List.set_cons_succ, List.set_cons_zero]
                        refine wpAnyH_call 6 (some 70) 34 #[.string xk] rfl (by kernel_rfl) (by kernel_rfl) rfl (by kernel_rfl) (KEY.out _) ?_
                        rintro e _ ⟨rfl, rfl⟩
                        refine ⟨_, rfl, hS, ?_⟩
                        simp only [Act.put, List.setIfInBounds_toArray, List.set_cons_succ, List.set_cons_zero]
                        refine wpAnyH_take_d 7 (some 71) (.bool false) rfl (by kernel_rfl) (by kernel_rfl) (by kernel_rfl) (by kernel_rfl) rfl (fun _ _ _ h => h) (fun _ _ => by kernel_rfl) (by exact hS) ?_
                        simp only [Act.put, List.setIfInBounds_toArray, List.set_cons_succ, List.set_cons_zero]
                        refine wpAnyH_take_d 8 (some 72) (.bool false) rfl (by kernel_rfl) (by kernel_rfl) (by kernel_rfl) (by kernel_rfl) rfl (fun _ _ _ h => h) (fun _ _ => by kernel_rfl) (by exact hS) ?_
                        simp only [Act.put, List.setIfInBounds_toArray, List.set_cons_succ, List.set_cons_zero]
                        refine wpAnyH_take_d 9 (some 73) (.pointer (some ⟨w.heap.size, 1, none⟩)) rfl (by kernel_rfl) (by kernel_rfl) (by kernel_rfl) (by kernel_rfl) rfl (fun _ _ _ h => h) (fun _ _ => by kernel_rfl) (by exact hS) ?_
                        simp only [Act.put, List.setIfInBounds_toArray, List.set_cons_succ, List.set_cons_zero]
                        refine wpAnyH_take_d 10 (some 74) (.slice (some ⟨pb, poff, none⟩) pm pc) rfl (by kernel_rfl) (by kernel_rfl) (by kernel_rfl) (by kernel_rfl) rfl (fun _ _ _ h => h) (fun w' h => exec_load_cell rfl rfl (BR.out _ h).c1 Try.underlying22 rfl) (by exact hS) ?_
                        simp only [Act.put, List.setIfInBounds_toArray, List.set_cons_succ, List.set_cons_zero]
                        refine wpAnyH_take_d 11 (some 75) (.int .i64 k) rfl (by kernel_rfl) (by kernel_rfl) (by kernel_rfl) (by kernel_rfl) rfl (fun _ _ _ h => h) (fun _ _ => by kernel_rfl) (by exact hS) ?_
                        simp only [Act.put, List.setIfInBounds_toArray, List.set_cons_succ, List.set_cons_zero]
                        refine wpAnyH_take_d 12 (some 76) (.pointer (some ⟨pb, poff + k * 2, none⟩)) rfl (by kernel_rfl) (by kernel_rfl) (by kernel_rfl) (by kernel_rfl) rfl (fun _ _ _ h => h) (fun _ _ => ex_index 2 rfl rfl rfl hlt Try.underlying22 szPr) (by exact hS) ?_
                        simp only [Act.put, List.setIfInBounds_toArray, List.set_cons_succ, List.set_cons_zero]
                        refine wpAnyH_take_d 13 (some 77) (.pointer (some ⟨pb, poff + k * 2 + 1, none⟩)) rfl (by kernel_rfl) (by kernel_rfl) (by kernel_rfl) (by kernel_rfl) rfl (fun _ _ _ h => h) (fun _ _ => by kernel_rfl) (by exact hS) ?_
                        simp only [Act.put, List.setIfInBounds_toArray, List.set_cons_succ, List.set_cons_zero]
                        refine wpAnyH_take_d 14 (some 78) (.string xv) rfl (by kernel_rfl) (by kernel_rfl) (by kernel_rfl) (by kernel_rfl) rfl (fun _ _ _ h => h) (fun w' h => exec_load_cell rfl rfl (D2.out _ h) Try.underlying9 rfl) (by exact hS) ?_
                        simp only [Act.put, List.setIfInBounds_toArray, List.set_cons_succ, List.set_cons_zero]
                        refine wpAnyH_take_d 15 (some 79) (.int .i64 xv.size) rfl (by kernel_rfl) (by kernel_rfl) (by kernel_rfl) (by kernel_rfl) rfl (fun _ _ _ h => h) (fun _ _ => ex_slen rfl rfl Try.underlying9) (by exact hS) ?_
                        simp only [Act.put, List.setIfInBounds_toArray, List.set_cons_succ, List.set_cons_zero]
                        refine wpAnyH_take_d 16 (some 80) (.bool false) rfl (by kernel_rfl) (by kernel_rfl) (by kernel_rfl) (by kernel_rfl) rfl (fun _ _ _ h => h) (fun _ _ => ex_gt rfl rfl rfl g2) (by exact hS) ?_
                        simp only [Act.put, List.setIfInBounds_toArray, List.set_cons_succ, List.set_cons_zero]
                        refine wpAnyH_take_d 17 (some 81) (.bool false) rfl (by kernel_rfl) (by kernel_rfl) (by kernel_rfl) (by kernel_rfl) rfl (fun _ _ _ h => h) (fun _ _ => by kernel_rfl) (by exact hS) ?_
                        simp only [Act.put, List.setIfInBounds_toArray, List.set_cons_succ, List.set_cons_zero]
                        refine wpAnyH_take_d 18 (some 82) (.bool false) rfl (by kernel_rfl) (by kernel_rfl) (by kernel_rfl) (by kernel_rfl) rfl (fun _ _ _ h => h) (fun _ _ => by kernel_rfl) (by exact hS) ?_
                        simp only [Act.put, List.setIfInBounds_toArray, List.set_cons_succ, List.set_cons_zero]
                        refine wpAnyH_take_d 19 (some 83) (.int .i64 k) rfl (by kernel_rfl) (by kernel_rfl) (by kernel_rfl) (by kernel_rfl) rfl (fun _ _ _ h => h) (fun _ _ => by kernel_rfl) (by exact hS) ?_
                        simp only [Act.put, List.setIfInBounds_toArray, List.set_cons_succ, List.set_cons_zero]
                        refine wpAnyH_take_d 20 (some 84) (.bool true) rfl (by kernel_rfl) (by kernel_rfl) (by kernel_rfl) (by kernel_rfl) rfl (fun _ _ _ h => h) (fun _ _ => ex_gt rfl rfl rfl g3) (by exact hS) ?_
                        simp only [Act.put, List.setIfInBounds_toArray, List.set_cons_succ, List.set_cons_zero]
                        refine wpAnyH_take_d 21 (some 85) (.bool true) rfl (by kernel_rfl) (by kernel_rfl) (by kernel_rfl) (by kernel_rfl) rfl (fun _ _ _ h => h) (fun _ _ => by kernel_rfl) (by exact hS) ?_
                        simp only [Act.put, List.setIfInBounds_toArray, List.set_cons_succ, List.set_cons_zero]
                        refine wpAnyH_take_d 22 (some 86) (.pointer (some ⟨w.heap.size, 1, none⟩)) rfl (by kernel_rfl) (by kernel_rfl) (by kernel_rfl) (by kernel_rfl) rfl (fun _ _ _ h => h) (fun _ _ => by kernel_rfl) (by exact hS) ?_
                        simp only [Act.put, List.setIfInBounds_toArray, List.set_cons_succ, List.set_cons_zero]
                        refine wpAnyH_take_d 23 (some 87) (.slice (some ⟨pb, poff, none⟩) pm pc) rfl (by kernel_rfl) (by kernel_rfl) (by kernel_rfl) (by kernel_rfl) rfl (fun _ _ _ h => h) (fun w' h => exec_load_cell rfl rfl (BR.out _ h).c1 Try.underlying22 rfl) (by exact hS) ?_
                        simp only [Act.put, List.setIfInBounds_toArray, List.set_cons_succ, List.set_cons_zero]
                        refine wpAnyH_take_d 24 (some 88) (.int .i64 k) rfl (by kernel_rfl) (by kernel_rfl) (by kernel_rfl) (by kernel_rfl) rfl (fun _ _ _ h => h) (fun _ _ => by kernel_rfl) (by exact hS) ?_
                        simp only [Act.put, List.setIfInBounds_toArray, List.set_cons_succ, List.set_cons_zero]
                        refine wpAnyH_take_d 25 (some 89) (.int .i64 (k - 1 : Nat)) rfl (by kernel_rfl) (by kernel_rfl) (by kernel_rfl) (by kernel_rfl) rfl (fun _ _ _ h => h) (fun _ _ => ex_sub rfl rfl rfl hw) (by exact hS) ?_
                        simp only [Act.put, List.setIfInBounds_toArray, List.set_cons_succ, List.set_cons_zero]
                        refine wpAnyH_take_d 26 (some 90) (.pointer (some ⟨pb, poff + (k - 1) * 2, none⟩)) rfl (by kernel_rfl) (by kernel_rfl) (by kernel_rfl) (by kernel_rfl) rfl (fun _ _ _ h => h) (fun _ _ => ex_index 2 rfl rfl rfl hlt1 Try.underlying22 szPr) (by exact hS) ?_
                        simp only [Act.put, List.setIfInBounds_toArray, List.set_cons_succ, List.set_cons_zero]
                        refine wpAnyH_take_d 27 (some 91) (.pointer (some ⟨pb, poff + (k - 1) * 2, none⟩)) rfl (by kernel_rfl) (by kernel_rfl) (by kernel_rfl) (by kernel_rfl) rfl (fun _ _ _ h => h) (fun _ _ => by kernel_rfl) (by exact hS) ?_
                        simp only [Act.put, List.setIfInBounds_toArray, List.set_cons_succ, List.set_cons_zero]
                        refine wpAnyH_take_d 28 (some 92) (.string yk) rfl (by kernel_rfl) (by kernel_rfl) (by kernel_rfl) (by kernel_rfl) rfl (fun _ _ _ h => h) (fun w' h => exec_load_cell rfl rfl (E1.out _ h) Try.underlying9 rfl) (by exact hS) ?_
                        simp only [Act.put, List.setIfInBounds_toArray, List.set_cons_succ, List.set_cons_zero]
                        refine wpAnyH_take_d 29 (some 93) (.pointer (some ⟨w.heap.size, 1, none⟩)) rfl (by kernel_rfl) (by kernel_rfl) (by kernel_rfl) (by kernel_rfl) rfl (fun _ _ _ h => h) (fun _ _ => by kernel_rfl) (by exact hS) ?_
                        simp only [Act.put, List.setIfInBounds_toArray, List.set_cons_succ, List.set_cons_zero]
                        refine wpAnyH_take_d 30 (some 94) (.slice (some ⟨pb, poff, none⟩) pm pc) rfl (by kernel_rfl) (by kernel_rfl) (by kernel_rfl) (by kernel_rfl) rfl (fun _ _ _ h => h) (fun w' h => exec_load_cell rfl rfl (BR.out _ h).c1 Try.underlying22 rfl) (by exact hS) ?_
                        simp only [Act.put, List.setIfInBounds_toArray, List.set_cons_succ, List.set_cons_zero]
                        refine wpAnyH_take_d 31 (some 95) (.int .i64 k) rfl (by kernel_rfl) (by kernel_rfl) (by kernel_rfl) (by kernel_rfl) rfl (fun _ _ _ h => h) (fun _ _ => by kernel_rfl) (by exact hS) ?_
                        simp only [Act.put, List.setIfInBounds_toArray, List.set_cons_succ, List.set_cons_zero]
                        refine wpAnyH_take_d 32 (some 96) (.pointer (some ⟨pb, poff + k * 2, none⟩)) rfl (by kernel_rfl) (by kernel_rfl) (by kernel_rfl) (by kernel_rfl) rfl (fun _ _ _ h => h) (fun _ _ => ex_index 2 rfl rfl rfl hlt Try.underlying22 szPr) (by exact hS) ?_
                        simp only [Act.put, List.setIfInBounds_toArray, List.set_cons_succ, List.set_cons_zero]
                        refine wpAnyH_take_d 33 (some 97) (.pointer (some ⟨pb, poff + k * 2, none⟩)) rfl (by kernel_rfl) (by kernel_rfl) (by kernel_rfl) (by kernel_rfl) rfl (fun _ _ _ h => h) (fun _ _ => by kernel_rfl) (by exact hS) ?_
                        simp only [Act.put, List.setIfInBounds_toArray, List.set_cons_succ, List.set_cons_zero]
                        refine wpAnyH_take_d 34 (some 98) (.string xk) rfl (by kernel_rfl) (by kernel_rfl) (by kernel_rfl) (by kernel_rfl) rfl (fun _ _ _ h => h) (fun w' h => exec_load_cell rfl rfl (D1.out _ h) Try.underlying9 rfl) (by exact hS) ?_
                        simp only [Act.put, List.setIfInBounds_toArray, List.set_cons_succ, List.set_cons_zero]
                        refine wpAnyH_take_d 35 (some 99) (.bool false) rfl (by kernel_rfl) (by kernel_rfl) (by kernel_rfl) (by kernel_rfl) rfl (fun _ _ _ h => h) (fun _ _ => ex_sge rfl rfl rfl hge) (by exact hS) ?_
                        simp only [Act.put, List.setIfInBounds_toArray, List.set_cons_succ, List.set_cons_zero]
                        refine wpAnyH_take_d 36 (some 100) (.bool false) rfl (by kernel_rfl) (by kernel_rfl) (by kernel_rfl) (by kernel_rfl) rfl (fun _ _ _ h => h) (fun _ _ => by kernel_rfl) (by exact hS) ?_
                        simp only [Act.put, List.setIfInBounds_toArray, List.set_cons_succ, List.set_cons_zero]
                        refine wpAnyH_take_d 37 (some 101) (.bool false) rfl (by kernel_rfl) (by kernel_rfl) (by kernel_rfl) (by kernel_rfl) rfl (fun _ _ _ h => h) (fun _ _ => by kernel_rfl) (by exact hS) ?_
                        simp only [Act.put, List.setIfInBounds_toArray, List.set_cons_succ, List.set_cons_zero]
                        refine wpAnyH_done (by kernel_rfl) ?_ _
                        have hb := hS
                        clear hS
                        go_wp2
                        go_roundw
                        case rel => exact ⟨k + 1, by omega, by go_num, HF, hb⟩
                        case measure => simp [intOf]; omega
                  · have g2 : decide ((48 : Int) < (xv.size : Int)) = true := by simp only [decide_eq_true_eq] at g2' ⊢; omega
                    have HF := Lib.hid (alt_false3 (TV.out g2'))
                    clear hra hK g2'
                    go_wp2_with fail
                    have hS := SBd _ hb
                    refine wp_region_held_drew (S := SB) mixed hS (fun _ => ?_)
                    show wpAnyH _ _ _ _ _ 38 (Array.replicate 38 false) _ _
                    refine wpAnyH_take_d 0 (some 64) (.pointer (some ⟨w.heap.size, 1, none⟩)) rfl (by kernel_rfl) (by kernel_rfl) (by kernel_rfl) (by kernel_rfl) rfl (fun _ _ _ h => h) (fun _ _ => by kernel_rfl) (by exact hS) ?_
                    simp only [Act.put, List.setIfInBounds_toArray, List.set_cons_succ, List.set_cons_zero]
                    refine wpAnyH_take_d 1 (some 65) (.slice (some ⟨pb, poff, none⟩) pm pc) rfl (by kernel_rfl) (by kernel_rfl) (by kernel_rfl) (by kernel_rfl) rfl (fun _ _ _ h => h) (fun w' h => exec_load_cell rfl rfl (BR.out _ h).c1 Try.underlying22 rfl) (by exact hS) ?_
                    simp only [Act.put, List.setIfInBounds_toArray, List.set_cons_succ, List.set_cons_zero]
                    refine wpAnyH_take_d 2 (some 66) (.int .i64 k) rfl (by kernel_rfl) (by kernel_rfl) (by kernel_rfl) (by kernel_rfl) rfl (fun _ _ _ h => h) (fun _ _ => by kernel_rfl) (by exact hS) ?_
                    simp only [Act.put, List.setIfInBounds_toArray, List.set_cons_succ, List.set_cons_zero]
                    refine wpAnyH_take_d 3 (some 67) (.pointer (some ⟨pb, poff + k * 2, none⟩)) rfl (by kernel_rfl) (by kernel_rfl) (by kernel_rfl) (by kernel_rfl) rfl (fun _ _ _ h => h) (fun _ _ => ex_index 2 rfl rfl rfl hlt Try.underlying22 szPr) (by exact hS) ?_
                    simp only [Act.put, List.setIfInBounds_toArray, List.set_cons_succ, List.set_cons_zero]
                    refine wpAnyH_take_d 4 (some 68) (.pointer (some ⟨pb, poff + k * 2, none⟩)) rfl (by kernel_rfl) (by kernel_rfl) (by kernel_rfl) (by kernel_rfl) rfl (fun _ _ _ h => h) (fun _ _ => by kernel_rfl) (by exact hS) ?_
                    simp only [Act.put, List.setIfInBounds_toArray, List.set_cons_succ, List.set_cons_zero]
                    refine wpAnyH_take_d 5 (some 69) (.string xk) rfl (by kernel_rfl) (by kernel_rfl) (by kernel_rfl) (by kernel_rfl) rfl (fun _ _ _ h => h) (fun w' h => exec_load_cell rfl rfl (D1.out _ h) Try.underlying9 rfl) (by exact hS) ?_
                    simp only [Act.put, List.setIfInBounds_toArray, List.set_cons_succ, List.set_cons_zero]
                    refine wpAnyH_call 6 (some 70) 34 #[.string xk] rfl (by kernel_rfl) (by kernel_rfl) rfl (by kernel_rfl) (KEY.out _) ?_
                    rintro e _ ⟨rfl, rfl⟩
                    refine ⟨_, rfl, hS, ?_⟩
                    simp only [Act.put, List.setIfInBounds_toArray, List.set_cons_succ, List.set_cons_zero]
                    refine wpAnyH_take_d 7 (some 71) (.bool false) rfl (by kernel_rfl) (by kernel_rfl) (by kernel_rfl) (by kernel_rfl) rfl (fun _ _ _ h => h) (fun _ _ => by kernel_rfl) (by exact hS) ?_
                    simp only [Act.put, List.setIfInBounds_toArray, List.set_cons_succ, List.set_cons_zero]
                    refine wpAnyH_take_d 8 (some 72) (.bool false) rfl (by kernel_rfl) (by kernel_rfl) (by kernel_rfl) (by kernel_rfl) rfl (fun _ _ _ h => h) (fun _ _ => by kernel_rfl) (by exact hS) ?_
                    simp only [Act.put, List.setIfInBounds_toArray, List.set_cons_succ, List.set_cons_zero]
                    refine wpAnyH_take_d 9 (some 73) (.pointer (some ⟨w.heap.size, 1, none⟩)) rfl (by kernel_rfl) (by kernel_rfl) (by kernel_rfl) (by kernel_rfl) rfl (fun _ _ _ h => h) (fun _ _ => by kernel_rfl) (by exact hS) ?_
                    simp only [Act.put, List.setIfInBounds_toArray, List.set_cons_succ, List.set_cons_zero]
                    refine wpAnyH_take_d 10 (some 74) (.slice (some ⟨pb, poff, none⟩) pm pc) rfl (by kernel_rfl) (by kernel_rfl) (by kernel_rfl) (by kernel_rfl) rfl (fun _ _ _ h => h) (fun w' h => exec_load_cell rfl rfl (BR.out _ h).c1 Try.underlying22 rfl) (by exact hS) ?_
                    simp only [Act.put, List.setIfInBounds_toArray, List.set_cons_succ, List.set_cons_zero]
                    refine wpAnyH_take_d 11 (some 75) (.int .i64 k) rfl (by kernel_rfl) (by kernel_rfl) (by kernel_rfl) (by kernel_rfl) rfl (fun _ _ _ h => h) (fun _ _ => by kernel_rfl) (by exact hS) ?_
                    simp only [Act.put, List.setIfInBounds_toArray, List.set_cons_succ, List.set_cons_zero]
                    refine wpAnyH_take_d 12 (some 76) (.pointer (some ⟨pb, poff + k * 2, none⟩)) rfl (by kernel_rfl) (by kernel_rfl) (by kernel_rfl) (by kernel_rfl) rfl (fun _ _ _ h => h) (fun _ _ => ex_index 2 rfl rfl rfl hlt Try.underlying22 szPr) (by exact hS) ?_
                    simp only [Act.put, List.setIfInBounds_toArray, List.set_cons_succ, List.set_cons_zero]
                    refine wpAnyH_take_d 13 (some 77) (.pointer (some ⟨pb, poff + k * 2 + 1, none⟩)) rfl (by kernel_rfl) (by kernel_rfl) (by kernel_rfl) (by kernel_rfl) rfl (fun _ _ _ h => h) (fun _ _ => by kernel_rfl) (by exact hS) ?_
                    simp only [Act.put, List.setIfInBounds_toArray, List.set_cons_succ, List.set_cons_zero]
                    refine wpAnyH_take_d 14 (some 78) (.string xv) rfl (by kernel_rfl) (by kernel_rfl) (by kernel_rfl) (by kernel_rfl) rfl (fun _ _ _ h => h) (fun w' h => exec_load_cell rfl rfl (D2.out _ h) Try.underlying9 rfl) (by exact hS) ?_
                    simp only [Act.put, List.setIfInBounds_toArray, List.set_cons_succ, List.set_cons_zero]
                    refine wpAnyH_take_d 15 (some 79) (.int .i64 xv.size) rfl (by kernel_rfl) (by kernel_rfl) (by kernel_rfl) (by kernel_rfl) rfl (fun _ _ _ h => h) (fun _ _ => ex_slen rfl rfl Try.underlying9) (by exact hS) ?_
                    simp only [Act.put, List.setIfInBounds_toArray, List.set_cons_succ, List.set_cons_zero]
                    refine wpAnyH_take_d 16 (some 80) (.bool true) rfl (by kernel_rfl) (by kernel_rfl) (by kernel_rfl) (by kernel_rfl) rfl (fun _ _ _ h => h) (fun _ _ => ex_gt rfl rfl rfl g2) (by exact hS) ?_
                    simp only [Act.put, List.setIfInBounds_toArray, List.set_cons_succ, List.set_cons_zero]
                    refine wpAnyH_take_d 17 (some 81) (.bool true) rfl (by kernel_rfl) (by kernel_rfl) (by kernel_rfl) (by kernel_rfl) rfl (fun _ _ _ h => h) (fun _ _ => by kernel_rfl) (by exact hS) ?_
                    simp only [Act.put, List.setIfInBounds_toArray, List.set_cons_succ, List.set_cons_zero]
                    refine wpAnyH_take_d 18 (some 82) (.bool true) rfl (by kernel_rfl) (by kernel_rfl) (by kernel_rfl) (by kernel_rfl) rfl (fun _ _ _ h => h) (fun _ _ => by kernel_rfl) (by exact hS) ?_
                    simp only [Act.put, List.setIfInBounds_toArray, List.set_cons_succ, List.set_cons_zero]
                    refine wpAnyH_skip_d 19 (some 83) rfl (by kernel_rfl) (by kernel_rfl) (by kernel_rfl) (by kernel_rfl) rfl (fun _ _ _ h => h) (by exact hS) ?_
                    simp only [Act.put, List.setIfInBounds_toArray, List.set_cons_succ, List.set_cons_zero]
                    refine wpAnyH_skip_d 20 (some 84) rfl (by kernel_rfl) (by kernel_rfl) (by kernel_rfl) (by kernel_rfl) rfl (fun _ _ _ h => h) (by exact hS) ?_
                    simp only [Act.put, List.setIfInBounds_toArray, List.set_cons_succ, List.set_cons_zero]
                    refine wpAnyH_skip_d 21 (some 85) rfl (by kernel_rfl) (by kernel_rfl) (by kernel_rfl) (by kernel_rfl) rfl (fun _ _ _ h => h) (by exact hS) ?_
                    simp only [Act.put, List.setIfInBounds_toArray, List.set_cons_succ, List.set_cons_zero]
                    refine wpAnyH_skip_d 22 (some 86) rfl (by kernel_rfl) (by kernel_rfl) (by kernel_rfl) (by kernel_rfl) rfl (fun _ _ _ h => h) (by exact hS) ?_
                    simp only [Act.put, List.setIfInBounds_toArray, List.set_cons_succ, List.set_cons_zero]
                    refine wpAnyH_skip_d 23 (some 87) rfl (by kernel_rfl) (by kernel_rfl) (by kernel_rfl) (by kernel_rfl) rfl (fun _ _ _ h => h) (by exact hS) ?_
                    simp only [Act.put, List.setIfInBounds_toArray, List.set_cons_succ, List.set_cons_zero]
                    refine wpAnyH_skip_d 24 (some 88) rfl (by kernel_rfl) (by kernel_rfl) (by kernel_rfl) (by kernel_rfl) rfl (fun _ _ _ h => h) (by exact hS) ?_
                    simp only [Act.put, List.setIfInBounds_toArray, List.set_cons_succ, List.set_cons_zero]
                    refine wpAnyH_skip_d 25 (some 89) rfl (by kernel_rfl) (by kernel_rfl) (by kernel_rfl) (by kernel_rfl) rfl (fun _ _ _ h => h) (by exact hS) ?_
                    simp only [Act.put, List.setIfInBounds_toArray, List.set_cons_succ, List.set_cons_zero]
                    refine wpAnyH_skip_d 26 (some 90) rfl (by kernel_rfl) (by kernel_rfl) (by kernel_rfl) (by kernel_rfl) rfl (fun _ _ _ h => h) (by exact hS) ?_
                    simp only [Act.put, List.setIfInBounds_toArray, List.set_cons_succ, List.set_cons_zero]
                    refine wpAnyH_skip_d 27 (some 91) rfl (by kernel_rfl) (by kernel_rfl) (by kernel_rfl) (by kernel_rfl) rfl (fun _ _ _ h => h) (by exact hS) ?_
                    simp only [Act.put, List.setIfInBounds_toArray, List.set_cons_succ, List.set_cons_zero]
                    refine wpAnyH_skip_d 28 (some 92) rfl (by kernel_rfl) (by kernel_rfl) (by kernel_rfl) (by kernel_rfl) rfl (fun _ _ _ h => h) (by exact hS) ?_
                    simp only [Act.put, List.setIfInBounds_toArray, List.set_cons_succ, List.set_cons_zero]
                    refine wpAnyH_skip_d 29 (some 93) rfl (by kernel_rfl) (by kernel_rfl) (by kernel_rfl) (by kernel_rfl) rfl (fun _ _ _ h => h) (by exact hS) ?_
                    simp only [Act.put, List.setIfInBounds_toArray, List.set_cons_succ, List.set_cons_zero]
                    refine wpAnyH_skip_d 30 (some 94) rfl (by kernel_rfl) (by kernel_rfl) (by kernel_rfl) (by kernel_rfl) rfl (fun _ _ _ h => h) (by exact hS) ?_
                    simp only [Act.put, List.setIfInBounds_toArray, List.set_cons_succ, List.set_cons_zero]
                    refine wpAnyH_skip_d 31 (some 95) rfl (by kernel_rfl) (by kernel_rfl) (by kernel_rfl) (by kernel_rfl) rfl (fun _ _ _ h => h) (by exact hS) ?_
                    simp only [Act.put, List.setIfInBounds_toArray, List.set_cons_succ, List.set_cons_zero]
                    refine wpAnyH_skip_d 32 (some 96) rfl (by kernel_rfl) (by kernel_rfl) (by kernel_rfl) (by kernel_rfl) rfl (fun _ _ _ h => h) (by exact hS) ?_
                    simp only [Act.put, List.setIfInBounds_toArray, List.set_cons_succ, List.set_cons_zero]
                    refine wpAnyH_skip_d 33 (some 97) rfl (by kernel_rfl) (by kernel_rfl) (by kernel_rfl) (by kernel_rfl) rfl (fun _ _ _ h => h) (by exact hS) ?_
                    simp only [Act.put, List.setIfInBounds_toArray, List.set_cons_succ, List.set_cons_zero]
                    refine wpAnyH_skip_d 34 (some 98) rfl (by kernel_rfl) (by kernel_rfl) (by kernel_rfl) (by kernel_rfl) rfl (fun _ _ _ h => h) (by exact hS) ?_
                    simp only [Act.put, List.setIfInBounds_toArray, List.set_cons_succ, List.set_cons_zero]
                    refine wpAnyH_skip_d 35 (some 99) rfl (by kernel_rfl) (by kernel_rfl) (by kernel_rfl) (by kernel_rfl) rfl (fun _ _ _ h => h) (by exact hS) ?_
                    simp only [Act.put, List.setIfInBounds_toArray, List.set_cons_succ, List.set_cons_zero]
                    refine wpAnyH_skip_d 36 (some 100) rfl (by kernel_rfl) (by kernel_rfl) (by kernel_rfl) (by kernel_rfl) rfl (fun _ _ _ h => h) (by exact hS) ?_
                    simp only [Act.put, List.setIfInBounds_toArray, List.set_cons_succ, List.set_cons_zero]
                    refine wpAnyH_take_d 37 (some 101) (.bool true) rfl (by kernel_rfl) (by kernel_rfl) (by kernel_rfl) (by kernel_rfl) rfl (fun _ _ _ h => h) (fun _ _ => by kernel_rfl) (by exact hS) ?_
                    simp only [Act.put, List.setIfInBounds_toArray, List.set_cons_succ, List.set_cons_zero]
                    refine wpAnyH_done (by kernel_rfl) ?_ _
                    have hb := hS
                    clear hS
                    go_wp2
                    go_ret
                    exact ⟨by rw [HF.out]; rfl, FIN.out _ hb⟩
              · have HRP := Lib.hid (show risB (ksOf n.ps) = true from risB_true (fun j hj => (hf.out j (by rw [ksOf_length, ← hpm.out] at hj; omega)).1))
                have HVP := Lib.hid (show okVs n.ps = true from okVs_true (fun j hj => (hf.out j (by rw [← hpm.out] at hj; omega)).2))
                clear hf
                go_wp2
                clear q0 q1 q2 q3
                go_loopw [4] (fun iv wr => ∃ k : Nat, k ≤ km ∧ iv = .int .i64 k ∧ Hid (∀ j, j < k → risAt n.ks j = true) ∧ SB wr) (fun iv _ => km - (intOf iv).toNat)
                case atStart => exact ⟨0, Nat.zero_le _, rfl, Lib.hid (fun j hj => by omega), hb⟩
                case round =>
                  obtain ⟨k, hk, rfl, hf, hb⟩ := hrel
                  obtain ⟨q0, q1, q2, q3⟩ := BR.out _ hb
                  by_cases hlt : k < km
                  · exact absurd hlt (by omega)
                  · have HRK := Lib.hid (show risB n.ks = true from risB_true (fun j hj => hf.out j (by rw [← hkm.out] at hj; omega)))
                    clear hf
                    go_wp2
                    clear q0 q1 q2 q3
                    go_loopw [5] (fun iv wr => ∃ k : Nat, k ≤ im ∧ iv = .int .i64 k ∧ Hid (∀ j, j < k → badI (n.is.getD j 0) = false) ∧ SB wr) (fun iv _ => im - (intOf iv).toNat)
                    case atStart => exact ⟨0, Nat.zero_le _, rfl, Lib.hid (fun j hj => by omega), hb⟩
                    case round =>
                      obtain ⟨k, hk, rfl, hf, hb⟩ := hrel
                      obtain ⟨q0, q1, q2, q3⟩ := BR.out _ hb
                      by_cases hlt : k < im
                      · exact absurd hlt (by omega)
                      · have HF := Lib.hid (show okN n = true by
                          rw [okN_alt, HSH.out, HRP.out, HVP.out, HRK.out, okIs_true (fun j hj => hf.out j (by rw [← him.out] at hj; omega))]; rfl)
                        clear hf
                        go_wp2
                        go_ret
                        exact ⟨by rw [HF.out]; rfl, FIN.out _ hb⟩
end Go.Proofs.Ytdkmfcmndncmcaa
