/- The contract of DecodePairs. No statement of the seat is proved here. -/
import Derived.Test.YtmkomhdlcbimoaaRPEnc
namespace Go.Proofs.Ytmkomhdlcbimoaa
set_option maxRecDepth 20000
open Go.RowKit

theorem exec_add {P : Program} {w : World} {ρ : Operand → Value} {o : Oper} {t t' : TypeId} {x y : Operand} {a b c : Int} (ho : o.op = .binOp .add t x y t') (hx : ρ x = .int .i64 a) (hy : ρ y = .int .i64 b) (h : IntKind.i64.wrap (a + b) = c) : (execOp ρ o).run P w = .ok (.value (.int .i64 c)) w := by
  subst h
  unfold execOp
  simp only [ho, hx, hy, Sem.run_bind]
  have e1 : (eqGuard .add t x y (.int .i64 a) (.int .i64 b)).run P w = .ok () w := by simp [eqGuard]
  have e2 : (binOp .add t (.int .i64 a) (.int .i64 b)).run P w = .ok (.int .i64 (IntKind.i64.wrap (a + b))) w := by simp [go_sem]
  rw [e1, Result.andThen_ok, e2]; rfl
def PRetE (base : Nat) (w : World) (n : Int) (l : List Pr) (er : Int) (e : Ending) (w' : World) : Prop := ∃ v', e = .returned (.tuple #[.int .i64 n, v', .int .i64 er]) ∧ OwnP base w' v' l ∧ Below base w w'
theorem prsOf_ok {it : List It} (h : ∀ x ∈ it, x.s.size ≤ 140737488355328) : ∀ x ∈ prsOf it, x.ok := by
  intro x hx
  unfold prsOf at hx
  obtain ⟨i, hi, rfl⟩ := List.mem_map.1 hx
  have hi := List.mem_range.1 hi
  exact ⟨h _ (itAt_mem (by omega)), h _ (itAt_mem (by omega))⟩
theorem encE_short {it : List It} (h : encE it = 0) : it.length ≤ 4000 ∧ ∀ x ∈ it, x.s.size ≤ 140737488355328 := by
  obtain ⟨h1, h2⟩ := encE_ok h
  unfold bigB at h1
  rw [Bool.or_eq_false_iff] at h1
  refine ⟨by have := h1.1; simpa using this, fun x hx => ?_⟩
  have := form_size (List.all_eq_true.1 h2 x hx) (by have := List.any_eq_false.1 h1.2 x hx; simpa using this)
  omega
theorem prsOf_succ (it : List It) (k : Nat) (h : k < (it.length - 2) / 2) : (prsOf it).take (k + 1) = (prsOf it).take k ++ [⟨(itAt it (2 * k + 2)).s, (itAt it (2 * k + 2 + 1)).s⟩] := by
  have hl : k < (prsOf it).length := by rw [prsOf_length]; exact h
  rw [List.take_succ_eq_append_getElem hl]
  have := prsOf_at it k h
  unfold prAt at this
  rw [List.getD_eq_getElem?_getD, List.getElem?_eq_getElem hl] at this
  simp only [Option.getD_some] at this
  rw [this]
set_option maxRecDepth 20000 in
set_option maxHeartbeats 3200000 in
theorem decodePairs_any {w : World} {v : Value} {bs : List UInt8} (h : ByC w v bs) (hcap : capOk v) (hlen : bs.length ≤ 140737488355328) : Calls Try.prog 26 #[v] w (PRetE w.heap.size w (pdecN bs) (pdecL bs) (pdecE bs)) := by
  have hu := unseal_any h hcap hlen
  obtain ⟨ao, m, cap, hv, hm⟩ : ∃ ao m cap, v = .slice ao m cap ∧ Hid (m = bs.length) := by
    obtain ⟨ao, cap, hv, _⟩ := h
    exact ⟨ao, _, cap, hv, Lib.hid rfl⟩
  subst hv
  by_cases c0 : unsE bs = 0
  · rw [c0] at hu
    obtain ⟨u1, u2, u3⟩ := unsE_zero c0
    obtain ⟨s1, s2⟩ := encE_short u1
    have e1 : pdecE bs = if pdecOk (unsR bs) then 0 else 2 := by unfold pdecE; rw [if_neg (by simpa using c0)]
    have eN : pdecN bs = if pdecOk (unsR bs) then (itAt (unsR bs) 1).n else 0 := by unfold pdecN; rw [e1]; cases pdecOk (unsR bs) <;> rfl
    have eL : pdecL bs = if pdecOk (unsR bs) then prsOf (unsR bs) else [] := by unfold pdecL; rw [e1]; cases pdecOk (unsR bs) <;> rfl
    rw [e1, eN, eL]
    clear e1 eN eL c0 u2
    generalize unsR bs = it at *
    have U3 := Lib.hid u3
    have S2 := Lib.hid s2
    have HSH : Hid (∀ w v, ItemsAt w.heap.size w v it → Calls Try.prog 47 #[v, .int .i64 4, .int .i64 2] w fun e w' => e = .returned (.bool (shapeB it 4 2)) ∧ Below w.heap.size w w') := Lib.hid fun w v h => shaped_any h 4 2 (by decide) (by decide)
    clear u3 s2 u1
    cases hs : shapeB it 4 2
    · have e3 : pdecOk it = false := by unfold pdecOk pshB; rw [hs]; rfl
      rw [e3]
      rw [hs] at HSH
      clear e3 hs
      go_enter Try.func26, Try.ntmps26
      go_wp2_with fail
      refine Calls.mono hu ?_
      rintro e w1 ⟨v1, rfl, h1, b1⟩
      have hsh := HSH.out _ _ (h1.items U3.out)
      obtain ⟨ao1, m1, cap1, hv1, hm1⟩ := h1.form'
      subst hv1
      clear hu h1
      go_wp2_with fail
      refine Calls.mono hsh ?_
      rintro e w2 ⟨rfl, b2⟩
      clear hsh
      go_wp2
      go_ret3
      exact ⟨_, rfl, OwnP.nil _ _, b1.trans (b2.mono b1.size)⟩
    · rw [hs] at HSH
      by_cases hev : it.length % 2 = 0
      · have hl2 : 2 ≤ it.length := by
          unfold shapeB at hs
          simp only [Bool.and_eq_true, decide_eq_true_eq] at hs
          exact hs.1.1
        have e3 : pdecOk it = (!(bigP (prsOf it)) && okP (itAt it 1).n (prsOf it)) := by unfold pdecOk pshB; rw [hs, decide_eq_true hev]; rfl
        rw [e3]
        have hpo := Lib.hid (prsOf_ok S2.out)
        clear e3 hs
        have HPOST : Hid (∀ e w', (∃ v', e = .returned (.tuple #[.int .i64 (if (!(bigP (prsOf it)) && okP (itAt it 1).n (prsOf it)) = true then (itAt it 1).n else 0), v', .int .i64 (if (!(bigP (prsOf it)) && okP (itAt it 1).n (prsOf it)) = true then 0 else 2)]) ∧ OwnP w.heap.size w' v' (if (!(bigP (prsOf it)) && okP (itAt it 1).n (prsOf it)) = true then prsOf it else []) ∧ Below w.heap.size w w') → PRetE w.heap.size w (if (!(bigP (prsOf it)) && okP (itAt it 1).n (prsOf it)) = true then (itAt it 1).n else 0) (if (!(bigP (prsOf it)) && okP (itAt it 1).n (prsOf it)) = true then prsOf it else []) (if (!(bigP (prsOf it)) && okP (itAt it 1).n (prsOf it)) = true then 0 else 2) e w') := Lib.hid fun e w' h => h
        generalize PRetE w.heap.size w (if (!(bigP (prsOf it)) && okP (itAt it 1).n (prsOf it)) = true then (itAt it 1).n else 0) (if (!(bigP (prsOf it)) && okP (itAt it 1).n (prsOf it)) = true then prsOf it else []) (if (!(bigP (prsOf it)) && okP (itAt it 1).n (prsOf it)) = true then 0 else 2) = POST at HPOST ⊢
        go_enter Try.func26, Try.ntmps26
        go_wp2_with fail
        refine Calls.mono hu ?_
        rintro e w1 ⟨v1, rfl, h1, b1⟩
        have hsh := HSH.out _ _ (h1.items U3.out)
        obtain ⟨ao1, cap1, hv1, hc1, hl1, -, hcells⟩ := h1.items U3.out
        obtain ⟨b, off, rfl, hB, hc⟩ := hcells (by omega)
        generalize hM : it.length = M at *
        subst hv1
        have hrem : ((M : Int) % 2 != 0) = false := by simp; omega
        clear hu h1 hcells
        go_wp2_with fail
        refine Calls.mono hsh ?_
        rintro e w2 ⟨rfl, b2⟩
        have B2 := b1.trans (b2.mono b1.size)
        have hB2 : b < w2.heap.size := Nat.lt_of_lt_of_le hB b2.size
        have hcN : w2.cell? ⟨b, off + 1 * 3 + 1, none⟩ = some (.int .i64 (itAt it 1).n) := (b2.cell hB).trans (hc 1 (by omega)).2.1
        have hcS : Hid (∀ i, i < M → w2.cell? ⟨b, off + i * 3 + 2, none⟩ = some (.string (itAt it i).s)) := Lib.hid fun i hi => (b2.cell hB).trans (hc i hi).2.2
        clear hsh hc
        go_wp2
        go_loopw [7, 8] (fun lv iv wr => ∃ k : Nat, k ≤ (M - 2) / 2 ∧ iv = .int .i64 ((2 * k + 2 : Nat) : Int) ∧ OwnP w2.heap.size wr lv ((prsOf it).take k) ∧ Below w2.heap.size w2 wr) (fun _ iv _ => M - (intOf iv).toNat)
        case atStart => exact ⟨0, Nat.zero_le _, rfl, OwnP.nil _ _, Below.refl _ _⟩
        case round =>
          obtain ⟨k, hk, rfl, ho, hb⟩ := hrel
          obtain ⟨lo, lm, lc, hlv, hlm⟩ := ho.form'
          subst hlv
          by_cases hlt : k < (M - 2) / 2
          · have hq : ((2 * k + 2 : Nat) : Int) < (M : Int) := by omega
            have d1 := hcS.out (2 * k + 2) (by omega)
            have d2 := hcS.out (2 * k + 2 + 1) (by omega)
            have hN := Lib.hid (prsOf_succ it k (by rw [hM]; exact hlt))
            have x1 : (itAt it (2 * k + 2)).s.size ≤ 140737488355328 := S2.out _ (itAt_mem (by omega))
            have x2 : (itAt it (2 * k + 2 + 1)).s.size ≤ 140737488355328 := S2.out _ (itAt_mem (by omega))
            have hsz : ((prsOf it).take k).length ≤ 4000 := by rw [List.length_take, prsOf_length]; omega
            generalize (itAt it (2 * k + 2)).s = xk at d1 hN x1
            generalize (itAt it (2 * k + 2 + 1)).s = xv at d2 hN x2
            generalize (prsOf it).take k = L at ho hN hsz
            have hk4 : 2 * k + 2 + 1 < M := by omega
            have hkk : 2 * k + 2 < M := by omega
            have hax : IntKind.i64.wrap (((2 * k + 2 : Nat) : Int) + 1) = ((2 * k + 2 + 1 : Nat) : Int) := by rw [IntKind.wrap_i64]; omega
            have hnx : IntKind.i64.wrap (((2 * k + 2 : Nat) : Int) + 2) = ((2 * (k + 1) + 2 : Nat) : Int) := by rw [IntKind.wrap_i64]; omega
            clear hcS hrem hcN
            go_wp2_with fail
            have hS : Below w2.heap.size w2 wr.drew := hb.drew
            have o0 := ho.below ((Below.refl wr.heap.size wr).drew)
            refine wp_region_held_drew (S := fun w' => Below w2.heap.size w2 w') mixed hS (fun _ => ?_)
            show wpAnyH _ _ _ _ _ 16 (Array.replicate 16 false) _ _
            refine wpAnyH_take_d 0 (some 33) (.slice lo lm lc) rfl (by kernel_rfl) (by kernel_rfl) (by kernel_rfl) (by kernel_rfl) rfl (fun _ _ _ h => h) (fun _ _ => by kernel_rfl) (by exact hS) ?_
            simp only [Act.put, List.setIfInBounds_toArray, List.set_cons_succ, List.set_cons_zero]
            refine wpAnyH_take_d 1 (some 34) (.slice (some ⟨b, off, none⟩) M cap1) rfl (by kernel_rfl) (by kernel_rfl) (by kernel_rfl) (by kernel_rfl) rfl (fun _ _ _ h => h) (fun _ _ => by kernel_rfl) (by exact hS) ?_
            simp only [Act.put, List.setIfInBounds_toArray, List.set_cons_succ, List.set_cons_zero]
            refine wpAnyH_take_d 2 (some 35) (.int .i64 ((2 * k + 2 : Nat) : Int)) rfl (by kernel_rfl) (by kernel_rfl) (by kernel_rfl) (by kernel_rfl) rfl (fun _ _ _ h => h) (fun _ _ => by kernel_rfl) (by exact hS) ?_
            simp only [Act.put, List.setIfInBounds_toArray, List.set_cons_succ, List.set_cons_zero]
            refine wpAnyH_take_d 3 (some 36) (.pointer (some ⟨b, off + (2 * k + 2) * 3, none⟩)) rfl (by kernel_rfl) (by kernel_rfl) (by kernel_rfl) (by kernel_rfl) rfl (fun _ _ _ h => h) (fun w' h => exec_indexAddr3r rfl rfl rfl hkk Try.underlying74 szItemR) (by exact hS) ?_
            simp only [Act.put, List.setIfInBounds_toArray, List.set_cons_succ, List.set_cons_zero]
            refine wpAnyH_take_d 4 (some 37) (.pointer (some ⟨b, off + (2 * k + 2) * 3 + 2, none⟩)) rfl (by kernel_rfl) (by kernel_rfl) (by kernel_rfl) (by kernel_rfl) rfl (fun _ _ _ h => h) (fun _ _ => by kernel_rfl) (by exact hS) ?_
            simp only [Act.put, List.setIfInBounds_toArray, List.set_cons_succ, List.set_cons_zero]
            refine wpAnyH_take_d 5 (some 38) (.string xk) rfl (by kernel_rfl) (by kernel_rfl) (by kernel_rfl) (by kernel_rfl) rfl (fun _ _ _ h => h) (fun w' h => exec_load_cell rfl rfl ((h.cell hB2).trans d1) Try.underlying9 rfl) (by exact hS) ?_
            simp only [Act.put, List.setIfInBounds_toArray, List.set_cons_succ, List.set_cons_zero]
            refine wpAnyH_take_d 6 (some 39) (.slice (some ⟨b, off, none⟩) M cap1) rfl (by kernel_rfl) (by kernel_rfl) (by kernel_rfl) (by kernel_rfl) rfl (fun _ _ _ h => h) (fun _ _ => by kernel_rfl) (by exact hS) ?_
            simp only [Act.put, List.setIfInBounds_toArray, List.set_cons_succ, List.set_cons_zero]
            refine wpAnyH_take_d 7 (some 40) (.int .i64 ((2 * k + 2 : Nat) : Int)) rfl (by kernel_rfl) (by kernel_rfl) (by kernel_rfl) (by kernel_rfl) rfl (fun _ _ _ h => h) (fun _ _ => by kernel_rfl) (by exact hS) ?_
            simp only [Act.put, List.setIfInBounds_toArray, List.set_cons_succ, List.set_cons_zero]
            refine wpAnyH_take_d 8 (some 41) (.int .i64 ((2 * k + 2 + 1 : Nat) : Int)) rfl (by kernel_rfl) (by kernel_rfl) (by kernel_rfl) (by kernel_rfl) rfl (fun _ _ _ h => h) (fun w' h => exec_add rfl rfl rfl hax) (by exact hS) ?_
            simp only [Act.put, List.setIfInBounds_toArray, List.set_cons_succ, List.set_cons_zero]
            refine wpAnyH_take_d 9 (some 42) (.pointer (some ⟨b, off + (2 * k + 2 + 1) * 3, none⟩)) rfl (by kernel_rfl) (by kernel_rfl) (by kernel_rfl) (by kernel_rfl) rfl (fun _ _ _ h => h) (fun w' h => exec_indexAddr3r rfl rfl rfl hk4 Try.underlying74 szItemR) (by exact hS) ?_
            simp only [Act.put, List.setIfInBounds_toArray, List.set_cons_succ, List.set_cons_zero]
            refine wpAnyH_take_d 10 (some 43) (.pointer (some ⟨b, off + (2 * k + 2 + 1) * 3 + 2, none⟩)) rfl (by kernel_rfl) (by kernel_rfl) (by kernel_rfl) (by kernel_rfl) rfl (fun _ _ _ h => h) (fun _ _ => by kernel_rfl) (by exact hS) ?_
            simp only [Act.put, List.setIfInBounds_toArray, List.set_cons_succ, List.set_cons_zero]
            refine wpAnyH_take_d 11 (some 44) (.string xv) rfl (by kernel_rfl) (by kernel_rfl) (by kernel_rfl) (by kernel_rfl) rfl (fun _ _ _ h => h) (fun w' h => exec_load_cell rfl rfl ((h.cell hB2).trans d2) Try.underlying9 rfl) (by exact hS) ?_
            simp only [Act.put, List.setIfInBounds_toArray, List.set_cons_succ, List.set_cons_zero]
            refine wpAnyH_take_d 12 (some 45) (.agg #[.string xk, .string xv]) rfl (by kernel_rfl) (by kernel_rfl) (by kernel_rfl) (by kernel_rfl) rfl (fun _ _ _ h => h) (fun _ _ => by kernel_rfl) (by exact hS) ?_
            simp only [Act.put, List.setIfInBounds_toArray, List.set_cons_succ, List.set_cons_zero]
            generalize wr.drew = w4 at hS o0 ⊢
            have hbs := build_pairs_one w4 ⟨xk, xv⟩
            have hit := pairs_one w4 ⟨xk, xv⟩ ⟨x1, x2⟩
            have o5 := o0.alloc (.cells #[.string xk, .string xv] 66)
            have hS : Below w2.heap.size w2 (w4.alloc (.cells #[.string xk, .string xv] 66)) := hS.alloc hS.size _
            refine wpAnyH_one 13 (some 46) (.slice (some ⟨w4.heap.size, 0, none⟩) 1 1) rfl (by kernel_rfl) (by kernel_rfl) rfl (exec_b1 rfl rfl hbs) (by exact hS) ?_
            simp only [Act.put, List.setIfInBounds_toArray, List.set_cons_succ, List.set_cons_zero]
            obtain ⟨v7, w7, hr7, h7, b7, s7⟩ := own_append_pairs o5 hit (by simp; omega) hS.size 54
            have hS : Below w2.heap.size w2 w7 := hS.trans b7
            obtain ⟨ao7, m7, cap7, hv7, hm7⟩ := h7.form'
            subst hv7
            refine wpAnyH_one 14 (some 47) (.slice ao7 m7 cap7) rfl (by kernel_rfl) (by kernel_rfl) rfl (exec_append3 rfl rfl rfl hr7) (by exact hS) ?_
            simp only [Act.put, List.setIfInBounds_toArray, List.set_cons_succ, List.set_cons_zero]
            refine wpAnyH_take_d 15 (some 7) (.slice ao7 m7 cap7) rfl (by kernel_rfl) (by kernel_rfl) (by kernel_rfl) (by kernel_rfl) rfl (fun _ _ _ h => h) (fun _ _ => by kernel_rfl) (by exact hS) ?_
            simp only [Act.put, List.setIfInBounds_toArray, List.set_cons_succ, List.set_cons_zero]
            refine wpAnyH_done (by kernel_rfl) ?_ _
            go_wp2
            go_roundw
            case rel => exact ⟨k + 1, by omega, by rw [← hnx]; first | rfl | go_num, by rw [hN.out]; exact h7, hS⟩
            case measure => simp [intOf]; omega
          · have hq : ¬ ((2 * k + 2 : Nat) : Int) < (M : Int) := by omega
            rw [List.take_of_length_le (by rw [prsOf_length]; omega)] at ho
            have cN := (hb.cell hB2).trans hcN
            have B3 := B2.trans (hb.mono B2.size)
            have hbig := bigPairs_any (ho.pairs hpo.out)
            have hfo := fun w' (hw : Below wr.heap.size wr w') => formedPairs_any (((ho.below hw).pairs hpo.out)) (itAt it 1).n
            have ho' := ho.base B2.size
            have h1M : (1 : Nat) < M := by omega
            generalize (itAt it 1).n = n at *
            generalize prsOf it = L at *
            have HFO := Lib.hid hfo
            clear hfo ho hcS hrem hcN
            cases hB : bigP L
            · rw [hB] at hbig
              cases hO : okP n L
              · have HP := Lib.hid HPOST.out
                rw [hB, hO] at HP
                rw [hO] at HFO
                clear HPOST hB hO
                go_wp2_with fail
                refine Calls.mono hbig ?_
                rintro e w4 ⟨rfl, b4⟩
                have hf := HFO.out w4 b4
                clear hbig
                go_wp2_with fail
                refine Calls.mono hf ?_
                rintro e w5 ⟨rfl, b5⟩
                clear hf
                go_wp2
                have B4 := B3.trans (b4.mono B3.size)
                exact HP.out _ _ ⟨_, rfl, OwnP.nil _ _, B4.trans (b5.mono B4.size)⟩
              · have HP := Lib.hid HPOST.out
                rw [hB, hO] at HP
                rw [hO] at HFO
                clear HPOST hB hO
                go_wp2_with fail
                refine Calls.mono hbig ?_
                rintro e w4 ⟨rfl, b4⟩
                have hf := HFO.out w4 b4
                clear hbig
                go_wp2_with fail
                refine Calls.mono hf ?_
                rintro e w5 ⟨rfl, b5⟩
                clear hf
                go_wp2
                have B4 := B3.trans (b4.mono B3.size)
                exact HP.out _ _ ⟨_, rfl, (ho'.below b4).below b5, B4.trans (b5.mono B4.size)⟩
            · rw [hB] at hbig
              have HP := Lib.hid HPOST.out
              rw [hB] at HP
              clear HPOST hB
              go_wp2_with fail
              refine Calls.mono hbig ?_
              rintro e w4 ⟨rfl, b4⟩
              clear hbig
              go_wp2
              exact HP.out _ _ ⟨_, rfl, OwnP.nil _ _, B3.trans (b4.mono B3.size)⟩
      · have e3 : pdecOk it = false := by unfold pdecOk pshB; rw [decide_eq_false hev]; simp
        rw [e3]
        clear e3 hs
        go_enter Try.func26, Try.ntmps26
        go_wp2_with fail
        refine Calls.mono hu ?_
        rintro e w1 ⟨v1, rfl, h1, b1⟩
        have hsh := HSH.out _ _ (h1.items U3.out)
        obtain ⟨ao1, m1, cap1, hv1, hm1⟩ := h1.form'
        subst hv1
        have hrem : ((m1 : Int) % 2 != 0) = true := by
          have := hm1.out
          simp; omega
        have hml : m1 ≤ 4000 := by have := hm1.out; omega
        clear hu h1
        go_wp2_with fail
        refine Calls.mono hsh ?_
        rintro e w2 ⟨rfl, b2⟩
        clear hsh
        go_wp2
        go_ret3
        exact ⟨_, rfl, OwnP.nil _ _, b1.trans (b2.mono b1.size)⟩
  · have e1 : pdecE bs = unsE bs := by unfold pdecE; rw [if_pos c0]
    have eN : pdecN bs = 0 := by unfold pdecN; rw [e1, if_neg c0]
    have eL : pdecL bs = [] := by unfold pdecL; rw [e1, if_neg c0]
    rw [e1, eN, eL]
    have hq : (unsE bs != 0) = true := by simpa using c0
    generalize unsE bs = E at hq hu
    clear e1 eN eL c0
    go_enter Try.func26, Try.ntmps26
    go_wp2_with fail
    refine Calls.mono hu ?_
    rintro e w1 ⟨v1, rfl, h1, b1⟩
    obtain ⟨ao1, m1, cap1, hv1, hm1⟩ := h1.form'
    subst hv1
    clear hu h1
    go_wp2
    go_ret3
    exact ⟨_, rfl, OwnP.nil _ _, b1⟩
end Go.Proofs.Ytmkomhdlcbimoaa
