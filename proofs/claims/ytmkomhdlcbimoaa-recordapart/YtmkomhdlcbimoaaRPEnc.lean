/- The contract of EncodePairs. No statement of the seat is proved here. -/
import Derived.Test.YtmkomhdlcbimoaaRPMath
namespace Go.Proofs.Ytmkomhdlcbimoaa
set_option maxRecDepth 20000
open Go.RowKit

theorem own_append_items2 {base : Nat} {w : World} {v : Value} {l : List It} (h : OwnI base w v l) {B : Nat} {x : Value} {m : List It} (hx : ItemsAt B w x m) (hlen : (l.length + m.length) * 32 ≤ 140737488355328) (hb : base ≤ w.heap.size) (ty : TypeId) :
    ∃ v' w', (Builtin.append_ #[74, 74] ty #[v, x]).run Try.prog w = .ok v' w' ∧ OwnI base w' v' (l ++ m) ∧ Below base w w' ∧ w.heap.size ≤ w'.heap.size ∧ (∀ k : Nat, k < w.heap.size → some k ≠ v.ownBlock → w'.heap[k]? = w.heap[k]?) := by
  obtain ⟨i, hi, hi0, hi1, hi2⟩ := info50'
  obtain ⟨bo, c, hxv, hxc0, hxl, hxo, hxc⟩ := hx
  subst hxv
  by_cases h0 : 0 < m.length
  · obtain ⟨b', off', rfl, hB, hat⟩ := hxc h0
    obtain ⟨v', w', hr, ho, hgr, -, -⟩ := run_append_own_at (P := Try.prog) w base 74 ty 77 i _ 3 32 Try.underlying74 hi hi0 hi1 hi2 rfl (by decide) v l.length (cellsI l) h ⟨b', off', none⟩ m.length c (cellsI m) (cellsI_length m) (fun j u hu => by
        have hj : j < m.length * 3 := by have := (List.getElem?_eq_some_iff.1 hu).1; rwa [cellsI_length] at this
        rw [Addr.add_mid]
        obtain ⟨q1, q2, q3⟩ := hat (j / 3) (by omega)
        obtain ⟨p1, p2, p3⟩ := cellsI_get m (j / 3) (by omega)
        have hj3 : j % 3 = 0 ∨ j % 3 = 1 ∨ j % 3 = 2 := by omega
        rcases hj3 with e | e | e
        · have ej : j = j / 3 * 3 := by omega
          rw [ej] at hu ⊢
          rw [p1] at hu; rw [← hu]
          exact q1
        · have ej : j = j / 3 * 3 + 1 := by omega
          rw [ej] at hu ⊢
          rw [p2] at hu; rw [← hu, ← Nat.add_assoc]
          exact q2
        · have ej : j = j / 3 * 3 + 2 := by omega
          rw [ej] at hu ⊢
          rw [p3] at hu; rw [← hu, ← Nat.add_assoc]
          exact q3) (cellsI_one m) (by unfold maxLen; omega) (by omega) hb
    refine ⟨v', w', hr, ?_, (Below.refl _ _).grown hgr hb (fun k hk => (World.ownsRow.lt h k hk).1), hgr.size, hgr.block⟩
    unfold OwnI
    rw [List.length_append, cellsI_append]
    exact ho
  · have hcs : m = [] := List.eq_nil_of_length_eq_zero (by omega)
    subst hcs
    obtain ⟨ao, cap, hv, hc1, _⟩ := h.form
    subst hv
    refine ⟨_, w, run_append_none w 74 ty 77 Try.underlying74 i hi ao bo l.length cap c hc1, by rw [List.append_nil]; exact h, Below.refl _ _, Nat.le_refl _, fun _ _ _ => rfl⟩

theorem info_items : ∃ i, Try.prog.info? 77 = some i ∧ i.zero = some (.agg #[.int .i64 0, .int .i64 0, .string ByteArray.empty]) ∧ i.size = 3 ∧ i.bytes = 32 := info50'
theorem build_two (w : World) (s t : ByteArray) : (Instr.buildSlice 74 2 #[(0, .agg #[.int .i64 2, .int .i64 0, .string s]), (1, .agg #[.int .i64 2, .int .i64 0, .string t])]).run Try.prog w = .ok (.slice (some ⟨w.heap.size, 0, none⟩) 2 2) (w.alloc (.cells #[.int .i64 2, .int .i64 0, .string s, .int .i64 2, .int .i64 0, .string t] 77)) := by
  kernel_rfl
theorem items_two (w : World) (s t : ByteArray) (hs : s.size ≤ maxLen) (ht : t.size ≤ maxLen) : ItemsAt (w.alloc (.cells #[.int .i64 2, .int .i64 0, .string s, .int .i64 2, .int .i64 0, .string t] 77)).heap.size (w.alloc (.cells #[.int .i64 2, .int .i64 0, .string s, .int .i64 2, .int .i64 0, .string t] 77)) (.slice (some ⟨w.heap.size, 0, none⟩) 2 2) [txtI s, txtI t] := by
  refine ⟨_, 2, rfl, Nat.le_refl _, by simp, fun y hy => ?_, fun _ => ⟨w.heap.size, 0, rfl, by simp, fun i hi => ?_⟩⟩
  · simp only [List.mem_cons, List.not_mem_nil, or_false] at hy
    rcases hy with rfl | rfl
    · exact txtI_ok hs
    · exact txtI_ok ht
  · have hi : i < 2 := hi
    have : i = 0 ∨ i = 1 := by omega
    rcases this with rfl | rfl
    · exact ⟨cell_new w _ _ 0 _ rfl, cell_new w _ _ 1 _ rfl, cell_new w _ _ 2 _ rfl⟩
    · exact ⟨cell_new w _ _ 3 _ rfl, cell_new w _ _ 4 _ rfl, cell_new w _ _ 5 _ rfl⟩
set_option maxRecDepth 20000 in
set_option maxHeartbeats 3200000 in
theorem encodePairs_any {w : World} {v : Value} {l : List Pr} (h : PairsAt w.heap.size w v l) (n : Int) (hn : inI n) : Calls Try.prog 24 #[.int .i64 n, v] w (OwnRetE w.heap.size w (epR n l) (epE n l)) := by
  have hbig := bigPairs_any h
  have hfo := fun w' (hb : Below w.heap.size w w') => formedPairs_any ((h.below hb).more hb.size) n
  have hh := h
  obtain ⟨ao, cap, rfl, h1, h2, h3, h4⟩ := h
  cases hB : bigP l
  · rw [hB] at hbig
    cases hO : okP n l
    · have e1 : epE n l = 2 := by unfold epE; rw [hB, hO]; rfl
      have e2 : epR n l = [] := by unfold epR; rw [e1]; rfl
      rw [e1, e2]
      simp only [hO] at hfo
      have HFO := Lib.hid hfo
      clear e1 e2 hB hO h3 h4 hh hfo
      go_enter Try.func24, Try.ntmps24
      go_wp2_with fail
      refine Calls.mono hbig ?_
      rintro e w1 ⟨rfl, b1⟩
      have hf1 := HFO.out w1 b1
      clear hbig
      go_wp2_with fail
      refine Calls.mono hf1 ?_
      rintro e w2 ⟨rfl, b2⟩
      clear hf1
      go_wp2
      go_ret2
      exact ⟨_, rfl, OwnB.nil _ _, b1.trans (b2.mono b1.size)⟩
    · have e1 := epE_ok hB hO
      have e2 : epR n l = blobB n l := by unfold epR; rw [e1]; rfl
      rw [e1, e2]
      simp only [hO] at hfo
      have HFO := Lib.hid hfo
      have HE := Lib.hid (encE_pairs hB hO)
      have hlen := (bigP_false hB).1
      have HP : Hid ((packB (pairI n l)).length + 8 ≤ 140737488355328) := Lib.hid (by rw [packP_length]; have := (bigP_false hB).2; omega)
      have H3 := Lib.hid h3
      have HOK := Lib.hid (pairI_ok hn h3)
      have hmem := fun i hi => prAt_ok h3 (i := i) hi
      have HM := Lib.hid hmem
      clear e1 e2 hB hO hfo h3 hmem
      unfold blobB
      go_enter Try.func24, Try.ntmps24
      go_wp2_with fail
      refine Calls.mono hbig ?_
      rintro e w1 ⟨rfl, b1⟩
      have hf1 := HFO.out w1 b1
      clear hbig
      go_wp2_with fail
      refine Calls.mono hf1 ?_
      rintro e w2 ⟨rfl, b2⟩
      have B2 := b1.trans (b2.mono b1.size)
      have hnu := numbers_any (intc_new w2 [4, n] (by simp)) (by intro z hz; simp only [List.mem_cons, List.not_mem_nil, or_false] at hz; rcases hz with rfl | rfl <;> first | assumption | exact ⟨by decide, by decide⟩)
      have B3 := B2.alloc B2.size (.cells #[.int .i64 4, .int .i64 n] 3)
      clear hf1 HFO
      go_wp2_with fail
      refine Calls.mono hnu ?_
      rintro e w3 ⟨v3, rfl, h5, b3⟩
      have h5 := h5.base B3.size
      have B4 := B3.trans (b3.mono B3.size)
      obtain ⟨ao3, m3, cap3, hv3, hm3⟩ := h5.form'
      have h5' : OwnI w.heap.size w3 v3 (pairI n (l.take 0)) := h5
      subst hv3
      clear hnu h5 b3 B3 B2 b1 b2
      go_wp2
      go_loopw [6, 22] (fun sv iv wr => ∃ k : Nat, k ≤ l.length ∧ iv = .int .i64 k ∧ OwnI w.heap.size wr sv (pairI n (l.take k)) ∧ Below w.heap.size w wr) (fun _ iv _ => l.length - (intOf iv).toNat)
      case atStart => exact ⟨0, Nat.zero_le _, rfl, h5', B4⟩
      case round =>
        obtain ⟨k, hk, rfl, ho, hb⟩ := hrel
        obtain ⟨so, sm, sc, hsv, hsm⟩ := ho.form'
        subst hsv
        by_cases hlt : k < l.length
        · obtain ⟨b, off, rfl, hB, hc⟩ := h4 (by omega)
          obtain ⟨d1, d2⟩ := hc k hlt
          have d1' := (hb.cell (p := ⟨b, off + k * 2, none⟩) hB).trans d1
          have d2' := (hb.cell (p := ⟨b, off + k * 2 + 1, none⟩) hB).trans d2
          have hN := Lib.hid (pairI_take n l k hlt)
          have hsz : (pairI n (l.take k)).length ≤ 4000 := by rw [pairI_length, List.length_take]; omega
          have hxo := HM.out k hlt
          have B1 := hb.alloc hb.size (.cells #[.string (prAt l k).k, .string (prAt l k).v] 66)
          have o1 := ho.alloc (.cells #[.string (prAt l k).k, .string (prAt l k).v] 66)
          generalize prAt l k = x at d1' d2' hN hxo B1 o1
          generalize pairI n (l.take k) = L at hN hsz o1
          obtain ⟨xk, xv⟩ := x
          obtain ⟨x1, x2⟩ := hxo
          simp only at d1' d2' x1 x2 B1 o1
          have y1 : xk.size ≤ maxLen := by unfold maxLen; omega
          have y2 : xv.size ≤ maxLen := by unfold maxLen; omega
          have hws : w.heap.size ≤ wr.heap.size := hb.size
          have hne : some wr.heap.size ≠ (Value.slice so sm sc).ownBlock := fun e => by have := (World.ownsRow.lt ho _ e.symm).2; omega
          clear d1 d2 hc h4 ho hb
          go_wp2_with fail
          have c0 := cell_new wr #[.string xk, .string xv] 66 0 _ rfl
          have c1 := cell_new wr #[.string xk, .string xv] 66 1 _ rfl
          have hbl : wr.heap.size < (wr.alloc (.cells #[.string xk, .string xv] 66)).heap.size := by simp
          generalize wr.alloc (.cells #[.string xk, .string xv] 66) = wa at B1 o1 c0 c1 hbl ⊢
          generalize wr.heap.size = pb at c0 c1 hbl hne ⊢
          have hS : wa.drew.cell? ⟨pb, 0, none⟩ = some (.string xk) ∧ wa.drew.cell? ⟨pb, 1, none⟩ = some (.string xv) := ⟨c0, c1⟩
          have hpl : pb < wa.drew.heap.size := hbl
          have B2 := B1.drew
          have o2 := o1.below ((Below.refl wa.heap.size wa).drew)
          refine wp_region_held_drew (S := fun w' => w'.cell? ⟨pb, 0, none⟩ = some (.string xk) ∧ w'.cell? ⟨pb, 1, none⟩ = some (.string xv)) mixed hS (fun _ => ?_)
          show wpAnyH _ _ _ _ _ 10 (Array.replicate 10 false) _ _
          refine wpAnyH_take_d 0 (some 26) (.slice so sm sc) rfl (by kernel_rfl) (by kernel_rfl) (by kernel_rfl) (by kernel_rfl) rfl (fun _ _ _ h => h) (fun _ _ => by kernel_rfl) (by exact hS) ?_
          simp only [Act.put, List.setIfInBounds_toArray, List.set_cons_succ, List.set_cons_zero]
          refine wpAnyH_take_d 1 (some 27) (.pointer (some ⟨pb, 0, none⟩)) rfl (by kernel_rfl) (by kernel_rfl) (by kernel_rfl) (by kernel_rfl) rfl (fun _ _ _ h => h) (fun _ _ => by kernel_rfl) (by exact hS) ?_
          simp only [Act.put, List.setIfInBounds_toArray, List.set_cons_succ, List.set_cons_zero]
          refine wpAnyH_take_d 2 (some 28) (.string xk) rfl (by kernel_rfl) (by kernel_rfl) (by kernel_rfl) (by kernel_rfl) rfl (fun _ _ _ h => h) (fun w' h => exec_load_cell rfl rfl h.1 Try.underlying9 rfl) (by exact hS) ?_
          simp only [Act.put, List.setIfInBounds_toArray, List.set_cons_succ, List.set_cons_zero]
          refine wpAnyH_take_d 4 (some 30) (.pointer (some ⟨pb, 1, none⟩)) rfl (by kernel_rfl) (by kernel_rfl) (by kernel_rfl) (by kernel_rfl) rfl (fun _ _ _ h => h) (fun _ _ => by kernel_rfl) (by exact hS) ?_
          simp only [Act.put, List.setIfInBounds_toArray, List.set_cons_succ, List.set_cons_zero]
          refine wpAnyH_take_d 5 (some 31) (.string xv) rfl (by kernel_rfl) (by kernel_rfl) (by kernel_rfl) (by kernel_rfl) rfl (fun _ _ _ h => h) (fun w' h => exec_load_cell rfl rfl h.2 Try.underlying9 rfl) (by exact hS) ?_
          simp only [Act.put, List.setIfInBounds_toArray, List.set_cons_succ, List.set_cons_zero]
          generalize wa.drew = w4 at hS o2 hpl B2 ⊢
          refine wpAnyH_call 3 (some 29) 34 #[.string xk] rfl (by kernel_rfl) (by kernel_rfl) rfl (by kernel_rfl) (textOf_any xk w4) ?_
          rintro e w5 ⟨rfl, b5⟩
          have o3 := o2.below b5
          have B3 := B2.trans (b5.mono B2.size)
          have hS : w5.cell? ⟨pb, 0, none⟩ = some (.string xk) ∧ w5.cell? ⟨pb, 1, none⟩ = some (.string xv) := ⟨(b5.cell hpl).trans hS.1, (b5.cell hpl).trans hS.2⟩
          have hpl : pb < w5.heap.size := Nat.lt_of_lt_of_le hpl b5.size
          refine ⟨_, rfl, hS, ?_⟩
          simp only [Act.put, List.setIfInBounds_toArray, List.set_cons_succ, List.set_cons_zero]
          refine wpAnyH_call 6 (some 32) 34 #[.string xv] rfl (by kernel_rfl) (by kernel_rfl) rfl (by kernel_rfl) (textOf_any xv w5) ?_
          rintro e w6 ⟨rfl, b6⟩
          have o4 := o3.below b6
          have B4 := B3.trans (b6.mono B3.size)
          have hS : w6.cell? ⟨pb, 0, none⟩ = some (.string xk) ∧ w6.cell? ⟨pb, 1, none⟩ = some (.string xv) := ⟨(b6.cell hpl).trans hS.1, (b6.cell hpl).trans hS.2⟩
          have hpl : pb < w6.heap.size := Nat.lt_of_lt_of_le hpl b6.size
          refine ⟨_, rfl, hS, ?_⟩
          simp only [Act.put, List.setIfInBounds_toArray, List.set_cons_succ, List.set_cons_zero]
          have hbs := build_two w6 xk xv
          have hit := items_two w6 xk xv y1 y2
          have o5 := o4.alloc (.cells #[.int .i64 2, .int .i64 0, .string xk, .int .i64 2, .int .i64 0, .string xv] 77)
          have B5 := B4.alloc B4.size (.cells #[.int .i64 2, .int .i64 0, .string xk, .int .i64 2, .int .i64 0, .string xv] 77)
          have b7 := below_new w6 (.cells #[.int .i64 2, .int .i64 0, .string xk, .int .i64 2, .int .i64 0, .string xv] 77)
          generalize hw8 : w6.alloc (.cells #[.int .i64 2, .int .i64 0, .string xk, .int .i64 2, .int .i64 0, .string xv] 77) = w8 at hbs hit o5 B5 b7
          have hS : w8.cell? ⟨pb, 0, none⟩ = some (.string xk) ∧ w8.cell? ⟨pb, 1, none⟩ = some (.string xv) := ⟨(b7.cell hpl).trans hS.1, (b7.cell hpl).trans hS.2⟩
          have hpl : pb < w8.heap.size := Nat.lt_of_lt_of_le hpl b7.size
          refine wpAnyH_one 7 (some 33) (.slice (some ⟨w6.heap.size, 0, none⟩) 2 2) rfl (by kernel_rfl) (by kernel_rfl) rfl (exec_b2 rfl rfl rfl hbs) (by exact hS) ?_
          simp only [Act.put, List.setIfInBounds_toArray, List.set_cons_succ, List.set_cons_zero]
          obtain ⟨v7, w7, hr7, h7, b7, s7, k7⟩ := own_append_items2 o5 hit (by simp; omega) B5.size 74
          have B6 := B5.trans b7
          obtain ⟨ao7, m7, cap7, hv7, hm7⟩ := h7.form'
          subst hv7
          have hS : w7.cell? ⟨pb, 0, none⟩ = some (.string xk) ∧ w7.cell? ⟨pb, 1, none⟩ = some (.string xv) := by
            have e := k7 pb hpl hne
            exact ⟨(World.cell?_of_block e).trans hS.1, (World.cell?_of_block e).trans hS.2⟩
          refine wpAnyH_one 8 (some 34) (.slice ao7 m7 cap7) rfl (by kernel_rfl) (by kernel_rfl) rfl (exec_append3 rfl rfl rfl hr7) (by exact hS) ?_
          simp only [Act.put, List.setIfInBounds_toArray, List.set_cons_succ, List.set_cons_zero]
          refine wpAnyH_take_d 9 (some 6) (.slice ao7 m7 cap7) rfl (by kernel_rfl) (by kernel_rfl) (by kernel_rfl) (by kernel_rfl) rfl (fun _ _ _ h => h) (fun _ _ => by kernel_rfl) (by exact hS) ?_
          simp only [Act.put, List.setIfInBounds_toArray, List.set_cons_succ, List.set_cons_zero]
          refine wpAnyH_done (by kernel_rfl) ?_ _
          go_wp2
          go_roundw
          case rel => exact ⟨k + 1, by omega, by go_num, by rw [hN.out]; exact h7, B6⟩
          case measure => simp [intOf]; omega
        · rw [List.take_of_length_le (by omega)] at ho
          have hen := encode_any (ho.items HOK.out)
          rw [HE.out, encR_pack HE.out] at hen
          clear h4
          go_wp2_with fail
          refine Calls.mono hen ?_
          rintro e w4 ⟨v4, rfl, h6, b4⟩
          have B5 := hb.trans (b4.mono hb.size)
          have hse := seal_any h6.at HP.out
          obtain ⟨ao4, m4, cap4, hv4, hm4⟩ := h6.form'
          subst hv4
          clear hen ho h6
          go_wp2_with fail
          refine Calls.mono hse ?_
          rintro e w5 ⟨v5, rfl, h7, b5⟩
          have B6 := B5.trans (b5.mono B5.size)
          obtain ⟨ao5, m5, cap5, hv5, hm5⟩ := h7.form'
          subst hv5
          clear hse
          go_wp2
          go_ret2
          exact ⟨_, rfl, h7.base' B5.size, B6⟩
  · have e1 : epE n l = 14 := by unfold epE; rw [hB]; rfl
    have e2 : epR n l = [] := by unfold epR; rw [e1]; rfl
    rw [e1, e2]
    rw [hB] at hbig
    clear e1 e2 hB h3 h4 hh hfo
    go_enter Try.func24, Try.ntmps24
    go_wp2_with fail
    refine Calls.mono hbig ?_
    rintro e w1 ⟨rfl, b1⟩
    clear hbig
    go_wp2
    go_ret2
    exact ⟨_, rfl, OwnB.nil _ _, b1⟩
end Go.Proofs.Ytmkomhdlcbimoaa
