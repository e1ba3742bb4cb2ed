/- The contract of slices.Insert at pairs, one pair: the roads. No statement of the seat is proved here. -/
import Derived.Test.YtdkmfcmndncmcaaNIns
namespace Go.Proofs.Ytdkmfcmndncmcaa
set_option maxRecDepth 20000
open Go.RowKit

theorem own_of {base g c : Nat} {w : World} {l : List Pr} {cur : Array Value} (hb : base ≤ g) (hg : w.heap[g]? = some (.cells cur 50 (0, 0))) (hn : l.length ≤ c) (hc : c ≤ maxLen) (hs : cur.size = c * 2) (ht : cur.toList.take (l.length * 2) = cells elP l) : OwnR elP base w (.slice (some ⟨g, 0, none⟩) l.length c) l :=
  ⟨cells_length okP l, .inr ⟨g, c, cur, rfl, hb, hg, hn, hc, hs, ht⟩⟩
theorem cells_ins (l : List Pr) (i : Nat) (x : Pr) : cells elP (l.take i ++ x :: l.drop i) = (cells elP l).take (i * 2) ++ [.string x.k, .string x.v] ++ (cells elP l).drop (i * 2) := by
  rw [show l.take i ++ x :: l.drop i = l.take i ++ ([x] ++ l.drop i) from rfl, cells_append, cells_append, cells_take okP, cells_drop okP, List.append_assoc]; rfl
set_option maxHeartbeats 3200000 in
theorem insP_any {base : Nat} {w : World} {v : Value} {l : List Pr} (h : OwnR elP base w v l) {i : Nat} (hi : i ≤ l.length) {vb : Nat} {x : Pr} (hv : w.heap[vb]? = some (prO x)) (hne : some vb ≠ v.ownBlock) (hl : l.length ≤ 1000) (hb : base ≤ w.heap.size) :
    Calls Try.prog 47 #[v, .int .i64 (i : Nat), .slice (some ⟨vb, 0, none⟩) 1 1] w fun e w' => ∃ v', e = .returned v' ∧ OwnR elP base w' v' (l.take i ++ x :: l.drop i) ∧ Below base w w' := by
  have hx : SlAt elP w.heap.size w (.slice (some ⟨vb, 0, none⟩) 1 1) [x] := by
    refine ⟨_, 1, rfl, Nat.le_refl _, by show 1 * 32 ≤ _; omega, fun _ => ⟨vb, 0, rfl, lt_of_heap hv, fun j u hj => ?_⟩⟩
    rw [Nat.zero_add, cell_of_row _ _ _ _ _ _ hv]
    match j, hj with
    | 0, hj => simp [cells] at hj; subst hj; rfl
    | 1, hj => simp [cells] at hj; subst hj; rfl
  by_cases hend : i = l.length
  · subst hend
    obtain ⟨v', w', hr, o', b', -, -⟩ := own_app okP h hx (by show (l.length + 1) * 32 ≤ _; omega) hb 22
    have e : l.take l.length ++ x :: l.drop l.length = l ++ [x] := by simp
    rw [e]
    obtain ⟨ao, m, cap, rfl, hm⟩ := h.form'
    obtain ⟨ao', cap0, hv0, hmc, -⟩ := h.form
    obtain ⟨ya, ym, yc, rfl, -⟩ := o'.form'
    have hmc2 : m ≤ cap := by cases hv0; omega
    have hml : m ≤ 1000 := by rw [hm.out]; exact hl
    have HO := Lib.hid o'
    have HR := Lib.hid hr
    rw [← hm.out]
    clear h hx hr o' hne hv hv0 hmc e hl hi
    by_cases hc : cap = m
    · subst hc
      go_enter Try.func47, Try.ntmps47
      go_wp2_with (with_reducible refine wpList_append_own rfl (.tmp 23) (.tmp 24) 22 22 rfl (.slice ao cap cap) (.slice (some ⟨vb, 0, none⟩) 1 1) (.slice ya ym yc) rfl rfl HR.out ?_)
      go_ret
      exact ⟨_, rfl, HO.out, b'⟩
    · go_enter Try.func47, Try.ntmps47
      go_wp2_with (with_reducible refine wpList_append_own rfl (.tmp 23) (.tmp 24) 22 22 rfl (.slice ao m cap) (.slice (some ⟨vb, 0, none⟩) 1 1) (.slice ya ym yc) rfl rfl HR.out ?_)
      go_ret
      exact ⟨_, rfl, HO.out, b'⟩
  · have hin : i < l.length := by omega
    obtain ⟨n, hn⟩ : ∃ n, l.length = n := ⟨_, rfl⟩
    obtain ⟨g, c, cur, rfl, hbg, hg, hnc, hcm, hcs, hct⟩ : ∃ g c cur, v = .slice (some ⟨g, 0, none⟩) n c ∧ base ≤ g ∧ w.heap[g]? = some (.cells cur 50 (0, 0)) ∧ n ≤ c ∧ c ≤ maxLen ∧ cur.size = c * 2 ∧ cur.toList.take (n * 2) = cells elP l := by
      rcases h.2 with ⟨_, h2⟩ | ⟨g, c, cur, h1, h2, h3, h4, h5, h6, h7⟩
      · omega
      · exact ⟨g, c, cur, by rw [h1, hn], h2, h3, by omega, h5, h6, by rw [← hn]; exact h7⟩
    have hvg : vb ≠ g := fun e => hne (by rw [e]; rfl)
    have hCl : (cells elP l).length = n * 2 := by rw [cells_length okP, hn]
    have hcl : cur.toList.length = c * 2 := by rw [Array.length_toList, hcs]
    have hcells : ∀ j u, (cells elP l)[j]? = some u → cur[j]? = some u := fun j u hj => by
      rw [← hct, List.getElem?_take] at hj
      split at hj
      · simpa using hj
      · cases hj
    have hwi : IntKind.i64.wrap ((i : Int) + 1) = (i : Int) + 1 := by rw [IntKind.wrap_i64]; omega
    have hwn : IntKind.i64.wrap ((n : Int) + 1) = (n : Int) + 1 := by rw [IntKind.wrap_i64]; omega
    have hcm2 : c ≤ 9223372036854775807 := by unfold maxLen at hcm; omega
    have hX2 : ([.string x.k, .string x.v] : List Value).length = 2 := rfl
    have hone : ∀ u ∈ ([.string x.k, .string x.v] : List Value), u.oneCell' = true := fun u hu => by simp at hu; rcases hu with rfl | rfl <;> rfl
    have hone2 : ∀ u ∈ (cells elP l).drop (i * 2), u.oneCell' = true := fun u hu => cells_one okP l u (List.mem_of_mem_drop hu)
    have hdl : ((cells elP l).drop (i * 2)).length = (n - i) * 2 := by rw [List.length_drop, hCl]; omega
    by_cases hroom : n + 1 ≤ c
    · have hcell : ∀ w' : World, w'.heap[g]? = some (.cells cur 50 (0, 0)) → ∀ j u, ((cells elP l).drop (i * 2))[j]? = some u → w'.cell? ((⟨g, 0 + i * 2, none⟩ : Addr).add j) = some u := fun w' hg' j u hj => by
        rw [Addr.add_mid, cell_of_row _ _ _ _ _ _ hg']
        rw [List.getElem?_drop] at hj
        have := hcells _ _ hj
        rwa [Nat.zero_add]
      have r66 := slP_lo (g := g) (o := 0) (n := n + 1) (c := c) (i := i + 1) (by omega) (by omega)
      have r76 := slP_lo (g := g) (o := 0) (n := n + 1) (c := c) (i := i) (by omega) (by omega)
      have hov : ∀ lb cb, (callFunc 70 #[.slice (some ⟨vb, 0, none⟩) 1 1, .slice (some ⟨g, (i + 1) * 2, none⟩) lb cb]).run Try.prog w = .ok (.value (.bool false)) w := fun lb cb => by
        rw [run_callFunc_extern Try.func70 (by kernel_rfl) (by kernel_rfl) (by kernel_rfl) (e := Extern.SlicesOverlaps.overlaps #[22, 22] #[4]) (by kernel_rfl),
          Lib.run_overlaps_apart w 22 4 50 Try.underlying22 2 (fun w => by kernel_rfl) ⟨vb, 0, none⟩ ⟨g, (i + 1) * 2, none⟩ 1 1 lb cb hvg 50 50 2 (c * 2) (by simp [World.shape?, hv]) (by simp [World.shape?, hg, hcs]) (by omega) (by simp [World.frozen?, hv]) (by simp [World.frozen?, hv])]
        rfl
      have cp1 := fun ty => run_copy_k (P := Try.prog) w.drew 22 22 ty 50 2 g (0 + (i + 1) * 2) (n + 1 - (i + 1)) (c - (i + 1)) ⟨g, 0 + i * 2, none⟩ (n + 1 - i) (c - i) cur 50 ((cells elP l).drop (i * 2)) Try.underlying22 szPr hg (by rw [hdl]; congr 1; show n - i = min (n + 1 - i) (n + 1 - (i + 1)); omega) (hcell w.drew hg) (by rw [hdl, hcs]; omega) hone2
      have hmin : Nat.min (n + 1 - i) (n + 1 - (i + 1)) = n - i := by show min _ _ = _; omega
      rw [hmin] at cp1
      simp only [Nat.zero_add] at cp1 r66 r76
      obtain ⟨cur1, hcur1⟩ : ∃ cur1, cur1 = (cur.toList.take ((i + 1) * 2) ++ (cells elP l).drop (i * 2) ++ cur.toList.drop ((i + 1) * 2 + ((cells elP l).drop (i * 2)).length)).toArray := ⟨_, rfl⟩
      rw [← hcur1] at cp1
      have hs1 : cur1.size = c * 2 := by
        rw [hcur1]
        simp only [List.size_toArray, List.length_append, List.length_take, List.length_drop, hcl, hCl]; omega
      obtain ⟨w1, hw1⟩ : ∃ w1, w.drew.setRow g cur1 = w1 := ⟨_, rfl⟩
      have hg1 : w1.heap[g]? = some (.cells cur1 50 (0, 0)) := by rw [← hw1]; exact setRow_heap w.drew g cur cur1 _ _ hg
      have hv1 : w1.heap[vb]? = some (prO x) := by rw [← hw1]; exact (setRow_other w.drew g vb cur1 hvg).trans hv
      have hb1 : Below base w w1 := by rw [← hw1]; exact ⟨rfl, rfl, rfl, by simp, fun k hk => setRow_other w.drew g k cur1 (by omega)⟩
      rw [hw1] at cp1
      have cp2 := fun ty => run_copy_k (P := Try.prog) w1 22 22 ty 50 2 g (0 + i * 2) (n + 1 - i) (c - i) ⟨vb, 0, none⟩ 1 1 cur1 50 [.string x.k, .string x.v] Try.underlying22 szPr hg1 (by show 2 = min 1 (n + 1 - i) * 2; omega) (fun j u hj => by
        rw [Addr.add_mid, Nat.zero_add, cell_of_row _ _ _ _ _ _ hv1]; simpa using hj) (by rw [hs1]; show 0 + i * 2 + 2 ≤ _; omega) hone
      have hmin2 : Nat.min 1 (n + 1 - i) = 1 := by show min _ _ = _; omega
      rw [hmin2, Nat.zero_add] at cp2
      obtain ⟨cur2, hcur2⟩ : ∃ cur2, cur2 = (cur1.toList.take (i * 2) ++ [Value.string x.k, Value.string x.v] ++ cur1.toList.drop (i * 2 + ([.string x.k, .string x.v] : List Value).length)).toArray := ⟨_, rfl⟩
      rw [← hcur2] at cp2
      have hs2 : cur2.size = c * 2 := by
        rw [hcur2]
        simp only [List.size_toArray, List.length_append, List.length_take, List.length_drop, Array.length_toList, hs1, hX2]; omega
      obtain ⟨w2, hw2⟩ : ∃ w2, w1.setRow g cur2 = w2 := ⟨_, rfl⟩
      have hg2 : w2.heap[g]? = some (.cells cur2 50 (0, 0)) := by rw [← hw2]; exact setRow_heap w1 g cur1 cur2 _ _ hg1
      have hb2 : Below base w w2 := hb1.trans (by rw [← hw2]; exact ⟨rfl, rfl, rfl, by simp, fun k hk => setRow_other w1 g k cur2 (by omega)⟩)
      rw [hw2] at cp2
      have hfin : OwnR elP base w2 (.slice (some ⟨g, 0, none⟩) (n + 1) c) (l.take i ++ x :: l.drop i) := by
        have hlen : (l.take i ++ x :: l.drop i).length = n + 1 := by simp; omega
        rw [← hlen]
        refine own_of hbg hg2 (by rw [hlen]; exact hroom) hcm hs2 ?_
        rw [hlen, cells_ins, hcur2, hcur1]
        show List.take _ _ = _
        exact shift_row hct (by rw [hcl]; omega) (by omega) hX2 hCl
      have HF := Lib.hid hfin
      have CP1 := Lib.hid (cp1 3)
      have CP2 := Lib.hid (cp2 3)
      have hnr : ¬ (c : Int) < (n : Int) + 1 := by omega
      have hne2 : ¬ ((i : Int) = (n : Int)) := by omega
      have q1 : (n : Int) + 1 ≤ (c : Int) := by omega
      have q2 : ((n : Int) + 1).toNat = n + 1 := by omega
      have q3 : (i : Int) + 1 ≤ (n : Int) + 1 := by omega
      have q4 : (0 : Int) ≤ (i : Int) + 1 := by omega
      have q5 : ((i : Int) + 1).toNat = i + 1 := by omega
      have q6 : ¬ c = i + 1 := by omega
      have q7 : ¬ c = i := by omega
      have q8 : (i : Int) ≤ (n : Int) + 1 := by omega
      have q9 : (0 : Int) ≤ (n : Int) + 1 := by omega
      have q10 : i ≤ n := by omega
      have q11 : IntKind.i64.wrap ((i : Int) + 1) = ((i + 1 : Nat) : Int) := by rw [IntKind.wrap_i64]; omega
      have Q11 := Lib.hid q11
      have R66 := Lib.hid r66
      have R76 := Lib.hid r76
      clear q11 r66 r76 hfin hcur1 hcur2 hs1 hs2 hg1 hg2 hv1 hb1 cp1 cp2 hw1 hw2 hmin hmin2 hct hcells hcell hone hone2 hdl hCl hcl h hx hg hv hne hl hi hend hin
      go_enter Try.func47, Try.ntmps47
      go_wp2_with (simp only [hov])
      refine wp_region_held_drew (S := fun _ => True) mixed trivial (fun hS => ?_)
      show wpAnyH _ _ _ _ _ 9 (Array.replicate 9 false) _ _
      refine wpAnyH_take_d 0 (some 69) (.slice (some ⟨g, 0, none⟩) (n + 1) c) rfl (by kernel_rfl) (by kernel_rfl) (by kernel_rfl) (by kernel_rfl) rfl (fun _ _ _ h => h) (fun _ _ => by kernel_rfl) (by exact hS) ?_
      simp only [Act.put, List.setIfInBounds_toArray, List.set_cons_succ, List.set_cons_zero]
      refine wpAnyH_take_d 1 (some 70) (.int .i64 i) rfl (by kernel_rfl) (by kernel_rfl) (by kernel_rfl) (by kernel_rfl) rfl (fun _ _ _ h => h) (fun _ _ => by kernel_rfl) (by exact hS) ?_
      simp only [Act.put, List.setIfInBounds_toArray, List.set_cons_succ, List.set_cons_zero]
      refine wpAnyH_take_d 2 (some 71) (.int .i64 1) rfl (by kernel_rfl) (by kernel_rfl) (by kernel_rfl) (by kernel_rfl) rfl (fun _ _ _ h => h) (fun _ _ => by kernel_rfl) (by exact hS) ?_
      simp only [Act.put, List.setIfInBounds_toArray, List.set_cons_succ, List.set_cons_zero]
      refine wpAnyH_take_d 3 (some 72) (.int .i64 (i + 1 : Nat)) rfl (by kernel_rfl) (by kernel_rfl) (by kernel_rfl) (by kernel_rfl) rfl (fun _ _ _ h => h) (fun _ _ => ex_add rfl rfl rfl Q11.out) (by exact hS) ?_
      simp only [Act.put, List.setIfInBounds_toArray, List.set_cons_succ, List.set_cons_zero]
      refine wpAnyH_take_d 4 (some 73) (.slice (some ⟨g, (i + 1) * 2, none⟩) (n + 1 - (i + 1)) (c - (i + 1))) rfl (by kernel_rfl) (by kernel_rfl) (by kernel_rfl) (by kernel_rfl) rfl (fun _ _ _ h => h) (fun w' _ => ex_slice rfl rfl rfl rfl (R66.out w')) (by exact hS) ?_
      simp only [Act.put, List.setIfInBounds_toArray, List.set_cons_succ, List.set_cons_zero]
      refine wpAnyH_take_d 5 (some 74) (.slice (some ⟨g, 0, none⟩) (n + 1) c) rfl (by kernel_rfl) (by kernel_rfl) (by kernel_rfl) (by kernel_rfl) rfl (fun _ _ _ h => h) (fun _ _ => by kernel_rfl) (by exact hS) ?_
      simp only [Act.put, List.setIfInBounds_toArray, List.set_cons_succ, List.set_cons_zero]
      refine wpAnyH_take_d 6 (some 75) (.int .i64 i) rfl (by kernel_rfl) (by kernel_rfl) (by kernel_rfl) (by kernel_rfl) rfl (fun _ _ _ h => h) (fun _ _ => by kernel_rfl) (by exact hS) ?_
      simp only [Act.put, List.setIfInBounds_toArray, List.set_cons_succ, List.set_cons_zero]
      refine wpAnyH_take_d 7 (some 76) (.slice (some ⟨g, i * 2, none⟩) (n + 1 - i) (c - i)) rfl (by kernel_rfl) (by kernel_rfl) (by kernel_rfl) (by kernel_rfl) rfl (fun _ _ _ h => h) (fun w' _ => ex_slice rfl rfl rfl rfl (R76.out w')) (by exact hS) ?_
      simp only [Act.put, List.setIfInBounds_toArray, List.set_cons_succ, List.set_cons_zero]
      refine wpAnyH_one 8 (some 77) (goInt (n - i : Nat)) rfl (by kernel_rfl) (by kernel_rfl) rfl (ex_copy rfl rfl rfl CP1.out) (by exact hS) ?_
      simp only [Act.put, List.setIfInBounds_toArray, List.set_cons_succ, List.set_cons_zero]
      refine wpAnyH_done (by kernel_rfl) ?_ _
      go_wp2_with (with_reducible refine wpList_copyN rfl (.tmp 80) (.tmp 81) 22 22 rfl (.slice (some ⟨g, i * 2, none⟩) (n + 1 - i) (c - i)) (.slice (some ⟨vb, 0, none⟩) 1 1) (goInt (1 : Nat)) rfl rfl CP2.out ?_)
      go_ret
      exact ⟨_, rfl, HF.out, hb2⟩
    · obtain ⟨inf, hi1, hi2, hi3, hi4⟩ := okP.info
      have hold : (Builtin.firstCells inf.size i (.slice (some ⟨g, 0, none⟩) i c)).run Try.prog w.drew = .ok ((cells elP l).take (i * 2)).toArray w.drew := by
        rw [hi3]
        refine run_firstCells_some w.drew 2 i ⟨g, 0, none⟩ i c _ (by rw [List.length_take, hCl]; omega) (fun j u hj => ?_)
        rw [Addr.add_mid, Nat.zero_add, cell_of_row w.drew g j cur _ _ hg]
        rw [List.getElem?_take] at hj
        split at hj
        · exact hcells j u hj
        · cases hj
      have hgr := Lib.run_append_grow_zeros (P := Try.prog) w 22 3 22 50 inf elP.z .i64 .i64 Try.underlying22 Try.underlying3 hi1 hi2 (some ⟨g, 0, none⟩) i c _ hold (n + 1 - i) (by omega) (by rw [hi3]; decide) (by omega) (by omega) (by rw [hi4]; show _ * 32 ≤ _; omega) (by rw [hi4]; exact growslice_fits (by omega) (by show (i + (n + 1 - i)) * 32 ≤ _; omega))
      rw [show i + (n + 1 - i) = n + 1 by omega] at hgr
      have hge := grownCap_ge w (n + 1) c 50
      have hle := grownCap_le_maxLen w (n + 1) c 50 (by unfold maxLen; omega)
      obtain ⟨G, hG⟩ : ∃ G, grownCap w (n + 1) c 50 = G := ⟨_, rfl⟩
      rw [hG] at hgr hge hle
      have hzc : ∀ k : Nat, (Builtin.zeroCells elP.z.cells k).size = k * 2 := fun k => by rw [size_zeroCells]; rfl
      obtain ⟨Z, hZ⟩ : ∃ Z, Builtin.zeroCells elP.z.cells (n + 1 - i) ++ Builtin.zeroCells elP.z.cells (G - (n + 1)) = Z := ⟨_, rfl⟩
      have hZs : Z.size = (G - i) * 2 := by rw [← hZ, Array.size_append, hzc, hzc]; omega
      obtain ⟨cur0, hcur0⟩ : ∃ cur0, cur0 = ((cells elP l).take (i * 2) ++ Z.toList).toArray := ⟨_, rfl⟩
      have hcur0' : ((cells elP l).take (i * 2)).toArray ++ Builtin.zeroCells elP.z.cells (n + 1 - i) ++ Builtin.zeroCells elP.z.cells (G - (n + 1)) = cur0 := by
        rw [hcur0, ← hZ, Array.append_assoc]; apply Array.toList_inj.1; simp
      rw [hcur0'] at hgr
      have hs0 : cur0.size = G * 2 := by
        rw [hcur0]
        simp only [List.size_toArray, List.length_append, List.length_take, hCl, Array.length_toList, hZs]; omega
      obtain ⟨w0, hw0⟩ : ∃ w0, w.drew.alloc (.cells cur0 50) = w0 := ⟨_, rfl⟩
      rw [hw0] at hgr
      have hg0 : w0.heap[w.heap.size]? = some (.cells cur0 50 (0, 0)) := by rw [← hw0]; exact heap_alloc_new w.drew _
      have hb0 : Below w.heap.size w w0 := by rw [← hw0]; exact ((Below.refl _ _).drew).alloc (by simp) _
      have hgw := lt_of_heap hg
      have hv0 : w0.heap[vb]? = some (prO x) := (hb0.block vb (lt_of_heap hv)).trans hv
      have hgo : w0.heap[g]? = some (.cells cur 50 (0, 0)) := (hb0.block g hgw).trans hg
      have hvn : vb ≠ w.heap.size := by have := lt_of_heap hv; omega
      obtain ⟨Q, hQ⟩ : ∃ Q, w.heap.size = Q := ⟨_, rfl⟩
      rw [hQ] at hgr hg0 hb0 hgw hvn
      have cp1 := fun ty => run_copy_k (P := Try.prog) w0 22 22 ty 50 2 Q (0 + i * 2) (n + 1 - i) (G - i) ⟨vb, 0, none⟩ 1 1 cur0 50 [.string x.k, .string x.v] Try.underlying22 szPr hg0 (by show 2 = min 1 (n + 1 - i) * 2; omega) (fun j u hj => by
        rw [Addr.add_mid, Nat.zero_add, cell_of_row _ _ _ _ _ _ hv0]; simpa using hj) (by rw [hs0]; show 0 + i * 2 + 2 ≤ _; omega) hone
      have hmin1 : Nat.min 1 (n + 1 - i) = 1 := by show min _ _ = _; omega
      rw [hmin1] at cp1
      simp only [Nat.zero_add] at cp1
      obtain ⟨cur1, hcur1⟩ : ∃ cur1, cur1 = (cur0.toList.take (i * 2) ++ [Value.string x.k, Value.string x.v] ++ cur0.toList.drop (i * 2 + ([.string x.k, .string x.v] : List Value).length)).toArray := ⟨_, rfl⟩
      rw [← hcur1] at cp1
      have hs1 : cur1.size = G * 2 := by
        rw [hcur1]
        simp only [List.size_toArray, List.length_append, List.length_take, List.length_drop, Array.length_toList, hs0, hX2]; omega
      obtain ⟨w1, hw1⟩ : ∃ w1, w0.setRow Q cur1 = w1 := ⟨_, rfl⟩
      rw [hw1] at cp1
      have hg1 : w1.heap[Q]? = some (.cells cur1 50 (0, 0)) := by rw [← hw1]; exact setRow_heap w0 Q cur0 cur1 _ _ hg0
      have hgo1 : w1.heap[g]? = some (.cells cur 50 (0, 0)) := by rw [← hw1]; exact (setRow_other w0 Q g cur1 (by omega)).trans hgo
      have hb1 : Below Q w w1 := hb0.trans (by rw [← hw1]; exact ⟨rfl, rfl, rfl, by simp, fun k hk => setRow_other w0 Q k cur1 (by omega)⟩)
      have cp2 := fun ty => run_copy_k (P := Try.prog) w1.drew 22 22 ty 50 2 Q (0 + (i + 1) * 2) (n + 1 - (i + 1)) (G - (i + 1)) ⟨g, 0 + i * 2, none⟩ (n - i) (c - i) cur1 50 ((cells elP l).drop (i * 2)) Try.underlying22 szPr hg1 (by rw [hdl]; congr 1; show n - i = min (n - i) (n + 1 - (i + 1)); omega) (fun j u hj => by
        rw [Addr.add_mid, Nat.zero_add, cell_of_row w1.drew _ _ _ _ _ hgo1]
        rw [List.getElem?_drop] at hj
        exact hcells _ _ hj) (by rw [hdl, hs1]; omega) hone2
      have hmin2 : Nat.min (n - i) (n + 1 - (i + 1)) = n - i := by show min _ _ = _; omega
      rw [hmin2] at cp2
      simp only [Nat.zero_add] at cp2
      obtain ⟨cur2, hcur2⟩ : ∃ cur2, cur2 = (cur1.toList.take ((i + 1) * 2) ++ (cells elP l).drop (i * 2) ++ cur1.toList.drop ((i + 1) * 2 + ((cells elP l).drop (i * 2)).length)).toArray := ⟨_, rfl⟩
      rw [← hcur2] at cp2
      have hs2 : cur2.size = G * 2 := by
        rw [hcur2]
        simp only [List.size_toArray, List.length_append, List.length_take, List.length_drop, Array.length_toList, hs1, hCl]; omega
      obtain ⟨w2, hw2⟩ : ∃ w2, w1.drew.setRow Q cur2 = w2 := ⟨_, rfl⟩
      rw [hw2] at cp2
      have hg2 : w2.heap[Q]? = some (.cells cur2 50 (0, 0)) := by rw [← hw2]; exact setRow_heap w1.drew Q cur1 cur2 _ _ hg1
      have hb2 : Below Q w w2 := hb1.drew.trans (by rw [← hw2]; exact ⟨rfl, rfl, rfl, by simp, fun k hk => setRow_other w1.drew Q k cur2 (by omega)⟩)
      have hfin : OwnR elP base w2 (.slice (some ⟨Q, 0, none⟩) (n + 1) G) (l.take i ++ x :: l.drop i) := by
        have hlen : (l.take i ++ x :: l.drop i).length = n + 1 := by simp; omega
        rw [← hlen]
        refine own_of (by omega) hg2 (by rw [hlen]; exact hge) hle hs2 ?_
        rw [hlen, cells_ins, hcur2, hcur1, hcur0]
        show List.take _ _ = _
        exact grow_row (by omega) hX2 hCl
      have HF := Lib.hid hfin
      have HB := Lib.hid (hb2.mono (show base ≤ Q by omega))
      have HGR := Lib.hid hgr
      have CP1 := Lib.hid (cp1 3)
      have CP2 := Lib.hid (cp2 3)
      have hnr : (c : Int) < (n : Int) + 1 := by omega
      have hne2 : ¬ ((i : Int) = (n : Int)) := by omega
      have q3 : (i : Int) + 1 ≤ (n : Int) + 1 := by omega
      have q4 : (0 : Int) ≤ (i : Int) + 1 := by omega
      have q5 : ((i : Int) + 1).toNat = i + 1 := by omega
      have q6 : ¬ G = i + 1 := by omega
      have q7 : ¬ c = i := by omega
      have q8 : (i : Int) ≤ (n : Int) + 1 := by omega
      have q10 : i ≤ n := by omega
      have q12 : ¬ G = i := by omega
      have q13 : (i : Int) ≤ (c : Int) := by omega
      have q14 : IntKind.i64.wrap ((n : Int) + 1 - (i : Int)) = ((n + 1 - i : Nat) : Int) := by rw [IntKind.wrap_i64]; omega
      have q11 : IntKind.i64.wrap ((i : Int) + 1) = ((i + 1 : Nat) : Int) := by rw [IntKind.wrap_i64]; omega
      have hG9 : G ≤ 9223372036854775807 := by unfold maxLen at hle; omega
      have Q11 := Lib.hid q11
      have R50 := Lib.hid (slP_lo (g := Q) (o := 0) (n := n + 1) (c := G) (i := i + 1) (by omega) (by omega))
      have R53 := Lib.hid (slP_lo (g := g) (o := 0) (n := n) (c := c) (i := i) (by omega) (by omega))
      have R50' : Hid (∀ w, (Instr.sliceAt 22 (.slice (some ⟨Q, 0, none⟩) (n + 1) G) (some (.int .i64 (i + 1 : Nat))) none none).run Try.prog w = .ok (.slice (some ⟨Q, (i + 1) * 2, none⟩) (n + 1 - (i + 1)) (G - (i + 1))) w) := Lib.hid (fun w => by have := R50.out w; simpa only [Nat.zero_add] using this)
      have R53' : Hid (∀ w, (Instr.sliceAt 22 (.slice (some ⟨g, 0, none⟩) n c) (some (.int .i64 (i : Nat))) none none).run Try.prog w = .ok (.slice (some ⟨g, i * 2, none⟩) (n - i) (c - i)) w) := Lib.hid (fun w => by have := R53.out w; simpa only [Nat.zero_add] using this)
      have q15 : IntKind.i64.wrap ((i : Int) + 1) = (i : Int) + 1 := hwi
      clear R50 R53 q11 hfin hcur1 hcur2 hcur0 hcur0' hs0 hs1 hs2 hg0 hg1 hg2 hv0 hgo hgo1 hb0 hb1 hb2 cp1 cp2 hgr hw0 hw1 hw2 hmin1 hmin2 hct hcells hone hone2 hdl hCl hcl h hx hg hv hne hl hi hend hin hold hi1 hi2 hi3 hi4 hZ hZs hzc hG hge hle hQ hgw hvn q15
      go_enter Try.func47, Try.ntmps47
      go_wp2_with (first
        | (with_reducible refine wpList_append_own rfl (.tmp 34) (.tmp 39) 22 3 rfl (.slice (some ⟨g, 0, none⟩) i c) (.int .i64 (n + 1 - i : Nat)) (.slice (some ⟨Q, 0, none⟩) (n + 1) G) rfl rfl HGR.out ?_)
        | (with_reducible refine wpList_copyN rfl (.tmp 43) (.tmp 44) 22 22 rfl (.slice (some ⟨Q, i * 2, none⟩) (n + 1 - i) (G - i)) (.slice (some ⟨vb, 0, none⟩) 1 1) (goInt (1 : Nat)) rfl rfl CP1.out ?_))
      refine wp_region_held_drew (S := fun _ => True) mixed trivial (fun hS => ?_)
      show wpAnyH _ _ _ _ _ 9 (Array.replicate 9 false) _ _
      refine wpAnyH_take_d 0 (some 46) (.slice (some ⟨Q, 0, none⟩) (n + 1) G) rfl (by kernel_rfl) (by kernel_rfl) (by kernel_rfl) (by kernel_rfl) rfl (fun _ _ _ h => h) (fun _ _ => by kernel_rfl) (by exact hS) ?_
      simp only [Act.put, List.setIfInBounds_toArray, List.set_cons_succ, List.set_cons_zero]
      refine wpAnyH_take_d 1 (some 47) (.int .i64 i) rfl (by kernel_rfl) (by kernel_rfl) (by kernel_rfl) (by kernel_rfl) rfl (fun _ _ _ h => h) (fun _ _ => by kernel_rfl) (by exact hS) ?_
      simp only [Act.put, List.setIfInBounds_toArray, List.set_cons_succ, List.set_cons_zero]
      refine wpAnyH_take_d 2 (some 48) (.int .i64 1) rfl (by kernel_rfl) (by kernel_rfl) (by kernel_rfl) (by kernel_rfl) rfl (fun _ _ _ h => h) (fun _ _ => by kernel_rfl) (by exact hS) ?_
      simp only [Act.put, List.setIfInBounds_toArray, List.set_cons_succ, List.set_cons_zero]
      refine wpAnyH_take_d 3 (some 49) (.int .i64 (i + 1 : Nat)) rfl (by kernel_rfl) (by kernel_rfl) (by kernel_rfl) (by kernel_rfl) rfl (fun _ _ _ h => h) (fun _ _ => ex_add rfl rfl rfl Q11.out) (by exact hS) ?_
      simp only [Act.put, List.setIfInBounds_toArray, List.set_cons_succ, List.set_cons_zero]
      refine wpAnyH_take_d 4 (some 50) (.slice (some ⟨Q, (i + 1) * 2, none⟩) (n + 1 - (i + 1)) (G - (i + 1))) rfl (by kernel_rfl) (by kernel_rfl) (by kernel_rfl) (by kernel_rfl) rfl (fun _ _ _ h => h) (fun w' _ => ex_slice rfl rfl rfl rfl (R50'.out w')) (by exact hS) ?_
      simp only [Act.put, List.setIfInBounds_toArray, List.set_cons_succ, List.set_cons_zero]
      refine wpAnyH_take_d 5 (some 51) (.slice (some ⟨g, 0, none⟩) n c) rfl (by kernel_rfl) (by kernel_rfl) (by kernel_rfl) (by kernel_rfl) rfl (fun _ _ _ h => h) (fun _ _ => by kernel_rfl) (by exact hS) ?_
      simp only [Act.put, List.setIfInBounds_toArray, List.set_cons_succ, List.set_cons_zero]
      refine wpAnyH_take_d 6 (some 52) (.int .i64 i) rfl (by kernel_rfl) (by kernel_rfl) (by kernel_rfl) (by kernel_rfl) rfl (fun _ _ _ h => h) (fun _ _ => by kernel_rfl) (by exact hS) ?_
      simp only [Act.put, List.setIfInBounds_toArray, List.set_cons_succ, List.set_cons_zero]
      refine wpAnyH_take_d 7 (some 53) (.slice (some ⟨g, i * 2, none⟩) (n - i) (c - i)) rfl (by kernel_rfl) (by kernel_rfl) (by kernel_rfl) (by kernel_rfl) rfl (fun _ _ _ h => h) (fun w' _ => ex_slice rfl rfl rfl rfl (R53'.out w')) (by exact hS) ?_
      simp only [Act.put, List.setIfInBounds_toArray, List.set_cons_succ, List.set_cons_zero]
      refine wpAnyH_one 8 (some 54) (goInt (n - i : Nat)) rfl (by kernel_rfl) (by kernel_rfl) rfl (ex_copy rfl rfl rfl CP2.out) (by exact hS) ?_
      simp only [Act.put, List.setIfInBounds_toArray, List.set_cons_succ, List.set_cons_zero]
      refine wpAnyH_done (by kernel_rfl) ?_ _
      go_wp2
      go_ret
      exact ⟨_, rfl, HF.out, HB.out⟩
end Go.Proofs.Ytdkmfcmndncmcaa
