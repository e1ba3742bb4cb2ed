/- The contracts of bytes.Clone, of the store's Put and Get. No statement of the seat is proved here. -/
import Derived.Test.YtcbbppgleclndaaBSwap
namespace Go.Proofs.Ytcbbppgleclndaa
open Go.RowKit

theorem info5' : ∃ i, Try.prog.info? 5 = some i ∧ i.zero = some (.int .u8 0) ∧ i.size = 1 ∧ i.bytes = 1 := by
  have h := info5
  cases hq : Try.prog.info? 5 with
  | none => rw [hq] at h; simp at h
  | some i => rw [hq] at h; simp at h; exact ⟨i, rfl, h.1, h.2.1, h.2.2⟩
set_option maxHeartbeats 400000 in
theorem clone_some {w : World} (a : Addr) (n cap : Nat) (bs : List UInt8) (hn : bs.length = n) (hsrc : ∀ j v, (cellsB bs)[j]? = some v → w.cell? (a.add j) = some v) (h1 : n ≤ 1000000000000) :
    Calls Try.prog 32 #[.slice (some a) n cap] w fun e w' => ∃ v, e = .returned v ∧ OwnB w.heap.size w' v bs ∧ Below w.heap.size w w' := by
  subst hn
  have HS := Lib.hid hsrc
  clear hsrc
  have heq := fun (n c : Nat) (x : Option Addr) (w : World) => Lib.run_eql_slice_nil (P := Try.prog) w 36 5 x n c 0 0 Try.underlying36
  obtain ⟨i0, hi0, hz0, hz1, hz2⟩ := info5'
  go_enter Try.func32, Try.ntmps32
  go_wp2_with (at_builtin; refine wpList_append_own _ rfl (.tmp 5) (.tmp 6) 36 rfl w.heap.size 5 i0 (.int .u8 0) 1 1 Try.underlying36 hi0 hz0 hz1 hz2 rfl (by decide) _ 0 [] rfl ?own a bs.length cap (cellsB bs) rfl ?len ?src (oneCell_cellsB bs) ?b1 ?b2 ?b3 ?_)
  case own => exact World.ownsRow_made w #[] 0 (Nat.le_refl _) (by simp [maxLen]) rfl
  case len => simp [cellsB_length]
  case src => exact fun j u hj => (Below.cell ((Below.refl w.heap.size w).alloc (Nat.le_refl _) _) (World.block_lt_of_cell? w _ (HS.out j u hj))).trans (HS.out j u hj)
  case b1 => simp only [maxLen]; omega
  case b2 => omega
  case b3 => simp
  intro v' w1 hown hgr hnil
  have hbl : Below w.heap.size w w1 := ((Below.refl w.heap.size w).alloc (Nat.le_refl _) _).grown hgr (by simp) (fun k e => by cases e; exact Nat.le_refl _)
  have HO := Lib.hid hown
  clear hown hgr hnil
  go_wp2
  go_ret
  exact ⟨_, rfl, HO.out, hbl⟩
set_option maxHeartbeats 400000 in
theorem clone_none {w : World} (n cap : Nat) : Calls Try.prog 32 #[.slice none n cap] w fun e w' => e = .returned (.slice none 0 0) ∧ w = w' := by
  have heq := fun (n c : Nat) (x : Option Addr) (w : World) => Lib.run_eql_slice_nil (P := Try.prog) w 36 5 x n c 0 0 Try.underlying36
  go_enter Try.func32, Try.ntmps32
  go_wp2
  go_ret
  exact ⟨rfl, rfl⟩
theorem clone_any {w : World} {v : Value} {bs : List UInt8} (h : BytesAt w v bs) (h1 : bs.length ≤ 1000000000000) :
    Calls Try.prog 32 #[v] w fun e w' => ∃ v', e = .returned v' ∧ OwnB w.heap.size w' v' bs ∧ Below w.heap.size w w' := by
  have h' := h
  obtain ⟨ao, cap, rfl, hl, hc⟩ := h'
  cases ao with
  | none =>
    have hb : bs = [] := by
      cases bs with
      | nil => rfl
      | cons x r => obtain ⟨_, _, _, _, e, _⟩ := hc (by simp); cases e
    subst hb
    refine (clone_none _ _).mono ?_
    rintro e w' ⟨rfl, rfl⟩
    exact ⟨_, rfl, World.ownsRow_nil _ _ _ _, Below.refl _ _⟩
  | some a =>
    refine clone_some a _ cap bs rfl (fun j u hj => ?_) h1
    obtain ⟨ad, e, hs⟩ := h.src (by rw [cellsB_length]; have := (List.getElem?_eq_some_iff.1 hj).1; rw [cellsB_length] at this; omega)
    cases e
    exact hs j u hj

theorem wpAnyH_one_skip {P : Program} {md : Region.Mode} {ops : Array Oper} {Q : Exit → Act → World → Prop} {S : World → Prop} {fuel : Nat} {L : Array Bool} {a : Act} {w w1 : World} (i : Nat) {o : Oper} (hi : ops[i]? = some o) (hr : Region.ready md ops L = [i]) (hw : Region.wanted o (yielded ops a.tmps) = true)
    (hy : (execOp a.eval o).run P w = .ok .skip w1) (hS : S w1) (h : wpAnyH P md ops Q S fuel (L.setIfInBounds i true) (a.put o.dst undef) w1) : wpAnyH P md ops Q S (fuel + 1) L a w := by
  refine wpAnyH_ready hr (by simp) (AllReadyH.cons hi (fun K hK => ?_) AllReadyH.nil)
  rw [if_pos hw]
  unfold Oper.wp
  rw [hy]; exact hK.out _ _ hS (fun _ => h)
theorem exec_mapUpdate {P : Program} {w w1 : World} {ρ : Operand → Value} {o : Oper} {t : TypeId} {m x v : Operand} {mv key val : Value} (ho : o.op = .mapUpdate t m x v) (hm : ρ m = mv) (hx : ρ x = key) (hv : ρ v = val) (hrun : (Instr.mapUpdate t mv key val).run P w = .ok () w1) : (execOp ρ o).run P w = .ok .skip w1 := by
  unfold execOp
  simp [ho, hm, hx, hv, hrun, Result.andThen]

def putF (f : List UInt8 → Option (List UInt8)) (k bs : List UInt8) : List UInt8 → Option (List UInt8) := fun k' => if k' = k then some bs else f k'
/-- What the store into the map makes of the store. -/
theorem put_end {X : Nat → Prop} {w : World} {sb mb : Nat} {s : Sto} {N : Nat} {D : DataW Value} {ov : Value} (lt : ∀ k, X k → k < w.heap.size) (out : ¬ X sb) (rng : ∀ z ∈ s.outs, -9223372036854775808 ≤ z ∧ z ≤ 9223372036854775807)
    (h1 : w.heap[sb]? = some (.cells #[.map (some mb), .int .i64 s.version, .string s.root, ov, .int .i64 s.calls] 55 (0, 0))) (hX : ¬ X mb) (ho : w.ownsMap Try.prog 9 vR mb N D) (hm : Maps.IsMap D) (hat : ∀ k, BlobAt (fun k => ¬ X k) w D k (s.blobs k)) (hov : OutsIs X w ov s.outs)
    (hN : N < maxLen) {name : ByteArray} (hn : name.size ≤ maxLen) {v : Value} {bs : List UInt8} (hv : BytesIn (fun k => ¬ X k) w v bs) :
    ∃ w', (Instr.mapUpdate 53 (.map (some mb)) (.string name) v).run Try.prog w = .ok () w' ∧ StoAt X w' sb { s with blobs := putF s.blobs name.data.toList bs } (N + 1) ∧ Kp X w w' ∧ ∀ (k : Nat) cs t f, w.heap[k]? = some (.cells cs t f) → w'.heap[k]? = some (.cells cs t f) := by
  have hes : ∃ es c, w.heap[mb]? = some (.map es c) := by obtain ⟨es, c, h, _⟩ := ho; exact ⟨es, c, h⟩
  obtain ⟨es, c, hes⟩ := hes
  obtain ⟨w', hrun, ho', ht⟩ := ho.store keyed9 Try.underlying53 hN (key_str hn) (val := v) (d := .held v) (ps := []) rfl
  have hg := ht.grown
  have hk : ∀ (k : Nat) cs t f, w.heap[k]? = some (.cells cs t f) → w'.heap[k]? = some (.cells cs t f) := fun k cs t f hh =>
    (hg.block k (lt_of_heap hh) (fun e => by cases e; rw [hes] at hh; cases hh)).trans hh
  have hby : ∀ u bs', BytesIn (fun k => ¬ X k) w u bs' → BytesIn (fun k => ¬ X k) w' u bs' := fun u bs' h => by
    obtain ⟨ao, cap, g3, g4, g5⟩ := h
    refine ⟨ao, cap, g3, g4, fun h0 => ?_⟩
    obtain ⟨b, off, cs, fz, e1, e2, e3, e4⟩ := g5 h0
    exact ⟨b, off, cs, fz, e1, e2, hk _ _ _ _ e3, e4⟩
  refine ⟨w', hrun, ⟨fun k e => Nat.lt_of_lt_of_le (lt k e) hg.size, out, rng, .map (some mb), ov, hk _ _ _ _ h1, Or.inr ⟨mb, _, rfl, hX, ho', hm.put _ _, fun k => ?_⟩, ?_⟩, (Kp.refl _ _).grown hg (fun k e => by cases e; exact hX), hk⟩
  · show BlobAt _ _ _ _ (putF s.blobs name.data.toList bs k)
    unfold putF
    by_cases e : k = name.data.toList
    · subst e
      rw [if_pos rfl]
      exact ⟨Maps.has_put_same hm (by trivial) _, v, fun z => Maps.atKey_put_same hm (by trivial) _ _, hby _ _ hv⟩
    · rw [if_neg e]
      have hne : (Lit.string k) ≠ Lit.string name.data.toList := by simpa using e
      have := hat k
      cases hf : s.blobs k with
      | none => rw [hf] at this; exact (Maps.has_put_other hne _).trans this
      | some bs' =>
        rw [hf] at this
        obtain ⟨g1, u, g2, g3⟩ := this
        exact ⟨(Maps.has_put_other hne _).trans g1, u, fun z => (Maps.atKey_put_other hne _ _).trans (g2 z), hby _ _ g3⟩
  · obtain ⟨ao, cap, g3, g4, g5, g6⟩ := hov
    refine ⟨ao, cap, g3, g4, g5, g6.imp_right ?_⟩
    rintro ⟨b, off, cs, e1, e2, e3, e4⟩
    exact ⟨b, off, cs, e1, e2, hk _ _ _ _ e3, e4⟩

set_option maxRecDepth 20000 in
set_option maxHeartbeats 800000 in
theorem put1_any {X : Nat → Prop} {w : World} {sb : Nat} {s : Sto} {N : Nat} (h : StoAt X w sb s N) (hN : N < maxLen) {p1 p2 p3 : Addr} {bv : Value} {bs : List UInt8} {name : ByteArray} (hn : name.size ≤ maxLen) (hbl : bs.length ≤ 1000000000000)
    (x1 : X p1.block) (c1 : w.cell? p1 = some (.pointer (some ⟨sb, 0, none⟩))) (x2 : X p2.block) (c2 : w.cell? p2 = some bv) (x3 : X p3.block) (c3 : w.cell? p3 = some (.string name)) (hby : BytesIn X w bv bs) :
    Calls Try.prog 35 #[.pointer (some p1), .pointer (some p2), .pointer (some p3)] w fun e w' => e = .returned (.int .i64 0) ∧ StoAt X w' sb { s with blobs := putF s.blobs name.data.toList bs } (N + 1) ∧ Kp X w w' := by
  obtain ⟨lt, out, rng, mv, ov, b1, m1, o1⟩ := h
  have n1 : ⟨sb, 0, none⟩ ≠ p1 := fun e => out (by rw [← e] at x1; exact x1)
  have n2 : ⟨sb, 0, none⟩ ≠ p2 := fun e => out (by rw [← e] at x2; exact x2)
  have n3 : ⟨sb, 0, none⟩ ≠ p3 := fun e => out (by rw [← e] at x3; exact x3)
  have d0 : w.cell? ⟨sb, 0, none⟩ = some mv := cell_row b1 0 rfl
  have f0 := free_row b1 0
  have heq := fun (r : Option Nat) (w : World) => run_eql_map_nil (P := Try.prog) w 53 9 36 r Try.underlying53
  have RNG := Lib.hid rng
  have OUT := Lib.hid out
  clear rng out
  go_enter Try.func35, Try.ntmps35
  rcases m1 with ⟨rfl, hz⟩ | ⟨mb, D, rfl, hmb, hown, him, hat⟩
  · have B1 := Lib.hid b1
    have LT := Lib.hid lt
    have O1 := Lib.hid o1
    have HZ := Lib.hid hz
    have HBY0 := Lib.hid hby
    clear b1 lt o1 hz hby
    go_wp2_with (with_reducible refine wpList_makeMap rfl 53 rfl ?_)
    intro w2 hg2 hb2 hs2
    have hsb := lt_of_heap B1.out
    have hd2 := (hb2.block _ hsb).trans B1.out
    have c1' := (hb2.cell (World.block_lt_of_cell? _ _ c1)).trans c1
    have c2' := (hb2.cell (World.block_lt_of_cell? _ _ c2)).trans c2
    have c3' := (hb2.cell (World.block_lt_of_cell? _ _ c3)).trans c3
    have d2 : w2.cell? ⟨sb, 0, none⟩ = some (.map none) := cell_row hd2 0 rfl
    have f2 := free_row hd2 0
    have HD2 := Lib.hid hd2
    have HG2 := Lib.hid hg2
    have HB2 := Lib.hid hb2
    clear hd2 hg2 hb2 d0 f0 c1 c2 c3
    go_wp2_with fail
    have hb1' := heap_setCell_same w2 sb 0 _ _ (.map (some w.heap.size)) HD2.out
    have e1 := (World.cell?_setCell_other _ _ _ (.map (some w.heap.size)) n1).trans c1'
    have e2 := (World.cell?_setCell_other _ _ _ (.map (some w.heap.size)) n2).trans c2'
    have e3 := (World.cell?_setCell_other _ _ _ (.map (some w.heap.size)) n3).trans c3'
    have hm3 : (w2.setCell ⟨sb, 0, none⟩ (.map (some w.heap.size))).heap[w.heap.size]? = some (.map #[] 0) := by
      rw [Below.heap_setCell _ _ _ _ (by show w.heap.size ≠ sb; omega)]; exact HG2.out
    have F3 : Kp X w (w2.setCell ⟨sb, 0, none⟩ (.map (some w.heap.size))) := (Kp.of_below HB2.out).setCell OUT.out _
    have hov : OutsIs X (w2.setCell ⟨sb, 0, none⟩ (.map (some w.heap.size))) ov s.outs := OutsIs.set (O1.out.keep (X' := X) (fun k o _ ho => (HB2.out.block k (lt_of_heap ho)).trans ho) (fun _ _ e => e)) HD2.out 0 _
    have hby3 := HBY0.out.keep (w' := w2.setCell ⟨sb, 0, none⟩ (.map (some w.heap.size))) (fun k o hx ho => F3.keep k o hx ho)
    generalize w2.setCell ⟨sb, 0, none⟩ (.map (some w.heap.size)) = w3 at *
    simp only [List.setIfInBounds_toArray, List.set_cons_zero] at hb1'
    have e0 : w3.cell? ⟨sb, 0, none⟩ = some (.map (some w.heap.size)) := cell_row hb1' 0 rfl
    have HB1 := Lib.hid hb1'
    have HOV := Lib.hid hov
    have HBY := Lib.hid hby3
    have LTX : Hid (∀ k, X k → k < w3.heap.size) := fun k e => Nat.lt_of_lt_of_le (LT.out k e) F3.size
    have HXM : Hid (¬ X w.heap.size) := fun e => by have := LT.out _ e; omega
    have HOWN : Hid (w3.ownsMap Try.prog 9 vR w.heap.size N (.map [])) := ⟨#[], 0, hm3, ⟨by simp, MapKept.stamped_empty 0, by simp⟩, Nat.zero_le _, rfl⟩
    have HIM : Hid (Maps.IsMap (.map [] : DataW Value)) := Maps.isMap_empty
    have HAT : Hid (∀ k, BlobAt (fun k => ¬ X k) w3 (.map []) k (s.blobs k)) := fun k => by rw [HZ.out k]; rfl
    have F3H := Lib.hid F3
    clear hb1' hov hby3 hm3 F3 c1' c2' c3' d2 f2 heq n1 n2 n3
    have hS : w3.drew.cell? p1 = some (.pointer (some ⟨sb, 0, none⟩)) ∧ w3.drew.cell? ⟨sb, 0, none⟩ = some (.map (some w.heap.size)) ∧ w3.drew.cell? p3 = some (.string name) ∧ w3.drew.cell? p2 = some bv := ⟨e1, e0, e3, e2⟩
    refine wp_region_held_drew (S := fun w' => w'.cell? p1 = some (.pointer (some ⟨sb, 0, none⟩)) ∧ w'.cell? ⟨sb, 0, none⟩ = some (.map (some w.heap.size)) ∧ w'.cell? p3 = some (.string name) ∧ w'.cell? p2 = some bv) mixed hS (fun _ => ?_)
    show wpAnyH _ _ _ _ _ 8 (Array.replicate 8 false) _ _
    refine wpAnyH_take_d 0 (some 13) (.pointer (some ⟨sb, 0, none⟩)) rfl (by kernel_rfl) (by kernel_rfl) (by kernel_rfl) (by kernel_rfl) rfl (fun _ _ _ h => h) (fun w' h => exec_load_cell rfl rfl h.1 Try.underlying24 rfl) (by exact hS) ?_
    simp only [Act.put, List.setIfInBounds_toArray, List.set_cons_succ, List.set_cons_zero]
    refine wpAnyH_take_d 1 (some 14) (.pointer (some ⟨sb, 0, none⟩)) rfl (by kernel_rfl) (by kernel_rfl) (by kernel_rfl) (by kernel_rfl) rfl (fun _ _ _ h => h) (fun _ _ => by kernel_rfl) (by exact hS) ?_
    simp only [Act.put, List.setIfInBounds_toArray, List.set_cons_succ, List.set_cons_zero]
    refine wpAnyH_take_d 2 (some 15) (.pointer (some ⟨sb, 0, none⟩)) rfl (by kernel_rfl) (by kernel_rfl) (by kernel_rfl) (by kernel_rfl) rfl (fun _ _ _ h => h) (fun _ _ => by kernel_rfl) (by exact hS) ?_
    simp only [Act.put, List.setIfInBounds_toArray, List.set_cons_succ, List.set_cons_zero]
    refine wpAnyH_take_d 3 (some 16) (.map (some w.heap.size)) rfl (by kernel_rfl) (by kernel_rfl) (by kernel_rfl) (by kernel_rfl) rfl (fun _ _ _ h => h) (fun w' h => exec_load_cell rfl rfl h.2.1 Try.underlying53 rfl) (by exact hS) ?_
    simp only [Act.put, List.setIfInBounds_toArray, List.set_cons_succ, List.set_cons_zero]
    refine wpAnyH_take_d 4 (some 17) (.string name) rfl (by kernel_rfl) (by kernel_rfl) (by kernel_rfl) (by kernel_rfl) rfl (fun _ _ _ h => h) (fun w' h => exec_load_cell rfl rfl h.2.2.1 Try.underlying9 rfl) (by exact hS) ?_
    simp only [Act.put, List.setIfInBounds_toArray, List.set_cons_succ, List.set_cons_zero]
    refine wpAnyH_take_d 5 (some 18) (bv) rfl (by kernel_rfl) (by kernel_rfl) (by kernel_rfl) (by kernel_rfl) rfl (fun _ _ _ h => h) (fun w' h => exec_load_cell rfl rfl h.2.2.2 Try.underlying36 rfl) (by exact hS) ?_
    simp only [Act.put, List.setIfInBounds_toArray, List.set_cons_succ, List.set_cons_zero]
    refine wpAnyH_call 6 (some 19) 32 #[bv] rfl (by kernel_rfl) (by kernel_rfl) rfl (by kernel_rfl) (clone_any (w := w3.drew) HBY.out.at hbl) ?_
    rintro e w5 ⟨v5, rfl, o5, bl5⟩
    have hb5 : Below w3.heap.size w3 w5 := (Below.refl w3.heap.size w3).drew.trans bl5
    have hS : w5.cell? p1 = some (.pointer (some ⟨sb, 0, none⟩)) ∧ w5.cell? ⟨sb, 0, none⟩ = some (.map (some w.heap.size)) ∧ w5.cell? p3 = some (.string name) ∧ w5.cell? p2 = some bv :=
      ⟨(hb5.cell (World.block_lt_of_cell? _ _ e1)).trans e1, (hb5.cell (p := ⟨sb, 0, none⟩) (World.block_lt_of_cell? _ _ e0)).trans e0, (hb5.cell (World.block_lt_of_cell? _ _ e3)).trans e3, (hb5.cell (World.block_lt_of_cell? _ _ e2)).trans e2⟩
    refine ⟨v5, rfl, hS, ?_⟩
    simp only [Act.put, List.setIfInBounds_toArray, List.set_cons_succ, List.set_cons_zero]
    have hk5 : ∀ (k : Nat) o, w3.heap[k]? = some o → w5.heap[k]? = some o := fun k o ho => (hb5.block k (lt_of_heap ho)).trans ho
    obtain ⟨w6, hrun6, hst6, hkp6, hcs6⟩ := put_end (w := w5) (s := s) (N := N) (bs := bs) (v := v5) (name := name) (mb := w.heap.size) (sb := sb) (D := .map []) (ov := ov) (X := X) (fun k e => Nat.lt_of_lt_of_le (LTX.out k e) hb5.size) OUT.out RNG.out (hk5 _ _ HB1.out) HXM.out
      (by obtain ⟨es, c, h, r⟩ := HOWN.out; exact ⟨es, c, hk5 _ _ h, r⟩) HIM.out (fun k => (HAT.out k).keep (fun k o _ ho => hk5 k o ho)) (HOV.out.keep (X' := X) (fun k o _ ho => hk5 k o ho) (fun _ _ e => e)) hN hn
      ((o5.inn (by unfold maxLen; omega)).mono (fun k _ hk e => by have h1 := LTX.out k e; have h2 : w3.heap.size ≤ k := hk; omega))
    have cell6 : ∀ (p : Addr) (u : Value) (cs : Array Value) (t : TypeId) (f : Nat × Nat), w5.heap[p.block]? = some (.cells cs t f) → w5.cell? p = some u → w6.cell? p = some u := fun p u cs t f hh hc => by
      rw [World.cell?_of_block ((hcs6 _ _ _ _ hh).trans hh.symm)]; exact hc
    have hS6 : w6.cell? p1 = some (.pointer (some ⟨sb, 0, none⟩)) ∧ w6.cell? ⟨sb, 0, none⟩ = some (.map (some w.heap.size)) ∧ w6.cell? p3 = some (.string name) ∧ w6.cell? p2 = some bv :=
      ⟨hkp6.cell x1 hS.1, cell6 ⟨sb, 0, none⟩ _ _ _ _ (hk5 _ _ HB1.out) hS.2.1, hkp6.cell x3 hS.2.2.1, hkp6.cell x2 hS.2.2.2⟩
    refine wpAnyH_one_skip 7 rfl (by kernel_rfl) (by kernel_rfl) (exec_mapUpdate rfl rfl rfl rfl hrun6) hS6 ?_
    simp only [Act.put, List.setIfInBounds_toArray, List.set_cons_succ, List.set_cons_zero]
    refine wpAnyH_done (by kernel_rfl) ?_ _
    have FIN := Lib.hid (And.intro hst6 (((F3H.out).trans (Kp.of_below hb5)).trans hkp6))
    clear hst6 hkp6 hcs6 hrun6 cell6 hS6 hk5 o5 bl5 hb5
    go_wp2
    go_ret
    exact ⟨rfl, FIN.out⟩
  · have LTX := Lib.hid lt
    have HB1 := Lib.hid b1
    have HOV := Lib.hid o1
    have HBY := Lib.hid hby
    have HXM := Lib.hid hmb
    have HOWN := Lib.hid hown
    have HIM := Lib.hid him
    have HAT := Lib.hid hat
    have e1 := c1
    have e2 := c2
    have e3 := c3
    have e0 := d0
    clear lt b1 o1 hby hmb hown him hat n1 n2 n3
    go_wp2_with fail
    clear heq c1 c2 c3 d0
    have hS : w.drew.cell? p1 = some (.pointer (some ⟨sb, 0, none⟩)) ∧ w.drew.cell? ⟨sb, 0, none⟩ = some (.map (some mb)) ∧ w.drew.cell? p3 = some (.string name) ∧ w.drew.cell? p2 = some bv := ⟨e1, e0, e3, e2⟩
    refine wp_region_held_drew (S := fun w' => w'.cell? p1 = some (.pointer (some ⟨sb, 0, none⟩)) ∧ w'.cell? ⟨sb, 0, none⟩ = some (.map (some mb)) ∧ w'.cell? p3 = some (.string name) ∧ w'.cell? p2 = some bv) mixed hS (fun _ => ?_)
    show wpAnyH _ _ _ _ _ 8 (Array.replicate 8 false) _ _
    refine wpAnyH_take_d 0 (some 13) (.pointer (some ⟨sb, 0, none⟩)) rfl (by kernel_rfl) (by kernel_rfl) (by kernel_rfl) (by kernel_rfl) rfl (fun _ _ _ h => h) (fun w' h => exec_load_cell rfl rfl h.1 Try.underlying24 rfl) (by exact hS) ?_
    simp only [Act.put, List.setIfInBounds_toArray, List.set_cons_succ, List.set_cons_zero]
    refine wpAnyH_take_d 1 (some 14) (.pointer (some ⟨sb, 0, none⟩)) rfl (by kernel_rfl) (by kernel_rfl) (by kernel_rfl) (by kernel_rfl) rfl (fun _ _ _ h => h) (fun _ _ => by kernel_rfl) (by exact hS) ?_
    simp only [Act.put, List.setIfInBounds_toArray, List.set_cons_succ, List.set_cons_zero]
    refine wpAnyH_take_d 2 (some 15) (.pointer (some ⟨sb, 0, none⟩)) rfl (by kernel_rfl) (by kernel_rfl) (by kernel_rfl) (by kernel_rfl) rfl (fun _ _ _ h => h) (fun _ _ => by kernel_rfl) (by exact hS) ?_
    simp only [Act.put, List.setIfInBounds_toArray, List.set_cons_succ, List.set_cons_zero]
    refine wpAnyH_take_d 3 (some 16) (.map (some mb)) rfl (by kernel_rfl) (by kernel_rfl) (by kernel_rfl) (by kernel_rfl) rfl (fun _ _ _ h => h) (fun w' h => exec_load_cell rfl rfl h.2.1 Try.underlying53 rfl) (by exact hS) ?_
    simp only [Act.put, List.setIfInBounds_toArray, List.set_cons_succ, List.set_cons_zero]
    refine wpAnyH_take_d 4 (some 17) (.string name) rfl (by kernel_rfl) (by kernel_rfl) (by kernel_rfl) (by kernel_rfl) rfl (fun _ _ _ h => h) (fun w' h => exec_load_cell rfl rfl h.2.2.1 Try.underlying9 rfl) (by exact hS) ?_
    simp only [Act.put, List.setIfInBounds_toArray, List.set_cons_succ, List.set_cons_zero]
    refine wpAnyH_take_d 5 (some 18) (bv) rfl (by kernel_rfl) (by kernel_rfl) (by kernel_rfl) (by kernel_rfl) rfl (fun _ _ _ h => h) (fun w' h => exec_load_cell rfl rfl h.2.2.2 Try.underlying36 rfl) (by exact hS) ?_
    simp only [Act.put, List.setIfInBounds_toArray, List.set_cons_succ, List.set_cons_zero]
    refine wpAnyH_call 6 (some 19) 32 #[bv] rfl (by kernel_rfl) (by kernel_rfl) rfl (by kernel_rfl) (clone_any (w := w.drew) HBY.out.at hbl) ?_
    rintro e w5 ⟨v5, rfl, o5, bl5⟩
    have hb5 : Below w.heap.size w w5 := (Below.refl w.heap.size w).drew.trans bl5
    have hS : w5.cell? p1 = some (.pointer (some ⟨sb, 0, none⟩)) ∧ w5.cell? ⟨sb, 0, none⟩ = some (.map (some mb)) ∧ w5.cell? p3 = some (.string name) ∧ w5.cell? p2 = some bv :=
      ⟨(hb5.cell (World.block_lt_of_cell? _ _ e1)).trans e1, (hb5.cell (p := ⟨sb, 0, none⟩) (World.block_lt_of_cell? _ _ e0)).trans e0, (hb5.cell (World.block_lt_of_cell? _ _ e3)).trans e3, (hb5.cell (World.block_lt_of_cell? _ _ e2)).trans e2⟩
    refine ⟨v5, rfl, hS, ?_⟩
    simp only [Act.put, List.setIfInBounds_toArray, List.set_cons_succ, List.set_cons_zero]
    have hk5 : ∀ (k : Nat) o, w.heap[k]? = some o → w5.heap[k]? = some o := fun k o ho => (hb5.block k (lt_of_heap ho)).trans ho
    obtain ⟨w6, hrun6, hst6, hkp6, hcs6⟩ := put_end (w := w5) (s := s) (N := N) (bs := bs) (v := v5) (name := name) (mb := mb) (sb := sb) (D := D) (ov := ov) (X := X) (fun k e => Nat.lt_of_lt_of_le (LTX.out k e) hb5.size) OUT.out RNG.out (hk5 _ _ HB1.out) HXM.out
      (by obtain ⟨es, c, h, r⟩ := HOWN.out; exact ⟨es, c, hk5 _ _ h, r⟩) HIM.out (fun k => (HAT.out k).keep (fun k o _ ho => hk5 k o ho)) (HOV.out.keep (X' := X) (fun k o _ ho => hk5 k o ho) (fun _ _ e => e)) hN hn
      ((o5.inn (by unfold maxLen; omega)).mono (fun k _ hk e => by have h1 := LTX.out k e; have h2 : w.heap.size ≤ k := hk; omega))
    have cell6 : ∀ (p : Addr) (u : Value) (cs : Array Value) (t : TypeId) (f : Nat × Nat), w5.heap[p.block]? = some (.cells cs t f) → w5.cell? p = some u → w6.cell? p = some u := fun p u cs t f hh hc => by
      rw [World.cell?_of_block ((hcs6 _ _ _ _ hh).trans hh.symm)]; exact hc
    have hS6 : w6.cell? p1 = some (.pointer (some ⟨sb, 0, none⟩)) ∧ w6.cell? ⟨sb, 0, none⟩ = some (.map (some mb)) ∧ w6.cell? p3 = some (.string name) ∧ w6.cell? p2 = some bv :=
      ⟨hkp6.cell x1 hS.1, cell6 ⟨sb, 0, none⟩ _ _ _ _ (hk5 _ _ HB1.out) hS.2.1, hkp6.cell x3 hS.2.2.1, hkp6.cell x2 hS.2.2.2⟩
    refine wpAnyH_one_skip 7 rfl (by kernel_rfl) (by kernel_rfl) (exec_mapUpdate rfl rfl rfl rfl hrun6) hS6 ?_
    simp only [Act.put, List.setIfInBounds_toArray, List.set_cons_succ, List.set_cons_zero]
    refine wpAnyH_done (by kernel_rfl) ?_ _
    have FIN := Lib.hid (And.intro hst6 (((Kp.refl X w).trans (Kp.of_below hb5)).trans hkp6))
    clear hst6 hkp6 hcs6 hrun6 cell6 hS6 hk5 o5 bl5 hb5
    go_wp2
    go_ret
    exact ⟨rfl, FIN.out⟩
end Go.Proofs.Ytcbbppgleclndaa
