/- The contracts of the document's Pop of nothing, Push, Set, Drop. No statement of the seat is proved here. -/
import Derived.Test.YtegloiojhimoeaaQRefB
namespace Go.Proofs.Ytegloiojhimoeaa
open Go.RowKit

set_option maxRecDepth 20000 in
set_option maxHeartbeats 3200000 in
theorem rpop_none {X : Nat → Prop} {w : World} {rb : Nat} (h : RAt X w rb []) : Calls Try.prog 23 #[.pointer (some ⟨rb, 0, none⟩)] w (MissPost w) := by
  go_enter Try.func23, Try.ntmps23
  go_wp2_with (with_reducible refine wpList_alloc_row rfl 60 rfl #[.int .i64 0, .float .f64 0] (by kernel_rfl) ?_)
  intro w1 hg1 hb1 hs1
  have P := rpeek_none (h.below hb1)
  go_wp2_with fail
  refine P.mono ?_
  rintro e w2 ⟨rfl, hb2⟩
  have b12 : Below w.heap.size w w2 := hb1.trans (hb2.mono hb1.size)
  have hg2 := (hb2.block _ hs1).trans hg1
  have hs2 := Nat.lt_of_lt_of_le hs1 hb2.size
  clear h hb1 hb2 hg1 P hs1
  go_wp2_with (with_reducible refine wpList_alloc_row rfl 60 rfl #[.int .i64 0, .float .f64 0] (by kernel_rfl) ?_)
  intro w3 hg3 hb3 hs3
  obtain ⟨d0, g0, hst, hg4, ho4, hbl4⟩ := ent_storeR hg3 0 0
  have hg4a := (ho4 w.heap.size (by omega)).trans ((hb3.block _ hs2).trans hg2)
  have b4 := hbl4 _ _ (b12.trans (hb3.mono b12.size)) b12.size
  obtain ⟨d0', g0', hst', hg6, -, hbl6⟩ := ent_storeR hg4a 0 0
  have x0 := cell_row hg4 0 rfl
  have x1 := cell_row hg4 1 rfl
  have b6 := hbl6 _ _ b4 (Nat.le_refl _)
  have FIN := Lib.hid (And.intro hg6 b6)
  clear hg4 hg4a ho4 hbl4 b4 hg3 hb3 b12 hg2 hs3 hs2 hg6 hbl6 b6
  generalize hw4 : (w3.setCell ⟨w2.heap.size, 0, none⟩ (.int .i64 0)).setCell ⟨w2.heap.size, 1, none⟩ (.float .f64 0) = w4 at *
  generalize hw6 : (w4.setCell ⟨w.heap.size, 0, none⟩ (.int .i64 0)).setCell ⟨w.heap.size, 1, none⟩ (.float .f64 0) = w6 at *
  clear hw4 hw6
  go_wp2
  have e0 := cell_row FIN.out.1 0 rfl
  have e1 := cell_row FIN.out.1 1 rfl
  exact bodyPost_ret (v := .tuple #[.agg #[.int .i64 0, .float .f64 0], .int .i64 7]) (by simp [results, Try.results23, go_sem, e0, e1]) rfl ⟨rfl, FIN.out.2⟩
/-- the place of the one with an id -/
theorem place_of {S : List Wt} (ids : S.Pairwise (fun a b => a.id ≠ b.id)) {id : Int} {x : Wt} (h : fnd S id = some x) : ∃ i, i < S.length ∧ at' S i = x ∧ (at' S i).id = id ∧ ∀ j, j < i → (at' S j).id ≠ id := by
  obtain ⟨hx, hid⟩ := fnd_some h
  obtain ⟨i, hi, rfl⟩ := mem_at hx
  refine ⟨i, hi, rfl, hid, fun j hj e => ?_⟩
  have := List.pairwise_iff_getElem.1 ids j i (by omega) hi hj
  rw [← at_eq (by omega), ← at_eq hi, e, hid] at this
  exact this rfl
set_option maxRecDepth 20000 in
set_option maxHeartbeats 800000 in
theorem rpush_there {X : Nat → Prop} {w : World} {rb : Nat} {S : List Wt} (h : RAt X w rb S) (ids : S.Pairwise (fun a b => a.id ≠ b.id)) (hl : S.length ≤ 10000) {id : Int} {x : Wt} (hx : fnd S id = some x) (p : Nat) : Calls Try.prog 22 #[.pointer (some ⟨rb, 0, none⟩), .int .i64 id, .float .f64 p] w fun e w' => e = .returned (.int .i64 8) ∧ w = w' := by
  obtain ⟨i, hi, -, h2, h3⟩ := place_of ids hx
  have P := place_some h hi h2 h3 (by omega)
  have hi0 : (0 : Int) ≤ (i : Int) := by omega
  clear h ids hx hi h2 h3 hl
  go_enter Try.func22, Try.ntmps22
  go_wp2_with fail
  refine P.mono ?_
  rintro e _ ⟨rfl, rfl⟩
  go_wp2
  go_ret
  exact ⟨rfl, rfl⟩
set_option maxRecDepth 20000 in
set_option maxHeartbeats 800000 in
theorem rpush_full {X : Nat → Prop} {w : World} {rb : Nat} {S : List Wt} (h : RAt X w rb S) (hl : S.length ≤ 10000) {id : Int} (hx : fnd S id = none) (hf : 1000 ≤ S.length) (p : Nat) : Calls Try.prog 22 #[.pointer (some ⟨rb, 0, none⟩), .int .i64 id, .float .f64 p] w fun e w' => e = .returned (.int .i64 14) ∧ w = w' := by
  have P := place_none h hx (by omega)
  obtain ⟨ao, cap, c0, -, -, -⟩ := h.form
  have hf' : (1000 : Int) ≤ (S.length : Int) := by omega
  clear h hx hl hf
  generalize S.length = n at *
  go_enter Try.func22, Try.ntmps22
  go_wp2_with fail
  refine P.mono ?_
  rintro e _ ⟨rfl, rfl⟩
  go_wp2
  go_ret
  exact ⟨rfl, rfl⟩
set_option maxRecDepth 20000 in
set_option maxHeartbeats 1600000 in
theorem rpush_ok {X : Nat → Prop} {w : World} {rb : Nat} {S : List Wt} (h : RAt X w rb S) {x : Wt} (hx : fnd S x.id = none) (hl : S.length < 1000) : Calls Try.prog 22 #[.pointer (some ⟨rb, 0, none⟩), .int .i64 x.id, .float .f64 x.pr] w fun e w' => e = .returned (.int .i64 0) ∧ RAt X w' rb (S ++ [x]) ∧ Kp X w w' := by
  have P := place_none h hx (by omega)
  obtain ⟨ao, cap, c0, hcap, ho, -⟩ := h.form
  obtain ⟨lv, hbox, -, hlx⟩ := h.box
  have elv : lv = .slice ao S.length cap := by
    have := (cell_row hbox 0 rfl).symm.trans c0
    simpa using this
  subst elv
  have hrl : rb < w.heap.size := lt_of_heap hbox
  have hl' : ¬ ((1000 : Int) ≤ (S.length : Int)) := by omega
  obtain ⟨i0, hi0, hz0, hz1, hz2⟩ := infoR
  have o1 := World.ownsRow.alloc ho (.cells #[.int .i64 x.id, .float .f64 x.pr] 60)
  obtain ⟨v', w3, hr, o3, hbel, hs3, hgr⟩ := own_push (t := 27) (ty := 27) Try.underlying27 hi0 hz0 hz1 hz2 rfl (by decide) o1 (b := w.heap.size) (ys := entC x) (heap_alloc_new w _) rfl (by simp [entC, Value.oneCell']) (by omega) (by unfold maxLen; omega) (Nat.zero_le _)
  obtain ⟨ao', cap', rfl, -, -⟩ := ownsRow_form o3
  rw [← cellsE_append] at o3
  have hrx : ∀ k, (Value.slice ao S.length cap).ownBlock = some k → k ≠ rb ∧ k < w.heap.size := fun k hk => by
    refine ⟨?_, (World.ownsRow.lt ho k hk).2⟩
    rcases ho.2 with ⟨h', _⟩ | ⟨g', cap'', cur, h', _, hg, _⟩
    · rw [h'] at hk; cases hk
    · rw [h'] at hk
      simp only [Value.ownBlock, Option.some.injEq] at hk
      subst hk
      exact ne_of_obj hg hbox (by decide)
  have hk3 : ∀ (k : Nat) o, some k ≠ (Value.slice ao S.length cap).ownBlock → w.heap[k]? = some o → w3.heap[k]? = some o := fun k o k2 ho' => by
    have hlt : k < w.heap.size := lt_of_heap ho'
    rw [hgr.1 k (by simp; omega) k2, Below.heap_alloc _ _ _ hlt]; exact ho'
  have hbox3 := hk3 rb _ (fun e => (hrx rb e.symm).1 rfl) hbox
  have c03 : w3.cell? ⟨rb, 0, none⟩ = some (.slice ao S.length cap) := cell_row hbox3 0 rfl
  have f03 := free_row hbox3 0
  have hs3' : w.heap.size + 1 ≤ w3.heap.size := by simpa using hs3
  have hos : w3.os = w.os ∧ w3.tape = w.tape ∧ w3.output = w.output := ⟨hbel.os, hbel.tape, hbel.output⟩
  have kp3 : Kp X w w3 := ⟨hos.1, hos.2.1, hos.2.2, by omega, fun k o hk ho' => hk3 k o (fun e => hlx k e.symm hk) ho'⟩
  have hown' : ∀ k, (Value.slice ao' (S.length + 1) cap').ownBlock = some k → ¬ X k ∧ k ≠ rb := fun k hk => by
    obtain ⟨cur, hc⟩ : ∃ cur, w3.heap[k]? = some (.cells cur 60 (0, 0)) := by
      rcases o3.2 with ⟨h', _⟩ | ⟨g', cap'', cur, h', _, hg, _⟩
      · rw [h'] at hk; cases hk
      · rw [h'] at hk
        simp only [Value.ownBlock, Option.some.injEq] at hk
        exact ⟨cur, hk ▸ hg⟩
    refine ⟨fun e => ?_, ne_of_obj hc hbox3 (by decide)⟩
    rcases hgr.2.2 with e1 | ⟨k', hk', e1⟩
    · rw [e1] at hk; exact hlx k hk e
    · rw [e1] at hk
      cases hk
      have h1 := h.lt _ e
      have h2 : w.heap.size + 1 ≤ k := by simpa using hk'
      omega
  have hq4 : (w3.setCell ⟨rb, 0, none⟩ (.slice ao' (S.length + 1) cap')).heap[rb]? = some (.cells #[.slice ao' (S.length + 1) cap'] 29 (0, 0)) := heap_setCell_same w3 rb 0 _ _ _ hbox3
  have o4 := ownsRow_setCell_other o3 (a := ⟨rb, 0, none⟩) (fun e => (hown' _ e).2 rfl) (.slice ao' (S.length + 1) cap')
  have kp4 : Kp X w (w3.setCell ⟨rb, 0, none⟩ (.slice ao' (S.length + 1) cap')) := kp3.setCell h.ro _
  have R4 : RAt X (w3.setCell ⟨rb, 0, none⟩ (.slice ao' (S.length + 1) cap')) rb (S ++ [x]) :=
    ⟨fun k e => Nat.lt_of_lt_of_le (h.lt k e) kp4.size, h.ro, _, hq4, by rw [List.length_append]; exact o4, fun k hk => (hown' k hk).1⟩
  have FIN := Lib.hid (And.intro R4 kp4)
  have HR := Lib.hid hr
  clear hr R4 kp4 o4 hq4 hown' kp3 hos hbel hs3' hbox3 hk3 hrx hgr hs3 o3 o1 hbox hlx ho h hx hcap hl
  generalize hn : S.length = n at *
  generalize hn1 : n + 1 = n1 at *
  obtain ⟨xb, xi, xp, xt⟩ := x
  simp only at P HR FIN
  go_enter Try.func22, Try.ntmps22
  go_wp2_with fail
  refine P.mono ?_
  rintro e _ ⟨rfl, rfl⟩
  clear P
  go_wp2_with (with_reducible refine wpList_append_own rfl (.tmp 21) (.tmp 25) 27 27 rfl (.slice ao n cap) (.slice (some ⟨w.heap.size, 0, none⟩) 1 1) (.slice ao' n1 cap') rfl rfl HR.out ?_)
  go_ret
  exact ⟨rfl, FIN.out⟩

theorem cells_put {S : List Wt} {i : Nat} (hi : i < S.length) (hu : ∀ j, j < S.length → (at' S j).id = (at' S i).id → j = i) (p : Nat) : (cellsE S).set (i * 2 + 1) (.float .f64 p) = cellsE (put S (at' S i).id p) := by
  refine List.ext_getElem? (fun m => ?_)
  obtain ⟨k, r, hr, rfl⟩ : ∃ k r, r < 2 ∧ m = 2 * k + r := ⟨m / 2, m % 2, Nat.mod_lt _ (by decide), by omega⟩
  rw [List.getElem?_set, entCells_at _ k r hr, entCells_at _ k r hr, cellsE_len]
  have hp : (put S (at' S i).id p)[k]? = (S[k]?).map (fun x => if x.id = (at' S i).id then { x with pr := p } else x) := by unfold put; rw [List.getElem?_map]
  rw [hp]
  by_cases hk : k < S.length
  · rw [at_some hk]
    simp only [Option.map_some, Option.bind_some]
    by_cases e : k = i
    · subst e
      rw [if_pos rfl]
      by_cases e2 : r = 1
      · subst e2
        rw [if_pos (by omega), if_pos (by omega)]; rfl
      · obtain rfl : r = 0 := by omega
        rw [if_neg (by omega)]; rfl
    · rw [if_neg (by omega), if_neg (fun h => e (hu k hk h))]
  · have : S[k]? = none := List.getElem?_eq_none (by omega)
    rw [this, if_neg (by omega)]; rfl
set_option maxRecDepth 20000 in
set_option maxHeartbeats 1600000 in
theorem rset_ok {X : Nat → Prop} {w : World} {rb : Nat} {S : List Wt} (h : RAt X w rb S) (ids : S.Pairwise (fun a b => a.id ≠ b.id)) (hl : S.length ≤ 10000) {id : Int} {x : Wt} (hx : fnd S id = some x) (p : Nat) : Calls Try.prog 26 #[.pointer (some ⟨rb, 0, none⟩), .int .i64 id, .float .f64 p] w fun e w' => e = .returned (.int .i64 0) ∧ RAt X w' rb (put S id p) ∧ Kp X w w' := by
  obtain ⟨i, hi, -, h2, h3⟩ := place_of ids hx
  have P := place_some h hi h2 h3 (by omega)
  have hi0 : ¬ ((i : Int) < 0) := by omega
  obtain ⟨ao, cap, c0, hcap, ho, hc⟩ := h.form
  obtain ⟨g, rfl, -, c1⟩ := hc i hi
  obtain ⟨lv, hbox, -, hlx⟩ := h.box
  have elv : lv = .slice (some ⟨g, 0, none⟩) S.length cap := by
    have := (cell_row hbox 0 rfl).symm.trans c0
    simpa using this
  subst elv
  have f1 := World.ownsRow.frozenAt ho (i * 2 + 1)
  have hgr : g ≠ rb := by
    obtain ⟨cur, hcur⟩ : ∃ cur, w.heap[g]? = some (.cells cur 60 (0, 0)) := by
      rcases ho.2 with ⟨h', _⟩ | ⟨g', cap', cur, h', _, hg, _⟩
      · simp at h'
      · simp only [Value.slice.injEq, Option.some.injEq, Addr.mk.injEq, and_true, true_and] at h'
        obtain ⟨rfl, rfl⟩ := h'
        exact ⟨cur, hg⟩
    exact ne_of_obj hcur hbox (by decide)
  have hst := run_store1 (P := Try.prog) (v := .float .f64 p) rfl c1 f1
  have o1 := (World.ownsRow.stored ho (i * 2 + 1) (.float .f64 p)).1
  rw [cells_put hi (fun j hj e => by
    rcases Nat.lt_trichotomy j i with e2 | e2 | e2
    · exact absurd (e.trans h2) (h3 j e2)
    · exact e2
    · have := List.pairwise_iff_getElem.1 ids i j hi hj e2
      rw [← at_eq hi, ← at_eq hj] at this
      exact absurd e.symm this), h2] at o1
  have hbox1 : (w.setCell ⟨g, i * 2 + 1, none⟩ (.float .f64 p)).heap[rb]? = some (.cells #[.slice (some ⟨g, 0, none⟩) S.length cap] 29 (0, 0)) := by
    rw [Below.heap_setCell _ _ _ _ (Ne.symm hgr)]; exact hbox
  have kp : Kp X w (w.setCell ⟨g, i * 2 + 1, none⟩ (.float .f64 p)) := (Kp.refl X w).setCell (hlx g rfl) _
  have R1 : RAt X (w.setCell ⟨g, i * 2 + 1, none⟩ (.float .f64 p)) rb (put S id p) :=
    ⟨fun k e => Nat.lt_of_lt_of_le (h.lt k e) kp.size, h.ro, _, hbox1, by rw [put_length]; exact o1, hlx⟩
  have FIN := Lib.hid (And.intro R1 kp)
  clear R1 kp hbox1 o1 hgr hbox hlx hc ho h ids hx h2 h3 hl hcap
  generalize S.length = n at *
  go_enter Try.func26, Try.ntmps26
  go_wp2_with fail
  refine P.mono ?_
  rintro e _ ⟨rfl, rfl⟩
  clear P
  go_wp2
  go_ret
  exact ⟨rfl, FIN.out⟩
set_option maxRecDepth 20000 in
set_option maxHeartbeats 800000 in
theorem rset_none {X : Nat → Prop} {w : World} {rb : Nat} {S : List Wt} (h : RAt X w rb S) (hl : S.length ≤ 10000) {id : Int} (hx : fnd S id = none) (p : Nat) : Calls Try.prog 26 #[.pointer (some ⟨rb, 0, none⟩), .int .i64 id, .float .f64 p] w fun e w' => e = .returned (.int .i64 7) ∧ w = w' := by
  have P := place_none h hx (by omega)
  clear h hx hl
  go_enter Try.func26, Try.ntmps26
  go_wp2_with fail
  refine P.mono ?_
  rintro e _ ⟨rfl, rfl⟩
  go_wp2
  go_ret
  exact ⟨rfl, rfl⟩
set_option maxRecDepth 20000 in
set_option maxHeartbeats 800000 in
theorem rdrop_none {X : Nat → Prop} {w : World} {rb : Nat} {S : List Wt} (h : RAt X w rb S) (hl : S.length ≤ 10000) {id : Int} (hx : fnd S id = none) : Calls Try.prog 27 #[.pointer (some ⟨rb, 0, none⟩), .int .i64 id] w fun e w' => e = .returned (.int .i64 7) ∧ w = w' := by
  have P := place_none h hx (by omega)
  clear h hx hl
  go_enter Try.func27, Try.ntmps27
  go_wp2_with fail
  refine P.mono ?_
  rintro e _ ⟨rfl, rfl⟩
  go_wp2
  go_ret
  exact ⟨rfl, rfl⟩
set_option maxRecDepth 20000 in
set_option maxHeartbeats 1600000 in
theorem rdrop_ok {X : Nat → Prop} {w : World} {rb : Nat} {S : List Wt} (h : RAt X w rb S) (ids : S.Pairwise (fun a b => a.id ≠ b.id)) (hl : S.length ≤ 10000) {id : Int} {x : Wt} (hx : fnd S id = some x) : Calls Try.prog 27 #[.pointer (some ⟨rb, 0, none⟩), .int .i64 id] w fun e w' => e = .returned (.int .i64 0) ∧ RAt X w' rb (del S id) ∧ Kp X w w' := by
  obtain ⟨i, hi, -, h2, h3⟩ := place_of ids hx
  have P := place_some h hi h2 h3 (by omega)
  have hi0 : ¬ ((i : Int) < 0) := by omega
  obtain ⟨hsp, hsl⟩ := split_at hi
  have CU := Lib.hid (cut_any h hsp hl)
  rw [hsl, cut_del hi ids, h2] at CU
  clear h ids hx h2 h3 hl hsp hsl hi
  go_enter Try.func27, Try.ntmps27
  go_wp2_with fail
  refine P.mono ?_
  rintro e _ ⟨rfl, rfl⟩
  clear P
  go_wp2_with fail
  refine CU.out.mono ?_
  rintro e w2 ⟨rfl, hr, hk⟩
  have FIN := Lib.hid (And.intro hr hk)
  clear hr hk CU
  go_wp2
  go_ret
  exact ⟨rfl, FIN.out⟩
end Go.Proofs.Ytegloiojhimoeaa
