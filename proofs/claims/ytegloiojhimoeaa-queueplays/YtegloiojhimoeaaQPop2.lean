/- The contracts of the queue's Drop, Pop, Set. No statement of the seat is proved here. -/
import Derived.Test.YtegloiojhimoeaaQRem
namespace Go.Proofs.Ytegloiojhimoeaa
open Go.RowKit

set_option maxRecDepth 20000 in
set_option maxHeartbeats 1600000 in
theorem drop_ok {X : Nat → Prop} {w : World} {qb : Nat} {S : List Wt} {pu N : Nat} (h : QAt X w qb S pu N) {id : Int} (hf : fits id) {x : Wt} (hx : fnd S id = some x) : Calls Try.prog 19 #[.pointer (some ⟨qb, 0, none⟩), .int .i64 id] w fun e w' => e = .returned (.int .i64 0) ∧ QAt X w' qb (del S id) pu N ∧ Kp X w w' := by
  have F := find_ok h hf hx
  have R := Lib.hid (remove_any h (fnd_some hx).1)
  have HI := Lib.hid (fnd_some hx).2
  unfold ptrW at F
  clear h hx
  go_enter Try.func19, Try.ntmps19
  go_wp2_with fail
  refine F.mono ?_
  rintro e _ ⟨rfl, rfl⟩
  clear F
  go_wp2_with fail
  refine R.out.mono ?_
  rintro e w1 ⟨rfl, hq⟩
  have HQ := Lib.hid hq
  clear hq R
  go_wp2
  go_ret
  exact ⟨rfl, by rw [← HI.out]; exact HQ.out⟩
set_option maxRecDepth 20000 in
set_option maxHeartbeats 1600000 in
theorem drop_none {X : Nat → Prop} {w : World} {qb : Nat} {S : List Wt} {pu N : Nat} (h : QAt X w qb S pu N) {id : Int} (hf : fits id) (hx : fnd S id = none) : Calls Try.prog 19 #[.pointer (some ⟨qb, 0, none⟩), .int .i64 id] w fun e w' => e = .returned (.int .i64 7) ∧ w = w' := by
  have F := find_none h hf hx
  clear h hx
  go_enter Try.func19, Try.ntmps19
  go_wp2_with fail
  refine F.mono ?_
  rintro e _ ⟨rfl, rfl⟩
  clear F
  go_wp2
  go_ret
  exact ⟨rfl, rfl⟩

/-! ### Set -/
theorem at_put {L : List Wt} {i : Nat} (hi : i < L.length) (id : Int) (p : Nat) : at' (put L id p) i = if (at' L i).id = id then { at' L i with pr := p } else at' L i := by
  unfold put
  rw [at_eq (by simpa using hi), at_eq hi, List.getElem_map]
theorem fnd_put (S : List Wt) (id i : Int) (p : Nat) : fnd (put S id p) i = (fnd S i).map (fun x => if x.id = id then { x with pr := p } else x) := by
  unfold fnd put
  rw [List.find?_map]
  congr 1
  congr 1
  funext x
  simp only [Function.comp]
  split <;> rfl
theorem EntAt.put {D : DataW Value} {S : List Wt} {i : Int} (h : EntAt D i (fnd S i)) (id : Int) (p : Nat) : EntAt D i (fnd (put S id p) i) := by
  rw [fnd_put]
  cases hq : fnd S i with
  | none => rw [hq] at h; exact h
  | some x =>
    rw [hq] at h
    refine ⟨h.1, fun z => (h.2 z).trans ?_⟩
    show DataW.held (ptrW x) = DataW.held (ptrW (if x.id = id then { x with pr := p } else x))
    split <;> rfl
theorem put_length (S : List Wt) (id : Int) (p : Nat) : (put S id p).length = S.length := by simp [put]
theorem LineAt.prio {X : Nat → Prop} {w : World} {qb : Nat} {mv : Value} {pu : Nat} {L : List Wt} (h : LineAt X w qb mv pu L) {i : Nat} (hi : i < L.length) (hid : ∀ j, j < L.length → (at' L j).id = (at' L i).id → j = i) {p : Nat} (hp : p < 18446744073709551616) :
    LineAt X (w.setCell ⟨(at' L i).blk, 1, none⟩ (.float .f64 p)) qb mv pu (put L (at' L i).id p) := by
  obtain ⟨lt, qo, len, ⟨lv, h1, h2, h3⟩, wt, nd, ok⟩ := h
  have wi := wt i hi
  refine ⟨fun k e => by simpa [World.setCell] using lt k e, qo, by rw [put_length]; exact len, ⟨lv, ?_, ?_, h3⟩, fun j hj => ?_, fun j k hj hk e => ?_, fun j hj => ?_⟩
  · rw [Below.heap_setCell _ _ _ _ (ne_of_obj h1 wi.2 (by decide))]; exact h1
  · have e : (put L (at' L i).id p).map ptrW = L.map ptrW := by
      unfold put
      rw [List.map_map]
      congr 1
      funext x
      simp only [Function.comp]
      split <;> rfl
    rw [put_length, e]
    refine ownsRow_setCell_other h2 (fun e => ?_) _
    rcases h2.2 with ⟨h', _⟩ | ⟨g', cap', cur, h', _, hg, _⟩
    · rw [h'] at e; cases e
    · rw [h'] at e
      simp only [Value.ownBlock, Option.some.injEq] at e
      exact ne_of_obj hg wi.2 (by decide) e
  · rw [put_length] at hj
    rw [at_put hj]
    obtain ⟨a, b⟩ := wt j hj
    by_cases e : (at' L j).id = (at' L i).id
    · obtain rfl := hid j hj e
      rw [if_pos rfl]
      refine ⟨a, ?_⟩
      exact heap_setCell_same w (at' L j).blk 1 _ _ (.float .f64 p) b
    · rw [if_neg e]
      refine ⟨a, ?_⟩
      rw [Below.heap_setCell _ _ _ _ (fun e2 => e (by rw [nd j i hj hi e2]))]; exact b
  · rw [put_length] at hj hk
    rw [at_put hj, at_put hk] at e
    refine nd j k hj hk ?_
    have f : ∀ x : Wt, (if x.id = (at' L i).id then { x with pr := p } else x).blk = x.blk := fun x => by split <;> rfl
    rw [f, f] at e; exact e
  · rw [put_length] at hj
    rw [at_put hj]
    have := ok j hj
    split
    · exact ⟨hp, this.2⟩
    · exact this
theorem put_ex {L : List Wt} {i : Nat} (hi : i < L.length) (hid : ∀ j, j < L.length → (at' L j).id = (at' L i).id → j = i) (p : Nat) (hh : HeapAll (kf L) L.length) : HeapEx (kf (put L (at' L i).id p)) (put L (at' L i).id p).length i := by
  rw [put_length]
  have hf : ∀ k, k < L.length → k ≠ i → kf (put L (at' L i).id p) k = kf L k := fun k hk hki => by
    unfold kf
    rw [at_put hk, if_neg (fun e => hki (hid k hk e))]
  refine ⟨fun c c0 c1 c2 c3 => ?_, fun c c0 c1 c2 c3 => ?_⟩
  · rw [hf c c1 c2, hf _ (by omega) c3]; exact hh c c0 c1
  · rw [hf c c1 (by omega), hf _ (by omega) (by omega)]
    have a1 := hh c c0 c1
    have a2 := hh i c3 hi
    rw [c2] at a1
    omega
theorem set_post {X : Nat → Prop} {w w1 w2 : World} {qb : Nat} {S L : List Wt} {pu N : Nat} {mv : Value} {i : Nat} {p : Nat} (h : QAt X w qb S pu N) (hp : L.Perm S) (hmq : MapQ X w mv N (fnd S)) (hb : ¬ XM X mv (at' L i).blk) (hw1 : w1 = w.setCell ⟨(at' L i).blk, 1, none⟩ (.float .f64 p)) {n : Nat} (hn : n = L.length)
    (hu : UpPost (XM X mv) w1 qb mv pu (put L (at' L i).id p) n w2) : QAt X w2 qb (put S (at' L i).id p) pu N ∧ Kp X w w2 := by
  obtain ⟨L', h2, p2, -, a2, k2⟩ := hu
  have k1 : Kp (XM X mv) w w1 := by rw [hw1]; exact (Kp.refl _ _).setCell hb _
  have k := k1.trans k2
  have hl : L'.length = n := by rw [p2.length_eq, put_length, hn]
  have ft : ∀ x : Wt, (if x.id = (at' L i).id then { x with pr := p } else x).turn = x.turn := fun x => by split <;> rfl
  have fi : ∀ x : Wt, (if x.id = (at' L i).id then { x with pr := p } else x).id = x.id := fun x => by split <;> rfl
  refine ⟨⟨⟨mv, L', h2, ?_, p2.trans (hp.map _), by rw [hl]; exact a2⟩, ?_, ?_, fun x hx => ?_, fun x hx => ?_⟩, k.mono (fun _ e => Or.inl e)⟩
  · have := hmq.keep (X' := X) (w' := w2) (fun k' o e ho => k.keep k' o (Or.inr e) ho) (fun _ _ e => e)
    rcases this with ⟨e, hz⟩ | ⟨mb, D, e, hB, ho, hm, hat⟩
    · exact Or.inl ⟨e, fun j => by rw [fnd_put, hz]; rfl⟩
    · exact Or.inr ⟨mb, D, e, hB, ho, hm, fun j hj => (hat j hj).put _ _⟩
  · exact List.pairwise_map.2 (h.srt.imp (fun {a b} e => by rw [ft, ft]; exact e))
  · exact List.pairwise_map.2 (h.ids.imp (fun {a b} e => by rw [fi, fi]; exact e))
  · obtain ⟨y, hy, rfl⟩ := List.mem_map.1 hx
    rw [ft]; exact h.tu y hy
  · obtain ⟨y, hy, rfl⟩ := List.mem_map.1 hx
    rw [fi]; exact h.rng y hy
theorem id_uniq {L S : List Wt} (hp : L.Perm S) (ids : S.Pairwise (fun a b => a.id ≠ b.id)) {i j : Nat} (hi : i < L.length) (hj : j < L.length) (e : (at' L j).id = (at' L i).id) : j = i := by
  have h3 : L.Pairwise (fun a b => a.id ≠ b.id) := (hp.pairwise_iff (fun {a b} h => Ne.symm h)).2 ids
  rw [at_eq hi, at_eq hj] at e
  rcases Nat.lt_trichotomy i j with h | h | h
  · exact absurd e.symm (List.pairwise_iff_getElem.1 h3 i j hi hj h)
  · exact h.symm
  · exact absurd e (List.pairwise_iff_getElem.1 h3 j i hj hi h)

set_option maxRecDepth 20000 in
set_option maxHeartbeats 3200000 in
theorem set_ok {X : Nat → Prop} {w : World} {qb : Nat} {S : List Wt} {pu N : Nat} (h : QAt X w qb S pu N) {id : Int} (hf : fits id) {x : Wt} (hx : fnd S id = some x) {p : Nat} (hp : p < 18446744073709551616) :
    Calls Try.prog 18 #[.pointer (some ⟨qb, 0, none⟩), .int .i64 id, .float .f64 p] w fun e w' => e = .returned (.int .i64 0) ∧ QAt X w' qb (put S id p) pu N ∧ Kp X w w' := by
  have F := find_ok h hf hx
  obtain ⟨mv, L, h1, h2, hpm, hh⟩ := h.ex
  obtain ⟨hxS, hxi⟩ := fnd_some hx
  obtain ⟨i, hi, rfl⟩ := mem_at (hpm.mem_iff.2 hxS)
  subst hxi
  have hid := fun j (hj : j < L.length) e => id_uniq hpm h.ids hi hj e
  have l1 := h1.prio hi hid hp
  have c1 : w.cell? ⟨(at' L i).blk, 1, none⟩ = some (.float .f64 (at' L i).pr) := cell_row (h1.wt i hi).2 1 rfl
  have g1 := free_row (h1.wt i hi).2 1
  have hst := run_store1 (P := Try.prog) (v := .float .f64 p) rfl c1 g1
  have hi' : i < (put L (at' L i).id p).length := by rw [put_length]; exact hi
  have c3 : (w.setCell ⟨(at' L i).blk, 1, none⟩ (.float .f64 p)).cell? ⟨(at' L i).blk, 3, none⟩ = some (.int .i64 i) := by
    have := (l1.wt i hi').2
    rw [at_put hi, if_pos rfl] at this
    exact cell_row this 3 rfl
  have FX := Lib.hid (heapFix_any (l1.drewN 1) hi' (put_ex hi hid p hh))
  have hmx := (h1.wt i hi).1
  have SP := Lib.hid (fun w2 hu => set_post (w2 := w2) (p := p) h hpm h2 hmx rfl rfl hu)
  rw [put_length] at FX
  clear h h1 h2 hpm hh hx hxS hid l1 hi hi' hf c1 g1 hmx
  generalize hxe : at' L i = x at *
  obtain ⟨xb, xi, xp, xt⟩ := x
  unfold ptrW at F
  simp only at F hst c3 FX SP
  go_enter Try.func18, Try.ntmps18
  go_wp2_with fail
  refine F.mono ?_
  rintro e _ ⟨rfl, rfl⟩
  clear F
  go_wp2_with fail
  generalize w.setCell ⟨xb, 1, none⟩ (.float .f64 p) = w1 at c3 FX SP ⊢
  clear hst
  refine wp_region_held_drew (S := fun _ => True) mixed trivial (fun hS => ?_)
  show wpAnyH _ _ _ _ _ 9 (Array.replicate 9 false) _ _
  refine wpAnyH_take_d 0 (some 23) (.pointer (some ⟨qb, 0, none⟩)) rfl (by kernel_rfl) (by kernel_rfl) (by kernel_rfl) (by kernel_rfl) rfl (fun _ _ _ h => h) (fun _ _ => by kernel_rfl) (by exact hS) ?_
  simp only [Act.put, List.setIfInBounds_toArray, List.set_cons_succ, List.set_cons_zero]
  refine wpAnyH_take_d 1 (some 24) (.pointer (some ⟨qb, 0, none⟩)) rfl (by kernel_rfl) (by kernel_rfl) (by kernel_rfl) (by kernel_rfl) rfl (fun _ _ _ h => h) (fun _ _ => by kernel_rfl) (by exact hS) ?_
  simp only [Act.put, List.setIfInBounds_toArray, List.set_cons_succ, List.set_cons_zero]
  refine wpAnyH_take_d 2 (some 25) (.pointer (some ⟨qb, 0, none⟩)) rfl (by kernel_rfl) (by kernel_rfl) (by kernel_rfl) (by kernel_rfl) rfl (fun _ _ _ h => h) (fun _ _ => by kernel_rfl) (by exact hS) ?_
  simp only [Act.put, List.setIfInBounds_toArray, List.set_cons_succ, List.set_cons_zero]
  refine wpAnyH_take_d 3 (some 26) (lineI qb) rfl (by kernel_rfl) (by kernel_rfl) (by kernel_rfl) (by kernel_rfl) rfl (fun _ _ _ h => h) (fun _ _ => by kernel_rfl) (by exact hS) ?_
  simp only [Act.put, List.setIfInBounds_toArray, List.set_cons_succ, List.set_cons_zero]
  refine wpAnyH_take_d 4 (some 27) (.pointer (some ⟨xb, 0, none⟩)) rfl (by kernel_rfl) (by kernel_rfl) (by kernel_rfl) (by kernel_rfl) rfl (fun _ _ _ h => h) (fun _ _ => by kernel_rfl) (by exact hS) ?_
  simp only [Act.put, List.setIfInBounds_toArray, List.set_cons_succ, List.set_cons_zero]
  refine wpAnyH_take_d 5 (some 28) (.pointer (some ⟨xb, 0, none⟩)) rfl (by kernel_rfl) (by kernel_rfl) (by kernel_rfl) (by kernel_rfl) rfl (fun _ _ _ h => h) (fun _ _ => by kernel_rfl) (by exact hS) ?_
  simp only [Act.put, List.setIfInBounds_toArray, List.set_cons_succ, List.set_cons_zero]
  refine wpAnyH_take_d 6 (some 29) (.pointer (some ⟨xb, 3, none⟩)) rfl (by kernel_rfl) (by kernel_rfl) (by kernel_rfl) (by kernel_rfl) rfl (fun _ _ _ h => h) (fun _ _ => by kernel_rfl) (by exact hS) ?_
  simp only [Act.put, List.setIfInBounds_toArray, List.set_cons_succ, List.set_cons_zero]
  refine wpAnyH_one 7 (some 30) (.int .i64 i) rfl (by kernel_rfl) (by kernel_rfl) rfl (exec_load_cell rfl rfl c3 Try.underlying3 rfl) (by exact hS) ?_
  simp only [Act.put, List.setIfInBounds_toArray, List.set_cons_succ, List.set_cons_zero]
  refine wpAnyH_call 8 (some 31) 40 #[lineI qb, .int .i64 i] rfl (by kernel_rfl) (by kernel_rfl) rfl (by kernel_rfl) FX.out ?_
  rintro e w2 ⟨rfl, hu⟩
  refine ⟨_, rfl, trivial, ?_⟩
  simp only [Act.put, List.setIfInBounds_toArray, List.set_cons_succ, List.set_cons_zero]
  refine wpAnyH_done (by kernel_rfl) ?_ _
  have FIN := Lib.hid (SP.out w2 (by
    obtain ⟨L', e2, e3, e4, e5, e6⟩ := hu
    exact ⟨L', e2, e3, e4, e5, ⟨e6.os, e6.tape, e6.output, e6.size, e6.keep⟩⟩))
  clear hu SP FX c3 hS hxe
  go_wp2
  go_ret
  exact ⟨rfl, FIN.out⟩
set_option maxRecDepth 20000 in
set_option maxHeartbeats 1600000 in
theorem set_none {X : Nat → Prop} {w : World} {qb : Nat} {S : List Wt} {pu N : Nat} (h : QAt X w qb S pu N) {id : Int} (hf : fits id) (hx : fnd S id = none) (p : Nat) : Calls Try.prog 18 #[.pointer (some ⟨qb, 0, none⟩), .int .i64 id, .float .f64 p] w fun e w' => e = .returned (.int .i64 7) ∧ w = w' := by
  have F := find_none h hf hx
  clear h hx
  go_enter Try.func18, Try.ntmps18
  go_wp2_with fail
  refine F.mono ?_
  rintro e _ ⟨rfl, rfl⟩
  clear F
  go_wp2
  go_ret
  exact ⟨rfl, rfl⟩

/-! ### Pop -/
theorem min_uniq {S : List Wt} {m m' : Wt} {pu : Nat} (srt : S.Pairwise (fun a b => a.turn < b.turn)) (tu : ∀ x ∈ S, x.turn < pu) (hpu : pu ≤ 4611686018427387904) (h : IsMin m S) (h' : IsMin m' S) : m = m' := by
  have e := Int.le_antisymm (h.2 m' h'.1) (h'.2 m h.1)
  have t1 := tu m h.1
  have t2 := tu m' h'.1
  have et : m.turn = m'.turn := by unfold Wt.ky at e; omega
  obtain ⟨i, hi, rfl⟩ := mem_at h.1
  obtain ⟨j, hj, rfl⟩ := mem_at h'.1
  rw [at_eq hi, at_eq hj] at et ⊢
  rcases Nat.lt_trichotomy i j with hh | hh | hh
  · have := List.pairwise_iff_getElem.1 srt i j hi hj hh; omega
  · subst hh; rfl
  · have := List.pairwise_iff_getElem.1 srt j i hj hi hh; omega
theorem ent_store {w : World} {B : Nat} {a0 b0 : Value} (hg : w.heap[B]? = some (.cells #[a0, b0] 43 (0, 0))) (i : Int) (p : Nat) :
    w.cell? ⟨B, 0, none⟩ = some a0 ∧ w.frozen? ⟨B, 0, none⟩ = false ∧ (store ⟨B, 1, none⟩ (.float .f64 p)).run Try.prog (w.setCell ⟨B, 0, none⟩ (.int .i64 i)) = .ok () ((w.setCell ⟨B, 0, none⟩ (.int .i64 i)).setCell ⟨B, 1, none⟩ (.float .f64 p)) ∧
    ((w.setCell ⟨B, 0, none⟩ (.int .i64 i)).setCell ⟨B, 1, none⟩ (.float .f64 p)).heap[B]? = some (.cells #[.int .i64 i, .float .f64 p] 43 (0, 0)) ∧ (∀ k, k ≠ B → ((w.setCell ⟨B, 0, none⟩ (.int .i64 i)).setCell ⟨B, 1, none⟩ (.float .f64 p)).heap[k]? = w.heap[k]?) ∧
    ∀ b (a : World), Below b a w → b ≤ B → Below b a ((w.setCell ⟨B, 0, none⟩ (.int .i64 i)).setCell ⟨B, 1, none⟩ (.float .f64 p)) := by
  have hc0 := heap_setCell_same w B 0 _ _ (.int .i64 i) hg
  refine ⟨cell_row hg 0 rfl, free_row hg 0, run_store1 rfl (cell_row hc0 1 rfl) (free_row hc0 1), heap_setCell_same _ B 1 _ _ (.float .f64 p) hc0, fun k hk => ?_, fun b a h hb => (h.setCell hb _).setCell hb _⟩
  rw [Below.heap_setCell _ _ _ _ hk, Below.heap_setCell _ _ _ _ hk]
def PopQ (X : Nat → Prop) (w : World) (qb : Nat) (S : List Wt) (pu N : Nat) (e : Ending) (w' : World) : Prop := ∃ m, e = .returned (.tuple #[entV m, .int .i64 0]) ∧ IsMin m S ∧ QAt X w' qb (del S m.id) pu N ∧ Kp X w w'
set_option maxRecDepth 20000 in
set_option maxHeartbeats 3200000 in
theorem pop_ok {X : Nat → Prop} {w : World} {qb : Nat} {S : List Wt} {pu N : Nat} (h : QAt X w qb S pu N) (h0 : 0 < S.length) (hpu : pu ≤ 4611686018427387904) : Calls Try.prog 15 #[.pointer (some ⟨qb, 0, none⟩)] w (PopQ X w qb S pu N) := by
  go_enter Try.func15, Try.ntmps15
  go_wp2_with (with_reducible refine wpList_alloc_row rfl 43 rfl #[.int .i64 0, .float .f64 0] (by kernel_rfl) ?_)
  intro w1 hg1 hb1 hs1
  have q1 := h.below hb1
  have P := peek_ok q1 h0
  go_wp2_with fail
  refine P.mono ?_
  rintro e w2 ⟨m, rfl, hm, hb2⟩
  have q2 := q1.below hb2
  have b12 : Below w.heap.size w w2 := hb1.trans (hb2.mono hb1.size)
  have hg2 := (hb2.block _ hs1).trans hg1
  have hs2 := Nat.lt_of_lt_of_le hs1 hb2.size
  have M := Lib.hid hm
  obtain ⟨mb, mi, mp, mt⟩ := m
  have Q0 := Lib.hid h
  clear q1 h hb1 hb2 hg1 P hm
  have Q2 := Lib.hid q2
  clear q2 hs1
  go_wp2_with (with_reducible refine wpList_alloc_row rfl 43 rfl #[.int .i64 0, .float .f64 0] (by kernel_rfl) ?_)
  intro w3 hg3 hb3 hs3
  obtain ⟨d0, g0, hst, hg4, ho4, hbl4⟩ := ent_store hg3 mi mp
  have hg4a := (ho4 w.heap.size (by omega)).trans ((hb3.block _ hs2).trans hg2)
  have b4 := hbl4 _ _ (b12.trans (hb3.mono b12.size)) b12.size
  have hs4 : w2.heap.size < ((w3.setCell ⟨w2.heap.size, 0, none⟩ (.int .i64 mi)).setCell ⟨w2.heap.size, 1, none⟩ (.float .f64 mp)).heap.size := by simpa [World.setCell] using hs3
  have F4 := Lib.hid (And.intro hg4 (And.intro hg4a (And.intro b4 (And.intro hs4 hs2))))
  clear hg4 hg4a ho4 hbl4 b4 hg3 hb3 b12 hg2 hs4 hs3 hs2
  generalize hw4 : (w3.setCell ⟨w2.heap.size, 0, none⟩ (.int .i64 mi)).setCell ⟨w2.heap.size, 1, none⟩ (.float .f64 mp) = w4 at hst F4
  have Q4 := F4.out.2.2.1 |> fun b => Q0.out.wider b
  obtain ⟨mv, L, l4, -, pm, hh⟩ := Q4.ex
  have hl : 0 < L.length := by rw [pm.length_eq]; exact h0
  obtain ⟨rb, cap, hb, ho, -⟩ := l4.row hl
  have c0 : w4.cell? ⟨qb, 0, none⟩ = some (.slice (some ⟨rb, 0, none⟩) L.length cap) := cell_row hb 0 rfl
  have cr : w4.cell? ⟨rb, 0, none⟩ = some (ptrW (at' L 0)) := (World.ownsRow.cellAt ho 0 (by omega)).trans (ptr_at hl)
  have hmm := min_uniq Q0.out.srt Q0.out.tu hpu (head_min pm hh hl) M.out
  rw [hmm] at cr
  unfold ptrW at cr
  have R := Lib.hid (remove_any Q4 M.out.1)
  have HW4 := Lib.hid hw4
  have hl' : (0 : Int) < (L.length : Int) := by omega
  clear Q4 l4 pm hh hb ho hmm hw4 h0
  generalize L.length = n at c0 hl hl'
  go_wp2_with fail
  refine R.out.mono ?_
  rintro e w5 ⟨rfl, q5, k5⟩
  clear R c0 cr hst d0 g0 hl hl' HW4 Q2
  obtain ⟨hg4, hg4a, b4, hs4, hs2⟩ := F4.out
  have hg5 := k5.keep _ _ (Or.inr ⟨Nat.le_of_lt hs2, hs4⟩) hg4
  have hg5a := k5.keep _ _ (Or.inr ⟨Nat.le_refl _, Nat.lt_trans hs2 hs4⟩) hg4a
  have x0 : w5.cell? ⟨w2.heap.size, 0, none⟩ = some (.int .i64 mi) := cell_row hg5 0 rfl
  have x1 : w5.cell? ⟨w2.heap.size, 1, none⟩ = some (.float .f64 mp) := cell_row hg5 1 rfl
  obtain ⟨d0, g0, hst, hg6, ho6, hbl6⟩ := ent_store hg5a mi mp
  have q6 : QAt X ((w5.setCell ⟨w.heap.size, 0, none⟩ (.int .i64 mi)).setCell ⟨w.heap.size, 1, none⟩ (.float .f64 mp)) qb (del S mi) pu N :=
    q5.keep (fun k o hk ho => (ho6 k (fun e => hk (Or.inr ⟨by omega, by omega⟩))).trans ho) (fun k _ e => Or.inl e) (fun k e => by
      have := q5.lt k (Or.inl e)
      simpa [World.setCell] using this) (by simp [World.setCell])
  have k6 : Kp X w ((w5.setCell ⟨w.heap.size, 0, none⟩ (.int .i64 mi)).setCell ⟨w.heap.size, 1, none⟩ (.float .f64 mp)) :=
    (((Kp.of_below b4).trans (k5.mono (fun k e => Or.inl e))).setCell (fun e => by have := Q0.out.lt _ e; simp at this) _).setCell (fun e => by have := Q0.out.lt _ e; simp at this) _
  have FIN : Hid (PopQ X w qb S pu N (.returned (.tuple #[.agg #[.int .i64 mi, .float .f64 mp], .int .i64 0])) ((w5.setCell ⟨w.heap.size, 0, none⟩ (.int .i64 mi)).setCell ⟨w.heap.size, 1, none⟩ (.float .f64 mp))) := ⟨⟨mb, mi, mp, mt⟩, rfl, M.out, q6, k6⟩
  have HG6 := Lib.hid hg6
  clear q6 k6 hg6 ho6 hbl6 hg5 hg5a q5 k5 hg4 hg4a b4 hs4 hs2 F4 Q0 M
  go_wp2
  have e0 := cell_row HG6.out 0 rfl
  have e1 := cell_row HG6.out 1 rfl
  clear HG6 hst d0 g0 x0 x1
  generalize (w5.setCell ⟨w.heap.size, 0, none⟩ (.int .i64 mi)).setCell ⟨w.heap.size, 1, none⟩ (.float .f64 mp) = w6 at FIN e0 e1 ⊢
  exact bodyPost_ret (v := .tuple #[.agg #[.int .i64 mi, .float .f64 mp], .int .i64 0]) (by simp [results, Try.results15, go_sem, e0, e1]) rfl FIN.out
set_option maxRecDepth 20000 in
set_option maxHeartbeats 3200000 in
theorem pop_none {X : Nat → Prop} {w : World} {qb : Nat} {pu N : Nat} (h : QAt X w qb [] pu N) : Calls Try.prog 15 #[.pointer (some ⟨qb, 0, none⟩)] w (MissPost w) := by
  go_enter Try.func15, Try.ntmps15
  go_wp2_with (with_reducible refine wpList_alloc_row rfl 43 rfl #[.int .i64 0, .float .f64 0] (by kernel_rfl) ?_)
  intro w1 hg1 hb1 hs1
  have q1 := h.below hb1
  have P := peek_none q1
  go_wp2_with fail
  refine P.mono ?_
  rintro e w2 ⟨rfl, hb2⟩
  have b12 : Below w.heap.size w w2 := hb1.trans (hb2.mono hb1.size)
  have hg2 := (hb2.block _ hs1).trans hg1
  have hs2 := Nat.lt_of_lt_of_le hs1 hb2.size
  clear q1 h hb1 hb2 hg1 P hs1
  go_wp2_with (with_reducible refine wpList_alloc_row rfl 43 rfl #[.int .i64 0, .float .f64 0] (by kernel_rfl) ?_)
  intro w3 hg3 hb3 hs3
  obtain ⟨d0, g0, hst, hg4, ho4, hbl4⟩ := ent_store hg3 0 0
  have hg4a := (ho4 w.heap.size (by omega)).trans ((hb3.block _ hs2).trans hg2)
  have b4 := hbl4 _ _ (b12.trans (hb3.mono b12.size)) b12.size
  obtain ⟨d0', g0', hst', hg6, -, hbl6⟩ := ent_store hg4a 0 0
  have x0 := cell_row hg4 0 rfl
  have x1 := cell_row hg4 1 rfl
  have b6 := hbl6 _ _ b4 (Nat.le_refl _)
  have FIN := Lib.hid (And.intro hg6 b6)
  clear hg4 hg4a ho4 hbl4 b4 hg3 hb3 b12 hg2 hs3 hs2 hg6 hbl6 b6
  generalize hw4 : (w3.setCell ⟨w2.heap.size, 0, none⟩ (.int .i64 0)).setCell ⟨w2.heap.size, 1, none⟩ (.float .f64 0) = w4 at *
  generalize hw6 : (w4.setCell ⟨w.heap.size, 0, none⟩ (.int .i64 0)).setCell ⟨w.heap.size, 1, none⟩ (.float .f64 0) = w6 at *
  clear hw4 hw6
  go_wp2
  have e0 := cell_row FIN.out.1 0 rfl
  have e1 := cell_row FIN.out.1 1 rfl
  exact bodyPost_ret (v := .tuple #[.agg #[.int .i64 0, .float .f64 0], .int .i64 7]) (by simp [results, Try.results15, go_sem, e0, e1]) rfl ⟨rfl, FIN.out.2⟩
end Go.Proofs.Ytegloiojhimoeaa
