/- The contracts of the queue's Push. No statement of the seat is proved here. -/
import Derived.Test.YtegloiojhimoeaaQOps
namespace Go.Proofs.Ytegloiojhimoeaa
open Go.RowKit

set_option maxRecDepth 20000 in
set_option maxHeartbeats 800000 in
theorem push_nil (w : World) (id : Int) (p : Nat) : Calls Try.prog 13 #[.pointer none, .int .i64 id, .float .f64 p] w fun e w' => e = .returned (.int .i64 1) ∧ w = w' := by
  go_enter Try.func13, Try.ntmps13
  go_wp2
  go_ret
  exact ⟨rfl, rfl⟩
set_option maxRecDepth 20000 in
set_option maxHeartbeats 800000 in
theorem push_there {X : Nat → Prop} {w : World} {qb : Nat} {S : List Wt} {pu N : Nat} (h : QAt X w qb S pu N) {id : Int} (hf : fits id) (p : Nat) {x : Wt} (hx : fnd S id = some x) : Calls Try.prog 13 #[.pointer (some ⟨qb, 0, none⟩), .int .i64 id, .float .f64 p] w fun e w' => e = .returned (.int .i64 8) ∧ w = w' := by
  obtain ⟨mv, L, h1, h2, -, -⟩ := h.ex
  obtain ⟨r, rfl⟩ := h2.form
  have c1 := h1.cells.1
  have hr0 := map_find h2 hf
  rw [hx] at hr0
  have hr : (Instr.lookup 57 (.map r) (.int .i64 id) false).run Try.prog w = .ok (.pointer (some ⟨x.blk, 0, none⟩)) w := hr0
  clear h h1 h2 hr0 hx
  go_enter Try.func13, Try.ntmps13
  go_wp2
  go_ret
  exact ⟨rfl, rfl⟩
set_option maxRecDepth 20000 in
set_option maxHeartbeats 800000 in
theorem push_full {X : Nat → Prop} {w : World} {qb : Nat} {S : List Wt} {pu N : Nat} (h : QAt X w qb S pu N) {id : Int} (hf : fits id) (p : Nat) (hx : fnd S id = none) (hl : 1000 ≤ S.length) : Calls Try.prog 13 #[.pointer (some ⟨qb, 0, none⟩), .int .i64 id, .float .f64 p] w fun e w' => e = .returned (.int .i64 14) ∧ w = w' := by
  obtain ⟨mv, L, h1, h2, hp, -⟩ := h.ex
  obtain ⟨r, rfl⟩ := h2.form
  obtain ⟨ao, cap, c0⟩ := h1.form
  have c1 := h1.cells.1
  have hr0 := map_find h2 hf
  rw [hx] at hr0
  have hr : (Instr.lookup 57 (.map r) (.int .i64 id) false).run Try.prog w = .ok (.pointer none) w := hr0
  have hl' : (1000 : Int) ≤ (L.length : Int) := by rw [hp.length_eq]; omega
  clear h h1 h2 hr0 hx hp hl
  generalize L.length = n at *
  go_enter Try.func13, Try.ntmps13
  go_wp2
  go_ret
  exact ⟨rfl, rfl⟩

def PushPost (X : Nat → Prop) (w : World) (qb : Nat) (S : List Wt) (pu N : Nat) (id : Int) (p : Nat) (e : Ending) (w' : World) : Prop :=
  ∃ b, e = .returned (.int .i64 0) ∧ QAt X w' qb (S ++ [⟨b, id, p, pu⟩]) (pu + 1) (N + 1) ∧ Kp X w w'
/-- what heap.Push makes of the queue -/
theorem push_post {X : Nat → Prop} {w w4 w5 : World} {qb mb b : Nat} {S L : List Wt} {pu N : Nat} {id : Int} {p : Nat} (srt : S.Pairwise (fun a b => a.turn < b.turn)) (ids : S.Pairwise (fun a b => a.id ≠ b.id)) (tu : ∀ x ∈ S, x.turn < pu) (rng : ∀ x ∈ S, fits x.id) (hp : L.Perm S) (hf : fits id) (hx : fnd S id = none)
    (hm : MapQ X w4 (.map (some mb)) (N + 1) (fun i => if i = id then some ⟨b, id, p, pu⟩ else fnd S i)) (k4 : Kp X w w4) (hu : UpPost (XM X (.map (some mb))) w4 qb (.map (some mb)) (pu + 1) (L ++ [⟨b, id, p, pu⟩]) (L.length + 1) w5) : PushPost X w qb S pu N id p (.returned (.int .i64 0)) w5 := by
  obtain ⟨L', h5, p5, -, a5, k5⟩ := hu
  refine ⟨b, rfl, ⟨⟨_, L', h5, ?_, p5.trans (hp.append_right _), ?_⟩, ?_, ?_, ?_, ?_⟩, k4.trans (k5.mono (fun k e => Or.inl e))⟩
  · have e : (fun i => if i = id then some (⟨b, id, p, pu⟩ : Wt) else fnd S i) = fnd (S ++ [⟨b, id, p, pu⟩]) := by
      funext i
      rw [fnd_append (x := ⟨b, id, p, pu⟩) hx i]
    rw [← e]
    exact hm.keep (fun k o e ho => k5.keep k o (Or.inr e) ho) (fun _ _ e => e)
  · have hl : L'.length = L.length + 1 := by rw [p5.length_eq]; simp
    rw [hl]; exact a5
  · exact List.pairwise_append.2 ⟨srt, List.pairwise_singleton _ _, fun a ha c hc => by simp at hc; subst hc; exact tu a ha⟩
  · exact List.pairwise_append.2 ⟨ids, List.pairwise_singleton _ _, fun a ha c hc => by simp at hc; subst hc; exact fnd_none hx a ha⟩
  · intro x hx
    rcases List.mem_append.1 hx with hx | hx
    · have := tu x hx; omega
    · simp at hx; subst hx; simp
  · intro x hx
    rcases List.mem_append.1 hx with hx | hx
    · exact rng x hx
    · simp at hx; subst hx; exact hf

structure Mid (X : Nat → Prop) (w w1 : World) (qb mb : Nat) (S L : List Wt) (pu N : Nat) : Prop where
  line : LineAt (XM X (.map (some mb))) w1 qb (.map (some mb)) pu L
  map : MapQ X w1 (.map (some mb)) N (fnd S)
  perm : L.Perm S
  heap : HeapAll (kf L) L.length
  kp : Kp X w w1
theorem mid_push {X : Nat → Prop} {w w1 w2 : World} {qb mb : Nat} {S L : List Wt} {pu N : Nat} (m : Mid X w w1 qb mb S L pu N) (srt : S.Pairwise (fun a b => a.turn < b.turn)) (ids : S.Pairwise (fun a b => a.id ≠ b.id)) (tu : ∀ x ∈ S, x.turn < pu) (rng : ∀ x ∈ S, fits x.id) (hl : S.length < 1000) (hpu : pu < 4611686018427387904) (hN : N < maxLen) {id : Int} (hf : fits id) (hx : fnd S id = none) {p : Nat} (hp : p < 18446744073709551616)
    (hg2 : w2.heap[w1.heap.size]? = some (.cells #[.int .i64 id, .float .f64 p, .int .i64 pu, .int .i64 0] 68 (0, 0))) (hb2 : Below w1.heap.size w1 w2) (hs2 : w1.heap.size < w2.heap.size) :
    w2.cell? ⟨qb, 2, none⟩ = some (.int .i64 pu) ∧ w2.frozen? ⟨qb, 2, none⟩ = false ∧ (w2.setCell ⟨qb, 2, none⟩ (.int .i64 ((pu + 1 : Nat) : Int))).cell? ⟨qb, 1, none⟩ = some (.map (some mb)) ∧
    ∃ w4, (Instr.mapUpdate 57 (.map (some mb)) (.int .i64 id) (.pointer (some ⟨w1.heap.size, 0, none⟩))).run Try.prog (w2.setCell ⟨qb, 2, none⟩ (.int .i64 ((pu + 1 : Nat) : Int))) = .ok () w4 ∧
      Calls Try.prog 30 #[lineI qb, .iface 66 (.pointer (some ⟨w1.heap.size, 0, none⟩))] w4 fun e w' => e = .returned (.tuple #[]) ∧ PushPost X w qb S pu N id p (.returned (.int .i64 0)) w' := by
  have l2 := m.line.below hb2
  have l3 : LineAt (XM X (.map (some mb))) (w2.setCell ⟨qb, 2, none⟩ (.int .i64 ((pu + 1 : Nat) : Int))) qb (.map (some mb)) (pu + 1) L := l2.boxed 2 _ rfl (fun lv => by simp)
  have hq2 : ∃ lv, w2.heap[qb]? = some (.cells #[lv, .map (some mb), .int .i64 pu] 59 (0, 0)) := by obtain ⟨lv, h1, _⟩ := l2.box; exact ⟨lv, h1⟩
  obtain ⟨lv, hq2⟩ := hq2
  refine ⟨l2.cells.2.1, l2.cells.2.2 2, l3.cells.1, ?_⟩
  have hmx : ¬ X mb := by
    rcases m.map with ⟨e, _⟩ | ⟨mb', D, e, hB, _⟩
    · cases e
    · cases e; exact hB
  have m3 : MapQ X (w2.setCell ⟨qb, 2, none⟩ (.int .i64 ((pu + 1 : Nat) : Int))) (.map (some mb)) N (fnd S) := m.map.keep (fun k o e ho => by
    have h2 := (hb2.block k (lt_of_heap ho)).trans ho
    rw [Below.heap_setCell _ _ _ _ (by
      rintro rfl
      rcases m.map with ⟨e', _⟩ | ⟨mb', D, e', _, ⟨es, c, hes, _⟩, _⟩
      · cases e'
      · cases e'; cases e
        rw [(hb2.block _ (lt_of_heap hes)).trans hes] at hq2
        cases hq2)]
    exact h2) (fun _ _ e => e)
  rcases m3 with ⟨e, _⟩ | ⟨mb', D, e, hB, ho, hm, hat⟩
  · cases e
  · cases e
    obtain ⟨w4, hrun, hmq, hg⟩ := map_put hB ho hm hat hN hf ⟨w1.heap.size, id, p, pu⟩
    refine ⟨w4, hrun, ?_⟩
    have l4 := l3.grown hg (Or.inr rfl)
    have hbq : w1.heap.size ≠ qb := ne_of_obj hg2 hq2 (by decide)
    have hgb : ∀ k, k ≠ mb → k < w2.heap.size → k ≠ qb → w4.heap[k]? = w2.heap[k]? := fun k k1 k2 k3 => by
      rw [hg.block k (by simpa [World.setCell] using k2) (fun e => by cases e; exact k1 rfl), Below.heap_setCell _ _ _ _ k3]
    have hmb : mb < w1.heap.size := m.line.lt mb (Or.inr rfl)
    have hw4 : w4.heap[w1.heap.size]? = some (.cells (wtCells ⟨w1.heap.size, id, p, pu⟩ 0) 68 (0, 0)) := by
      rw [hgb _ (by omega) hs2 hbq, hg2]; rfl
    have k4 : Kp X w w4 := ((m.kp.trans (Kp.of_below hb2)).setCell (fun e => l2.qo (Or.inl e)) _).grown hg (fun k e => by cases e; exact hmx)
    refine (heapPush_any l4 (x := ⟨w1.heap.size, id, p, pu⟩) (p := 0) (fun e => ?_) hw4 (fun i hi e => ?_) hp hpu (by rw [m.perm.length_eq]; exact hl) m.heap).mono ?_
    · rcases e with e | e
      · have := m.line.lt _ (Or.inl e); simp at this
      · simp only [Value.map.injEq, Option.some.injEq] at e; omega
    · have := lt_of_heap (m.line.wt i hi).2
      have e' : (at' L i).blk = w1.heap.size := e
      omega
    · rintro e w5 ⟨rfl, hu⟩
      exact ⟨rfl, push_post srt ids tu rng m.perm hf hx hmq k4 hu⟩

set_option maxRecDepth 20000 in
set_option maxHeartbeats 3200000 in
theorem push_ok {X : Nat → Prop} {w : World} {qb : Nat} {S : List Wt} {pu N : Nat} (h : QAt X w qb S pu N) {id : Int} (hf : fits id) {p : Nat} (hp : p < 18446744073709551616) (hx : fnd S id = none) (hl : S.length < 1000) (hpu : pu < 4611686018427387904) (hN : N < maxLen) :
    Calls Try.prog 13 #[.pointer (some ⟨qb, 0, none⟩), .int .i64 id, .float .f64 p] w (PushPost X w qb S pu N id p) := by
  obtain ⟨⟨mv, L, h1, h2, hpm, hh⟩, srt, ids, tu, rng⟩ := h
  obtain ⟨ao, cap, c0⟩ := h1.form
  have c1 := h1.cells.1
  have c2 := h1.cells.2.1
  have f1 := h1.cells.2.2 1
  have hr0 := map_find h2 hf
  rw [hx] at hr0
  have hl' : ¬ ((1000 : Int) ≤ (L.length : Int)) := by rw [hpm.length_eq]; omega
  have e1 : IntKind.i64.wrap ((pu : Int) + 1) = ((pu + 1 : Nat) : Int) := by rw [IntKind.wrap_i64]; omega
  have heq := fun (r : Option Nat) (w : World) => run_eql_map_nil (P := Try.prog) w 57 3 66 r Try.underlying57
  have MP := Lib.hid (fun w1 w2 mb (m : Mid X w w1 qb mb S L pu N) => mid_push (w2 := w2) m srt ids tu rng hl hpu hN hf hx hp)
  generalize hLn : L.length = n at c0 hl'
  generalize pu + 1 = pu1 at MP e1
  clear srt ids tu rng hl hpu hN hf hp hx
  go_enter Try.func13, Try.ntmps13
  rcases h2 with ⟨rfl, hz⟩ | ⟨mb, D, rfl, hmb, hown, him, hat⟩
  · have hr : (Instr.lookup 57 (.map none) (.int .i64 id) false).run Try.prog w = .ok (.pointer none) w := hr0
    have H := Lib.hid (And.intro h1 (And.intro hz (And.intro hpm hh)))
    have hqs : qb < w.heap.size := World.block_lt_of_cell? _ _ c0
    clear h1 hz hpm hh hr0 hLn
    go_wp2_with (with_reducible refine wpList_makeMap rfl 57 rfl ?_)
    intro w1 hg1 hb1 hs1
    have c1' := (hb1.cell (p := ⟨qb, 1, none⟩) hqs).trans c1
    have c2' := (hb1.cell (p := ⟨qb, 2, none⟩) hqs).trans c2
    obtain ⟨h1, hz, hpm, hh⟩ := H.out
    have l1 : LineAt (XM X (.map (some w.heap.size))) w1 qb (.map none) pu L := h1.keep (fun k _ _ ho => (hb1.block k (lt_of_heap ho)).trans ho) (fun k hk e => by
        rcases e with e | e
        · exact Or.inl e
        · cases e; exact absurd hk (Nat.lt_irrefl _)) (fun k e => by
        rcases e with e | e
        · exact Nat.lt_of_lt_of_le (h1.lt k (Or.inl e)) hb1.size
        · cases e; exact hs1)
    have f1' := l1.cells.2.2 1
    have l2 : LineAt (XM X (.map (some w.heap.size))) (w1.setCell ⟨qb, 1, none⟩ (.map (some w.heap.size))) qb (.map (some w.heap.size)) pu L := l1.boxed 1 _ rfl (fun lv => by simp)
    have c2s := l2.cells.2.1
    have hmm : (w1.setCell ⟨qb, 1, none⟩ (.map (some w.heap.size))).heap[w.heap.size]? = some (.map #[] 0) := by
      rw [Below.heap_setCell _ _ _ _ (by show w.heap.size ≠ qb; omega)]; exact hg1
    have m : Mid X w (w1.setCell ⟨qb, 1, none⟩ (.map (some w.heap.size))) qb w.heap.size S L pu N :=
      ⟨l2, Or.inr ⟨w.heap.size, .map [], rfl, fun e => by have := h1.lt _ (Or.inl e); omega, ⟨#[], 0, hmm, ⟨by simp, MapKept.stamped_empty 0, by simp⟩, Nat.zero_le _, rfl⟩, Maps.isMap_empty, fun i _ => by rw [hz i]; rfl⟩, hpm, hh, (Kp.of_below hb1).setCell (fun e => h1.qo (Or.inl e)) _⟩
    have M := Lib.hid m
    have hsz : (w1.setCell ⟨qb, 1, none⟩ (.map (some w.heap.size))).heap.size = w1.heap.size := by simp [World.setCell]
    clear m l1 l2 hmm h1 hz hpm hh H c1 c2 f1 hg1 hb1 hr hs1
    go_wp2_with (with_reducible refine wpList_box_row rfl 68 (.tmp 39) rfl #[.int .i64 id, .float .f64 p, .int .i64 pu, .int .i64 0] rfl ?_)
    intro w2 hg2 hb2 hs2
    have mp := MP.out _ w2 w.heap.size M.out
    rw [hsz] at mp
    obtain ⟨d2, g2, d1, w4, hrun, hc⟩ := mp hg2 hb2 hs2
    have HC := Lib.hid hc
    clear hc mp MP M hg2 hb2 hs2 c0 c1' c2' f1' c2s heq hsz
    generalize w1.heap.size = bb at *
    go_wp2_with fail
    refine HC.out.mono ?_
    rintro e w5 ⟨rfl, hpost⟩
    have HP := Lib.hid hpost
    clear hpost HC hrun d2 g2 d1
    go_wp2
    go_ret
    exact HP.out
  · have m : Mid X w w qb mb S L pu N := ⟨h1, Or.inr ⟨mb, D, rfl, hmb, hown, him, hat⟩, hpm, hh, Kp.refl _ _⟩
    have M := Lib.hid m
    have hr : (Instr.lookup 57 (.map (some mb)) (.int .i64 id) false).run Try.prog w = .ok (.pointer none) w := hr0
    clear m h1 hmb hown him hat hpm hh hr0 hLn
    go_wp2_with (with_reducible refine wpList_box_row rfl 68 (.tmp 39) rfl #[.int .i64 id, .float .f64 p, .int .i64 pu, .int .i64 0] rfl ?_)
    intro w2 hg2 hb2 hs2
    obtain ⟨d2, g2, d1, w4, hrun, hc⟩ := MP.out w w2 mb M.out hg2 hb2 hs2
    have HC := Lib.hid hc
    clear hc MP M hg2 hb2 hs2 c0 c1 c2 f1 heq hr
    generalize w.heap.size = bb at *
    go_wp2_with fail
    refine HC.out.mono ?_
    rintro e w5 ⟨rfl, hpost⟩
    have HP := Lib.hid hpost
    clear hpost HC hrun d2 g2 d1
    go_wp2
    go_ret
    exact HP.out
end Go.Proofs.Ytegloiojhimoeaa
