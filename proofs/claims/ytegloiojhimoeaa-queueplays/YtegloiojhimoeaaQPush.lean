/- The contracts of the line's Push and Pop, and of container/heap's Push, Fix and Remove over it. No statement of the seat is proved here. -/
import Derived.Test.YtegloiojhimoeaaQHeap
namespace Go.Proofs.Ytegloiojhimoeaa
open Go.RowKit

theorem infoP : ∃ i, Try.prog.info? 66 = some i ∧ i.zero = some (.pointer none) ∧ i.size = 1 ∧ i.bytes = 8 := by
  have h : (Try.prog.info? 66).map (fun i => (i.zero, i.size, i.bytes)) = some (some (.pointer none), 1, 8) := by kernel_rfl
  cases hq : Try.prog.info? 66 with
  | none => rw [hq] at h; simp at h
  | some i => rw [hq] at h; simp at h; exact ⟨i, rfl, h.1, h.2.1, h.2.2⟩
theorem at_append_left {L : List Wt} {i : Nat} (h : i < L.length) (x : Wt) : at' (L ++ [x]) i = at' L i := by simp [at', List.getD_eq_getElem?_getD, List.getElem?_append_left h]
theorem at_append_right (L : List Wt) (x : Wt) : at' (L ++ [x]) L.length = x := by simp [at', List.getD_eq_getElem?_getD]

theorem typeAssert_any (b : Nat) (w : World) : (Instr.typeAssert (.iface 66 (.pointer (some ⟨b, 0, none⟩))) 20 66 true).run Try.prog w = .ok (.tuple #[.pointer (some ⟨b, 0, none⟩), .bool true]) w := by kernel_rfl
set_option maxRecDepth 20000 in
set_option maxHeartbeats 1600000 in
theorem linePush_any {X : Nat → Prop} {w : World} {qb : Nat} {mv : Value} {pu : Nat} {L : List Wt} (h : LineAt X w qb mv pu L) {x : Wt} {p : Nat} (hx : ¬ X x.blk) (hw : w.heap[x.blk]? = some (.cells (wtCells x p) 68 (0, 0))) (hn : ∀ i, i < L.length → (at' L i).blk ≠ x.blk) (hp : x.pr < 18446744073709551616) (ht : x.turn < 4611686018427387904) (hl : L.length < 1000) :
    Calls Try.prog 92 #[.pointer (some ⟨qb, 0, none⟩), .iface 66 (.pointer (some ⟨x.blk, 0, none⟩))] w fun e w' => e = .returned (.tuple #[]) ∧ LineAt X w' qb mv pu (L ++ [x]) ∧ Kp X w w' := by
  obtain ⟨lv, hb, ho, hlx⟩ := h.box
  obtain ⟨ao, cap, rfl, hf1, hf2⟩ := ownsRow_form ho
  have hxq := ne_of_obj hw hb (by decide)
  have c3 : w.cell? ⟨x.blk, 3, none⟩ = some (.int .i64 p) := cell_row hw 3 rfl
  have f3 := free_row hw 3
  have c0 : w.cell? ⟨qb, 0, none⟩ = some (.slice ao L.length cap) := cell_row hb 0 rfl
  have c0' : (w.setCell ⟨x.blk, 3, none⟩ (.int .i64 L.length)).cell? ⟨qb, 0, none⟩ = some (.slice ao L.length cap) := (World.cell?_setCell_other _ _ _ _ (by intro e; cases e)).trans c0
  -- the world behind the place
  have hxr : (Value.slice ao L.length cap).ownBlock ≠ some x.blk := by
    intro e
    cases ao with
    | none => cases e
    | some a =>
      have e' : a.block = x.blk := by simpa [Value.ownBlock] using e
      rcases ho.2 with ⟨h', _⟩ | ⟨g', cap', cur, h', _, hg, _⟩
      · simp at h'
      · simp only [Value.slice.injEq, Option.some.injEq, true_and] at h'
        rw [h'.1] at e'
        exact ne_of_obj hw hg (by decide) e'.symm
  have o1 := ownsRow_setCell_other ho (a := ⟨x.blk, 3, none⟩) hxr (.int .i64 L.length)
  have hw1 : (w.setCell ⟨x.blk, 3, none⟩ (.int .i64 L.length)).heap[x.blk]? = some (.cells (wtCells x L.length) 68 (0, 0)) := by
    rw [← wt_set x p L.length]; exact heap_setCell_same _ _ _ _ _ _ hw
  have hk1 : ∀ k, k ≠ x.blk → (w.setCell ⟨x.blk, 3, none⟩ (.int .i64 L.length)).heap[k]? = w.heap[k]? := fun k hk => Below.heap_setCell _ _ _ _ hk
  have kp1 : Kp X w (w.setCell ⟨x.blk, 3, none⟩ (.int .i64 L.length)) := (Kp.refl X w).setCell hx _
  generalize hw1e : w.setCell ⟨x.blk, 3, none⟩ (.int .i64 L.length) = w1 at c0' o1 hw1 hk1 kp1
  have hsz : w1.heap.size = w.heap.size := by rw [← hw1e]; simp [World.setCell]
  -- behind the append
  obtain ⟨i0, hi0, hz0, hz1, hz2⟩ := infoP
  have o2 := World.ownsRow.alloc o1 (.cells #[.pointer (some ⟨x.blk, 0, none⟩)] 66)
  have hb1 := (hk1 qb (Ne.symm hxq)).trans hb
  have hnew : (w1.alloc (.cells #[.pointer (some ⟨x.blk, 0, none⟩)] 66)).heap[w1.heap.size]? = some (.cells #[.pointer (some ⟨x.blk, 0, none⟩)] 66 (0, 0)) := heap_alloc_new w1 _
  obtain ⟨v', w3, hr, o3, hbel, hs3, hgr⟩ := own_push (t := 56) (ty := 56) Try.underlying56 hi0 hz0 hz1 hz2 rfl (by decide) o2 (b := w1.heap.size) (ys := [.pointer (some ⟨x.blk, 0, none⟩)]) hnew rfl (by simp [Value.oneCell']) (by omega) (by unfold maxLen; omega) (Nat.zero_le _)
  obtain ⟨ao', cap', rfl, -, -⟩ := ownsRow_form o3
  have hk3 : ∀ k o, k ≠ x.blk → some k ≠ (Value.slice ao L.length cap).ownBlock → w.heap[k]? = some o → w3.heap[k]? = some o := fun k o k1 k2 ho' => by
    have hlt : k < w.heap.size := lt_of_heap ho'
    rw [hgr.1 k (by simp; omega) k2, Below.heap_alloc _ _ _ (by omega), hk1 k k1]; exact ho'
  have hw3 : w3.heap[x.blk]? = some (.cells (wtCells x L.length) 68 (0, 0)) := by
    have := lt_of_heap hw1
    rw [hgr.1 _ (by simp; omega) (Ne.symm hxr), Below.heap_alloc _ _ _ (by omega)]; exact hw1
  have hq3 : w3.heap[qb]? = some (.cells #[.slice ao L.length cap, mv, .int .i64 pu] 59 (0, 0)) := by
    have := lt_of_heap hb1
    rw [hgr.1 _ (by simp; omega) ?_, Below.heap_alloc _ _ _ (by omega)]
    · exact hb1
    · intro e
      cases ao with
      | none => cases e
      | some a =>
        rcases ho.2 with ⟨h', _⟩ | ⟨g', cap', cur, h', _, hg, _⟩
        · simp at h'
        · simp only [Value.slice.injEq, Option.some.injEq, true_and] at h'
          simp only [Value.ownBlock, Option.some.injEq] at e
          rw [h'.1] at e
          exact ne_of_obj hb hg (by decide) e
  have kp3 : Kp X w w3 := ⟨hbel.os.trans kp1.os, hbel.tape.trans kp1.tape, hbel.output.trans kp1.output, by (have h1 : w1.heap.size + 1 ≤ w3.heap.size := (by simpa using hs3)); omega, fun k o hk ho' => hk3 k o (fun e => hx (e ▸ hk)) (fun e => hlx k e.symm hk) ho'⟩
  have c03 : w3.cell? ⟨qb, 0, none⟩ = some (.slice ao L.length cap) := cell_row hq3 0 rfl
  have f03 := free_row hq3 0
  have hq4 : (w3.setCell ⟨qb, 0, none⟩ (.slice ao' (L.length + 1) cap')).heap[qb]? = some (.cells #[.slice ao' (L.length + 1) cap', mv, .int .i64 pu] 59 (0, 0)) := heap_setCell_same w3 qb 0 _ _ _ hq3
  have hown' : ∀ k, (Value.slice ao' (L.length + 1) cap').ownBlock = some k → ¬ X k ∧ k ≠ qb ∧ k ≠ x.blk := fun k hk => by
    have hx' : ∃ cur, w3.heap[k]? = some (.cells cur 66 (0, 0)) := by
      rcases o3.2 with ⟨h', _⟩ | ⟨g', cap'', cur, h', _, hg, _⟩
      · simp at h'
      · rw [h'] at hk
        simp only [Value.ownBlock, Option.some.injEq] at hk
        exact ⟨cur, hk ▸ hg⟩
    obtain ⟨cur, hc⟩ := hx'
    refine ⟨fun e => ?_, ne_of_obj hc hq3 (by decide), ne_of_obj hc hw3 (by decide)⟩
    rcases hgr.2.2 with e1 | ⟨k', hk', e1⟩
    · rw [e1] at hk; exact hlx k hk e
    · rw [e1] at hk
      cases hk
      have h1 := h.lt _ e
      have h2 : w1.heap.size + 1 ≤ k := by simpa using hk'
      omega
  have o4 := ownsRow_setCell_other o3 (a := ⟨qb, 0, none⟩) (fun e => (hown' _ e).2.1 rfl) (.slice ao' (L.length + 1) cap')
  have kp4 : Kp X w (w3.setCell ⟨qb, 0, none⟩ (.slice ao' (L.length + 1) cap')) := kp3.setCell h.qo _
  have L4 : LineAt X (w3.setCell ⟨qb, 0, none⟩ (.slice ao' (L.length + 1) cap')) qb mv pu (L ++ [x]) := by
    refine ⟨fun k e => Nat.lt_of_lt_of_le (h.lt k e) kp4.size, h.qo, by simp; omega, ⟨_, hq4, by rw [List.map_append, List.length_append]; exact o4, fun k hk => (hown' k hk).1⟩, fun i hi => ?_, fun i j hi hj e => ?_, fun i hi => ?_⟩
    · have hi' : i < L.length + 1 := by simpa using hi
      by_cases e : i < L.length
      · rw [at_append_left e]
        obtain ⟨a1, a2⟩ := h.wt i e
        refine ⟨a1, ?_⟩
        rw [Below.heap_setCell _ _ _ _ (ne_of_obj a2 hb (by decide))]
        refine hk3 _ _ (hn i e) (fun e2 => ?_) a2
        rcases ho.2 with ⟨h', _⟩ | ⟨g', cap', cur, h', _, hg, _⟩
        · rw [h'] at e2; cases e2
        · rw [h'] at e2
          simp only [Value.ownBlock, Option.some.injEq] at e2
          exact ne_of_obj a2 hg (by decide) e2
      · obtain rfl : i = L.length := by omega
        rw [at_append_right]
        exact ⟨hx, by rw [Below.heap_setCell _ _ _ _ hxq]; exact hw3⟩
    · have hi' : i < L.length + 1 := by simpa using hi
      have hj' : j < L.length + 1 := by simpa using hj
      by_cases e1 : i < L.length
      · by_cases e2 : j < L.length
        · rw [at_append_left e1, at_append_left e2] at e
          exact h.nd i j e1 e2 e
        · obtain rfl : j = L.length := by omega
          rw [at_append_left e1, at_append_right] at e
          exact absurd e (hn i e1)
      · obtain rfl : i = L.length := by omega
        by_cases e2 : j < L.length
        · rw [at_append_left e2, at_append_right] at e
          exact absurd e.symm (hn j e2)
        · omega
    · have hi' : i < L.length + 1 := by simpa using hi
      by_cases e1 : i < L.length
      · rw [at_append_left e1]; exact h.ok i e1
      · obtain rfl : i = L.length := by omega
        rw [at_append_right]; exact ⟨hp, ht⟩
  rw [hsz, ← hw1e] at hr
  rw [← hw1e] at c0'
  have HR := Lib.hid hr
  have FIN := Lib.hid (And.intro L4 kp4)
  clear hr L4 kp4 o4 o3 o2 o1 ho hn hk1 hk3 hgr hbel kp1 kp3 hown' hq4 hq3 hw3 hw1 hb hb1 h hw hlx hnew hxr hw1e
  have hta := fun w : World => typeAssert_any x.blk w
  go_enter Try.func92, Try.ntmps92
  go_wp2_with (with_reducible refine wpList_append_own rfl (.tmp 22) (.tmp 24) 56 56 rfl (.slice ao L.length cap) (.slice (some ⟨w.heap.size, 0, none⟩) 1 1) (.slice ao' (L.length + 1) cap') rfl rfl HR.out ?_)
  go_end0
  exact ⟨rfl, FIN.out⟩
end Go.Proofs.Ytegloiojhimoeaa
