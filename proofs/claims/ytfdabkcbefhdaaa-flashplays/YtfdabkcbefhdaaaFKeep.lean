/- The contract of the flash device's keep. No statement of the seat is proved here. -/
import Derived.Test.YtfdabkcbefhdaaaFPick
import Derived.Test.YtfdabkcbefhdaaaWide
namespace Go.Proofs.Ytfdabkcbefhdaaa
set_option maxRecDepth 20000
open Go.RowKit

def upd (f : Int → List UInt8 × Bool) (i : Int) (p : List UInt8 × Bool) : Int → List UInt8 × Bool := fun k => if k = i then p else f k
def Dev.keep (d : Dev) (i : Int) (p : List UInt8 × Bool) : Dev := { d with last := upd d.last i p }
theorem keep_ok {d : Dev} (h : d.Ok) (i : Int) {p : List UInt8 × Bool} (hp : p.1.length = 256) : (d.keep i p).Ok :=
  ⟨h.1, h.2, h.3, h.4, fun k => by simp only [Dev.keep, upd]; split; exact hp; exact h.5 k⟩
theorem secCells_size (p : List UInt8 × Bool) (hp : p.1.length = 256) : (secCells p).toArray.size = 257 := by simp [secCells, cellsB_length, hp]
theorem sz68 : (Try.prog.info? 68).map (·.size) = some 257 := by kernel_rfl
theorem sz65 : (Try.prog.info? 65).map (·.size) = some 257 := by kernel_rfl
theorem sz63 : (Try.prog.info? 63).map (·.size) = some 256 := by kernel_rfl
theorem keyed3 : Maps.Keyed Try.prog 3 := Maps.int_keyed Try.underlying3
theorem mixed : Try.prog.follows .mixedOrders = true := by kernel_rfl

/-- The kinds of blocks that keep may turn. -/
def KK : Obj → Bool
  | .map _ _ => true
  | .cells _ t _ => t == 61
  | _ => false
theorem KK_FK (o : Obj) (h : FK o = false) : KK o = false := by
  cases o <;> simp_all [KK, FK]
theorem Fr.kk {B : Nat} {w w' : World} (h : Fr KK B w w') : Fr FK B w w' := h.mono (Nat.le_refl _) KK_FK
/-- What the store into the map makes of the device. -/
theorem keep_end {B : Nat} {w w2 : World} {db mb : Nat} {d : Dev} {N : Nat} {D : DataW Unit} {sv : Value} (ok : d.Ok) (ge : B ≤ db) (hmb : B ≤ mb)
    (h1 : w.heap[db]? = some (.cells #[.int .i64 d.size, .map (some mb), sv, .bool d.off, .bool d.armed, .int .i64 d.left] 61 (0, 0)))
    (h3 : w.ownsRow B 65 257 sv d.waits.length (d.waits.flatMap wrCells)) (hm : Maps.IsMap D) (hat : ∀ k, D.atKey (.int .i64 k) (secD (zeros, false)) = secD (d.last k))
    (i : Int) (p : List UInt8 × Bool) (hp : p.1.length = 256) (hmap : ∃ es c, w.heap[mb]? = some (.map es c))
    (ho : w2.ownsMap Try.prog 3 secR mb (N + 1) (D.put (.int .i64 i) (secD p))) (hg : w.grownBy w2 (some mb)) : DevAt B w2 db (d.keep i p) (N + 1) ∧ Fr KK B w w2 := by
  obtain ⟨es, c, hes⟩ := hmap
  have hk : ∀ (k : Nat) cs t f, w.heap[k]? = some (.cells cs t f) → w2.heap[k]? = some (.cells cs t f) := fun k cs t f hh =>
    (hg.block k (lt_of_heap hh) (fun e => by cases e; rw [hes] at hh; cases hh)).trans hh
  refine ⟨⟨keep_ok ok i hp, ge, .map (some mb), sv, hk _ _ _ _ h1, Or.inr ⟨mb, _, rfl, hmb, ho, hm.put _ _, fun k => ?_⟩, ownsRow_of_row h3 (fun k cs hh => hk _ _ _ _ hh)⟩,
    (Fr.refl _ _ _).grown hg (fun k e => by cases e; exact ⟨hmb, _, hes, rfl⟩)⟩
  show _ = secD (upd d.last i p k)
  unfold upd
  by_cases e : k = i
  · subst e; rw [if_pos rfl]; exact Maps.atKey_put_same hm (by trivial) _ _
  · rw [if_neg e, Maps.atKey_put_other (by simpa using e)]; exact hat k

set_option maxHeartbeats 400000 in
theorem keep_any {B : Nat} {w : World} {db : Nat} {d : Dev} {N : Nat} (h : DevAt B w db d N) (i : Int) (hi : 0 ≤ i ∧ i < 4096) (p : List UInt8 × Bool) (hp : p.1.length = 256) (hN : N < maxLen) :
    Calls Try.prog 28 #[.pointer (some ⟨db, 0, none⟩), .int .i64 i, secV p] w fun e w' => e = .returned (.tuple #[]) ∧ DevAt B w' db (d.keep i p) (N + 1) ∧ Fr KK B w w' := by
  have hcs := secCells_size p hp
  unfold secV
  generalize hC : (secCells p).toArray = C at hcs
  have HC := Lib.hid hC
  clear hC
  go_enter Try.func28, Try.ntmps28
  go_wp2_with (with_reducible refine wpList_box_row rfl 68 (.tmp 2) rfl C rfl ?_)
  intro w1 hg hb hs
  have hwf : (Lit.int .i64 i).wf = true := WalkArith.wf_i64 (by omega)
  have HK := Lib.hid (Maps.keyOf_int_mk (k := 3) Try.underlying3 hwf)
  clear hwf
  have HV : Hid (secR (.agg C) = some (secD p, [])) := by rw [← HC.out]; exact secR_mk p
  have FB : Fr KK B w w1 := Fr.of_below hb
  have hd0 := h.below hb
  have HG := Lib.hid hg
  have hlt := hs
  clear hg hs hb
  obtain ⟨ok, ge, mv, sv, hd1, hl1, hr1⟩ := hd0
  have c1 := cell_row hd1 1 rfl
  have f1 := free_row hd1 1
  have hdb := lt_of_heap hd1
  have heq := fun (r : Option Nat) (w : World) => run_eql_map_nil (P := Try.prog) w 58 3 68 r Try.underlying58
  rcases hl1 with ⟨rfl, hz⟩ | ⟨mb, D, rfl, hmb, hown, him, hat⟩
  · have hd1' : w1.heap[db]? = some (.cells #[.int .i64 d.size, .map none, sv, .bool d.off, .bool d.armed, .int .i64 d.left] 61 (0, 0)) := hd1
    have HD := Lib.hid hd1'
    clear hd1 hd1'
    go_wp2_with (with_reducible refine wpList_makeMap rfl 58 rfl ?_)
    intro w2 hg2 hb2 hs2
    have hd2 := (hb2.block _ hdb).trans HD.out
    have c2 := cell_row hd2 1 rfl
    have f2 := free_row hd2 1
    have HD2 := Lib.hid hd2
    have HG2 := Lib.hid hg2
    clear hd2 c1 f1 hg2
    go_wp2
    have hd3 := heap_setCell_same w2 db 1 _ _ (.map (some w1.heap.size)) HD2.out
    have hm3 : (w2.setCell ⟨db, 1, none⟩ (.map (some w1.heap.size))).heap[w1.heap.size]? = some (.map #[] 0) := by
      rw [Below.heap_setCell _ _ _ _ (by show w1.heap.size ≠ db; omega)]; exact HG2.out
    have hg3 : (w2.setCell ⟨db, 1, none⟩ (.map (some w1.heap.size))).heap[w.heap.size]? = some (.cells C 68 (0, 0)) := by
      rw [Below.heap_setCell _ _ _ _ (by rintro e; have := (hb2.block _ hlt).trans HG.out; rw [show (Addr.block ⟨db, 1, none⟩) = db from rfl] at e; rw [e, HD2.out] at this; simp at this)]
      exact (hb2.block _ hlt).trans HG.out
    have hr3 : (w2.setCell ⟨db, 1, none⟩ (.map (some w1.heap.size))).ownsRow B 65 257 sv d.waits.length (d.waits.flatMap wrCells) := by
      refine ownsRow_of_row hr1 (fun k cs hk => ?_)
      rw [Below.heap_setCell _ _ _ _ (by rintro rfl; rw [HD.out] at hk; simp at hk)]
      exact (hb2.block _ (lt_of_heap hk)).trans hk
    have F3 : Fr KK B w (w2.setCell ⟨db, 1, none⟩ (.map (some w1.heap.size))) :=
      (FB.trans (Fr.of_below hb2)).setCell HD2.out ge rfl _
    generalize w2.setCell ⟨db, 1, none⟩ (.map (some w1.heap.size)) = w3 at *
    simp only [List.setIfInBounds_toArray, List.set_cons_succ, List.set_cons_zero] at hd3
    have c3 := cell_row hd3 1 rfl
    have HD3 := Lib.hid hd3
    clear hd3 c2 f2 heq
    have hown3 : w3.ownsMap Try.prog 3 secR w1.heap.size N (.map []) := ⟨#[], 0, hm3, ⟨by simp, MapKept.stamped_empty 0, by simp⟩, Nat.zero_le _, rfl⟩
    refine wp_region_still_tail 6 mixed (by kernel_rfl) ?_
    simp only [List.take_succ_cons, List.take_zero, List.drop_succ_cons, List.drop_zero]
    still_step
    still_step
    still_step
    still_step
    still_step
    refine wpStill_load_row rfl 68 (.tmp 5) rfl w.heap.size 68 (0, 0) C rfl ?hgx _ Try.underlying68 rfl (by rw [sz68, hcs]) ?_
    case hgx => exact hg3
    refine wpStill_nil ?_
    refine wpList_mapUpdate_own w3.drew rfl (.tmp 18) (.tmp 19) (.tmp 20) 58 rfl 3 68 keyed3 Try.underlying58 secR w1.heap.size N (.map []) rfl hown3 hN (.int .i64 i) (.agg C) (.int .i64 i) rfl rfl HK.out (secD p) [] HV.out ?_
    intro w4 hown4 hgr4
    go_wp2
    go_returns
    obtain ⟨r1, r2⟩ := keep_end ok ge (by have := lt_of_heap HD.out; omega) HD3.out hr3 Maps.isMap_empty (fun k => by rw [hz k]; exact rfl) i p hp ⟨_, _, hm3⟩ hown4 ⟨hgr4.os, hgr4.tape, hgr4.output, hgr4.size, hgr4.block⟩
    exact ⟨rfl, r1, F3.trans r2⟩
  · go_wp2
    have HD := Lib.hid hd1
    clear hd1
    have hmap : ∃ es c, w1.heap[mb]? = some (.map es c) := by obtain ⟨es, c, h, _⟩ := hown; exact ⟨es, c, h⟩
    refine wp_region_still_tail 6 mixed (by kernel_rfl) ?_
    simp only [List.take_succ_cons, List.take_zero, List.drop_succ_cons, List.drop_zero]
    still_step
    still_step
    still_step
    still_step
    still_step
    refine wpStill_load_row rfl 68 (.tmp 5) rfl w.heap.size 68 (0, 0) C rfl ?hgx _ Try.underlying68 rfl (by rw [sz68, hcs]) ?_
    case hgx => exact HG.out
    refine wpStill_nil ?_
    refine wpList_mapUpdate_own w1.drew rfl (.tmp 18) (.tmp 19) (.tmp 20) 58 rfl 3 68 keyed3 Try.underlying58 secR mb N D rfl hown hN (.int .i64 i) (.agg C) (.int .i64 i) rfl rfl HK.out (secD p) [] HV.out ?_
    intro w4 hown4 hgr4
    go_wp2
    go_returns
    obtain ⟨r1, r2⟩ := keep_end ok ge hmb HD.out hr1 him hat i p hp hmap hown4 ⟨hgr4.os, hgr4.tape, hgr4.output, hgr4.size, hgr4.block⟩
    exact ⟨rfl, r1, FB.trans r2⟩
end Go.Proofs.Ytfdabkcbefhdaaa
