/- Steps towards the law cisternlaw07.RecordApart: a row with room behind it, and own rows beside one another. No statement of the seat is proved here. -/
import Derived.Test.YtmkomhdlcbimoaaRPDoc2
namespace Go.Proofs.Ytmkomhdlcbimoaa
set_option maxRecDepth 20000
open Go.RowKit

/-- 'append(make([]byte, 0, len(b)+9), b...)': the row with all of its room, nine noughts behind the bytes -/
theorem in_full {w : World} {x : Value} {bs : List UInt8} (hx : ByC w x bs) (hlen : bs.length + 5 ≤ 140737488355328) :
    ∃ w1 w2, (Instr.makeSlice 36 (.int .i64 0) (.int .i64 ((bs.length + 5 : Nat) : Int))).run Try.prog w = .ok (.slice (some ⟨w.heap.size, 0, none⟩) 0 (bs.length + 5)) w1 ∧
      (Builtin.append_ #[36, 36] 36 #[.slice (some ⟨w.heap.size, 0, none⟩) 0 (bs.length + 5), x]).run Try.prog w1 = .ok (.slice (some ⟨w.heap.size, 0, none⟩) bs.length (bs.length + 5)) w2 ∧
      OwnB w.heap.size w2 (.slice (some ⟨w.heap.size, 0, none⟩) (bs.length + 5) (bs.length + 5)) (bs ++ List.replicate 5 0) ∧ Below w.heap.size w w2 := by
  obtain ⟨i, hi, hi0, hi1, hi2⟩ := info5'
  have hr := run_make (P := Try.prog) w 36 5 i (.int .u8 0) Try.underlying36 hi hi0 .i64 .i64 0 ((bs.length + 5 : Nat) : Int) (Int.le_refl _) (by omega) (by rw [hi2]; omega) (by omega)
  simp only [Int.toNat_zero, Int.toNat_natCast, hi1] at hr
  have hmade := made_zeros (bs.length + 5)
  have hb1 := below_new w (.cells (madeCells (Value.int .u8 0).cells ((bs.length + 5) * 1)) 5)
  have hx1 := hx.below hb1
  have hg : (w.alloc (.cells (madeCells (Value.int .u8 0).cells ((bs.length + 5) * 1)) 5)).heap[w.heap.size]? = some (.cells (madeCells (Value.int .u8 0).cells ((bs.length + 5) * 1)) 5 (0, 0)) := heap_alloc_new w _
  generalize madeCells (Value.int .u8 0).cells ((bs.length + 5) * 1) = cur at hr hmade hb1 hx1 hg
  have hcs : cur.size = bs.length + 5 := by rw [← Array.length_toList, hmade, cellsB_length, List.length_replicate]
  have hsz1 : (w.alloc (.cells cur 5)).heap.size = w.heap.size + 1 := by simp
  generalize w.alloc (.cells cur 5) = w1 at hr hb1 hx1 hg hsz1
  obtain ⟨bo, c, hxv, hxl, hxc⟩ := hx1
  subst hxv
  by_cases h0 : 0 < bs.length
  · obtain ⟨b', off', rfl, hat⟩ := hxc h0
    have ha := run_append_room (P := Try.prog) w1 36 36 5 i Try.underlying36 hi w.heap.size 0 (bs.length + 5) cur hg ⟨b', off', none⟩ bs.length c (cellsB bs) (by rw [cellsB_length, hi1]; simp) (fun j u hu => by
        have hj : j < bs.length := by have := (List.getElem?_eq_some_iff.1 hu).1; rwa [cellsB_length] at this
        rw [Addr.add_mid, hat j hj]
        simp only [cellsB, List.getElem?_map, List.getElem?_eq_getElem hj, Option.map_some] at hu
        rw [← hu, List.getD_eq_getElem?_getD, List.getElem?_eq_getElem hj]; rfl) (cellsB_one bs) (by omega) (by rw [cellsB_length, hcs]; omega)
    rw [Nat.zero_add] at ha
    have hL : (bs ++ List.replicate 5 (0 : UInt8)).length = bs.length + 5 := by simp
    refine ⟨w1, _, hr, ha, ?_, ?_⟩
    · unfold OwnB
      rw [hL]
      refine ⟨?_, .inr ⟨w.heap.size, _, _, rfl, Nat.le_refl _, setRow_heap w1 w.heap.size cur _ _ _ hg, Nat.le_refl _, by unfold maxLen; omega, ?_, ?_⟩⟩
      · rw [cellsB_length]; simp
      · simp [cellsB_length, hcs]
      · rw [hmade]
        simp only [Nat.zero_mul, List.take_zero, List.nil_append, Nat.zero_add, cellsB_length]
        rw [List.take_of_length_le (by simp [cellsB_length])]
        simp [cellsB, List.map_replicate]
    · exact hb1.trans ⟨rfl, rfl, rfl, by simp, fun k hk => setRow_other w1 w.heap.size k _ (by omega)⟩
  · have hnil : bs = [] := List.eq_nil_of_length_eq_zero (by omega)
    subst hnil
    have hcs2 : cur.size = 5 := by simpa using hcs
    refine ⟨w1, w1, hr, run_append_none w1 36 36 5 Try.underlying36 i hi _ bo 0 5 c (by omega), ⟨by simp [cellsB_length], .inr ⟨w.heap.size, _, cur, rfl, Nat.le_refl _, hg, Nat.le_refl _, by simp [maxLen], by rw [hcs2]; rfl, ?_⟩⟩, hb1⟩
    rw [hmade]; rfl
theorem OwnB.keep {base : Nat} {w w' : World} {v : Value} {bs : List UInt8} (h : OwnB base w v bs) (hk : ∀ k, base ≤ k → w'.heap[k]? = w.heap[k]?) : OwnB base w' v bs := by
  refine ⟨h.1, ?_⟩
  rcases h.2 with h1 | ⟨g, cap, cur, hv, hbg, hg, hr⟩
  · exact .inl h1
  · exact .inr ⟨g, cap, cur, hv, hbg, by rw [hk g hbg]; exact hg, hr⟩
/-- an own row of bytes, whatever it holds -/
def AnyB (base : Nat) (w : World) (v : Value) : Prop := ∃ l, OwnB base w v l
theorem AnyB.below {base : Nat} {w w' : World} {v : Value} (h : AnyB base w v) (hb : Below w.heap.size w w') : AnyB base w' v := by
  obtain ⟨l, h⟩ := h; exact ⟨l, OwnB.below h hb⟩
theorem AnyB.form {base : Nat} {w : World} {v : Value} (h : AnyB base w v) : ∃ ao m cap, v = .slice ao m cap ∧ m ≤ 9223372036854775807 ∧ Hid (∀ g, ao = some ⟨g, 0, none⟩ → g < w.heap.size) := by
  obtain ⟨l, h⟩ := h
  obtain ⟨_, _, _, _, hl⟩ := h.form
  rcases h.2 with ⟨hv, hz⟩ | ⟨g, cap, cur, hv, hbg, hg, hr⟩
  · exact ⟨_, _, _, hv, by omega, Lib.hid (fun g e => by cases e)⟩
  · refine ⟨_, _, _, hv, by unfold maxLen at hl; omega, Lib.hid (fun g' e => ?_)⟩
    cases e
    exact (Array.getElem?_eq_some_iff.1 hg).1
theorem AnyB.cell {base : Nat} {w : World} {ao : Option Addr} {m cap k : Nat} (h : AnyB base w (.slice ao m cap)) (hk : k < m) :
    ∃ g c, ao = some ⟨g, 0, none⟩ ∧ base ≤ g ∧ w.cell? ⟨g, k, none⟩ = some (.int .u8 c) ∧ w.frozen? ⟨g, k, none⟩ = false ∧ ∀ x : UInt8, AnyB base (w.setCell ⟨g, k, none⟩ (byteV x)) (.slice (some ⟨g, 0, none⟩) m cap) := by
  obtain ⟨l, h⟩ := h
  have hh := h
  rcases h.2 with ⟨hv, hz⟩ | ⟨g, cap', cur, hv, hbg, hg, hr⟩
  · cases hv; omega
  · obtain ⟨rfl, hml, rfl⟩ : ao = some ⟨g, 0, none⟩ ∧ m = l.length ∧ cap = cap' := by cases hv; exact ⟨rfl, rfl, rfl⟩
    subst hml
    have ho : w.ownsRow base 5 1 (.slice (some ⟨g, 0, none⟩) l.length cap) l.length (cellsB l) := hh
    have h0 := World.ownsRow.cellAt ho k (by omega)
    refine ⟨g, ((l.getD k 0).toNat : Int), rfl, hbg, ?_, World.ownsRow.frozenAt ho k, fun x => ?_⟩
    · rw [h0]
      simp only [cellsB, List.getElem?_map, List.getElem?_eq_getElem hk, Option.map_some, List.getD_eq_getElem?_getD, Option.getD_some]
      rfl
    · refine ⟨l.set k x, ?_⟩
      have := World.ownsRow.stored ho k (byteV x)
      unfold OwnB
      rw [List.length_set, show cellsB (l.set k x) = (cellsB l).set k (byteV x) by simp [cellsB, List.map_set]]
      exact this.1
theorem AnyB.other {base g q : Nat} {w : World} {v : Value} (h : AnyB base w v) (hg : g < base) (x : Value) : AnyB base (w.setCell ⟨g, q, none⟩ x) v := by
  obtain ⟨l, h⟩ := h
  exact ⟨l, h.keep fun k hk => Below.heap_setCell w _ x k (by simp; omega)⟩
theorem below_store {B g q : Nat} {w w' : World} (h : Below B w w') (hg : B ≤ g) (x : Value) : Below B w (w'.setCell ⟨g, q, none⟩ x) :=
  h.trans ⟨rfl, rfl, rfl, by simp [World.setCell], fun k hk => Below.heap_setCell w' _ x k (by simp; omega)⟩
theorem OwnB.cut {base g cap : Nat} {w : World} {l r : List UInt8} {n : Nat} (h : OwnB base w (.slice (some ⟨g, 0, none⟩) n cap) (l ++ r)) : OwnB base w (.slice (some ⟨g, 0, none⟩) l.length cap) l := by
  refine ⟨by rw [cellsB_length]; simp, ?_⟩
  rcases h.2 with ⟨hv, hz⟩ | ⟨g', cap', cur, hv, hbg, hg, h1, h2, h3, h4⟩
  · cases hv
  · obtain ⟨rfl, -, rfl⟩ : g = g' ∧ n = (l ++ r).length ∧ cap = cap' := by cases hv; exact ⟨rfl, rfl, rfl⟩
    refine .inr ⟨g, cap, cur, rfl, hbg, hg, by rw [List.length_append] at h1; omega, h2, h3, ?_⟩
    have := congrArg (List.take (l.length * 1)) h4
    rw [List.take_take] at this
    rw [show cellsB (l ++ r) = cellsB l ++ cellsB r by simp [cellsB], Nat.mul_one, Nat.mul_one, List.length_append, Nat.min_eq_left (by omega), ← cellsB_length l, List.take_left, cellsB_length] at this
    rw [Nat.mul_one]; exact this
/-- 's[:cap(s)]' -/
theorem full_run (g n cap : Nat) (h : cap ≤ 9223372036854775807) (w' : World) : (Instr.sliceAt 36 (.slice (some ⟨g, 0, none⟩) n cap) none (some (.int .i64 (cap : Int))) none).run Try.prog w' = .ok (.slice (some ⟨g, 0, none⟩) cap cap) w' := by
  have hu : Try.prog.underlying 36 = some (.slice (Try.prog.elem 36)) := by kernel_rfl
  rw [run_sliceAt_slice (P := Try.prog) w' 36 _ _ _ _ hu, run_slice_h (P := Try.prog) w' 36 (some ⟨g, 0, none⟩) n cap hu .i64 cap (by omega) (by omega)]
  have hsz : (sizeOf (Try.prog.elem 36)).run Try.prog w' = .ok 1 w' := by kernel_rfl
  rw [hsz]
  simp [Result.andThen, sliced, Addr.add]

/-- an own row of pairs, whatever it holds -/
def AnyP (base : Nat) (w : World) (v : Value) : Prop := ∃ n xs, w.ownsRow base 66 2 v n xs
theorem AnyP.form {base : Nat} {w : World} {v : Value} (h : AnyP base w v) : ∃ ao m cap, v = .slice ao m cap ∧ m ≤ 9223372036854775807 := by
  obtain ⟨n, xs, h⟩ := h
  obtain ⟨ao, cap, hv, _, h2⟩ := ownsRow_form h
  exact ⟨ao, n, cap, hv, by unfold maxLen at h2; omega⟩
theorem AnyP.cell {base : Nat} {w : World} {ao : Option Addr} {m cap k : Nat} (h : AnyP base w (.slice ao m cap)) (hk : k < m) :
    ∃ g u u', ao = some ⟨g, 0, none⟩ ∧ base ≤ g ∧ w.cell? ⟨g, k * 2, none⟩ = some u ∧ w.frozen? ⟨g, k * 2, none⟩ = false ∧ ∀ x : Value, (w.setCell ⟨g, k * 2, none⟩ x).cell? ⟨g, k * 2 + 1, none⟩ = some u' ∧ (w.setCell ⟨g, k * 2, none⟩ x).frozen? ⟨g, k * 2 + 1, none⟩ = false ∧
      ∀ y : Value, AnyP base ((w.setCell ⟨g, k * 2, none⟩ x).setCell ⟨g, k * 2 + 1, none⟩ y) (.slice (some ⟨g, 0, none⟩) m cap) := by
  obtain ⟨n, xs, h⟩ := h
  rcases h.2 with ⟨hv, hz⟩ | ⟨g, cap', cur, hv, hbg, hg, hr⟩
  · cases hv; omega
  · obtain ⟨rfl, rfl, rfl⟩ : ao = some ⟨g, 0, none⟩ ∧ m = n ∧ cap = cap' := by cases hv; exact ⟨rfl, rfl, rfl⟩
    have hl := h.1
    have c0 := World.ownsRow.cellAt h (k * 2) (by omega)
    have hl1 : k * 2 + 1 < xs.length := by omega
    refine ⟨g, xs[k * 2], xs[k * 2 + 1], rfl, hbg, c0.trans (List.getElem?_eq_getElem (by omega)), World.ownsRow.frozenAt h (k * 2), fun x => ?_⟩
    have h2 := (World.ownsRow.stored h (k * 2) x).1
    have c1 := World.ownsRow.cellAt h2 (k * 2 + 1) (by omega)
    rw [List.getElem?_set_ne (by omega)] at c1
    refine ⟨c1.trans (List.getElem?_eq_getElem (by omega)), World.ownsRow.frozenAt h2 (k * 2 + 1), fun y => ?_⟩
    exact ⟨_, _, (World.ownsRow.stored h2 (k * 2 + 1) y).1⟩
end Go.Proofs.Ytmkomhdlcbimoaa
