/- Items that came in as an argument. No statement of the seat is proved here. -/
import Derived.Test.YtmkomhdlcbimoaaPInv
import Derived.Deep.Slices
import Derived.Deep.Strs
namespace Go.Proofs.Ytmkomhdlcbimoaa
set_option maxRecDepth 20000
open Go.RowKit Go.ChangeShapes Go.WideShapes Go.ChangeAt

theorem ItemsAt.more {B B' : Nat} {w : World} {v : Value} {l : List It} (h : ItemsAt B w v l) (hB : B ≤ B') : ItemsAt B' w v l := by
  obtain ⟨ao, cap, hv, h1, h2, h3, h4⟩ := h
  refine ⟨ao, cap, hv, h1, h2, h3, fun h0 => ?_⟩
  obtain ⟨b, off, e, hb, hc⟩ := h4 h0
  exact ⟨b, off, e, Nat.lt_of_lt_of_le hb hB, hc⟩
theorem bytesItem : Try.prog.bytesOf 77 = 32 := by kernel_rfl
theorem cellsItem : Try.prog.cellsOf 77 = 3 := by kernel_rfl
theorem cellsInt : Try.prog.cellsOf 3 = 1 := by kernel_rfl
theorem cellsStr : Try.prog.cellsOf 9 = 1 := by kernel_rfl
def ItemsArg (W : World) (v : Value) (l : List It) : Prop := ItemsAt W.heap.size W v l ∧ l.length * 32 ≤ 140737488351232
section
variable {H : Type} {enc : TypeId × Value → H} {W : World} {base : Nat} {v : Value} {d : DataW H} {ps : List MemPlace}
theorem one_item {n : Nat} {cs : List Value} {x : DataW H × List MemPlace} (h : DataW.trod enc Try.prog W 0 (fun _ => true) true n 77 cs = some x) : ∃ y : It, y.ok ∧ cs = [.int .i64 y.k, .int .i64 y.n, .string y.s] := by
  obtain ⟨y0, y1, y2, m, hx, hl, h0, h1, h2⟩ := Deep.trod_struct3 Try.underlying77 h
  rw [cellsItem] at hl
  match cs, hl with
  | [c0, c1, c2], _ =>
    simp only [cellsInt, cellsStr] at h0 h1 h2
    obtain ⟨a, ha, -, wa⟩ := DataW.trod_int Try.underlying3 h0
    obtain ⟨b, hb, -, wb⟩ := DataW.trod_int Try.underlying3 h1
    obtain ⟨s, hs, -, ws⟩ := DataW.trod_string Try.underlying9 h2
    simp at ha hb hs
    subst ha; subst hb; subst hs
    exact ⟨⟨a, b, s⟩, ⟨bounds_i64 wa, bounds_i64 wb, ws⟩, rfl⟩
theorem items_arg (hv : Value.okWide Try.prog W .any base 74 v) (hsz : ∀ elems spare, d = .slice elems spare → (elems.length + spare.length) * 32 ≤ 140737488351232) (h : DataW.Trod enc Try.prog W 0 (fun _ => true) true 74 v d ps) : ∃ l, ItemsArg W v l := by
  obtain ⟨a0, len, cap, rfl⟩ := okWide_slice Try.underlying74 hv
  obtain ⟨fuel, hf⟩ := h
  rcases Deep.open_slice Try.underlying74 hf with ⟨hcs, _⟩ | ⟨x, l, c, m, n, D, Pl, hcs, _, hl, hm, hmm, hdat, hi⟩
  · simp [Value.cells] at hcs
    obtain ⟨rfl, rfl, rfl⟩ := hcs
    exact ⟨[], ⟨none, 0, rfl, Nat.le_refl _, by simp, by simp, fun h => by simp at h⟩, by simp⟩
  · simp [Value.cells] at hcs
    obtain ⟨rfl, rfl, rfl⟩ := hcs
    simp only [if_true] at hmm
    subst hmm
    have hb := hsz _ _ (Prod.mk.injEq _ _ _ _ ▸ hdat).1
    simp only [List.length_map, List.length_range] at hb
    have hx : ∀ i, i < len → ∃ y : It, y.ok ∧ W.cell? (x.add (i * 3)) = some (.int .i64 y.k) ∧ W.cell? ((x.add (i * 3)).add 1) = some (.int .i64 y.n) ∧ W.cell? ((x.add (i * 3)).add 2) = some (.string y.s) := fun i hil => by
      obtain ⟨cs', hc, ht⟩ := hi i (by omega)
      rw [cellsItem] at hc
      obtain ⟨y, hy, rfl⟩ := one_item ht
      obtain ⟨_, _, hat⟩ := World.cells?_some hc
      refine ⟨y, hy, ?_, ?_, ?_⟩
      · have := hat 0 (by omega); simpa [Addr.add] using this
      · have := hat 1 (by omega); simpa using this
      · have := hat 2 (by omega); simpa using this
    let F : Nat → It := fun i => if h : i < len then Classical.choose (hx i h) else .none
    have hF : ∀ i, i < len → (F i).ok ∧ W.cell? (x.add (i * 3)) = some (.int .i64 (F i).k) ∧ W.cell? ((x.add (i * 3)).add 1) = some (.int .i64 (F i).n) ∧ W.cell? ((x.add (i * 3)).add 2) = some (.string (F i).s) := fun i h => by
      have := Classical.choose_spec (hx i h)
      simp only [F, dif_pos h]
      exact this
    have hll : ((List.range len).map F).length = len := by simp
    have hit : ∀ i, i < len → itAt ((List.range len).map F) i = F i := fun i h => by
      unfold itAt
      rw [List.getD_eq_getElem?_getD, List.getElem?_map, List.getElem?_range h]; rfl
    refine ⟨(List.range len).map F, ⟨_, _, by rw [hll], by rw [hll]; exact hl, by rw [hll]; unfold maxLen at hm; omega, ?_, ?_⟩, by rw [hll]; omega⟩
    · intro y hy
      obtain ⟨i, hi1, rfl⟩ := List.mem_map.1 hy
      exact (hF i (List.mem_range.1 hi1)).1
    · intro h0
      rw [hll] at h0
      have hs0 : (x.add (0 * 3)).spot = none := World.cell?_spot (hF 0 h0).2.1
      obtain ⟨b, off, spot⟩ := x
      have hspot : spot = none := by simpa [Addr.add] using hs0
      subst hspot
      refine ⟨b, off, rfl, by have := World.block_lt_of_cell? W _ (hF 0 h0).2.1; simpa [Addr.add] using this, fun i hi' => ?_⟩
      rw [hll] at hi'
      obtain ⟨_, c1, c2, c3⟩ := hF i hi'
      rw [Addr.add_mid] at c1 c2 c3
      rw [Addr.add_mid] at c2 c3
      rw [hit i hi']
      exact ⟨c1, c2, c3⟩
end
end Go.Proofs.Ytmkomhdlcbimoaa
