/- Arguments that are slices, as a walk wants them. No statement of the seat is proved here. -/
import Derived.Test.YtkmaikmbjebjeaaDoorMem
import Derived.ProofKit
import Derived.OpenShut
import Derived.Deep.Grids
import Derived.SizedLaws
namespace Go.Proofs.YtkmaikmbjebjeaaDoor
set_option maxRecDepth 20000
open Go.RowKit Go.ChangeShapes Go.WideShapes Go.ChangeAt

/-- A slice that came in: n elements of one cell each, element i holds f i. -/
def ArgRow (W : World) (v : Value) (n : Nat) (f : Nat → Value) : Prop :=
  ∃ ao cap, v = .slice ao n cap ∧ n ≤ 9223372036854775807 ∧ (ao = none → cap = 0) ∧ ∀ i, i < n → ∃ b off, ao = some ⟨b, off, none⟩ ∧ b < W.heap.size ∧ W.cell? ⟨b, off + i, none⟩ = some (f i)
def IntsArg (W : World) (v : Value) (zs : List Int) : Prop := ArgRow W v zs.length (fun i => .int .i64 (zs.getD i 0)) ∧ (∀ z ∈ zs, -9223372036854775808 ≤ z ∧ z ≤ 9223372036854775807) ∧ zs.length * 8 ≤ 140737488351232 ∧ ∀ ao n c, v = .slice ao n c → n ≤ c
def BoolsArg (W : World) (v : Value) (bs : List Bool) : Prop := ArgRow W v bs.length (fun i => .bool (bs.getD i false))

theorem argRow_of {W : World} {a : Addr} {len cap : Nat} {f : Nat → Value} (hlc : len ≤ 9223372036854775807) (h : ∀ i, i < len → W.cell? (a.add i) = some (f i)) : ArgRow W (.slice (some a) len cap) len f := by
  refine ⟨_, cap, rfl, hlc, by simp, fun i hi => ?_⟩
  have h0 := h i hi
  have hs0 : (a.add 0).spot = none := World.cell?_spot (h 0 (by omega))
  obtain ⟨b, off, spot⟩ := a
  have hspot : spot = none := by simpa [Addr.add] using hs0
  subst hspot
  have e : (⟨b, off, none⟩ : Addr).add i = ⟨b, off + i, none⟩ := by unfold Addr.add; split <;> simp_all
  rw [e] at h0
  exact ⟨b, off, rfl, World.block_lt_of_cell? W _ h0, h0⟩
theorem ArgRow.nil (W : World) (f : Nat → Value) : ArgRow W (.slice none 0 0) 0 f := ⟨none, 0, rfl, by simp, fun _ => rfl, fun i h => by omega⟩

section
variable {H : Type} {enc : TypeId × Value → H} {P : Program} {W : World} {base : Nat} {t e : TypeId} {v : Value} {d : DataW H} {ps : List MemPlace}
theorem ints_arg (ht : P.underlying t = some (.slice e)) (he : P.underlying e = some (.int .i64)) (hc : P.cellsOf e = 1) (hv : Value.okWide P W .any base t v) (hsz : ∀ elems spare, d = .slice elems spare → (elems.length + spare.length) * 8 ≤ 140737488351232) (h : DataW.Trod enc P W 0 (fun _ => true) true t v d ps) : ∃ zs, IntsArg W v zs := by
  obtain ⟨a0, len, cap, rfl⟩ := okWide_slice ht hv
  obtain ⟨fuel, hf⟩ := h
  rcases open_ints ht he hc hf with ⟨hcs, _⟩ | ⟨x, l, c, zs, hcs, _, hl, hm, hz, hdat, hcell, hwz⟩
  · simp [Value.cells] at hcs
    obtain ⟨rfl, rfl, rfl⟩ := hcs
    exact ⟨[], ArgRow.nil _ _, by simp, by simp, fun _ _ _ e => by cases e; exact Nat.le_refl _⟩
  · simp [Value.cells] at hcs
    obtain ⟨rfl, rfl, rfl⟩ := hcs
    have hz' : zs.length = cap := by simpa using hz
    unfold maxLen at hm
    have hl' : (zs.take len).length = len := by rw [List.length_take]; omega
    have hb := hsz _ _ (Prod.mk.injEq _ _ _ _ ▸ hdat).1
    simp only [lits, List.length_map, List.length_drop, hl'] at hb
    refine ⟨zs.take len, ?_, fun z hz => ?_, by rw [hl']; omega, fun _ _ _ e => by cases e; exact hl⟩
    · rw [hl']
      refine argRow_of (by omega) (fun i hi => ?_)
      rw [hcell i (by omega)]
      simp [List.getD_eq_getElem?_getD, hi]
    · have := hwz z (List.mem_of_mem_take hz)
      exact bounds_i64 this
theorem bools_arg (ht : P.underlying t = some (.slice e)) (he : P.underlying e = some .bool) (hc : P.cellsOf e = 1) (hv : Value.okWide P W .any base t v) (h : DataW.Trod enc P W 0 (fun _ => true) true t v d ps) : ∃ bs, BoolsArg W v bs := by
  obtain ⟨a0, len, cap, rfl⟩ := okWide_slice ht hv
  obtain ⟨fuel, hf⟩ := h
  rcases Deep.open_bools ht he hc hf with ⟨hcs, _⟩ | ⟨x, l, c, B, hcs, _, hl, hm, _, hcell⟩
  · simp [Value.cells] at hcs
    obtain ⟨rfl, rfl, rfl⟩ := hcs
    exact ⟨[], ArgRow.nil _ _⟩
  · simp [Value.cells] at hcs
    obtain ⟨rfl, rfl, rfl⟩ := hcs
    unfold maxLen at hm
    refine ⟨(List.range len).map B, ?_⟩
    unfold BoolsArg
    rw [List.length_map, List.length_range]
    refine argRow_of (by omega) (fun i hi => ?_)
    rw [hcell i (by omega)]
    simp [List.getD_eq_getElem?_getD, hi]
theorem args_lt (h : DataW.Trod enc P W 0 (fun _ => true) true t v d ps) : ∀ x ∈ ps, x.block < W.heap.size := by obtain ⟨m, hm⟩ := h; exact DataW.trod_lt m _ _ _ hm
end
/-- Its cells in a later world. -/
theorem ArgRow.at {W w : World} {ao : Option Addr} {n cap : Nat} {f : Nat → Value} (h : ArgRow W (.slice ao n cap) n f) (hb : Below W.heap.size W w) {i : Nat} (hi : i < n) : ∃ b off, ao = some ⟨b, off, none⟩ ∧ w.cell? ⟨b, off + i, none⟩ = some (f i) := by
  obtain ⟨ao', cap', hv, _, _, hc⟩ := h
  cases hv
  obtain ⟨b, off, h1, h2, h3⟩ := hc i hi
  exact ⟨b, off, h1, (hb.cell (p := ⟨b, off + i, none⟩) h2).trans h3⟩
theorem ArgRow.form {W : World} {v : Value} {n : Nat} {f : Nat → Value} (h : ArgRow W v n f) : ∃ ao cap, v = .slice ao n cap ∧ n ≤ 9223372036854775807 ∧ (ao = none → cap = 0) := by
  obtain ⟨ao, cap, hv, hl, h0, _⟩ := h; exact ⟨ao, cap, hv, hl, h0⟩
theorem mod_form (a k : Int) (hk : 0 < k) (hk' : k ≤ 1000000) : ∃ m : Nat, (m : Int) < k ∧ wrap64 ((IntKind.u64.wrap a).tmod k) = m := by
  rw [IntKind.wrap_u64]
  have h0 : 0 ≤ a % 18446744073709551616 := Int.emod_nonneg _ (by decide)
  rw [Int.tmod_eq_emod_of_nonneg h0]
  have h1 := Int.emod_nonneg (a % 18446744073709551616) (b := k) (by omega)
  have h2 := Int.emod_lt_of_pos (a % 18446744073709551616) hk
  generalize a % 18446744073709551616 % k = r at *
  refine ⟨r.toNat, by omega, ?_⟩
  rw [IntWalk.wrap64_in r ⟨by omega, by omega⟩]; omega
end Go.Proofs.YtkmaikmbjebjeaaDoor
