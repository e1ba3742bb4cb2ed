/- The queue's map of ids: looking up, putting, deleting; stores into the queue's own cells. No statement of the seat is proved here. -/
import Derived.Test.YtegloiojhimoeaaQAt
namespace Go.Proofs.Ytegloiojhimoeaa
open Go.RowKit

theorem map_put {X : Nat → Prop} {w : World} {mb : Nat} {N : Nat} {f : Int → Option Wt} {D : DataW Value} (hX : ¬ X mb) (ho : w.ownsMap Try.prog 3 vR mb N D) (hm : Maps.IsMap D) (hat : ∀ id, fits id → EntAt D id (f id)) (hN : N < maxLen) {id : Int} (hf : fits id) (x : Wt) :
    ∃ w', (Instr.mapUpdate 57 (.map (some mb)) (.int .i64 id) (ptrW x)).run Try.prog w = .ok () w' ∧ MapQ X w' (.map (some mb)) (N + 1) (fun i => if i = id then some x else f i) ∧ w.grownBy w' (some mb) := by
  obtain ⟨w', hrun, ho', ht⟩ := ho.store keyedI Try.underlying57 hN (key_int hf) (val := ptrW x) (d := .held (ptrW x)) (ps := []) rfl
  refine ⟨w', hrun, Or.inr ⟨mb, _, rfl, hX, ho', hm.put _ _, fun i hi => ?_⟩, ht.grown⟩
  by_cases e : i = id
  · subst e
    simp only [if_true]
    exact ⟨Maps.has_put_same hm (by trivial) _, fun z => Maps.atKey_put_same hm (by trivial) _ _⟩
  · simp only [if_neg e]
    have hne : (Lit.int .i64 i) ≠ Lit.int .i64 id := by simpa using e
    have := hat i hi
    cases hq : f i with
    | none => rw [hq] at this; exact (Maps.has_put_other hne _).trans this
    | some y => rw [hq] at this; exact ⟨(Maps.has_put_other hne _).trans this.1, fun z => (Maps.atKey_put_other hne _ _).trans (this.2 z)⟩
theorem map_del {X : Nat → Prop} {w : World} {mb : Nat} {N : Nat} {f : Int → Option Wt} {D : DataW Value} (hX : ¬ X mb) (ho : w.ownsMap Try.prog 3 vR mb N D) (hat : ∀ id, fits id → EntAt D id (f id)) {id : Int} (hf : fits id) (ty : TypeId) :
    ∃ w', (Builtin.delete_ #[57, 3] ty #[.map (some mb), .int .i64 id]).run Try.prog w = .ok (.tuple #[]) w' ∧ MapQ X w' (.map (some mb)) N (fun i => if i = id then none else f i) ∧ w.grownBy w' (some mb) := by
  obtain ⟨w', hrun, ho', ht⟩ := ho.drop keyedI Try.underlying57 (key_int hf) ty
  refine ⟨w', hrun, Or.inr ⟨mb, _, rfl, hX, ho', ho'.isMap, fun i hi => ?_⟩, ht.grown⟩
  by_cases e : i = id
  · subst e
    simp only [if_true]
    exact Maps.has_del_same
  · simp only [if_neg e]
    have hne : (Lit.int .i64 i) ≠ Lit.int .i64 id := by simpa using e
    have := hat i hi
    cases hq : f i with
    | none => rw [hq] at this; exact (Maps.has_del_other hne).trans this
    | some y => rw [hq] at this; exact ⟨(Maps.has_del_other hne).trans this.1, fun z => (Maps.atKey_del_other hne _).trans (this.2 z)⟩
def ptrO : Option Wt → Value
  | none => .pointer none
  | some x => ptrW x
theorem map_find {X : Nat → Prop} {w : World} {mv : Value} {N : Nat} {f : Int → Option Wt} (h : MapQ X w mv N f) {id : Int} (hf : fits id) :
    (Instr.lookup 57 mv (.int .i64 id) false).run Try.prog w = .ok (ptrO (f id)) w := by
  have hz : (zeroValue 66).run Try.prog w = .ok (.pointer none) w := by kernel_rfl
  rcases h with ⟨rfl, h⟩ | ⟨mb, D, rfl, hB, ho, hm, hat⟩
  · rw [h]
    exact Maps.look_nil false keyedI Try.underlying57 hz (key_int hf)
  · obtain ⟨v, ps, hrun, hv⟩ := ho.lookup keyedI Try.underlying57 hz (zd := .held (.pointer none)) (zp := []) rfl (key_int hf)
    have := hat id hf
    rw [hrun]
    cases hq : f id with
    | none =>
      rw [hq] at this
      rw [Maps.atKey_of_not_has this] at hv
      rw [vR_inv hv]; rfl
    | some x =>
      rw [hq] at this
      rw [this.2] at hv
      rw [vR_inv hv]; rfl

/-! ### stores into the queue's own cells -/
theorem LineAt.boxed {X : Nat → Prop} {w w' : World} {qb : Nat} {mv mv' : Value} {pu pu' : Nat} {L : List Wt} (h : LineAt X w qb mv pu L) (i : Nat) (u : Value) (hw : w' = w.setCell ⟨qb, i, none⟩ u) (hu : ∀ lv, (#[lv, mv, .int .i64 pu] : Array Value).setIfInBounds i u = #[lv, mv', .int .i64 pu']) : LineAt X w' qb mv' pu' L := by
  subst hw
  obtain ⟨lt, qo, len, ⟨lv, h1, h2, h3⟩, wt, nd, ok⟩ := h
  have hs := heap_setCell_same w qb i _ _ u h1
  rw [hu lv] at hs
  refine ⟨fun k e => by simpa [World.setCell] using lt k e, qo, len, ⟨lv, hs, ?_, h3⟩, fun j hj => ?_, nd, ok⟩
  · refine ownsRow_setCell_other h2 (fun e => ?_) u
    rcases h2.2 with ⟨h', _⟩ | ⟨g', cap', cur, h', _, hg, _⟩
    · rw [h'] at e; cases e
    · rw [h'] at e
      simp only [Value.ownBlock, Option.some.injEq] at e
      exact ne_of_obj hg h1 (by decide) e
  · obtain ⟨a, b⟩ := wt j hj
    exact ⟨a, by rw [Below.heap_setCell _ _ _ _ (ne_of_obj b h1 (by decide))]; exact b⟩
theorem LineAt.cells {X : Nat → Prop} {w : World} {qb : Nat} {mv : Value} {pu : Nat} {L : List Wt} (h : LineAt X w qb mv pu L) : w.cell? ⟨qb, 1, none⟩ = some mv ∧ w.cell? ⟨qb, 2, none⟩ = some (.int .i64 pu) ∧ ∀ i, w.frozen? ⟨qb, i, none⟩ = false := by
  obtain ⟨lv, h1, _⟩ := h.box
  exact ⟨cell_row h1 1 rfl, cell_row h1 2 rfl, fun i => free_row h1 i⟩
theorem LineAt.grown {X : Nat → Prop} {w w' : World} {qb : Nat} {mv : Value} {pu : Nat} {L : List Wt} {mb : Nat} (h : LineAt X w qb mv pu L) (hg : w.grownBy w' (some mb)) (hx : X mb) : LineAt X w' qb mv pu L :=
  h.keep (fun k _ hk ho => (hg.block k (lt_of_heap ho) (fun e => by cases e; exact hk hx)).trans ho) (fun _ _ e => e) (fun k e => Nat.lt_of_lt_of_le (h.lt k e) hg.size)
end Go.Proofs.Ytegloiojhimoeaa
