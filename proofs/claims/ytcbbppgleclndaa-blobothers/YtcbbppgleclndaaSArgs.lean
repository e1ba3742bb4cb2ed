/- Slices of texts that came in; a text's bytes; more steps of a drawn region. No statement of the seat is proved here. -/
import Derived.Test.YtcbbppgleclndaaBKnown
import Derived.Test.YtcbbppgleclndaaArgs
import Derived.SliceStrings
import Derived.ChangeMaps5
namespace Go.Proofs.Ytcbbppgleclndaa
open Go.RowKit Go.ChangeShapes Go.WideShapes Go.ChangeAt

def StrsArg (W : World) (v : Value) (ss : List ByteArray) : Prop := ArgRow W v ss.length (fun i => .string (ss.getD i ByteArray.empty)) ∧ ∀ s ∈ ss, s.size ≤ maxLen
section
variable {H : Type} {enc : TypeId × Value → H} {P : Program} {W : World} {base : Nat} {t e : TypeId} {v : Value} {d : DataW H} {ps : List MemPlace}
theorem strs_arg (ht : P.underlying t = some (.slice e)) (he : P.underlying e = some .string) (hc : P.cellsOf e = 1) (hv : Value.okWide P W .any base t v) (h : DataW.Trod enc P W 0 (fun _ => true) true t v d ps) : ∃ ss, StrsArg W v ss := by
  obtain ⟨a0, len, cap, rfl⟩ := okWide_slice ht hv
  obtain ⟨fuel, hf⟩ := h
  rcases open_strings ht he hc hf with ⟨hcs, _⟩ | ⟨x, l, c, ss, hcs, _, hl, hm, hz, _, hcell, hw⟩
  · simp [Value.cells] at hcs
    obtain ⟨rfl, rfl, rfl⟩ := hcs
    exact ⟨[], ArgRow.nil _ _, by simp⟩
  · simp [Value.cells] at hcs
    obtain ⟨rfl, rfl, rfl⟩ := hcs
    have hz' : ss.length = cap := by simpa using hz
    unfold maxLen at hm
    have hl' : (ss.take len).length = len := by rw [List.length_take]; omega
    refine ⟨ss.take len, ?_, fun s hs => hw s (List.mem_of_mem_take hs)⟩
    rw [hl']
    refine argRow_of (by omega) (fun i hi => ?_)
    rw [hcell i (by omega)]
    simp [List.getD_eq_getElem?_getD, hi]
end
theorem str_size {ss : List ByteArray} (h : ∀ s ∈ ss, s.size ≤ maxLen) (k : Nat) : (ss.getD k ByteArray.empty).size ≤ maxLen := by
  rw [List.getD_eq_getElem?_getD]
  cases hq : ss[k]? with
  | none => simp [maxLen]
  | some s => exact h s (List.mem_of_getElem? hq)

/-- A text's bytes, in a row of their own. -/
theorem run_bytes_of (w : World) (s : ByteArray) (hs : s.size ≤ maxLen) : ∃ v w', (convert 9 36 (.string s)).run Try.prog w = .ok v w' ∧ BytesIn (fun k => w.heap.size ≤ k ∧ k < w'.heap.size) w' v s.data.toList ∧ Below w.heap.size w w' := by
  refine ⟨_, _, run_bytes_of_string w 9 36 5 s Try.underlying9 Try.underlying36 Try.underlying5, ⟨_, _, by simp; rfl, by simpa using hs, fun h0 => ⟨w.heap.size, 0, _, _, rfl, ⟨Nat.le_refl _, by simp⟩, heap_alloc_new w.drew _, fun i hi => ?_⟩⟩, ((Below.refl _ _).drew).alloc (by simp) _⟩
  have hi' : i < s.data.size := by simpa using hi
  unfold bytesRow
  rw [Nat.zero_add, Array.getElem?_append_left (by simpa using hi'), Array.getElem?_map, Array.getElem?_eq_getElem hi', List.getD_eq_getElem?_getD, Array.getElem?_toList, Array.getElem?_eq_getElem hi']
  rfl
section
variable {P : Program} {md : Region.Mode} {ops : Array Oper} {Q : Exit → Act → World → Prop} {S : World → Prop} {fuel : Nat} {L : Array Bool} {a : Act} {w : World}
theorem wpAnyH_skip_d (i : Nat) (d : Option Tmp) {o : Oper} (hi : ops[i]? = some o) (hs : Region.noSelect ops = true) (hf : Region.free md ops L i = true) (hr : (Region.ready md ops L).contains i = true)
    (hw : Region.wanted o (yielded ops a.tmps) = false) (hd : o.dst = d) (hQ : ∀ c a w, Q (.panic c) (a.put d undef) w → Q (.panic c) a w) (hS : S w)
    (h : wpAnyH P md ops Q S fuel (L.setIfInBounds i true) (a.put d undef) w) : wpAnyH P md ops Q S (fuel + 1) L a w := by
  subst hd
  exact wpAnyH_take hi hs hf hr hQ (Or.inr ⟨hw, rfl⟩) hS h
end
end Go.Proofs.Ytcbbppgleclndaa
