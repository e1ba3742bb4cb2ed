/- Slices of texts as arguments. No statement of the seat is proved here. -/
import Derived.Test.YtclkgbelmacmfaaOMem
import Derived.SliceStrings
import Derived.Lib.SmallJoins
import Derived.ChangeMaps5
namespace Go.Proofs.Ytclkgbelmacmfaa
set_option maxRecDepth 20000
open Go.RowKit Go.ChangeShapes Go.WideShapes Go.ChangeAt

theorem cellsStr : Try.prog.cellsOf 9 = 1 := by kernel_rfl
theorem bytesStr : Try.prog.bytesOf 9 = 16 := by kernel_rfl
theorem cellsStrs : Try.prog.cellsOf 23 = 1 := by kernel_rfl
theorem str_len {s : ByteArray} : s.toList.length = s.size := by
  rw [ByteArray.toList_eq]; rfl
theorem str_bound {H : Type} {s : ByteArray} (h : ∀ k ∈ (DataW.lit (Lit.string s.data.toList) : DataW H).weights Try.prog 9, k ≤ reachBytes) : s.size ≤ 140737488351232 := by
  have := h s.toList.length (by simp [DataW.weights, str_len])
  rw [str_len] at this
  exact Nat.le_trans this (by decide)
/-- A slice of texts that came in. -/
def StrlArg (W : World) (v : Value) (l : List ByteArray) : Prop := SlAt elS W.heap.size W v l ∧ ∀ s ∈ l, s.size ≤ 140737488355328
section
variable {H : Type} {enc : TypeId × Value → H} {W : World} {base : Nat} {v : Value} {d : DataW H} {ps : List MemPlace}
theorem weights_elem {P : Program} {e : TypeId} : ∀ {l : List (DataW H)} {d : DataW H}, d ∈ l → ∀ n ∈ d.weights P e, n ∈ DataW.weightsAll P e l
  | d0 :: l, d, hd, n, hn => by
    rw [DataW.weightsAll]
    rcases List.mem_cons.1 hd with rfl | h
    · exact List.mem_append_left _ hn
    · exact List.mem_append_right _ (weights_elem h n hn)
theorem slice_cap {t e : TypeId} {elems spare : List (DataW H)} {by' : Nat} (ht : Try.prog.underlying t = some (.slice e)) (hb : Try.prog.bytesOf e = by') (hsz : ∀ k ∈ (DataW.slice elems spare).weights Try.prog t, k ≤ reachBytes) : (elems.length + spare.length) * by' ≤ 140737488351232 := by
  have := hsz ((elems.length + spare.length) * Try.prog.bytesOf e) (by simp [DataW.weights, ht])
  rw [hb] at this
  have hrb : reachBytes = 140737488351232 := by decide
  rwa [hrb] at this
theorem strs_trod {fuel : Nat} {c : Value} {x0 : DataW H × List MemPlace} (hsz : ∀ k ∈ x0.1.weights Try.prog 23, k ≤ reachBytes) (hf : DataW.trod enc Try.prog W 0 (fun _ => true) true fuel 23 [c] = some x0) : ∃ l : List ByteArray, SlAt elS W.heap.size W c l ∧ ∀ s ∈ l, s.size ≤ 140737488355328 := by
  rcases Deep.open_slice Try.underlying23 hf with ⟨hcs, _⟩ | ⟨x, len, cc, m, n, D, Pl, hcs, _, hl, hm, hmm, hdat, hi⟩
  · simp at hcs
    subst hcs
    exact ⟨[], SlAt.nil _ _ _, by simp⟩
  · simp at hcs
    subst hcs
    simp only [if_true] at hmm
    subst hmm
    have hd : x0.1 = .slice ((List.range len).map D) ((List.range (m - len)).map fun j => D (len + j)) := by rw [hdat]
    have hb := slice_cap Try.underlying23 bytesStr (by rw [← hd]; exact hsz)
    simp only [List.length_map, List.length_range] at hb
    rw [show len + (m - len) = m by omega] at hb
    have hx : ∀ i, i < len → ∃ y : ByteArray, y.size ≤ 140737488355328 ∧ W.cell? (x.add (i * 1)) = some (.string y) := fun i hil => by
      obtain ⟨cs', hc, ht⟩ := hi i (by omega)
      rw [cellsStr] at hc
      obtain ⟨s, hs, e0, ws⟩ := DataW.trod_string Try.underlying9 ht
      subst hs
      obtain ⟨_, _, hat⟩ := World.cells?_some hc
      refine ⟨s, ?_, by have := hat 0 (by omega); simpa [Addr.add] using this⟩
      have := hsz s.toList.length (by
        rw [hd]
        simp only [DataW.weights, Try.underlying23, List.mem_cons, List.mem_append]
        refine .inr (.inl (weights_elem (d := D i) (List.mem_map.2 ⟨i, List.mem_range.2 hil, rfl⟩) _ ?_))
        have e0' : D i = DataW.lit (Lit.string s.data.toList) := congrArg Prod.fst e0
        rw [e0']
        simp [DataW.weights, str_len])
      rw [str_len] at this
      exact Nat.le_trans this (by decide)
    let F : Nat → ByteArray := fun i => if h : i < len then Classical.choose (hx i h) else ByteArray.empty
    have hF : ∀ i, i < len → (F i).size ≤ 140737488355328 ∧ W.cell? (x.add (i * 1)) = some (.string (F i)) := fun i h => by
      have := Classical.choose_spec (hx i h)
      simp only [F, dif_pos h]
      exact this
    refine ⟨(List.range len).map F, slAt_of okS (by simp) hl hb fun i a ha r u hu => ?_, fun y hy => ?_⟩
    · have hil : i < len := by have := (List.getElem?_eq_some_iff.1 ha).1; simpa using this
      rw [List.getElem?_map, List.getElem?_range hil] at ha
      simp at ha; subst ha
      match r, hu with
      | 0, hu => simp at hu; subst hu; exact (hF i hil).2
    · obtain ⟨i, hi1, rfl⟩ := List.mem_map.1 hy
      exact (hF i (List.mem_range.1 hi1)).1
theorem strl_arg (hv : Value.okWide Try.prog W .any base 23 v) (hsz : ∀ k ∈ d.weights Try.prog 23, k ≤ reachBytes) (h : DataW.Trod enc Try.prog W 0 (fun _ => true) true 23 v d ps) : ∃ l, StrlArg W v l := by
  obtain ⟨a0, len, cap, rfl⟩ := okWide_slice Try.underlying23 hv
  obtain ⟨fuel, hf⟩ := h
  obtain ⟨l, hl, hs⟩ := strs_trod (x0 := (d, ps)) hsz hf
  exact ⟨l, hl, hs⟩
end
end Go.Proofs.Ytclkgbelmacmfaa
