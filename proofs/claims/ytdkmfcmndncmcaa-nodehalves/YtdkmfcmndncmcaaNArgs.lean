/- Nodes as arguments. No statement of the seat is proved here. -/
import Derived.Test.YtdkmfcmndncmcaaNSize
import Derived.Test.YtdkmfcmndncmcaaArgs
import Derived.SliceStrings
import Derived.Lib.SmallJoins
import Derived.ChangeMaps5
namespace Go.Proofs.Ytdkmfcmndncmcaa
set_option maxRecDepth 20000
open Go.RowKit Go.ChangeShapes Go.WideShapes Go.ChangeAt

theorem cellsStr : Try.prog.cellsOf 9 = 1 := by kernel_rfl
theorem cellsInt : Try.prog.cellsOf 3 = 1 := by kernel_rfl
theorem cellsBool : Try.prog.cellsOf 4 = 1 := by kernel_rfl
theorem cellsPair : Try.prog.cellsOf 50 = 2 := by kernel_rfl
theorem bytesPair : Try.prog.bytesOf 50 = 32 := by kernel_rfl
theorem bytesStr : Try.prog.bytesOf 9 = 16 := by kernel_rfl
theorem bytesIntN : Try.prog.bytesOf 3 = 8 := by kernel_rfl
theorem cellsPairs : Try.prog.cellsOf 22 = 1 := by kernel_rfl
theorem cellsStrs : Try.prog.cellsOf 23 = 1 := by kernel_rfl
theorem cellsInts : Try.prog.cellsOf 24 = 1 := by kernel_rfl
theorem cellsNd : Try.prog.cellsOf 26 = 4 := by kernel_rfl
theorem str_len {s : ByteArray} : s.toList.length = s.size := by
  rw [ByteArray.toList_eq]; rfl
/-- an element's cells are those of its place -/
theorem cells_pos {α : Type} {E : El α} (hE : ElOk E) {l : List α} {j : Nat} {u : Value} (h : (cells E l)[j]? = some u) : ∃ i r x, j = i * E.k + r ∧ r < E.k ∧ i < l.length ∧ l[i]? = some x ∧ (E.enc x)[r]? = some u := by
  have hj := (List.getElem?_eq_some_iff.1 h).1
  rw [cells_length hE] at hj
  have hp := hE.pos
  have hd : j = (j / E.k) * E.k + j % E.k := by rw [Nat.mul_comm]; exact (Nat.div_add_mod j E.k).symm
  have hr : j % E.k < E.k := Nat.mod_lt _ hp
  have hi : j / E.k < l.length := Nat.div_lt_of_lt_mul (by rw [Nat.mul_comm]; exact hj)
  have e : l[j / E.k]? = some l[j / E.k] := List.getElem?_eq_getElem hi
  refine ⟨j / E.k, j % E.k, l[j / E.k], hd, hr, hi, e, ?_⟩
  rw [← cells_get hE l _ _ e _ hr, ← hd]; exact h
theorem slAt_of {α : Type} {E : El α} (hE : ElOk E) {W : World} {x : Addr} {len cap : Nat} {l : List α} (hl : l.length = len) (hc : len ≤ cap) (hb : cap * E.bytes ≤ 140737488351232)
    (h : ∀ i a, l[i]? = some a → ∀ r u, (E.enc a)[r]? = some u → W.cell? (x.add (i * E.k + r)) = some u) : SlAt E W.heap.size W (.slice (some x) len cap) l := by
  subst hl
  refine ⟨_, cap, rfl, hc, Nat.le_trans (Nat.mul_le_mul_right _ hc) hb, fun h0 => ?_⟩
  have e0 : l[0]? = some l[0] := List.getElem?_eq_getElem h0
  have hl0 : 0 < (E.enc l[0]).length := by rw [hE.len]; exact hE.pos
  have hx := h 0 _ e0 0 _ (List.getElem?_eq_getElem hl0)
  have hs := World.cell?_spot hx
  obtain ⟨b, off, spot⟩ := x
  have hspot : spot = none := by simpa [Addr.add] using hs
  subst hspot
  refine ⟨b, off, rfl, ?_, fun j u hj => ?_⟩
  · have := World.block_lt_of_cell? W _ hx
    rwa [Addr.add_mid] at this
  · obtain ⟨i, r, a, e1, hr, hi, ha, hu⟩ := cells_pos hE hj
    have := h i a ha r u hu
    rwa [Addr.add_mid, ← e1] at this
section
variable {H : Type} {enc : TypeId × Value → H} {W : World} {base : Nat} {v : Value} {d : DataW H} {ps : List MemPlace}
theorem weights_elem {P : Program} {e : TypeId} : ∀ {l : List (DataW H)} {d : DataW H}, d ∈ l → ∀ n ∈ d.weights P e, n ∈ DataW.weightsAll P e l
  | d0 :: l, d, hd, n, hn => by
    rw [DataW.weightsAll]
    rcases List.mem_cons.1 hd with rfl | h
    · exact List.mem_append_left _ hn
    · exact List.mem_append_right _ (weights_elem h n hn)
theorem one_pair {n : Nat} {cs : List Value} {x : DataW H × List MemPlace} (hw : ∀ k ∈ x.1.weights Try.prog 50, k ≤ reachBytes) (h : DataW.trod enc Try.prog W 0 (fun _ => true) true n 50 cs = some x) : ∃ y : Pr, y.ok ∧ cs = [.string y.k, .string y.v] := by
  obtain ⟨y0, y1, m, hx, hl, h0, h1⟩ := trod_struct2 Try.underlying50 h
  rw [cellsPair] at hl
  match cs, hl with
  | [c0, c1], _ =>
    simp only [cellsStr] at h0 h1
    obtain ⟨s, hs, e0, ws⟩ := DataW.trod_string Try.underlying9 h0
    obtain ⟨t, ht, e1, wt⟩ := DataW.trod_string Try.underlying9 h1
    simp at hs ht
    subst hs; subst ht
    have k0 : s.size ≤ reachBytes := by
      have := hw s.toList.length (by rw [hx]; simp [DataW.weights, DataW.weightsEach, Try.underlying50, e0, str_len])
      rwa [str_len] at this
    have k1 : t.size ≤ reachBytes := by
      have := hw t.toList.length (by rw [hx]; simp [DataW.weights, DataW.weightsEach, Try.underlying50, e1, str_len])
      rwa [str_len] at this
    have hr : reachBytes ≤ 140737488355328 := by decide
    exact ⟨⟨s, t⟩, ⟨Nat.le_trans k0 hr, Nat.le_trans k1 hr⟩, rfl⟩
theorem slice_cap {t e : TypeId} {elems spare : List (DataW H)} {by' : Nat} (ht : Try.prog.underlying t = some (.slice e)) (hb : Try.prog.bytesOf e = by') (hsz : ∀ k ∈ (DataW.slice elems spare).weights Try.prog t, k ≤ reachBytes) : (elems.length + spare.length) * by' ≤ 140737488351232 := by
  have := hsz ((elems.length + spare.length) * Try.prog.bytesOf e) (by simp [DataW.weights, ht])
  rw [hb] at this
  have hrb : reachBytes = 140737488351232 := by decide
  rwa [hrb] at this
theorem pairs_trod {fuel : Nat} {c : Value} {x0 : DataW H × List MemPlace} (hsz : ∀ k ∈ x0.1.weights Try.prog 22, k ≤ reachBytes) (hf : DataW.trod enc Try.prog W 0 (fun _ => true) true fuel 22 [c] = some x0) : ∃ l, SlAt elP W.heap.size W c l ∧ ∀ p ∈ l, p.ok := by
  rcases Deep.open_slice Try.underlying22 hf with ⟨hcs, _⟩ | ⟨x, len, cc, m, n, D, Pl, hcs, _, hl, hm, hmm, hdat, hi⟩
  · simp at hcs
    subst hcs
    exact ⟨[], SlAt.nil _ _ _, by simp⟩
  · simp at hcs
    subst hcs
    simp only [if_true] at hmm
    subst hmm
    have hd : x0.1 = .slice ((List.range len).map D) ((List.range (m - len)).map fun j => D (len + j)) := by rw [hdat]
    have hb := slice_cap Try.underlying22 bytesPair (by rw [← hd]; exact hsz)
    simp only [List.length_map, List.length_range] at hb
    rw [show len + (m - len) = m by omega] at hb
    have hx : ∀ i, i < len → ∃ y : Pr, y.ok ∧ W.cell? (x.add (i * 2)) = some (.string y.k) ∧ W.cell? ((x.add (i * 2)).add 1) = some (.string y.v) := fun i hil => by
      obtain ⟨cs', hc, ht⟩ := hi i (by omega)
      rw [cellsPair] at hc
      obtain ⟨y, hy, rfl⟩ := one_pair (fun k hk => hsz k (by
        rw [hd]
        simp only [DataW.weights, Try.underlying22, List.mem_cons, List.mem_append]
        exact .inr (.inl (weights_elem (List.mem_map.2 ⟨i, List.mem_range.2 hil, rfl⟩) k hk)))) ht
      obtain ⟨_, _, hat⟩ := World.cells?_some hc
      refine ⟨y, hy, ?_, ?_⟩
      · have := hat 0 (by omega); simpa [Addr.add] using this
      · have := hat 1 (by omega); simpa using this
    let F : Nat → Pr := fun i => if h : i < len then Classical.choose (hx i h) else .none
    have hF : ∀ i, i < len → (F i).ok ∧ W.cell? (x.add (i * 2)) = some (.string (F i).k) ∧ W.cell? ((x.add (i * 2)).add 1) = some (.string (F i).v) := fun i h => by
      have := Classical.choose_spec (hx i h)
      simp only [F, dif_pos h]
      exact this
    have hg : ∀ i a, ((List.range len).map F)[i]? = some a → i < len ∧ a = F i := fun i a h => by
      have hil : i < len := by have := (List.getElem?_eq_some_iff.1 h).1; simpa using this
      rw [List.getElem?_map, List.getElem?_range hil] at h
      exact ⟨hil, by simpa using h.symm⟩
    refine ⟨(List.range len).map F, slAt_of okP (by simp) hl hb fun i a ha r u hu => ?_, fun y hy => ?_⟩
    · obtain ⟨hil, rfl⟩ := hg i a ha
      obtain ⟨-, c1, c2⟩ := hF i hil
      have hs := World.cell?_spot (hF 0 (by omega)).2.1
      obtain ⟨b, off, spot⟩ := x
      have hspot : spot = none := by simpa [Addr.add] using hs
      subst hspot
      rw [Addr.add_mid] at c1 c2 ⊢
      rw [Addr.add_mid] at c2
      match r, hu with
      | 0, hu => simp at hu; subst hu; exact c1
      | 1, hu => simp at hu; subst hu; exact c2
    · obtain ⟨i, hi1, rfl⟩ := List.mem_map.1 hy
      exact (hF i (List.mem_range.1 hi1)).1
theorem strs_trod {fuel : Nat} {c : Value} {x0 : DataW H × List MemPlace} (hsz : ∀ k ∈ x0.1.weights Try.prog 23, k ≤ reachBytes) (hf : DataW.trod enc Try.prog W 0 (fun _ => true) true fuel 23 [c] = some x0) : ∃ l : List ByteArray, SlAt elS W.heap.size W c l ∧ ∀ s ∈ l, s.size ≤ 140737488355328 := by
  rcases Deep.open_slice Try.underlying23 hf with ⟨hcs, _⟩ | ⟨x, len, cc, m, n, D, Pl, hcs, _, hl, hm, hmm, hdat, hi⟩
  · simp at hcs
    subst hcs
    exact ⟨[], SlAt.nil _ _ _, by simp⟩
  · simp at hcs
    subst hcs
    simp only [if_true] at hmm
    subst hmm
    have hd : x0.1 = .slice ((List.range len).map D) ((List.range (m - len)).map fun j => D (len + j)) := by rw [hdat]
    have hb := slice_cap Try.underlying23 bytesStr (by rw [← hd]; exact hsz)
    simp only [List.length_map, List.length_range] at hb
    rw [show len + (m - len) = m by omega] at hb
    have hx : ∀ i, i < len → ∃ y : ByteArray, y.size ≤ 140737488355328 ∧ W.cell? (x.add (i * 1)) = some (.string y) := fun i hil => by
      obtain ⟨cs', hc, ht⟩ := hi i (by omega)
      rw [cellsStr] at hc
      obtain ⟨s, hs, e0, ws⟩ := DataW.trod_string Try.underlying9 ht
      subst hs
      obtain ⟨_, _, hat⟩ := World.cells?_some hc
      refine ⟨s, ?_, by have := hat 0 (by omega); simpa [Addr.add] using this⟩
      have := hsz s.toList.length (by
        rw [hd]
        simp only [DataW.weights, Try.underlying23, List.mem_cons, List.mem_append]
        refine .inr (.inl (weights_elem (d := D i) (List.mem_map.2 ⟨i, List.mem_range.2 hil, rfl⟩) _ ?_))
        have e0' : D i = DataW.lit (Lit.string s.data.toList) := congrArg Prod.fst e0
        rw [e0']
        simp [DataW.weights, str_len])
      rw [str_len] at this
      exact Nat.le_trans this (by decide)
    let F : Nat → ByteArray := fun i => if h : i < len then Classical.choose (hx i h) else ByteArray.empty
    have hF : ∀ i, i < len → (F i).size ≤ 140737488355328 ∧ W.cell? (x.add (i * 1)) = some (.string (F i)) := fun i h => by
      have := Classical.choose_spec (hx i h)
      simp only [F, dif_pos h]
      exact this
    refine ⟨(List.range len).map F, slAt_of okS (by simp) hl hb fun i a ha r u hu => ?_, fun y hy => ?_⟩
    · have hil : i < len := by have := (List.getElem?_eq_some_iff.1 ha).1; simpa using this
      rw [List.getElem?_map, List.getElem?_range hil] at ha
      simp at ha; subst ha
      match r, hu with
      | 0, hu => simp at hu; subst hu; exact (hF i hil).2
    · obtain ⟨i, hi1, rfl⟩ := List.mem_map.1 hy
      exact (hF i (List.mem_range.1 hi1)).1
theorem ints_trod {fuel : Nat} {c : Value} {x0 : DataW H × List MemPlace} (hsz : ∀ k ∈ x0.1.weights Try.prog 24, k ≤ reachBytes) (hf : DataW.trod enc Try.prog W 0 (fun _ => true) true fuel 24 [c] = some x0) : ∃ l : List Int, SlAt elI W.heap.size W c l ∧ ∀ z ∈ l, -9223372036854775808 ≤ z ∧ z ≤ 9223372036854775807 := by
  rcases Deep.open_slice Try.underlying24 hf with ⟨hcs, _⟩ | ⟨x, len, cc, m, n, D, Pl, hcs, _, hl, hm, hmm, hdat, hi⟩
  · simp at hcs
    subst hcs
    exact ⟨[], SlAt.nil _ _ _, by simp⟩
  · simp at hcs
    subst hcs
    simp only [if_true] at hmm
    subst hmm
    have hd : x0.1 = .slice ((List.range len).map D) ((List.range (m - len)).map fun j => D (len + j)) := by rw [hdat]
    have hb := slice_cap Try.underlying24 bytesIntN (by rw [← hd]; exact hsz)
    simp only [List.length_map, List.length_range] at hb
    rw [show len + (m - len) = m by omega] at hb
    have hx : ∀ i, i < len → ∃ y : Int, (-9223372036854775808 ≤ y ∧ y ≤ 9223372036854775807) ∧ W.cell? (x.add (i * 1)) = some (.int .i64 y) := fun i hil => by
      obtain ⟨cs', hc, ht⟩ := hi i (by omega)
      rw [cellsInt] at hc
      obtain ⟨s, hs, e0, ws⟩ := DataW.trod_int Try.underlying3 ht
      subst hs
      obtain ⟨_, _, hat⟩ := World.cells?_some hc
      exact ⟨s, bounds_i64 ws, by have := hat 0 (by omega); simpa [Addr.add] using this⟩
    let F : Nat → Int := fun i => if h : i < len then Classical.choose (hx i h) else 0
    have hF : ∀ i, i < len → (-9223372036854775808 ≤ F i ∧ F i ≤ 9223372036854775807) ∧ W.cell? (x.add (i * 1)) = some (.int .i64 (F i)) := fun i h => by
      have := Classical.choose_spec (hx i h)
      simp only [F, dif_pos h]
      exact this
    refine ⟨(List.range len).map F, slAt_of okZ (by simp) hl hb fun i a ha r u hu => ?_, fun y hy => ?_⟩
    · have hil : i < len := by have := (List.getElem?_eq_some_iff.1 ha).1; simpa using this
      rw [List.getElem?_map, List.getElem?_range hil] at ha
      simp at ha; subst ha
      match r, hu with
      | 0, hu => simp at hu; subst hu; exact (hF i hil).2
    · obtain ⟨i, hi1, rfl⟩ := List.mem_map.1 hy
      exact (hF i (List.mem_range.1 hi1)).1
theorem trod_struct4 {P : Program} {w : World} {base : Nat} {spare : Nat → Bool} {held : Bool} {t : TypeId} {f0 f1 f2 f3 : Field} {fuel : Nat} {cs : List Value} {x : DataW H × List MemPlace} (ht : P.underlying t = some (.struct #[f0, f1, f2, f3])) (h : DataW.trod enc P w base spare held fuel t cs = some x) :
    ∃ y0 y1 y2 y3 n, x.1 = .agg [y0.1, y1.1, y2.1, y3.1] ∧ cs.length = P.cellsOf t ∧ DataW.trod enc P w base spare held n f0.type ((cs.drop f0.offset).take (P.cellsOf f0.type)) = some y0 ∧ DataW.trod enc P w base spare held n f1.type ((cs.drop f1.offset).take (P.cellsOf f1.type)) = some y1 ∧
      DataW.trod enc P w base spare held n f2.type ((cs.drop f2.offset).take (P.cellsOf f2.type)) = some y2 ∧ DataW.trod enc P w base spare held n f3.type ((cs.drop f3.offset).take (P.cellsOf f3.type)) = some y3 := by
  obtain ⟨xs, n, _, rfl, hl, hlen, hf⟩ := DataW.trod_struct ht h
  match xs, hlen with
  | [y0, y1, y2, y3], _ => exact ⟨y0, y1, y2, y3, n, by simp, hl, by simpa using hf 0 f0 rfl, by simpa using hf 1 f1 rfl, by simpa using hf 2 f2 rfl, by simpa using hf 3 f3 rfl⟩
theorem agg_cells {cs : Array Value} {l : List Value} (h : (Value.agg cs).cells.toList = l) : Value.agg cs = .agg l.toArray := by
  subst h; simp [Value.cells]
def NdArg (W : World) (v : Value) (n : Nd) : Prop := NdAt W.heap.size W v n ∧ n.ok ∧ ∀ z ∈ n.is, -9223372036854775808 ≤ z ∧ z ≤ 9223372036854775807
theorem nd_arg (hv : Value.okWide Try.prog W .any base 26 v) (hsz : ∀ k ∈ d.weights Try.prog 26, k ≤ reachBytes) (h : DataW.Trod enc Try.prog W 0 (fun _ => true) true 26 v d ps) : ∃ n, NdArg W v n := by
  obtain ⟨cs, rfl, hs⟩ := okWide_struct Try.underlying26 hv
  obtain ⟨fuel, hf⟩ := h
  obtain ⟨y0, y1, y2, y3, m, hx, hl, h0, h1, h2, h3⟩ := trod_struct4 Try.underlying26 hf
  rw [cellsNd] at hl
  generalize hcs : (Value.agg cs).cells.toList = L at hl h0 h1 h2 h3
  match L, hl with
  | [c0, c1, c2, c3], _ =>
    simp only [cellsBool, cellsPairs, cellsStrs, cellsInts] at h0 h1 h2 h3
    obtain ⟨lf, e0, -⟩ := DataW.trod_bool Try.underlying4 h0
    have h1' : DataW.trod enc Try.prog W 0 (fun _ => true) true m 22 [c1] = some y1 := h1
    have h2' : DataW.trod enc Try.prog W 0 (fun _ => true) true m 23 [c2] = some y2 := h2
    have h3' : DataW.trod enc Try.prog W 0 (fun _ => true) true m 24 [c3] = some y3 := h3
    have hw : ∀ k, k ∈ y1.1.weights Try.prog 22 ∨ k ∈ y2.1.weights Try.prog 23 ∨ k ∈ y3.1.weights Try.prog 24 → k ≤ reachBytes := fun k hk => hsz k (by
      simp only at hx
      rw [hx]; simp only [DataW.weights, DataW.weightsEach, Try.underlying26, List.map_cons, List.map_nil]
      rcases hk with hk | hk | hk <;> simp [hk])
    obtain ⟨l1, p1, q1⟩ := pairs_trod (fun k hk => hw k (.inl hk)) h1'
    obtain ⟨l2, p2, q2⟩ := strs_trod (fun k hk => hw k (.inr (.inl hk))) h2'
    obtain ⟨l3, p3, q3⟩ := ints_trod (fun k hk => hw k (.inr (.inr hk))) h3'
    simp at e0
    subst e0
    exact ⟨⟨lf, l1, l2, l3⟩, ⟨c1, c2, c3, agg_cells hcs, p1, p2, p3⟩, ⟨q1, q2⟩, q3⟩
end
end Go.Proofs.Ytdkmfcmndncmcaa
