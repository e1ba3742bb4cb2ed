/- A script of operations that came in. No statement of the seat is proved here. -/
import Derived.Test.YtfdabkcbefhdaaaFPicks
import Derived.Lib.SmallJoins
import Derived.Deep.Slices
namespace Go.Proofs.Ytfdabkcbefhdaaa
set_option maxRecDepth 20000
open Go.RowKit Go.ChangeShapes Go.WideShapes Go.ChangeAt

structure OpF where
  k : Int
  at' : Int
  fill : Int
  n : Int
  picks : List Int
  pv : Value
def OpF.none : OpF := ⟨0, 0, 0, 0, [], .slice Option.none 0 0⟩
def fits (x : Int) : Prop := -9223372036854775808 ≤ x ∧ x ≤ 9223372036854775807
structure OpF.ok (W : World) (y : OpF) : Prop where
  k : fits y.k
  at' : fits y.at'
  fill : fits y.fill
  n : fits y.n
  picks : IntsArg W y.pv y.picks
def opAt (l : List OpF) (i : Nat) : OpF := l.getD i .none
/-- A slice of operations that came in. -/
def OpsArg (W : World) (v : Value) (l : List OpF) : Prop :=
  ∃ ao cap, v = .slice ao l.length cap ∧ l.length ≤ cap ∧ l.length ≤ 9223372036854775807 ∧ ∀ i, i < l.length → ∃ b off, ao = some ⟨b, off, none⟩ ∧ b < W.heap.size ∧ (opAt l i).ok W ∧
    W.cell? ⟨b, off + i * 5, none⟩ = some (.int .i64 (opAt l i).k) ∧ W.cell? ⟨b, off + i * 5 + 1, none⟩ = some (.int .i64 (opAt l i).at') ∧ W.cell? ⟨b, off + i * 5 + 2, none⟩ = some (.int .i64 (opAt l i).fill) ∧
    W.cell? ⟨b, off + i * 5 + 3, none⟩ = some (.int .i64 (opAt l i).n) ∧ W.cell? ⟨b, off + i * 5 + 4, none⟩ = some (opAt l i).pv
theorem cellsOp : Try.prog.cellsOf 42 = 5 := by kernel_rfl
theorem cellsInt' : Try.prog.cellsOf 3 = 1 := by kernel_rfl
theorem cellsInts : Try.prog.cellsOf 40 = 1 := by kernel_rfl
theorem bytesInt' : Try.prog.bytesOf 3 = 8 := by kernel_rfl
section
variable {H : Type} {enc : TypeId × Value → H} {W : World} {base : Nat} {v : Value} {d : DataW H} {ps : List MemPlace}
theorem ints_trod {fuel : Nat} {c : Value} {x : DataW H × List MemPlace} (hsz : ∀ elems spare, x.1 = .slice elems spare → (elems.length + spare.length) * 8 ≤ 140737488351232) (h : DataW.trod enc Try.prog W 0 (fun _ => true) true fuel 40 [c] = some x) : ∃ zs, IntsArg W c zs := by
  rcases open_ints Try.underlying40 Try.underlying3 cellsInt' h with ⟨hcs, _⟩ | ⟨a, len, cap, zs, hcs, _, hl, hm, hz, hdat, hcell, hwz⟩
  · simp at hcs
    subst hcs
    exact ⟨[], ArgRow.nil _ _, by simp, by simp, fun _ _ _ e => by cases e; exact Nat.le_refl _⟩
  · simp at hcs
    subst hcs
    have hz' : zs.length = cap := by simpa using hz
    unfold maxLen at hm
    have hl' : (zs.take len).length = len := by rw [List.length_take]; omega
    have hb := hsz _ _ (by rw [hdat])
    simp only [lits, List.length_map, List.length_drop, hl'] at hb
    refine ⟨zs.take len, ?_, fun z hz => ?_, by rw [hl']; omega, fun _ _ _ e => by cases e; exact hl⟩
    · rw [hl']
      refine argRow_of (by omega) (fun i hi => ?_)
      rw [hcell i (by omega)]
      simp [List.getD_eq_getElem?_getD, hi]
    · have := hwz z (List.mem_of_mem_take hz)
      exact bounds_i64 this
theorem trod_struct5 {P : Program} {w : World} {base : Nat} {spare : Nat → Bool} {held : Bool} {t : TypeId} {f0 f1 f2 f3 f4 : Field} {fuel : Nat} {cs : List Value} {x : DataW H × List MemPlace} (ht : P.underlying t = some (.struct #[f0, f1, f2, f3, f4])) (h : DataW.trod enc P w base spare held fuel t cs = some x) :
    ∃ y0 y1 y2 y3 y4 n, x.1 = .agg [y0.1, y1.1, y2.1, y3.1, y4.1] ∧ cs.length = P.cellsOf t ∧ DataW.trod enc P w base spare held n f0.type ((cs.drop f0.offset).take (P.cellsOf f0.type)) = some y0 ∧
      DataW.trod enc P w base spare held n f1.type ((cs.drop f1.offset).take (P.cellsOf f1.type)) = some y1 ∧ DataW.trod enc P w base spare held n f2.type ((cs.drop f2.offset).take (P.cellsOf f2.type)) = some y2 ∧
      DataW.trod enc P w base spare held n f3.type ((cs.drop f3.offset).take (P.cellsOf f3.type)) = some y3 ∧ DataW.trod enc P w base spare held n f4.type ((cs.drop f4.offset).take (P.cellsOf f4.type)) = some y4 := by
  obtain ⟨xs, n, _, rfl, hl, hlen, hf⟩ := DataW.trod_struct ht h
  match xs, hlen with
  | [y0, y1, y2, y3, y4], _ => exact ⟨y0, y1, y2, y3, y4, n, by simp, hl, by simpa using hf 0 f0 rfl, by simpa using hf 1 f1 rfl, by simpa using hf 2 f2 rfl, by simpa using hf 3 f3 rfl, by simpa using hf 4 f4 rfl⟩
theorem one_op {n : Nat} {cs : List Value} {x : DataW H × List MemPlace} (hw : ∀ k ∈ x.1.weights Try.prog 42, k ≤ reachBytes) (h : DataW.trod enc Try.prog W 0 (fun _ => true) true n 42 cs = some x) : ∃ y : OpF, y.ok W ∧ cs = [.int .i64 y.k, .int .i64 y.at', .int .i64 y.fill, .int .i64 y.n, y.pv] := by
  obtain ⟨y0, y1, y2, y3, y4, m, hx, hl, h0, h1, h2, h3, h4⟩ := trod_struct5 Try.underlying42 h
  rw [cellsOp] at hl
  match cs, hl with
  | [c0, c1, c2, c3, c4], _ =>
    simp only [cellsInt', cellsInts] at h0 h1 h2 h3 h4
    obtain ⟨a, ha, -, wa⟩ := DataW.trod_int Try.underlying3 h0
    obtain ⟨b, hb, -, wb⟩ := DataW.trod_int Try.underlying3 h1
    obtain ⟨c, hc, -, wc⟩ := DataW.trod_int Try.underlying3 h2
    obtain ⟨e, he, -, we⟩ := DataW.trod_int Try.underlying3 h3
    have h4' : DataW.trod enc Try.prog W 0 (fun _ => true) true m 40 [c4] = some y4 := h4
    obtain ⟨zs, hzs⟩ := ints_trod (fun el sp e4 => by
      have hm : (el.length + sp.length) * Try.prog.bytesOf 3 ∈ x.1.weights Try.prog 42 := by
        rw [hx]
        simp [DataW.weights, DataW.weightsEach, Try.underlying42, e4, Try.underlying40]
      have := hw _ hm
      rw [bytesInt'] at this
      exact this) h4'
    simp at ha hb hc he
    subst ha; subst hb; subst hc; subst he
    exact ⟨⟨a, b, c, e, zs, c4⟩, ⟨bounds_i64 wa, bounds_i64 wb, bounds_i64 wc, bounds_i64 we, hzs⟩, rfl⟩
theorem weights_elem {P : Program} {e : TypeId} : ∀ {l : List (DataW H)} {d : DataW H}, d ∈ l → ∀ n ∈ d.weights P e, n ∈ DataW.weightsAll P e l
  | d0 :: l, d, hd, n, hn => by
    rw [DataW.weightsAll]
    rcases List.mem_cons.1 hd with rfl | h
    · exact List.mem_append_left _ hn
    · exact List.mem_append_right _ (weights_elem h n hn)
theorem ops_arg (hv : Value.okWide Try.prog W .any base 22 v) (hsz : ∀ k ∈ d.weights Try.prog 22, k ≤ reachBytes) (h : DataW.Trod enc Try.prog W 0 (fun _ => true) true 22 v d ps) : ∃ l, OpsArg W v l := by
  obtain ⟨a0, len, cap, rfl⟩ := okWide_slice Try.underlying22 hv
  obtain ⟨fuel, hf⟩ := h
  rcases Deep.open_slice Try.underlying22 hf with ⟨hcs, _⟩ | ⟨x, l, c, m, n, D, Pl, hcs, _, hl, hm, hmm, hdat, hi⟩
  · simp [Value.cells] at hcs
    obtain ⟨rfl, rfl, rfl⟩ := hcs
    exact ⟨[], none, 0, rfl, Nat.le_refl _, by simp, fun i h => by simp at h⟩
  · simp [Value.cells] at hcs
    obtain ⟨rfl, rfl, rfl⟩ := hcs
    simp only [if_true] at hmm
    subst hmm
    have hd : d = .slice ((List.range len).map D) ((List.range (m - len)).map fun j => D (len + j)) := (Prod.mk.injEq _ _ _ _ ▸ hdat).1
    have hx : ∀ i, i < len → ∃ y : OpF, y.ok W ∧ W.cell? (x.add (i * 5)) = some (.int .i64 y.k) ∧ W.cell? ((x.add (i * 5)).add 1) = some (.int .i64 y.at') ∧ W.cell? ((x.add (i * 5)).add 2) = some (.int .i64 y.fill) ∧ W.cell? ((x.add (i * 5)).add 3) = some (.int .i64 y.n) ∧ W.cell? ((x.add (i * 5)).add 4) = some y.pv := fun i hil => by
      obtain ⟨cs', hc, ht⟩ := hi i (by omega)
      rw [cellsOp] at hc
      obtain ⟨y, hy, rfl⟩ := one_op (fun k hk => hsz k (by
        rw [hd]
        simp only [DataW.weights, Try.underlying22, List.mem_cons, List.mem_append]
        exact .inr (.inl (weights_elem (List.mem_map.2 ⟨i, List.mem_range.2 hil, rfl⟩) k hk)))) ht
      obtain ⟨_, _, hat⟩ := World.cells?_some hc
      refine ⟨y, hy, ?_, ?_, ?_, ?_, ?_⟩
      · have := hat 0 (by omega); simpa [Addr.add] using this
      · have := hat 1 (by omega); simpa using this
      · have := hat 2 (by omega); simpa using this
      · have := hat 3 (by omega); simpa using this
      · have := hat 4 (by omega); simpa using this
    let F : Nat → OpF := fun i => if h : i < len then Classical.choose (hx i h) else .none
    have hF : ∀ i, i < len → (F i).ok W ∧ W.cell? (x.add (i * 5)) = some (.int .i64 (F i).k) ∧ W.cell? ((x.add (i * 5)).add 1) = some (.int .i64 (F i).at') ∧ W.cell? ((x.add (i * 5)).add 2) = some (.int .i64 (F i).fill) ∧ W.cell? ((x.add (i * 5)).add 3) = some (.int .i64 (F i).n) ∧ W.cell? ((x.add (i * 5)).add 4) = some (F i).pv := fun i h => by
      have := Classical.choose_spec (hx i h)
      simp only [F, dif_pos h]
      exact this
    have hll : ((List.range len).map F).length = len := by simp
    have hit : ∀ i, i < len → opAt ((List.range len).map F) i = F i := fun i h => by
      unfold opAt
      rw [List.getD_eq_getElem?_getD, List.getElem?_map, List.getElem?_range h]; rfl
    refine ⟨(List.range len).map F, some x, m, by rw [hll], by rw [hll]; exact hl, by rw [hll]; unfold maxLen at hm; omega, ?_⟩
    intro i hi'
    rw [hll] at hi'
    have hs0 : (x.add (0 * 5)).spot = none := World.cell?_spot (hF 0 (by omega)).2.1
    obtain ⟨b, off, spot⟩ := x
    have hspot : spot = none := by simpa [Addr.add] using hs0
    subst hspot
    obtain ⟨c0, c1, c2, c3, c4, c5⟩ := hF i hi'
    rw [Addr.add_mid] at c1 c2 c3 c4 c5
    rw [Addr.add_mid] at c2 c3 c4 c5
    have hb := World.block_lt_of_cell? W _ c1
    rw [hit i hi']
    exact ⟨b, off, rfl, hb, c0, c1, c2, c3, c4, c5⟩
end
theorem OpsArg.form {W : World} {v : Value} {l : List OpF} (h : OpsArg W v l) : ∃ ao cap, v = .slice ao l.length cap ∧ l.length ≤ 9223372036854775807 := by
  obtain ⟨ao, cap, h1, _, h2, _⟩ := h
  exact ⟨ao, cap, h1, h2⟩
/-- an operation of the script, in a later world -/
theorem OpsArg.get {W w : World} {ao : Option Addr} {n cap : Nat} {l : List OpF} (h : OpsArg W (.slice ao n cap) l) (hb : Below W.heap.size W w) {i : Nat} (hi : i < l.length) : ∃ b off, ao = some ⟨b, off, none⟩ ∧ (opAt l i).ok W ∧
    w.cell? ⟨b, off + i * 5, none⟩ = some (.int .i64 (opAt l i).k) ∧ w.cell? ⟨b, off + i * 5 + 1, none⟩ = some (.int .i64 (opAt l i).at') ∧ w.cell? ⟨b, off + i * 5 + 2, none⟩ = some (.int .i64 (opAt l i).fill) ∧
    w.cell? ⟨b, off + i * 5 + 3, none⟩ = some (.int .i64 (opAt l i).n) ∧ w.cell? ⟨b, off + i * 5 + 4, none⟩ = some (opAt l i).pv := by
  obtain ⟨ao', cap', h1, _, _, h3⟩ := h
  cases h1
  obtain ⟨b, off, e, hlt, ok, c0, c1, c2, c3, c4⟩ := h3 i hi
  exact ⟨b, off, e, ok, (hb.cell (p := ⟨b, _, none⟩) hlt).trans c0, (hb.cell (p := ⟨b, _, none⟩) hlt).trans c1, (hb.cell (p := ⟨b, _, none⟩) hlt).trans c2, (hb.cell (p := ⟨b, _, none⟩) hlt).trans c3, (hb.cell (p := ⟨b, _, none⟩) hlt).trans c4⟩
end Go.Proofs.Ytfdabkcbefhdaaa
