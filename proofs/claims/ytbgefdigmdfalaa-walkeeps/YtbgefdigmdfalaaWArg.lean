/- A script of a log's operations that came in. No statement of the seat is proved here. -/
import Derived.Test.YtbgefdigmdfalaaWKeepT
import Derived.Test.YtbgefdigmdfalaaJ1
import Derived.SliceStrings
import Derived.Lib.SmallJoins
import Derived.ChangeMaps5
import Derived.Deep.Slices
namespace Go.Proofs.Ytbgefdigmdfalaa
set_option maxRecDepth 20000
open Go.RowKit Go.ChangeShapes Go.WideShapes Go.ChangeAt

structure OpW where
  k : Int
  n : Int
  imgs : List Im
  picks : List Int
  iv : Value
  pv : Value
def OpW.none : OpW := ⟨0, 0, [], [], .slice Option.none 0 0, .slice Option.none 0 0⟩
structure OpW.ok (W : World) (y : OpW) : Prop where
  k : inI y.k
  n : inI y.n
  imgs : ImgsAt W.heap.size W y.iv y.imgs
  picks : IntsArg W y.pv y.picks
def opAt (l : List OpW) (i : Nat) : OpW := l.getD i .none
def OpsArg (W : World) (v : Value) (l : List OpW) : Prop :=
  ∃ ao cap, v = .slice ao l.length cap ∧ l.length ≤ cap ∧ l.length ≤ 9223372036854775807 ∧ ∀ i, i < l.length → ∃ b off, ao = some ⟨b, off, none⟩ ∧ b < W.heap.size ∧ (opAt l i).ok W ∧
    W.cell? ⟨b, off + i * 4, none⟩ = some (.int .i64 (opAt l i).k) ∧ W.cell? ⟨b, off + i * 4 + 1, none⟩ = some (.int .i64 (opAt l i).n) ∧ W.cell? ⟨b, off + i * 4 + 2, none⟩ = some (opAt l i).iv ∧ W.cell? ⟨b, off + i * 4 + 3, none⟩ = some (opAt l i).pv
theorem cellsOpW : Try.prog.cellsOf 47 = 4 := by kernel_rfl
theorem cellsIntW : Try.prog.cellsOf 3 = 1 := by kernel_rfl
theorem cellsStrW : Try.prog.cellsOf 9 = 1 := by kernel_rfl
theorem cellsIntsW : Try.prog.cellsOf 45 = 1 := by kernel_rfl
theorem cellsImgW : Try.prog.cellsOf 50 = 2 := by kernel_rfl
theorem cellsImgsW : Try.prog.cellsOf 44 = 1 := by kernel_rfl
theorem bytesIntW : Try.prog.bytesOf 3 = 8 := by kernel_rfl
theorem strlen_w {s : ByteArray} : s.toList.length = s.size := by
  rw [ByteArray.toList_eq]; rfl
section
variable {H : Type} {enc : TypeId × Value → H} {W : World} {base : Nat} {v : Value} {d : DataW H} {ps : List MemPlace}
theorem weights_elem {P : Program} {e : TypeId} : ∀ {l : List (DataW H)} {d : DataW H}, d ∈ l → ∀ n ∈ d.weights P e, n ∈ DataW.weightsAll P e l
  | d0 :: l, d, hd, n, hn => by
    rw [DataW.weightsAll]
    rcases List.mem_cons.1 hd with rfl | h
    · exact List.mem_append_left _ hn
    · exact List.mem_append_right _ (weights_elem h n hn)
theorem ints_trod {fuel : Nat} {c : Value} {x : DataW H × List MemPlace} (hsz : ∀ elems spare, x.1 = .slice elems spare → (elems.length + spare.length) * 8 ≤ 140737488351232) (h : DataW.trod enc Try.prog W 0 (fun _ => true) true fuel 45 [c] = some x) : ∃ zs, IntsArg W c zs := by
  rcases open_ints Try.underlying45 Try.underlying3 cellsIntW h with ⟨hcs, _⟩ | ⟨a, len, cap, zs, hcs, _, hl, hm, hz, hdat, hcell, hwz⟩
  · simp at hcs
    subst hcs
    exact ⟨[], ArgRow.nil _ _, by simp, by simp, fun _ _ _ e => by cases e; exact Nat.le_refl _⟩
  · simp at hcs
    subst hcs
    have hz' : zs.length = cap := by simpa using hz
    unfold maxLen at hm
    have hl' : (zs.take len).length = len := by rw [List.length_take]; omega
    have hb := hsz _ _ (by rw [hdat])
    simp only [lits, List.length_map, List.length_drop, hl'] at hb
    refine ⟨zs.take len, ?_, fun z hz => ?_, by rw [hl']; omega, fun _ _ _ e => by cases e; exact hl⟩
    · rw [hl']
      refine argRow_of (by omega) (fun i hi => ?_)
      rw [hcell i (by omega)]
      simp [List.getD_eq_getElem?_getD, hi]
    · have := hwz z (List.mem_of_mem_take hz)
      exact bounds_i64 this
theorem trod_struct2 {P : Program} {w : World} {base : Nat} {spare : Nat → Bool} {held : Bool} {t : TypeId} {f0 f1 : Field} {fuel : Nat} {cs : List Value} {x : DataW H × List MemPlace} (ht : P.underlying t = some (.struct #[f0, f1])) (h : DataW.trod enc P w base spare held fuel t cs = some x) :
    ∃ y0 y1 n, x.1 = .agg [y0.1, y1.1] ∧ cs.length = P.cellsOf t ∧ DataW.trod enc P w base spare held n f0.type ((cs.drop f0.offset).take (P.cellsOf f0.type)) = some y0 ∧
      DataW.trod enc P w base spare held n f1.type ((cs.drop f1.offset).take (P.cellsOf f1.type)) = some y1 := by
  obtain ⟨xs, n, _, rfl, hl, hlen, hf⟩ := DataW.trod_struct ht h
  match xs, hlen with
  | [y0, y1], _ => exact ⟨y0, y1, n, by simp, hl, by simpa using hf 0 f0 rfl, by simpa using hf 1 f1 rfl⟩
theorem trod_struct4 {P : Program} {w : World} {base : Nat} {spare : Nat → Bool} {held : Bool} {t : TypeId} {f0 f1 f2 f3 : Field} {fuel : Nat} {cs : List Value} {x : DataW H × List MemPlace} (ht : P.underlying t = some (.struct #[f0, f1, f2, f3])) (h : DataW.trod enc P w base spare held fuel t cs = some x) :
    ∃ y0 y1 y2 y3 n, x.1 = .agg [y0.1, y1.1, y2.1, y3.1] ∧ cs.length = P.cellsOf t ∧ DataW.trod enc P w base spare held n f0.type ((cs.drop f0.offset).take (P.cellsOf f0.type)) = some y0 ∧
      DataW.trod enc P w base spare held n f1.type ((cs.drop f1.offset).take (P.cellsOf f1.type)) = some y1 ∧ DataW.trod enc P w base spare held n f2.type ((cs.drop f2.offset).take (P.cellsOf f2.type)) = some y2 ∧
      DataW.trod enc P w base spare held n f3.type ((cs.drop f3.offset).take (P.cellsOf f3.type)) = some y3 := by
  obtain ⟨xs, n, _, rfl, hl, hlen, hf⟩ := DataW.trod_struct ht h
  match xs, hlen with
  | [y0, y1, y2, y3], _ => exact ⟨y0, y1, y2, y3, n, by simp, hl, by simpa using hf 0 f0 rfl, by simpa using hf 1 f1 rfl, by simpa using hf 2 f2 rfl, by simpa using hf 3 f3 rfl⟩
theorem one_img {n : Nat} {cs : List Value} {x : DataW H × List MemPlace} (hw : ∀ k ∈ x.1.weights Try.prog 50, k ≤ reachBytes) (h : DataW.trod enc Try.prog W 0 (fun _ => true) true n 50 cs = some x) : ∃ y : Im, y.ok ∧ cs = [.int .i64 y.p, .string y.d] := by
  obtain ⟨y0, y1, m, hx, hl, h0, h1⟩ := trod_struct2 Try.underlying50 h
  rw [cellsImgW] at hl
  match cs, hl with
  | [c0, c1], _ =>
    simp only [cellsStrW, cellsIntW] at h0 h1
    obtain ⟨a, ha, -, wa⟩ := DataW.trod_int Try.underlying3 h0
    obtain ⟨t, ht, e1, wt⟩ := DataW.trod_string Try.underlying9 h1
    simp at ha ht
    subst ha; subst ht
    have k1 : t.size ≤ reachBytes := by
      have := hw t.toList.length (by rw [hx]; simp [DataW.weights, DataW.weightsEach, Try.underlying50, e1, strlen_w])
      rwa [strlen_w] at this
    have hr : reachBytes ≤ 140737488355328 := by decide
    exact ⟨⟨a, t⟩, ⟨bounds_i64 wa, Nat.le_trans k1 hr⟩, rfl⟩
theorem imgs_trod {fuel : Nat} {c : Value} {x0 : DataW H × List MemPlace} (hsz : ∀ k ∈ x0.1.weights Try.prog 44, k ≤ reachBytes) (hf : DataW.trod enc Try.prog W 0 (fun _ => true) true fuel 44 [c] = some x0) : ∃ l, ImgsAt W.heap.size W c l := by
  rcases Deep.open_slice Try.underlying44 hf with ⟨hcs, _⟩ | ⟨x, len, cc, m, n, D, Pl, hcs, _, hl, hm, hmm, hdat, hi⟩
  · simp at hcs
    subst hcs
    exact ⟨[], none, 0, rfl, Nat.le_refl _, by simp, by simp, fun h => by simp at h⟩
  · simp at hcs
    subst hcs
    simp only [if_true] at hmm
    subst hmm
    unfold maxLen at hm
    have hd : x0.1 = .slice ((List.range len).map D) ((List.range (m - len)).map fun j => D (len + j)) := by rw [hdat]
    have hx : ∀ i, i < len → ∃ y : Im, y.ok ∧ W.cell? (x.add (i * 2)) = some (.int .i64 y.p) ∧ W.cell? ((x.add (i * 2)).add 1) = some (.string y.d) := fun i hil => by
      obtain ⟨cs', hc, ht⟩ := hi i (by omega)
      rw [cellsImgW] at hc
      obtain ⟨y, hy, rfl⟩ := one_img (fun k hk => hsz k (by
        rw [hd]
        simp only [DataW.weights, Try.underlying44, List.mem_cons, List.mem_append]
        exact .inr (.inl (weights_elem (List.mem_map.2 ⟨i, List.mem_range.2 hil, rfl⟩) k hk)))) ht
      obtain ⟨_, _, hat⟩ := World.cells?_some hc
      refine ⟨y, hy, ?_, ?_⟩
      · have := hat 0 (by omega); simpa [Addr.add] using this
      · have := hat 1 (by omega); simpa using this
    let F : Nat → Im := fun i => if h : i < len then Classical.choose (hx i h) else .none
    have hF : ∀ i, i < len → (F i).ok ∧ W.cell? (x.add (i * 2)) = some (.int .i64 (F i).p) ∧ W.cell? ((x.add (i * 2)).add 1) = some (.string (F i).d) := fun i h => by
      have := Classical.choose_spec (hx i h)
      simp only [F, dif_pos h]
      exact this
    have hll : ((List.range len).map F).length = len := by simp
    have hit : ∀ i, i < len → imAt ((List.range len).map F) i = F i := fun i h => by
      unfold imAt
      rw [List.getD_eq_getElem?_getD, List.getElem?_map, List.getElem?_range h]; rfl
    refine ⟨(List.range len).map F, some x, m, by rw [hll], by rw [hll]; exact hl, by rw [hll]; omega, fun y hy => ?_, fun h0 => ?_⟩
    · obtain ⟨i, hi1, rfl⟩ := List.mem_map.1 hy
      exact (hF i (List.mem_range.1 hi1)).1
    · rw [hll] at h0
      have hs := World.cell?_spot (hF 0 h0).2.1
      obtain ⟨b, off, spot⟩ := x
      have hspot : spot = none := by simpa [Addr.add] using hs
      subst hspot
      have hb := World.block_lt_of_cell? W _ (hF 0 h0).2.1
      rw [Addr.add_mid] at hb
      refine ⟨b, off, rfl, hb, fun i hi' => ?_⟩
      rw [hll] at hi'
      rw [hit i hi']
      obtain ⟨-, c1, c2⟩ := hF i hi'
      rw [Addr.add_mid] at c1 c2
      rw [Addr.add_mid] at c2
      exact ⟨c1, c2⟩
theorem one_opw {n : Nat} {cs : List Value} {x : DataW H × List MemPlace} (hw : ∀ k ∈ x.1.weights Try.prog 47, k ≤ reachBytes) (h : DataW.trod enc Try.prog W 0 (fun _ => true) true n 47 cs = some x) : ∃ y : OpW, y.ok W ∧ cs = [.int .i64 y.k, .int .i64 y.n, y.iv, y.pv] := by
  obtain ⟨y0, y1, y2, y3, m, hx, hl, h0, h1, h2, h3⟩ := trod_struct4 Try.underlying47 h
  rw [cellsOpW] at hl
  match cs, hl with
  | [c0, c1, c2, c3], _ =>
    simp only [cellsIntW, cellsIntsW, cellsImgsW] at h0 h1 h2 h3
    obtain ⟨a, ha, -, wa⟩ := DataW.trod_int Try.underlying3 h0
    obtain ⟨b, hb, -, wb⟩ := DataW.trod_int Try.underlying3 h1
    have h2' : DataW.trod enc Try.prog W 0 (fun _ => true) true m 44 [c2] = some y2 := h2
    have h3' : DataW.trod enc Try.prog W 0 (fun _ => true) true m 45 [c3] = some y3 := h3
    obtain ⟨im, him⟩ := imgs_trod (fun k hk => hw k (by
      rw [hx]
      simp [DataW.weights, DataW.weightsEach, Try.underlying47, hk])) h2'
    obtain ⟨zs, hzs⟩ := ints_trod (fun el sp e4 => by
      have hm : (el.length + sp.length) * Try.prog.bytesOf 3 ∈ x.1.weights Try.prog 47 := by
        rw [hx]
        simp [DataW.weights, DataW.weightsEach, Try.underlying47, e4, Try.underlying45]
      have := hw _ hm
      rw [bytesIntW] at this
      exact this) h3'
    simp at ha hb
    subst ha; subst hb
    exact ⟨⟨a, b, im, zs, c2, c3⟩, ⟨bounds_i64 wa, bounds_i64 wb, him, hzs⟩, rfl⟩
theorem ops_arg (hv : Value.okWide Try.prog W .any base 22 v) (hsz : ∀ k ∈ d.weights Try.prog 22, k ≤ reachBytes) (h : DataW.Trod enc Try.prog W 0 (fun _ => true) true 22 v d ps) : ∃ l, OpsArg W v l := by
  obtain ⟨a0, len, cap, rfl⟩ := okWide_slice Try.underlying22 hv
  obtain ⟨fuel, hf⟩ := h
  rcases Deep.open_slice Try.underlying22 hf with ⟨hcs, _⟩ | ⟨x, l, c, m, n, D, Pl, hcs, _, hl, hm, hmm, hdat, hi⟩
  · simp [Value.cells] at hcs
    obtain ⟨rfl, rfl, rfl⟩ := hcs
    exact ⟨[], none, 0, rfl, Nat.le_refl _, by simp, fun i h => by simp at h⟩
  · simp [Value.cells] at hcs
    obtain ⟨rfl, rfl, rfl⟩ := hcs
    simp only [if_true] at hmm
    subst hmm
    have hd : d = .slice ((List.range len).map D) ((List.range (m - len)).map fun j => D (len + j)) := (Prod.mk.injEq _ _ _ _ ▸ hdat).1
    have hx : ∀ i, i < len → ∃ y : OpW, y.ok W ∧ W.cell? (x.add (i * 4)) = some (.int .i64 y.k) ∧ W.cell? ((x.add (i * 4)).add 1) = some (.int .i64 y.n) ∧ W.cell? ((x.add (i * 4)).add 2) = some y.iv ∧ W.cell? ((x.add (i * 4)).add 3) = some y.pv := fun i hil => by
      obtain ⟨cs', hc, ht⟩ := hi i (by omega)
      rw [cellsOpW] at hc
      obtain ⟨y, hy, rfl⟩ := one_opw (fun k hk => hsz k (by
        rw [hd]
        simp only [DataW.weights, Try.underlying22, List.mem_cons, List.mem_append]
        exact .inr (.inl (weights_elem (List.mem_map.2 ⟨i, List.mem_range.2 hil, rfl⟩) k hk)))) ht
      obtain ⟨_, _, hat⟩ := World.cells?_some hc
      refine ⟨y, hy, ?_, ?_, ?_, ?_⟩
      · have := hat 0 (by omega); simpa [Addr.add] using this
      · have := hat 1 (by omega); simpa using this
      · have := hat 2 (by omega); simpa using this
      · have := hat 3 (by omega); simpa using this
    let F : Nat → OpW := fun i => if h : i < len then Classical.choose (hx i h) else .none
    have hF : ∀ i, i < len → (F i).ok W ∧ W.cell? (x.add (i * 4)) = some (.int .i64 (F i).k) ∧ W.cell? ((x.add (i * 4)).add 1) = some (.int .i64 (F i).n) ∧ W.cell? ((x.add (i * 4)).add 2) = some (F i).iv ∧ W.cell? ((x.add (i * 4)).add 3) = some (F i).pv := fun i h => by
      have := Classical.choose_spec (hx i h)
      simp only [F, dif_pos h]
      exact this
    have hll : ((List.range len).map F).length = len := by simp
    have hit : ∀ i, i < len → opAt ((List.range len).map F) i = F i := fun i h => by
      unfold opAt
      rw [List.getD_eq_getElem?_getD, List.getElem?_map, List.getElem?_range h]; rfl
    refine ⟨(List.range len).map F, some x, m, by rw [hll], by rw [hll]; exact hl, by rw [hll]; unfold maxLen at hm; omega, ?_⟩
    intro i hi'
    rw [hll] at hi'
    have hs0 : (x.add (0 * 4)).spot = none := World.cell?_spot (hF 0 (by omega)).2.1
    obtain ⟨b, off, spot⟩ := x
    have hspot : spot = none := by simpa [Addr.add] using hs0
    subst hspot
    obtain ⟨c0, c1, c2, c3, c4⟩ := hF i hi'
    rw [Addr.add_mid] at c1 c2 c3 c4
    rw [Addr.add_mid] at c2 c3 c4
    have hb := World.block_lt_of_cell? W _ c1
    rw [hit i hi']
    exact ⟨b, off, rfl, hb, c0, c1, c2, c3, c4⟩
end
theorem OpsArg.form {W : World} {v : Value} {l : List OpW} (h : OpsArg W v l) : ∃ ao cap, v = .slice ao l.length cap ∧ l.length ≤ 9223372036854775807 := by
  obtain ⟨ao, cap, h1, _, h2, _⟩ := h
  exact ⟨ao, cap, h1, h2⟩
theorem OpsArg.get {W w : World} {ao : Option Addr} {n cap : Nat} {l : List OpW} (h : OpsArg W (.slice ao n cap) l) (hb : Below W.heap.size W w) {i : Nat} (hi : i < l.length) : ∃ b off, ao = some ⟨b, off, none⟩ ∧ (opAt l i).ok W ∧
    w.cell? ⟨b, off + i * 4, none⟩ = some (.int .i64 (opAt l i).k) ∧ w.cell? ⟨b, off + i * 4 + 1, none⟩ = some (.int .i64 (opAt l i).n) ∧ w.cell? ⟨b, off + i * 4 + 2, none⟩ = some (opAt l i).iv ∧ w.cell? ⟨b, off + i * 4 + 3, none⟩ = some (opAt l i).pv := by
  obtain ⟨ao', cap', h1, _, _, h3⟩ := h
  cases h1
  obtain ⟨b, off, e, hlt, ok, c0, c1, c2, c3⟩ := h3 i hi
  exact ⟨b, off, e, ok, (hb.cell (p := ⟨b, _, none⟩) hlt).trans c0, (hb.cell (p := ⟨b, _, none⟩) hlt).trans c1, (hb.cell (p := ⟨b, _, none⟩) hlt).trans c2, (hb.cell (p := ⟨b, _, none⟩) hlt).trans c3⟩
end Go.Proofs.Ytbgefdigmdfalaa
