/- Arguments of layer 5's statements: a slice of floating numbers, a slice of calls. No statement of the seat is proved here. -/
import Derived.Test.YtegloiojhimoeaaQAt
import Derived.Test.YtegloiojhimoeaaArgs
namespace Go.Proofs.Ytegloiojhimoeaa
open Go.RowKit Go.ChangeShapes Go.WideShapes Go.ChangeAt

def FloatsArg (W : World) (v : Value) (zs : List Nat) : Prop := ArgRow W v zs.length (fun i => .float .f64 (zs.getD i 0)) ∧ ∀ z ∈ zs, z < 18446744073709551616
structure OpQ where
  k : Int
  id : Int
  pr : Nat
def OpQ.none : OpQ := ⟨0, 0, 0⟩
def OpQ.ok (y : OpQ) : Prop := fits y.k ∧ fits y.id ∧ y.pr < 18446744073709551616
def opAt (l : List OpQ) (i : Nat) : OpQ := l.getD i .none
def OpsArg (W : World) (v : Value) (l : List OpQ) : Prop :=
  ∃ ao cap, v = .slice ao l.length cap ∧ l.length ≤ 9223372036854775807 ∧ ∀ i, i < l.length → ∃ b off, ao = some ⟨b, off, Option.none⟩ ∧ b < W.heap.size ∧ (opAt l i).ok ∧
    W.cell? ⟨b, off + i * 3, Option.none⟩ = some (.int .i64 (opAt l i).k) ∧ W.cell? ⟨b, off + i * 3 + 1, Option.none⟩ = some (.int .i64 (opAt l i).id) ∧ W.cell? ⟨b, off + i * 3 + 2, Option.none⟩ = some (.float .f64 (opAt l i).pr)
theorem cellsOp : Try.prog.cellsOf 33 = 3 := by kernel_rfl
theorem cellsInt' : Try.prog.cellsOf 3 = 1 := by kernel_rfl
theorem cellsFloat : Try.prog.cellsOf 31 = 1 := by kernel_rfl
section
variable {H : Type} {enc : TypeId × Value → H} {P : Program} {W : World} {base : Nat} {t e : TypeId} {v : Value} {d : DataW H} {ps : List MemPlace}
theorem trod_float {k : FloatKind} {w : World} {spare : Nat → Bool} {held : Bool} {fuel : Nat} {x : DataW H × List MemPlace} (ht : P.underlying t = some (.float k)) (h : DataW.trod enc P w base spare held fuel t [v] = some x) : ∃ b, v = .float k b ∧ (Lit.float k b).wf = true := by
  cases fuel with
  | zero => simp [DataW.trod] at h
  | succ n =>
    unfold DataW.trod at h
    rw [ht] at h
    split at h
    all_goals simp_all
set_option maxRecDepth 100000 in
theorem floats_arg (hv : Value.okWide Try.prog W .any base 36 v) (h : DataW.Trod enc Try.prog W 0 (fun _ => true) true 36 v d ps) : ∃ zs, FloatsArg W v zs := by
  obtain ⟨a0, len, cap, rfl⟩ := okWide_slice Try.underlying36 hv
  obtain ⟨fuel, hf⟩ := h
  rcases Deep.open_slice1 Try.underlying36 cellsFloat hf with ⟨hcs, _⟩ | ⟨x, l, c, m, n, V, D, Pl, hcs, _, hl, hm, hmm, hdat, hx⟩
  · simp [Value.cells] at hcs
    obtain ⟨rfl, rfl, rfl⟩ := hcs
    exact ⟨[], ArgRow.nil _ _, by simp⟩
  · simp [Value.cells] at hcs
    obtain ⟨rfl, rfl, rfl⟩ := hcs
    simp only [if_true] at hmm
    subst hmm
    have hB : ∀ i, i < len → ∃ b : Nat, V i = .float .f64 b ∧ b < 18446744073709551616 := fun i hi => by
      obtain ⟨b, h1, h2⟩ := trod_float Try.underlying31 (hx i (by omega)).2
      exact ⟨b, h1, float_lt h2⟩
    let F : Nat → Nat := fun i => if h : i < len then Classical.choose (hB i h) else 0
    have hF : ∀ i, i < len → V i = .float .f64 (F i) ∧ F i < 18446744073709551616 := fun i h => by
      have := Classical.choose_spec (hB i h)
      simp only [F, dif_pos h]
      exact this
    have hll : ((List.range len).map F).length = len := by simp
    unfold maxLen at hm
    refine ⟨(List.range len).map F, ?_, fun z hz => ?_⟩
    · rw [hll]
      refine argRow_of (by omega) (fun i hi => ?_)
      rw [(hx i (by omega)).1, (hF i hi).1]
      simp [List.getD_eq_getElem?_getD, hi]
    · obtain ⟨i, hi, rfl⟩ := List.mem_map.1 hz
      exact (hF i (List.mem_range.1 hi)).2
theorem trod_struct3 {w : World} {spare : Nat → Bool} {held : Bool} {f0 f1 f2 : Field} {fuel : Nat} {cs : List Value} {x : DataW H × List MemPlace} (ht : P.underlying t = some (.struct #[f0, f1, f2])) (h : DataW.trod enc P w base spare held fuel t cs = some x) :
    ∃ y0 y1 y2 n, cs.length = P.cellsOf t ∧ DataW.trod enc P w base spare held n f0.type ((cs.drop f0.offset).take (P.cellsOf f0.type)) = some y0 ∧
      DataW.trod enc P w base spare held n f1.type ((cs.drop f1.offset).take (P.cellsOf f1.type)) = some y1 ∧ DataW.trod enc P w base spare held n f2.type ((cs.drop f2.offset).take (P.cellsOf f2.type)) = some y2 := by
  obtain ⟨xs, n, _, rfl, hl, hlen, hf⟩ := DataW.trod_struct ht h
  match xs, hlen with
  | [y0, y1, y2], _ => exact ⟨y0, y1, y2, n, hl, by simpa using hf 0 f0 rfl, by simpa using hf 1 f1 rfl, by simpa using hf 2 f2 rfl⟩
set_option maxRecDepth 100000 in
theorem one_op {n : Nat} {cs : List Value} {x : DataW H × List MemPlace} (h : DataW.trod enc Try.prog W 0 (fun _ => true) true n 33 cs = some x) : ∃ y : OpQ, y.ok ∧ cs = [.int .i64 y.k, .int .i64 y.id, .float .f64 y.pr] := by
  obtain ⟨y0, y1, y2, m, hl, h0, h1, h2⟩ := trod_struct3 Try.underlying33 h
  rw [cellsOp] at hl
  match cs, hl with
  | [c0, c1, c2], _ =>
    simp only [cellsInt', cellsFloat] at h0 h1 h2
    obtain ⟨a, ha, -, wa⟩ := DataW.trod_int Try.underlying3 h0
    obtain ⟨b, hb, -, wb⟩ := DataW.trod_int Try.underlying3 h1
    have h2' : DataW.trod enc Try.prog W 0 (fun _ => true) true m 31 [c2] = some y2 := h2
    obtain ⟨c, hc, wc⟩ := trod_float Try.underlying31 h2'
    simp at ha hb
    subst ha; subst hb; subst hc
    exact ⟨⟨a, b, c⟩, ⟨bounds_i64 wa, bounds_i64 wb, float_lt wc⟩, rfl⟩
set_option maxRecDepth 100000 in
theorem ops_arg (hv : Value.okWide Try.prog W .any base 22 v) (_ : ∀ k ∈ d.weights Try.prog 22, k ≤ reachBytes) (h : DataW.Trod enc Try.prog W 0 (fun _ => true) true 22 v d ps) : ∃ l, OpsArg W v l := by
  obtain ⟨a0, len, cap, rfl⟩ := okWide_slice Try.underlying22 hv
  obtain ⟨fuel, hf⟩ := h
  rcases Deep.open_slice Try.underlying22 hf with ⟨hcs, _⟩ | ⟨x, l, c, m, n, D, Pl, hcs, _, hl, hm, hmm, hdat, hi⟩
  · simp [Value.cells] at hcs
    obtain ⟨rfl, rfl, rfl⟩ := hcs
    exact ⟨[], Option.none, 0, rfl, by simp, fun i h => by simp at h⟩
  · simp [Value.cells] at hcs
    obtain ⟨rfl, rfl, rfl⟩ := hcs
    simp only [if_true] at hmm
    subst hmm
    have hx : ∀ i, i < len → ∃ y : OpQ, y.ok ∧ W.cell? (x.add (i * 3)) = some (.int .i64 y.k) ∧ W.cell? ((x.add (i * 3)).add 1) = some (.int .i64 y.id) ∧ W.cell? ((x.add (i * 3)).add 2) = some (.float .f64 y.pr) := fun i hil => by
      obtain ⟨cs', hc, ht⟩ := hi i (by omega)
      rw [cellsOp] at hc
      obtain ⟨y, hy, rfl⟩ := one_op ht
      obtain ⟨_, _, hat⟩ := World.cells?_some hc
      refine ⟨y, hy, ?_, ?_, ?_⟩
      · have := hat 0 (by omega); simpa [Addr.add] using this
      · have := hat 1 (by omega); simpa using this
      · have := hat 2 (by omega); simpa using this
    let F : Nat → OpQ := fun i => if h : i < len then Classical.choose (hx i h) else .none
    have hF : ∀ i, i < len → (F i).ok ∧ W.cell? (x.add (i * 3)) = some (.int .i64 (F i).k) ∧ W.cell? ((x.add (i * 3)).add 1) = some (.int .i64 (F i).id) ∧ W.cell? ((x.add (i * 3)).add 2) = some (.float .f64 (F i).pr) := fun i h => by
      have := Classical.choose_spec (hx i h)
      simp only [F, dif_pos h]
      exact this
    have hll : ((List.range len).map F).length = len := by simp
    have hit : ∀ i, i < len → opAt ((List.range len).map F) i = F i := fun i h => by
      unfold opAt
      rw [List.getD_eq_getElem?_getD, List.getElem?_map, List.getElem?_range h]; rfl
    refine ⟨(List.range len).map F, some x, m, by rw [hll], by rw [hll]; unfold maxLen at hm; omega, ?_⟩
    intro i hi'
    rw [hll] at hi'
    have hs0 : (x.add (0 * 3)).spot = Option.none := World.cell?_spot (hF 0 (by omega)).2.1
    obtain ⟨b, off, spot⟩ := x
    have hspot : spot = Option.none := by simpa [Addr.add] using hs0
    subst hspot
    obtain ⟨c0, c1, c2, c3⟩ := hF i hi'
    rw [Addr.add_mid] at c1 c2 c3
    rw [Addr.add_mid] at c2 c3
    have hb := World.block_lt_of_cell? W _ c1
    rw [hit i hi']
    exact ⟨b, off, rfl, hb, c0, c1, c2, c3⟩
end
theorem OpsArg.form {W : World} {v : Value} {l : List OpQ} (h : OpsArg W v l) : ∃ ao cap, v = .slice ao l.length cap ∧ l.length ≤ 9223372036854775807 := by
  obtain ⟨ao, cap, h1, h2, _⟩ := h
  exact ⟨ao, cap, h1, h2⟩
theorem OpsArg.get {W w : World} {ao : Option Addr} {n cap : Nat} {l : List OpQ} (h : OpsArg W (.slice ao n cap) l) (hb : Below W.heap.size W w) {i : Nat} (hi : i < l.length) : ∃ b off, ao = some ⟨b, off, Option.none⟩ ∧ (opAt l i).ok ∧
    w.cell? ⟨b, off + i * 3, Option.none⟩ = some (.int .i64 (opAt l i).k) ∧ w.cell? ⟨b, off + i * 3 + 1, Option.none⟩ = some (.int .i64 (opAt l i).id) ∧ w.cell? ⟨b, off + i * 3 + 2, Option.none⟩ = some (.float .f64 (opAt l i).pr) := by
  obtain ⟨ao', cap', h1, _, h3⟩ := h
  cases h1
  obtain ⟨b, off, e, hlt, ok, c0, c1, c2⟩ := h3 i hi
  exact ⟨b, off, e, ok, (hb.cell (p := ⟨b, _, Option.none⟩) hlt).trans c0, (hb.cell (p := ⟨b, _, Option.none⟩) hlt).trans c1, (hb.cell (p := ⟨b, _, Option.none⟩) hlt).trans c2⟩
end Go.Proofs.Ytegloiojhimoeaa
