/- A slice of calls as an argument; Give in one; steps of drawn regions. No statement of the seat is proved here. -/
import Derived.Test.YtkmaikmbjebjeaaDoorALift
import Derived.Test.YtkmaikmbjebjeaaDoorARow
namespace Go.Proofs.YtkmaikmbjebjeaaDoor
set_option maxRecDepth 20000
open Go.RowKit Go.ChangeShapes Go.WideShapes Go.ChangeAt

structure OpQ where
  k : Int
  id : Int
def OpQ.none : OpQ := ⟨0, 0⟩
def OpQ.ok (y : OpQ) : Prop := (-9223372036854775808 ≤ y.k ∧ y.k ≤ 9223372036854775807) ∧ (-9223372036854775808 ≤ y.id ∧ y.id ≤ 9223372036854775807)
def opAt (l : List OpQ) (i : Nat) : OpQ := l.getD i .none
def OpsArg (W : World) (v : Value) (l : List OpQ) : Prop :=
  ∃ ao cap, v = .slice ao l.length cap ∧ l.length ≤ 9223372036854775807 ∧ ∀ i, i < l.length → ∃ b off, ao = some ⟨b, off, Option.none⟩ ∧ b < W.heap.size ∧ (opAt l i).ok ∧
    W.cell? ⟨b, off + i * 2, Option.none⟩ = some (.int .i64 (opAt l i).k) ∧ W.cell? ⟨b, off + i * 2 + 1, Option.none⟩ = some (.int .i64 (opAt l i).id)
theorem cellsOp : Tryd.prog.cellsOf 36 = 2 := by kernel_rfl
theorem cellsInt' : Tryd.prog.cellsOf 3 = 1 := by kernel_rfl
section
variable {H : Type} {enc : TypeId × Value → H} {P : Program} {W : World} {base : Nat} {t e : TypeId} {v : Value} {d : DataW H} {ps : List MemPlace}
theorem trod_struct2 {w : World} {spare : Nat → Bool} {held : Bool} {f0 f1 : Field} {fuel : Nat} {cs : List Value} {x : DataW H × List MemPlace} (ht : P.underlying t = some (.struct #[f0, f1])) (h : DataW.trod enc P w base spare held fuel t cs = some x) :
    ∃ y0 y1 n, cs.length = P.cellsOf t ∧ DataW.trod enc P w base spare held n f0.type ((cs.drop f0.offset).take (P.cellsOf f0.type)) = some y0 ∧
      DataW.trod enc P w base spare held n f1.type ((cs.drop f1.offset).take (P.cellsOf f1.type)) = some y1 := by
  obtain ⟨xs, n, _, rfl, hl, hlen, hf⟩ := DataW.trod_struct ht h
  match xs, hlen with
  | [y0, y1], _ => exact ⟨y0, y1, n, hl, by simpa using hf 0 f0 rfl, by simpa using hf 1 f1 rfl⟩
set_option maxRecDepth 100000 in
theorem one_op {n : Nat} {cs : List Value} {x : DataW H × List MemPlace} (h : DataW.trod enc Tryd.prog W 0 (fun _ => true) true n 36 cs = some x) : ∃ y : OpQ, y.ok ∧ cs = [.int .i64 y.k, .int .i64 y.id] := by
  obtain ⟨y0, y1, m, hl, h0, h1⟩ := trod_struct2 Tryd.underlying36 h
  rw [cellsOp] at hl
  match cs, hl with
  | [c0, c1], _ =>
    simp only [cellsInt'] at h0 h1
    obtain ⟨a, ha, -, wa⟩ := DataW.trod_int Tryd.underlying3 h0
    obtain ⟨b, hb, -, wb⟩ := DataW.trod_int Tryd.underlying3 h1
    simp at ha hb
    subst ha; subst hb
    exact ⟨⟨a, b⟩, ⟨bounds_i64 wa, bounds_i64 wb⟩, rfl⟩
set_option maxRecDepth 100000 in
theorem ops_arg (hv : Value.okWide Tryd.prog W .any base 23 v) (_ : ∀ k ∈ d.weights Tryd.prog 23, k ≤ reachBytes) (h : DataW.Trod enc Tryd.prog W 0 (fun _ => true) true 23 v d ps) : ∃ l, OpsArg W v l := by
  obtain ⟨a0, len, cap, rfl⟩ := okWide_slice Tryd.underlying23 hv
  obtain ⟨fuel, hf⟩ := h
  rcases Deep.open_slice Tryd.underlying23 hf with ⟨hcs, _⟩ | ⟨x, l, c, m, n, D, Pl, hcs, _, hl, hm, hmm, hdat, hi⟩
  · simp [Value.cells] at hcs
    obtain ⟨rfl, rfl, rfl⟩ := hcs
    exact ⟨[], Option.none, 0, rfl, by simp, fun i h => by simp at h⟩
  · simp [Value.cells] at hcs
    obtain ⟨rfl, rfl, rfl⟩ := hcs
    simp only [if_true] at hmm
    subst hmm
    have hx : ∀ i, i < len → ∃ y : OpQ, y.ok ∧ W.cell? (x.add (i * 2)) = some (.int .i64 y.k) ∧ W.cell? ((x.add (i * 2)).add 1) = some (.int .i64 y.id) := fun i hil => by
      obtain ⟨cs', hc, ht⟩ := hi i (by omega)
      rw [cellsOp] at hc
      obtain ⟨y, hy, rfl⟩ := one_op ht
      obtain ⟨_, _, hat⟩ := World.cells?_some hc
      refine ⟨y, hy, ?_, ?_⟩
      · have := hat 0 (by omega); simpa [Addr.add] using this
      · have := hat 1 (by omega); simpa using this
    let F : Nat → OpQ := fun i => if h : i < len then Classical.choose (hx i h) else .none
    have hF : ∀ i, i < len → (F i).ok ∧ W.cell? (x.add (i * 2)) = some (.int .i64 (F i).k) ∧ W.cell? ((x.add (i * 2)).add 1) = some (.int .i64 (F i).id) := fun i h => by
      have := Classical.choose_spec (hx i h)
      simp only [F, dif_pos h]
      exact this
    have hll : ((List.range len).map F).length = len := by simp
    have hit : ∀ i, i < len → opAt ((List.range len).map F) i = F i := fun i h => by
      unfold opAt
      rw [List.getD_eq_getElem?_getD, List.getElem?_map, List.getElem?_range h]; rfl
    refine ⟨(List.range len).map F, some x, m, by rw [hll], by rw [hll]; unfold maxLen at hm; omega, ?_⟩
    intro i hi'
    rw [hll] at hi'
    have hs0 : (x.add (0 * 2)).spot = Option.none := World.cell?_spot (hF 0 (by omega)).2.1
    obtain ⟨b, off, spot⟩ := x
    have hspot : spot = Option.none := by simpa [Addr.add] using hs0
    subst hspot
    obtain ⟨c0, c1, c2⟩ := hF i hi'
    rw [Addr.add_mid] at c1 c2
    rw [Addr.add_mid] at c2
    have hb := World.block_lt_of_cell? W _ c1
    rw [hit i hi']
    exact ⟨b, off, rfl, hb, c0, c1, c2⟩
end
theorem OpsArg.form {W : World} {v : Value} {l : List OpQ} (h : OpsArg W v l) : ∃ ao cap, v = .slice ao l.length cap ∧ l.length ≤ 9223372036854775807 := by
  obtain ⟨ao, cap, h1, h2, _⟩ := h
  exact ⟨ao, cap, h1, h2⟩
theorem OpsArg.get {W w : World} {ao : Option Addr} {n cap : Nat} {l : List OpQ} (h : OpsArg W (.slice ao n cap) l) (hb : Below W.heap.size W w) {i : Nat} (hi : i < l.length) : ∃ b off, ao = some ⟨b, off, Option.none⟩ ∧ (opAt l i).ok ∧
    w.cell? ⟨b, off + i * 2, Option.none⟩ = some (.int .i64 (opAt l i).k) ∧ w.cell? ⟨b, off + i * 2 + 1, Option.none⟩ = some (.int .i64 (opAt l i).id) := by
  obtain ⟨ao', cap', h1, _, h3⟩ := h
  cases h1
  obtain ⟨b, off, e, hlt, ok, c0, c1⟩ := h3 i hi
  exact ⟨b, off, e, ok, (hb.cell (p := ⟨b, _, Option.none⟩) hlt).trans c0, (hb.cell (p := ⟨b, _, Option.none⟩) hlt).trans c1⟩

theorem exec_indexAddrS {P : Program} {w : World} {ρ : Operand → Value} {o : Oper} {t e : TypeId} {x ix : Operand} {b off len cap : Nat} {k s : Nat} (ho : o.op = .indexAddr t x ix) (hx : ρ x = .slice (some ⟨b, off, none⟩) len cap) (hi : ρ ix = .int .i64 k) (hk : k < len)
    (hu : P.underlying t = some (.slice e)) (hs : (P.info? e).map (·.size) = some s) : (execOp ρ o).run P w = .ok (.value (.pointer (some ⟨b, off + k * s, none⟩))) w := by
  cases hq : P.info? e with
  | none => simp [hq] at hs
  | some i =>
    have h1 : i.size = s := by simpa [hq] using hs
    have e2 : (⟨b, off, none⟩ : Addr).add (k * s) = ⟨b, off + k * s, none⟩ := by unfold Addr.add; split <;> simp_all
    unfold execOp
    simp [ho, hx, hi, Instr.indexAt, asIntOf, run_underlying hu, hk, sizeOf, typeInfo, hq, h1, e2]
theorem exec_intneq {P : Program} {w : World} {ρ : Operand → Value} {o : Oper} {t t' : TypeId} {x y : Operand} {k : IntKind} {a b : Int} {c : Bool} (ho : o.op = .binOp .neq t x y t') (hx : ρ x = .int k a) (hy : ρ y = .int k b) (h : (a != b) = c) : (execOp ρ o).run P w = .ok (.value (.bool c)) w := by
  subst h
  unfold execOp
  simp only [ho, hx, hy, Sem.run_bind]
  have e1 : (eqGuard .neq t x y (.int k a) (.int k b)).run P w = .ok () w := by simp [eqGuard]
  have e2 : (binOp .neq t (.int k a) (.int k b)).run P w = .ok (.bool (a != b)) w := by simp [go_sem]
  rw [e1, Result.andThen_ok, e2]; rfl
theorem exec_inteq {P : Program} {w : World} {ρ : Operand → Value} {o : Oper} {t t' : TypeId} {x y : Operand} {k : IntKind} {a b : Int} {c : Bool} (ho : o.op = .binOp .eql t x y t') (hx : ρ x = .int k a) (hy : ρ y = .int k b) (h : (a == b) = c) : (execOp ρ o).run P w = .ok (.value (.bool c)) w := by
  subst h
  unfold execOp
  simp only [ho, hx, hy, Sem.run_bind]
  have e1 : (eqGuard .eql t x y (.int k a) (.int k b)).run P w = .ok () w := by simp [eqGuard]
  have e2 : (binOp .eql t (.int k a) (.int k b)).run P w = .ok (.bool (a == b)) w := by simp [go_sem]
  rw [e1, Result.andThen_ok, e2]; rfl
theorem szOp2 : (Tryd.prog.info? 36).map (·.size) = some 2 := by kernel_rfl
/-! ### Give in one -/
def giveR (A : Al) (z : Int) : Int × Al := if isB A z = false then (1, A) else if A.u z.toNat = false then (7, A) else (0, A.give z.toNat)
theorem giveR_ok {A : Al} (ok : A.Ok) (z : Int) : (giveR A z).2.Ok ∧ (giveR A z).2.free = A.free ∧ (giveR A z).2.n = A.n := by
  unfold giveR
  split
  · exact ⟨ok, rfl, rfl⟩
  · split
    · exact ⟨ok, rfl, rfl⟩
    · rename_i h
      obtain ⟨h1, h2⟩ := ok.give (b := z.toNat) (by simpa using h)
      exact ⟨h1, h2, rfl⟩
theorem give_any {w : World} {ab : Nat} {A : Al} (h : AlAt w ab A) (ok : A.Ok) (z : Int) : Calls Tryd.prog 11 #[.pointer (some ⟨ab, 0, none⟩), .int .i64 z] w fun e w' => e = .returned (.int .i64 (giveR A z).1) ∧ AlAt w' ab (giveR A z).2 ∧ Only ab w w' := by
  unfold giveR
  cases hb : isB A z
  · rw [if_pos rfl]
    exact (give_bad h z hb).mono fun e w' ⟨h1, h2⟩ => by subst h2; exact ⟨h1, h, Only.refl _ _⟩
  · rw [if_neg (by simp)]
    have hz := hb
    unfold isB at hz
    simp only [decide_eq_true_eq] at hz
    obtain ⟨b, rfl⟩ : ∃ b : Nat, z = b := ⟨z.toNat, by omega⟩
    simp only [Int.toNat_natCast]
    cases hu : A.u b
    · rw [if_pos rfl]
      exact (give_miss h ok b (by omega) hu).mono fun e w' ⟨h1, h2⟩ => by subst h2; exact ⟨h1, h, Only.refl _ _⟩
    · rw [if_neg (by simp)]
      exact give_ok h ok b hu
end Go.Proofs.YtkmaikmbjebjeaaDoor
