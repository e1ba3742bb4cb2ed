/- All as an argument. No statement of the seat is proved here. -/
import Derived.Test.YtmkomhdlcbimoaaRPDoc2
namespace Go.Proofs.Ytmkomhdlcbimoaa
set_option maxRecDepth 20000
open Go.RowKit Go.ChangeShapes Go.WideShapes Go.ChangeAt

structure Al where
  log : Lg
  n : Int
  pairs : List Pr
  bytes : List UInt8
  pv : Value
  bv : Value
abbrev allV (x : Al) : Value := .agg #[.int .i64 x.log.kind, .int .i64 x.log.epoch, .int .i64 x.log.seq, .int .i64 x.log.tx, .int .i64 x.log.index, .int .i64 x.log.count, .int .i64 x.log.page, .string x.log.data, .int .i64 x.n, x.pv, x.bv]
def AllArg (W : World) (v : Value) (x : Al) : Prop := v = allV x ∧ x.log.ok ∧ inI x.n ∧ PairsArg W x.pv x.pairs ∧ BytesArg W x.bv x.bytes
theorem cellsAll : Try.prog.cellsOf 63 = 11 := by kernel_rfl
theorem cellsPairs : Try.prog.cellsOf 54 = 1 := by kernel_rfl
theorem cellsBytes : Try.prog.cellsOf 36 = 1 := by kernel_rfl
section
variable {H : Type} {enc : TypeId × Value → H} {W : World} {base : Nat} {v : Value} {d : DataW H} {ps : List MemPlace}
theorem trod_struct4 {P : Program} {w : World} {base : Nat} {spare : Nat → Bool} {held : Bool} {t : TypeId} {f0 f1 f2 f3 : Field} {fuel : Nat} {cs : List Value} {x : DataW H × List MemPlace} (ht : P.underlying t = some (.struct #[f0, f1, f2, f3])) (h : DataW.trod enc P w base spare held fuel t cs = some x) :
    ∃ y0 y1 y2 y3 n, x.1 = .agg [y0.1, y1.1, y2.1, y3.1] ∧ cs.length = P.cellsOf t ∧ DataW.trod enc P w base spare held n f0.type ((cs.drop f0.offset).take (P.cellsOf f0.type)) = some y0 ∧ DataW.trod enc P w base spare held n f1.type ((cs.drop f1.offset).take (P.cellsOf f1.type)) = some y1 ∧
      DataW.trod enc P w base spare held n f2.type ((cs.drop f2.offset).take (P.cellsOf f2.type)) = some y2 ∧ DataW.trod enc P w base spare held n f3.type ((cs.drop f3.offset).take (P.cellsOf f3.type)) = some y3 := by
  obtain ⟨xs, n, _, rfl, hl, hlen, hf⟩ := DataW.trod_struct ht h
  match xs, hlen with
  | [y0, y1, y2, y3], _ => exact ⟨y0, y1, y2, y3, n, by simp, hl, by simpa using hf 0 f0 rfl, by simpa using hf 1 f1 rfl, by simpa using hf 2 f2 rfl, by simpa using hf 3 f3 rfl⟩
theorem all_arg (hv : Value.okWide Try.prog W .any base 63 v) (hsz : ∀ k ∈ d.weights Try.prog 63, k ≤ reachBytes) (h : DataW.Trod enc Try.prog W 0 (fun _ => true) true 63 v d ps) : ∃ x, AllArg W v x := by
  obtain ⟨cs, rfl, hs⟩ := okWide_struct Try.underlying63 hv
  obtain ⟨fuel, hf⟩ := h
  obtain ⟨y0, y1, y2, y3, m, hx, hl, h0, h1, h2, h3⟩ := trod_struct4 Try.underlying63 hf
  rw [cellsAll] at hl
  generalize hcs : (Value.agg cs).cells.toList = L at hl h0 h1 h2 h3
  match L, hl with
  | [c0, c1, c2, c3, c4, c5, c6, c7, c8, c9, c10], _ =>
    simp only [cellsLg, cellsInt, cellsPairs, cellsBytes] at h0 h1 h2 h3
    obtain ⟨l, hlo, e0⟩ := one_log h0
    obtain ⟨a, e1, -, w1⟩ := DataW.trod_int Try.underlying3 h1
    have h2' : DataW.trod enc Try.prog W 0 (fun _ => true) true m 54 [c9] = some y2 := h2
    have h3' : DataW.trod enc Try.prog W 0 (fun _ => true) true m 36 [c10] = some y3 := h3
    have hw2 : ∀ k ∈ y2.1.weights Try.prog 54, k ≤ reachBytes := fun k hk => hsz k (by
      simp only at hx
      rw [hx]; simp only [DataW.weights, DataW.weightsEach, Try.underlying63, List.map_cons, List.map_nil]
      simp [hk])
    have hw3 : ∀ k ∈ y3.1.weights Try.prog 36, k ≤ reachBytes := fun k hk => hsz k (by
      simp only at hx
      rw [hx]; simp only [DataW.weights, DataW.weightsEach, Try.underlying63, List.map_cons, List.map_nil]
      simp [hk])
    obtain ⟨pl, hpl⟩ := pairs_trod hw2 h2'
    obtain ⟨bs, hbs⟩ := bytes_trod hw3 h3'
    simp at e0 e1
    obtain ⟨rfl, rfl, rfl, rfl, rfl, rfl, rfl, rfl⟩ := e0
    subst e1
    exact ⟨⟨l, a, pl, bs, c9, c10⟩, agg_cells hcs, hlo, bounds_i64 w1, hpl, hbs⟩
end
end Go.Proofs.Ytmkomhdlcbimoaa
