/- The contract of the document's own Same of lists. No statement of the seat is proved here. -/
import Derived.Test.YtmkomhdlcbimoaaPIArgs
import Derived.Laws.StructEq
namespace Go.Proofs.Ytmkomhdlcbimoaa
set_option maxRecDepth 20000
open Go.RowKit

def itEq (x y : It) : Bool := (x.k == y.k) && ((x.n == y.n) && (x.s.toList == y.s.toList))
theorem itEq_iff (x y : It) : itEq x y = true ↔ x = y := by
  obtain ⟨a, b, c⟩ := x
  obtain ⟨d, e, f⟩ := y
  unfold itEq
  simp only [Bool.and_eq_true, beq_iff_eq, It.mk.injEq]
  rw [ByteArray.toList_eq, ByteArray.toList_eq]
  constructor
  · rintro ⟨h1, h2, h3⟩; exact ⟨h1, h2, WideShapes.bytes_inj h3⟩
  · rintro ⟨h1, h2, h3⟩; exact ⟨h1, h2, by rw [h3]⟩
theorem eq_items (x y : It) (w : World) : (Op.equalIn 10000 77 (.agg #[.int .i64 x.k, .int .i64 x.n, .string x.s]) (.agg #[.int .i64 y.k, .int .i64 y.n, .string y.s])).run Try.prog w = .ok (itEq x y) w := by
  have u3 := Try.underlying3
  have u9 := Try.underlying9
  have hS : Try.prog.underlying 77 = some (.struct (Try.prog.fieldsOf 77)) := by kernel_rfl
  rw [show (10000 : Nat) = 9999 + 1 from rfl, run_equalIn_agg w 9999 77 _ _ hS (by kernel_rfl)]
  simp only [Program.fieldsOf, Try.underlying77]
  unfold itEq
  go_simp
  by_cases h1 : x.k = y.k <;> by_cases h2 : x.n = y.n <;> by_cases h3 : x.s.toList = y.s.toList <;> simp [h1, h2, h3]
theorem neq_items (x y : It) (w : World) : (binOp .neq 77 (.agg #[.int .i64 x.k, .int .i64 x.n, .string x.s]) (.agg #[.int .i64 y.k, .int .i64 y.n, .string y.s])).run Try.prog w = .ok (.bool (!itEq x y)) w := by
  have := eq_items x y w
  simp only [binOp]
  simp [Op.equal, Op.maxDepth, this]
def sameL (l m : List It) : Bool := decide (l.length = m.length) && (List.range l.length).all fun i => itEq (itAt l i) (itAt m i)
theorem list_eq_of {l m : List It} (hl : l.length = m.length) (h : ∀ i, i < l.length → itAt l i = itAt m i) : l = m := by
  apply List.ext_getElem hl
  intro i h1 h2
  have := h i h1
  unfold itAt at this
  rw [List.getD_eq_getElem?_getD, List.getD_eq_getElem?_getD, List.getElem?_eq_getElem h1, List.getElem?_eq_getElem h2] at this
  exact this
theorem sameL_iff (l m : List It) : sameL l m = true ↔ l = m := by
  unfold sameL
  rw [Bool.and_eq_true, decide_eq_true_eq, List.all_eq_true]
  constructor
  · rintro ⟨h1, h2⟩
    exact list_eq_of h1 fun i hi => (itEq_iff _ _).1 (h2 i (List.mem_range.2 hi))
  · rintro rfl
    exact ⟨rfl, fun i _ => (itEq_iff _ _).2 rfl⟩
end Go.Proofs.Ytmkomhdlcbimoaa
