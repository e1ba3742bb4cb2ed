/- The contract of the document's own Same of lists. No statement of the seat is proved here. -/
import Derived.Test.YtifbfnfcjkpjfaaPIArgs
import Derived.Laws.StructEq
namespace Go.Proofs.Ytifbfnfcjkpjfaa
open Go.RowKit

def itEq (x y : It) : Bool := (x.k == y.k) && ((x.n == y.n) && (x.s.toList == y.s.toList))
theorem itEq_iff (x y : It) : itEq x y = true ↔ x = y := by
  obtain ⟨a, b, c⟩ := x
  obtain ⟨d, e, f⟩ := y
  unfold itEq
  simp only [Bool.and_eq_true, beq_iff_eq, It.mk.injEq]
  rw [ByteArray.toList_eq, ByteArray.toList_eq]
  constructor
  · rintro ⟨h1, h2, h3⟩; exact ⟨h1, h2, WideShapes.bytes_inj h3⟩
  · rintro ⟨h1, h2, h3⟩; exact ⟨h1, h2, by rw [h3]⟩
theorem eq_items (x y : It) (w : World) : (Op.equalIn 10000 50 (.agg #[.int .i64 x.k, .int .i64 x.n, .string x.s]) (.agg #[.int .i64 y.k, .int .i64 y.n, .string y.s])).run Try.prog w = .ok (itEq x y) w := by
  have u3 := Try.underlying3
  have u9 := Try.underlying9
  have hS : Try.prog.underlying 50 = some (.struct (Try.prog.fieldsOf 50)) := by kernel_rfl
  rw [show (10000 : Nat) = 9999 + 1 from rfl, run_equalIn_agg w 9999 50 _ _ hS (by kernel_rfl)]
  simp only [Program.fieldsOf, Try.underlying50]
  unfold itEq
  go_simp
  by_cases h1 : x.k = y.k <;> by_cases h2 : x.n = y.n <;> by_cases h3 : x.s.toList = y.s.toList <;> simp [h1, h2, h3]
theorem neq_items (x y : It) (w : World) : (binOp .neq 50 (.agg #[.int .i64 x.k, .int .i64 x.n, .string x.s]) (.agg #[.int .i64 y.k, .int .i64 y.n, .string y.s])).run Try.prog w = .ok (.bool (!itEq x y)) w := by
  have := eq_items x y w
  simp only [binOp]
  simp [Op.equal, Op.maxDepth, this]
def sameL (l m : List It) : Bool := decide (l.length = m.length) && (List.range l.length).all fun i => itEq (itAt l i) (itAt m i)
theorem list_eq_of {l m : List It} (hl : l.length = m.length) (h : ∀ i, i < l.length → itAt l i = itAt m i) : l = m := by
  apply List.ext_getElem hl
  intro i h1 h2
  have := h i h1
  unfold itAt at this
  rw [List.getD_eq_getElem?_getD, List.getD_eq_getElem?_getD, List.getElem?_eq_getElem h1, List.getElem?_eq_getElem h2] at this
  exact this
theorem sameL_iff (l m : List It) : sameL l m = true ↔ l = m := by
  unfold sameL
  rw [Bool.and_eq_true, decide_eq_true_eq, List.all_eq_true]
  constructor
  · rintro ⟨h1, h2⟩
    exact list_eq_of h1 fun i hi => (itEq_iff _ _).1 (h2 i (List.mem_range.2 hi))
  · rintro rfl
    exact ⟨rfl, fun i _ => (itEq_iff _ _).2 rfl⟩
set_option maxRecDepth 20000 in
set_option maxHeartbeats 1600000 in
theorem same_any {B : Nat} {w : World} {v u : Value} {l m : List It} (h : ItemsAt B w v l) (g : ItemsAt B w u m) : Calls Try.prog 17 #[v, u] w fun e w' => e = .returned (.bool (sameL l m)) ∧ Below w.heap.size w w' := by
  obtain ⟨ao, cap, rfl, h1, h2, -, h4⟩ := h
  obtain ⟨bo, bap, rfl, g1, g2, -, g4⟩ := g
  by_cases hlen : l.length = m.length
  · have HLEN := Lib.hid hlen
    have H4 := Lib.hid h4
    have G4 := Lib.hid g4
    have hq : (((l.length : Nat) : Int) != ((m.length : Nat) : Int)) = false := by rw [hlen]; simp
    clear hlen h4 g4
    go_enter Try.func17, Try.ntmps17
    go_wp2
    go_loopw [5] (fun iv wr => ∃ k : Nat, k ≤ l.length ∧ iv = .int .i64 k ∧ Hid (∀ j, j < k → itEq (itAt l j) (itAt m j) = true) ∧ Hid (∃ q, wr = w.drewN q)) (fun iv _ => l.length - (intOf iv).toNat)
    case atStart => exact ⟨0, Nat.zero_le _, rfl, Lib.hid (fun j hj => by omega), Lib.hid ⟨0, rfl⟩⟩
    case round =>
      obtain ⟨k, hk, rfl, hz, hwr⟩ := hrel
      obtain ⟨q, hwr'⟩ := hwr.out
      subst hwr'
      clear hwr
      by_cases hlt : k < l.length
      · have hltm : k < m.length := by rw [← HLEN.out]; exact hlt
        obtain ⟨b, off, rfl, _, hc⟩ := H4.out (by omega)
        obtain ⟨c, off2, rfl, _, hd⟩ := G4.out (by omega)
        obtain ⟨a1, a2, a3⟩ := hc k hlt
        obtain ⟨d1, d2, d3⟩ := hd k hltm
        generalize hx : itAt l k = x at a1 a2 a3
        generalize hy : itAt m k = y at d1 d2 d3
        have HX := Lib.hid hx
        have HY := Lib.hid hy
        have hn := neq_items x y
        clear hc hd hx hy
        cases he : itEq x y
        · rw [he] at hn
          have hs : Hid (sameL l m = false) := Lib.hid (by
            cases hsl : sameL l m
            · rfl
            · exfalso
              have := (sameL_iff l m).1 hsl
              rw [this, HY.out] at HX
              have := HX.out
              rw [(itEq_iff x y).2 this.symm] at he; cases he)
          go_wp2_with fail
          go_quiet (fail)
          go_wp2
          go_ret
          exact ⟨by rw [hs.out]; rfl, (below_drewN _ w q).trans (below_drewN _ _ _)⟩
        · rw [he] at hn
          have hz2 := Lib.hid (snoc_true hz.out (by rw [HX.out, HY.out]; exact he))
          go_wp2_with fail
          go_quiet (fail)
          go_wp2
          go_roundw
          case rel => exact ⟨k + 1, by omega, by go_num, hz2, Lib.hid ⟨_, rfl⟩⟩
          case measure => simp [intOf]; omega
      · have hs : Hid (sameL l m = true) := Lib.hid ((sameL_iff l m).2 (list_eq_of HLEN.out fun i hi => (itEq_iff _ _).1 (hz.out i (by omega))))
        go_wp2
        go_ret
        exact ⟨by rw [hs.out]; rfl, below_drewN _ w _⟩
  · have hq : (((l.length : Nat) : Int) != ((m.length : Nat) : Int)) = true := by simp; omega
    have hs : Hid (sameL l m = false) := Lib.hid (by unfold sameL; simp [hlen])
    clear hlen
    go_enter Try.func17, Try.ntmps17
    go_wp2
    go_ret
    exact ⟨by rw [hs.out]; rfl, Below.refl _ _⟩
end Go.Proofs.Ytifbfnfcjkpjfaa
