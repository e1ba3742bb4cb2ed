/- The contract of the laws' own same, at records that are the same. No statement of the seat is proved here. -/
import Derived.Test.YtmkomhdlcbimoaaRDDoc
namespace Go.Proofs.Ytmkomhdlcbimoaa
set_option maxRecDepth 20000
open Go.RowKit

set_option maxRecDepth 20000 in
set_option maxHeartbeats 1600000 in
theorem same_eq {w : World} {v1 v2 : Value} {zs : List Int} (h1 : IntC w v1 zs) (h2 : IntC w v2 zs) (k : Int) (t : ByteArray) : Calls Try.prog 20 #[recV k v1 t, recV k v2 t] w fun e w' => e = .returned (.bool true) ∧ Below w.heap.size w w' := by
  have hl4 : zs.length ≤ 4000 := by obtain ⟨_, _, _, _, hh, _⟩ := h1; exact hh
  obtain ⟨m, hm⟩ : ∃ m, zs.length = m := ⟨_, rfl⟩
  obtain ⟨ao, cap, hv⟩ : ∃ ao cap, v1 = .slice ao m cap := by obtain ⟨ao, cap, hv, _⟩ := h1; exact ⟨ao, cap, by rw [← hm]; exact hv⟩
  obtain ⟨ao', cap', hv'⟩ : ∃ ao cap, v2 = .slice ao m cap := by obtain ⟨ao, cap, hv, _⟩ := h2; exact ⟨ao, cap, by rw [← hm]; exact hv⟩
  subst hv
  subst hv'
  have B0 := below_new w (.cells #[.int .i64 k, .slice ao m cap, .string t] 34)
  have B1 := B0.alloc B0.size (.cells #[.int .i64 k, .slice ao' m cap', .string t] 34)
  have g0 := (Below.heap_alloc (w.alloc (.cells #[.int .i64 k, .slice ao m cap, .string t] 34)) (.cells #[.int .i64 k, .slice ao' m cap', .string t] 34) w.heap.size (by simp)).trans (heap_alloc_new w (.cells #[.int .i64 k, .slice ao m cap, .string t] 34))
  have g1 := heap_alloc_new (w.alloc (.cells #[.int .i64 k, .slice ao m cap, .string t] 34)) (.cells #[.int .i64 k, .slice ao' m cap', .string t] 34)
  rw [size_alloc] at g1
  have i1 := h1.below B1
  have i2 := h2.below B1
  have HM := Lib.hid hm
  have hm4 : m ≤ 4000 := by omega
  clear h1 h2 B0 hm hl4
  go_enter Try.func20, Try.ntmps20
  go_wp2
  generalize (w.alloc (.cells #[.int .i64 k, .slice ao m cap, .string t] 34)).alloc (.cells #[.int .i64 k, .slice ao' m cap', .string t] 34) = wa at *
  have c1 : wa.cell? ⟨w.heap.size, 1, none⟩ = some (.slice ao m cap) := cell_row g0 1 rfl
  have c2 : wa.cell? ⟨w.heap.size + 1, 1, none⟩ = some (.slice ao' m cap') := cell_row g1 1 rfl
  clear g0 g1
  go_loopw [5] (fun i wr => ∃ j : Nat, j ≤ m ∧ i = .int .i64 j ∧ Below wa.heap.size wa wr) (fun i _ => m - (intOf i).toNat)
  case atStart => exact ⟨0, Nat.zero_le _, rfl, Below.refl _ _⟩
  case round =>
    obtain ⟨j, hj, rfl, hb⟩ := hrel
    have hwa : w.heap.size + 1 < wa.heap.size := World.block_lt_of_cell? _ _ c2
    have c1' := (hb.cell (p := ⟨w.heap.size, 1, none⟩) (by simp only; omega)).trans c1
    have c2' := (hb.cell (p := ⟨w.heap.size + 1, 1, none⟩) hwa).trans c2
    by_cases hlt : j < m
    · have hlt' : j < zs.length := by rw [HM.out]; exact hlt
      obtain ⟨b, off, rfl, hc1⟩ := i1.get hlt'
      obtain ⟨b', off', rfl, hc2⟩ := i2.get hlt'
      have hc1' := (hb.cell (World.block_lt_of_cell? _ _ hc1)).trans hc1
      have hc2' := (hb.cell (World.block_lt_of_cell? _ _ hc2)).trans hc2
      generalize zs.getD j 0 = x at hc1' hc2'
      have hbd := hb.drew
      clear c1 c2 hc1 hc2 i1 i2
      go_wp2_with fail
      go_region
      go_wp2
      go_roundw
      case rel => exact ⟨j + 1, by omega, by go_num, hbd⟩
      case measure => simp [intOf]; omega
    · have B2 := B1.trans (hb.mono B1.size)
      clear c1 c2 i1 i2
      go_wp2
      go_ret
      exact ⟨rfl, B2⟩
end Go.Proofs.Ytmkomhdlcbimoaa
