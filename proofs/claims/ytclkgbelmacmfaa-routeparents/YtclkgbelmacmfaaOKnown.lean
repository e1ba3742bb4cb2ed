/- The contract of the law's known. No statement of the seat is proved here. -/
import Derived.Test.YtclkgbelmacmfaaODocU
namespace Go.Proofs.Ytclkgbelmacmfaa
set_option maxRecDepth 20000
open Go.RowKit

theorem k1 : erOf ⟨#[47, 97, 47, 98]⟩ = 0 ∧ nsOf ⟨#[47, 97, 47, 98]⟩ = [⟨#[97]⟩, ⟨#[98]⟩] := by decide +kernel
theorem k2 : erOf ⟨#[97]⟩ = 6 := by decide +kernel
theorem two_at (w : World) (s t : ByteArray) : SlAt elS (w.heap.size + 1) (w.alloc (.cells #[.string s, .string t] 9)) (.slice (some ⟨w.heap.size, 0, none⟩) 2 2) [s, t] := by
  refine ⟨_, 2, rfl, Nat.le_refl _, by simp, fun _ => ⟨w.heap.size, 0, rfl, Nat.lt_succ_self _, fun j u hj => ?_⟩⟩
  rw [Nat.zero_add, cell_of_row _ _ _ _ _ _ (heap_alloc_new w _)]
  match j, hj with
  | 0, hj => simpa [cells] using hj
  | 1, hj => simpa [cells] using hj
theorem known_any (w : World) : Calls Try.prog 10 #[] w fun e w' => e = .returned (.bool true) ∧ Below w.heap.size w w' := by
  have p1 := parse_any ⟨#[47, 97, 47, 98]⟩ w
  have p2 := fun w' => parse_any ⟨#[97]⟩ w'
  rw [k1.1, k1.2] at p1
  rw [k2] at p2
  go_enter Try.func10, Try.ntmps10
  go_wp2_with fail
  refine Calls.mono p1 ?_
  rintro e w1 ⟨v, rfl, ho, b1⟩
  have sl := own_sl ho (by decide)
  obtain ⟨ao, am, ac, rfl, hm⟩ := sl.form
  clear p1 ho
  go_wp2_with fail
  refine Calls.mono (p2 _) ?_
  rintro e w2 ⟨v, rfl, ho2, b2⟩
  have hb := Below.then b1 b2 (Nat.le_refl _)
  have hbn := below_new w2 (.cells #[.string ⟨#[97]⟩, .string ⟨#[98]⟩] 9)
  have sm := refSame_any (((sl.below b2).more b2.size).below hbn) (two_at w2 ⟨#[97]⟩ ⟨#[98]⟩) (by simp) (by simp)
  rw [decide_eq_true (rfl : ([⟨#[97]⟩, ⟨#[98]⟩] : List ByteArray) = [⟨#[97]⟩, ⟨#[98]⟩])] at sm
  obtain ⟨bo, bm, bc, rfl, hn⟩ := ho2.form'
  clear p2 ho2 sl b1 b2 hm hn
  go_wp2_with fail
  refine Calls.mono sm ?_
  rintro e w3 ⟨rfl, b3⟩
  have hb := Below.then (hb.trans (hbn.mono hb.size)) b3 (Nat.le_refl _)
  clear b3 sm
  go_wp2
  go_ret
  exact ⟨rfl, hb⟩
end Go.Proofs.Ytclkgbelmacmfaa
