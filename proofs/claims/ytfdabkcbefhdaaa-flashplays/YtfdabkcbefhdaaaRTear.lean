/- A torn sector in the document's lists. No statement of the seat is proved here. -/
import Derived.Test.YtfdabkcbefhdaaaRKeep
namespace Go.Proofs.Ytfdabkcbefhdaaa
set_option maxRecDepth 20000
open Go.RowKit

/-- a write tears its sector -/
theorem RDevAt.tear {B : Nat} {w : World} {rb : Nat} {D : Dev} (h : RDevAt B w rb D) {i : Nat} (hi : i < D.size) :
    ∃ tg tc u2, w.cell? ⟨rb, 1, none⟩ = some (.slice (some ⟨tg, 0, none⟩) D.size tc) ∧ w.cell? ⟨tg, i, none⟩ = some u2 ∧ w.frozen? ⟨tg, i, none⟩ = false ∧
      RDevAt B (w.setCell ⟨tg, i, none⟩ (.bool true)) rb (D.keep i (zeros, true)) ∧ Fr RK B w (w.setCell ⟨tg, i, none⟩ (.bool true)) := by
  obtain ⟨ok, ge, lv, tv, wv, L, T, h1, h2, h3, h4, h5⟩ := h
  obtain ⟨ta, tc, rfl, -, -⟩ := ownsRow_form h4
  rw [h2.lenT] at h1
  obtain ⟨tg, tcur, u2, rfl, htB, htg, hu2, hf2, ho⟩ := row_set h4 (i := i) (by rw [h2.lenT]; exact hi) (.bool true)
  have hk2 : ∀ (k : Nat) cs t, t ≠ 4 → w.heap[k]? = some (.cells cs t (0, 0)) → (w.setCell ⟨tg, i, none⟩ (.bool true)).heap[k]? = some (.cells cs t (0, 0)) := fun k cs t ht hk => by
    rw [Below.heap_setCell _ _ _ _ (by rintro rfl; rw [htg] at hk; injection hk with e; injection e with _ e _; exact ht e.symm)]; exact hk
  refine ⟨tg, tc, u2, by rw [cell_of_row _ _ _ _ _ _ h1]; rfl, hu2, hf2, ⟨keep_ok ok i zeros_length, ge, lv, .slice (some ⟨tg, 0, none⟩) T.length tc, wv, _, _, ?_, tells_tear h2 hi, ownsRow_of_row h3 (fun k cs => hk2 k cs _ (by decide)), ?_, ownsRow_of_row h5 (fun k cs => hk2 k cs _ (by decide))⟩, (Fr.refl RK B w).setCell htg htB rfl _⟩
  · rw [h2.lenT]
    exact hk2 _ _ _ (by decide) h1
  · rw [List.length_set, List.map_set]
    exact ho
end Go.Proofs.Ytfdabkcbefhdaaa
