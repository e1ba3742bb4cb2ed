/- A sector's new bytes, and a torn one, in the document's lists. No statement of the seat is proved here. -/
import Derived.Test.YtfdabkcbefhdaaaRErase
import Derived.Test.YtfdabkcbefhdaaaFCrash
namespace Go.Proofs.Ytfdabkcbefhdaaa
set_option maxRecDepth 20000
open Go.RowKit

theorem cells_S (L : List ByteArray) : cells elS L = L.map Value.string := by
  unfold cells
  induction L with
  | nil => rfl
  | cons a r ih => rw [List.flatMap_cons, List.map_cons, ih]; rfl
theorem tells_keep {D : Dev} {L : List ByteArray} {T : List Bool} (h : Tells D L T) {i : Nat} (hi : i < D.size) (bs : List UInt8) : Tells (D.keep i (bs, false)) (L.set i ⟨bs.toArray⟩) (T.set i false) := by
  refine ⟨by rw [List.length_set]; exact h.len, by rw [List.length_set]; exact h.lenT, fun j hj => ?_, fun j hj hf => ?_⟩
  · by_cases e : j = i
    · subst e
      rw [List.getElem?_set_self (by rw [h.lenT]; exact hi)]
      simp [Dev.keep, upd]
    · rw [List.getElem?_set_ne (Ne.symm e)]
      have : ((j : Int) = (i : Int)) = False := eq_false (by omega)
      simp only [Dev.keep, upd, this, if_false]
      exact h.torn j hj
  · by_cases e : j = i
    · subst e
      rw [List.getElem?_set_self (by rw [h.len]; exact hi)]
      simp [Dev.keep, upd]
    · rw [List.getElem?_set_ne (Ne.symm e)]
      have : ((j : Int) = (i : Int)) = False := eq_false (by omega)
      simp only [Dev.keep, upd, this, if_false] at hf ⊢
      exact h.last j hj hf
theorem tells_tear {D : Dev} {L : List ByteArray} {T : List Bool} (h : Tells D L T) {i : Nat} (hi : i < D.size) : Tells (D.keep i (zeros, true)) L (T.set i true) := by
  refine ⟨h.len, by rw [List.length_set]; exact h.lenT, fun j hj => ?_, fun j hj hf => ?_⟩
  · by_cases e : j = i
    · subst e
      rw [List.getElem?_set_self (by rw [h.lenT]; exact hi)]
      simp [Dev.keep, upd]
    · rw [List.getElem?_set_ne (Ne.symm e)]
      have : ((j : Int) = (i : Int)) = False := eq_false (by omega)
      simp only [Dev.keep, upd, this, if_false]
      exact h.torn j hj
  · by_cases e : j = i
    · subst e
      simp [Dev.keep, upd] at hf
    · have : ((j : Int) = (i : Int)) = False := eq_false (by omega)
      simp only [Dev.keep, upd, this, if_false] at hf ⊢
      exact h.last j hj hf
/-- one cell of a row of one's own is stored -/
theorem row_set {B : Nat} {w : World} {t : TypeId} {la : Option Addr} {n lc m : Nat} {xs : List Value} (h : w.ownsRow B t 1 (.slice la n lc) m xs) {i : Nat} (hi : i < m) (u : Value) : ∃ g cur x, la = some ⟨g, 0, none⟩ ∧ B ≤ g ∧ w.heap[g]? = some (.cells cur t (0, 0)) ∧ w.cell? ⟨g, i, none⟩ = some x ∧ w.frozen? ⟨g, i, none⟩ = false ∧
    (w.setCell ⟨g, i, none⟩ u).ownsRow B t 1 (.slice la n lc) m (xs.set i u) := by
  have hx : xs.length = m := by have := h.1; omega
  rcases h.2 with ⟨hv, hz⟩ | ⟨g, cap', cur, hv, hbg, hg, hr⟩
  · omega
  · obtain ⟨rfl, rfl, rfl⟩ : la = some ⟨g, 0, none⟩ ∧ n = m ∧ lc = cap' := by cases hv; exact ⟨rfl, rfl, rfl⟩
    have c0 := World.ownsRow.cellAt h i (by omega)
    exact ⟨g, cur, xs[i]'(by omega), rfl, hbg, hg, c0.trans (List.getElem?_eq_getElem (by omega)), World.ownsRow.frozenAt h i, (World.ownsRow.stored h i u).1⟩
/-- a write lasts -/
theorem RDevAt.kept {B : Nat} {w : World} {rb : Nat} {D : Dev} (h : RDevAt B w rb D) {i : Nat} (hi : i < D.size) {bs : List UInt8} (hbs : bs.length = 256) :
    ∃ lg lc tg tc u1 u2, w.cell? ⟨rb, 0, none⟩ = some (.slice (some ⟨lg, 0, none⟩) D.size lc) ∧ w.cell? ⟨rb, 1, none⟩ = some (.slice (some ⟨tg, 0, none⟩) D.size tc) ∧
      w.cell? ⟨lg, i, none⟩ = some u1 ∧ w.frozen? ⟨lg, i, none⟩ = false ∧ w.cell? ⟨tg, i, none⟩ = some u2 ∧ w.frozen? ⟨tg, i, none⟩ = false ∧ lg ≠ tg ∧
      RDevAt B ((w.setCell ⟨lg, i, none⟩ (.string ⟨bs.toArray⟩)).setCell ⟨tg, i, none⟩ (.bool false)) rb (D.keep i (bs, false)) ∧ Fr RK B w ((w.setCell ⟨lg, i, none⟩ (.string ⟨bs.toArray⟩)).setCell ⟨tg, i, none⟩ (.bool false)) := by
  obtain ⟨ok, ge, lv, tv, wv, L, T, h1, h2, h3, h4, h5⟩ := h
  obtain ⟨la, lc, rfl, -, -⟩ := h3.form
  obtain ⟨ta, tc, rfl, -, -⟩ := ownsRow_form h4
  rw [h2.len] at h1
  rw [h2.lenT] at h1
  have h3' : w.ownsRow B 9 1 (.slice la L.length lc) L.length (L.map Value.string) := by rw [← cells_S]; exact h3
  obtain ⟨lg, lcur, u1, rfl, hlB, hlg, hu1, hf1, ho1⟩ := row_set h3' (i := i) (by rw [h2.len]; exact hi) (.string ⟨bs.toArray⟩)
  obtain ⟨tg, tcur, u2, rfl, htB, htg, hu2, hf2, -⟩ := row_set h4 (i := i) (by rw [h2.lenT]; exact hi) (.bool false)
  have hne : lg ≠ tg := by
    rintro rfl
    rw [hlg] at htg
    injection htg with e
    injection e with _ e _
    exact absurd e (by decide)
  have h4' : (w.setCell ⟨lg, i, none⟩ (.string ⟨bs.toArray⟩)).ownsRow B 4 1 (.slice (some ⟨tg, 0, none⟩) T.length tc) T.length (T.map Value.bool) := ownsRow_of_row h4 fun k cs hk => by
    rw [Below.heap_setCell _ _ _ _ (by rintro rfl; rw [hlg] at hk; injection hk with e; injection e with _ e _; exact absurd e (by decide))]; exact hk
  have ho2 := (World.ownsRow.stored h4' i (.bool false)).1
  have htg' : (w.setCell ⟨lg, i, none⟩ (.string ⟨bs.toArray⟩)).heap[tg]? = some (.cells tcur 4 (0, 0)) := (Below.heap_setCell _ _ _ _ (Ne.symm hne)).trans htg
  have hk2 : ∀ (k : Nat) o, w.heap[k]? = some o → (∀ cs, o ≠ .cells cs 9 (0, 0)) → (∀ cs, o ≠ .cells cs 4 (0, 0)) → ((w.setCell ⟨lg, i, none⟩ (.string ⟨bs.toArray⟩)).setCell ⟨tg, i, none⟩ (.bool false)).heap[k]? = some o := fun k o hk n1 n2 => by
    rw [Below.heap_setCell _ _ _ _ (by rintro rfl; rw [htg] at hk; injection hk with e; exact n2 _ e.symm), Below.heap_setCell _ _ _ _ (by rintro rfl; rw [hlg] at hk; injection hk with e; exact n1 _ e.symm)]; exact hk
  have hsz : (D.keep i (bs, false)).size = D.size := rfl
  have tk := tells_keep h2 hi bs
  refine ⟨lg, lc, tg, tc, u1, u2, by rw [cell_of_row _ _ _ _ _ _ h1]; rfl, by rw [cell_of_row _ _ _ _ _ _ h1]; rfl, hu1, hf1, hu2, hf2, hne, ⟨keep_ok ok i hbs, ge, .slice (some ⟨lg, 0, none⟩) L.length lc, .slice (some ⟨tg, 0, none⟩) T.length tc, wv, _, _, ?_, tk, ?_, ?_, ?_⟩, ((Fr.refl RK B w).setCell hlg hlB rfl _).setCell htg' htB rfl _⟩
  · rw [h2.len, h2.lenT]
    exact hk2 _ _ h1 (fun cs e => by injection e with _ e _; exact absurd e (by decide)) (fun cs e => by injection e with _ e _; exact absurd e (by decide))
  · unfold OwnR
    rw [cells_S, List.length_set, List.map_set]
    exact ownsRow_of_row ho1 fun k cs hk => by
      rw [Below.heap_setCell _ _ _ _ (by rintro rfl; rw [htg'] at hk; injection hk with e; injection e with _ e _; exact absurd e (by decide))]; exact hk
  · rw [List.length_set, List.map_set]
    exact ho2
  · exact ownsRow_of_row h5 fun k cs hk => hk2 _ _ hk (fun cs e => by injection e with _ e _; exact absurd e (by decide)) (fun cs e => by injection e with _ e _; exact absurd e (by decide))
end Go.Proofs.Ytfdabkcbefhdaaa
