/- Images that are made; what Append answers while the power is on. No statement of the seat is proved here. -/
import Derived.Test.YtbgefdigmdfalaaWKnown
import Derived.Test.YtbgefdigmdfalaaJ1
namespace Go.Proofs.Ytbgefdigmdfalaa
set_option maxRecDepth 20000
open Go.RowKit

theorem made_cells (n : Nat) : (madeCells (Value.cells (.agg #[.int .i64 0, .string ByteArray.empty])) (n * 2)).toList = cellsM (List.replicate n Im.none) := by
  apply List.ext_getElem?
  intro j
  have hs : (Value.cells (.agg #[.int .i64 0, .string ByteArray.empty])) = #[.int .i64 0, .string ByteArray.empty] := rfl
  rw [hs]
  by_cases hj : j < n * 2
  · have hl : (madeCells #[.int .i64 0, .string ByteArray.empty] (n * 2)).toList[j]? = some (#[Value.int .i64 0, .string ByteArray.empty][j % 2]!) := by
      simp [madeCells, hj]
    rw [hl]
    obtain ⟨q1, q2⟩ := cellsM_get (List.replicate n Im.none) (j / 2) (by rw [List.length_replicate]; omega)
    have him : imAt (List.replicate n Im.none) (j / 2) = Im.none := by
      unfold imAt
      rw [List.getD_eq_getElem?_getD, List.getElem?_replicate, if_pos (by omega)]; rfl
    rw [him] at q1 q2
    rcases (show j % 2 = 0 ∨ j % 2 = 1 by omega) with e | e
    · rw [e]
      have ej : j = j / 2 * 2 := by omega
      rw [ej, q1]; rfl
    · rw [e]
      have ej : j = j / 2 * 2 + 1 := by omega
      rw [ej, q2]; rfl
  · rw [List.getElem?_eq_none (by rw [Array.length_toList, size_madeCells]; omega), List.getElem?_eq_none (by rw [cellsM_length, List.length_replicate]; omega)]
theorem made_imgs (w : World) (n : Nat) (hn : n ≤ 4096) : ∃ w', (Instr.makeSlice 44 (.int .i64 (n : Nat)) (.int .i64 (n : Nat))).run Try.prog w = .ok (.slice (some ⟨w.heap.size, 0, none⟩) n n) w' ∧ ImgsR w' (.slice (some ⟨w.heap.size, 0, none⟩) n n) (List.replicate n Im.none) ∧ Below w.heap.size w w' := by
  obtain ⟨i, hi, hi0, hi1, hi2⟩ := infoImg'
  obtain ⟨w', hr, ho, hg⟩ := run_make_full (P := Try.prog) w w.heap.size 44 50 i _ 2 Try.underlying44 hi hi0 hi1 .i64 .i64 n (by rw [hi2]; omega) (by unfold maxLen; omega) (Nat.le_refl _)
  refine ⟨w', hr, ?_, (Below.refl _ _).grown hg (Nat.le_refl _) (fun k e => by cases e)⟩
  rw [made_cells] at ho
  have ho' : OwnM w.heap.size w' (.slice (some ⟨w.heap.size, 0, none⟩) n n) (List.replicate n Im.none) := by
    unfold OwnM
    rw [List.length_replicate]; exact ho
  exact ho'.reads (fun x hx => by rw [List.eq_of_mem_replicate hx]; exact ⟨⟨by decide, by decide⟩, by decide⟩) (by rw [List.length_replicate]; exact hn)
theorem none_ok (n : Nat) : imsOk (List.replicate n Im.none) = true ∧ ∀ x ∈ List.replicate n Im.none, x.ok :=
  ⟨by unfold imsOk; rw [List.all_eq_true]; intro x hx; rw [List.eq_of_mem_replicate hx]; decide, fun x hx => by rw [List.eq_of_mem_replicate hx]; exact ⟨⟨by decide, by decide⟩, by decide⟩⟩
/-- a device whose power is on, under a log -/
structure Live (d : Dev) (l : Wl) (n : Nat) : Prop where
  off : d.off = false
  arm : d.armed = false
  fits : Fits d l
  ok : l.Ok
  size : l.size = n
theorem app_big {d : Dev} {l : Wl} {a : List Im} (hi : imsOk a = true) (h : l.size < a.length + 1) : appE d l a = 14 ∧ appDev d l a = d ∧ appL d l a = l := by
  have e : appE d l a = 14 := by unfold appE; rw [if_neg (by rw [hi]; simp), if_pos h]
  exact ⟨e, by unfold appDev; rw [if_pos (.inr (.inl h))], by unfold appL; rw [e]; rfl⟩
theorem app_full {d : Dev} {l : Wl} {a : List Im} (hi : imsOk a = true) (h0 : ¬ l.size < a.length + 1) (h : l.room < a.length + 1) : appE d l a = 5 ∧ appDev d l a = d ∧ appL d l a = l := by
  have e : appE d l a = 5 := by unfold appE; rw [if_neg (by rw [hi]; simp), if_neg h0, if_pos h]
  exact ⟨e, by unfold appDev; rw [if_pos (.inr (.inr h))], by unfold appL; rw [e]; rfl⟩
theorem app_live {d : Dev} {l : Wl} {n : Nat} (h : Live d l n) {a : List Im} (hi : imsOk a = true) (h0 : ¬ l.size < a.length + 1) (h1 : ¬ l.room < a.length + 1) :
    appE d l a = 0 ∧ appL d l a = { l with next := l.next + (a.length + 1) } ∧ Live (appDev d l a) { l with next := l.next + (a.length + 1) } n ∧ (appDev d l a).waits.length = d.waits.length + (a.length + 1) := by
  have e1 : appE d l a = (appD d l a (a.length + 1)).1 := by unfold appE; rw [if_neg (by rw [hi]; simp), if_neg h0, if_neg h1]
  have e2 : appDev d l a = (appD d l a (a.length + 1)).2 := by unfold appDev; rw [if_neg (by rw [hi]; simp; omega)]
  obtain ⟨k, g1, g2, g3, g4, g5, g6⟩ := appD_any h.ok h.fits h.off hi (a.length + 1)
  obtain ⟨f1, f2⟩ := g6 h.arm
  have e0 : appE d l a = 0 := by rw [e1]; exact f1
  rcases g5 with ⟨q1, q2, q3⟩ | ⟨q1, _, _⟩
  · subst q2
    refine ⟨e0, by unfold appL; rw [if_pos e0], ⟨by rw [e2]; exact q3, by rw [e2]; exact f2, by have := h.fits; unfold Fits at *; rw [e2, g4]; exact this, h.ok.step (by omega), h.size⟩, by rw [e2, g2, List.length_append]; simp [recsN]⟩
  · omega
theorem trim_next (l : Wl) (h : l.tail ≤ l.next) : trimE l (l.next : Nat) = 0 ∧ l.trim (l.next : Nat) = { l with tail := l.next } := by
  unfold trimE Wl.trim
  rw [if_neg (by omega), if_neg (by omega)]
  exact ⟨rfl, by simp⟩
theorem read_not4 {d : Dev} (h : d.off = false) {i : Int} (hi : 0 ≤ i ∧ i < d.size) : (d.read i).2 ≠ 4 := by
  rw [read_free h hi]
  split
  · simp
  · split <;> simp
theorem trim_past (l : Wl) : trimE l ((l.next + 1 : Nat) : Int) = 1 := by
  unfold trimE
  rw [if_pos (by omega)]
end Go.Proofs.Ytbgefdigmdfalaa
