/- Parts of texts; where a byte first stands. No statement of the seat is proved here. -/
import Derived.Test.YtclkgbelmacmfaaOBuild
namespace Go.Proofs.Ytclkgbelmacmfaa
set_option maxRecDepth 20000
open Go.RowKit

theorem txt_ext (s : ByteArray) (a b : Nat) : s.extract a b = txt (((bl s).drop a).take (b - a)) := Lib.extract_eq s a b
theorem sl_mid {P : Program} {t : TypeId} (ht : P.underlying t = some .string) (s : ByteArray) {lo hi : Nat} (h1 : lo ≤ hi) (h2 : hi ≤ s.size) (w : World) :
    (Instr.slice t (.string s) (some (.int .i64 (lo : Int))) (some (.int .i64 (hi : Int))) none).run P w = .ok (.string (txt (((bl s).drop lo).take (hi - lo)))) w := by
  have := run_slice_string (P := P) w t s .i64 .i64 (lo : Int) (hi : Int) ht (by omega) (by omega) (by omega)
  rw [this, ← txt_ext]; rfl
theorem sl_from {P : Program} {t : TypeId} (ht : P.underlying t = some .string) (s : ByteArray) {lo : Nat} (h1 : lo ≤ s.size) (w : World) :
    (Instr.slice t (.string s) (some (.int .i64 (lo : Int))) none none).run P w = .ok (.string (txt ((bl s).drop lo))) w := by
  have e : (bl s).drop lo = ((bl s).drop lo).take (s.size - lo) := by rw [List.take_of_length_le]; rw [List.length_drop, bl_len]; exact Nat.le_refl _
  rw [e, ← txt_ext]
  simp [Instr.slice, run_underlying ht, go_sem, h1]
theorem sl_to {P : Program} {t : TypeId} (ht : P.underlying t = some .string) (s : ByteArray) {hi : Nat} (h2 : hi ≤ s.size) (w : World) :
    (Instr.slice t (.string s) none (some (.int .i64 (hi : Int))) none).run P w = .ok (.string (txt ((bl s).take hi))) w := by
  have e : (bl s).take hi = ((bl s).drop 0).take (hi - 0) := rfl
  rw [e, ← txt_ext]
  simp [Instr.slice, run_underlying ht, go_sem, h2]
theorem seg_take (t : BL) : t.take (seg t).length = seg t := by
  have e : t.take (seg t).length = (seg t ++ past t).take (seg t).length := by rw [seg_past]
  rw [e, List.take_append_of_le_length (Nat.le_refl _), List.take_length]
theorem seg_drop (t : BL) : t.drop (seg t).length = past t := by
  have e : t.drop (seg t).length = (seg t ++ past t).drop (seg t).length := by rw [seg_past]
  rw [e, List.drop_append_of_le_length (Nat.le_refl _), List.drop_length, List.nil_append]
theorem seg_le (t : BL) : (seg t).length ≤ t.length := by
  have := congrArg List.length (seg_past t)
  rw [List.length_append] at this; omega
theorem index_seg : ∀ t : BL, Lib.indexByte t 47 = if (past t).isEmpty then -1 else ((seg t).length : Int)
  | [] => rfl
  | b :: l => by
    unfold Lib.indexByte
    by_cases hb : b = 47
    · subst hb; rfl
    · have h1 : (b == 47) = false := beq_eq_false_iff_ne.2 hb
      have e1 : seg (b :: l) = b :: seg l := by unfold seg; rw [List.takeWhile_cons]; simp [h1]
      have e2 : past (b :: l) = past l := by unfold past; rw [List.dropWhile_cons]; simp [h1]
      rw [h1, index_seg l, e1, e2]
      cases (past l).isEmpty
      · simp only [Bool.false_eq_true, if_false, List.length_cons]
        rw [if_neg (by simp <;> omega)]; rfl
      · rfl
theorem past_nil {t : BL} (h : (past t).isEmpty = true) : t.length = (seg t).length := by
  have := congrArg List.length (seg_past t)
  rw [List.length_append] at this
  have e : past t = [] := by simpa using h
  rw [e] at this; simp at this; omega
theorem one_at (w : World) (s : ByteArray) : SlAt elS (w.heap.size + 1) (w.alloc (.cells #[.string s] 9)) (.slice (some ⟨w.heap.size, 0, none⟩) 1 1) [s] := by
  refine ⟨_, 1, rfl, Nat.le_refl _, by simp, fun _ => ⟨w.heap.size, 0, rfl, Nat.lt_succ_self _, fun j u hj => ?_⟩⟩
  rw [Nat.zero_add, cell_of_row _ _ _ _ _ _ (heap_alloc_new w _)]
  match j, hj with
  | 0, hj => simpa [cells] using hj
end Go.Proofs.Ytclkgbelmacmfaa
