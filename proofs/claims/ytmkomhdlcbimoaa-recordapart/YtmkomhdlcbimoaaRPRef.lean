/- The contracts of the document's own size, Fit, pairsOf, DocEncodePairs. No statement of the seat is proved here. -/
import Derived.Test.YtmkomhdlcbimoaaRSame
namespace Go.Proofs.Ytmkomhdlcbimoaa
set_option maxRecDepth 20000
open Go.RowKit

theorem sizP_mono (l : List Pr) (j : Nat) : sizP (l.take j) ≤ sizP l := by
  have := List.take_append_drop j l
  conv => rhs; rw [← this]
  unfold sizP
  rw [List.map_append, List.sum_append]; omega
def SizeRet (w : World) (l : List Pr) (e : Ending) (w' : World) : Prop := ∃ n : Nat, e = .returned (.int .i64 (n : Int)) ∧ (60000 < n ↔ 60000 < 22 + sizP l) ∧ Below w.heap.size w w'
set_option maxRecDepth 20000 in
set_option maxHeartbeats 1600000 in
theorem refSize_any {w : World} {v : Value} {l : List Pr} (h : PairsAt w.heap.size w v l) : Calls Try.prog 39 #[v] w (SizeRet w l) := by
  obtain ⟨ao, cap, rfl, h1, h2, h3, h4⟩ := h
  have H3 := Lib.hid h3
  clear h3
  obtain ⟨m, hm⟩ : ∃ m, l.length = m := ⟨_, rfl⟩
  rw [hm] at h1 h2 h4 ⊢
  go_enter Try.func39, Try.ntmps39
  go_wp2
  go_loopw [3, 4] (fun sv iv wr => ∃ k : Nat, k ≤ m ∧ iv = .int .i64 k ∧ sv = .int .i64 ((22 + sizP (l.take k) : Nat) : Int) ∧ 22 + sizP (l.take k) ≤ 281474976770662 ∧ Below w.heap.size w wr) (fun _ iv _ => m - (intOf iv).toNat)
  case atStart => exact ⟨0, Nat.zero_le _, rfl, rfl, by show 22 + 0 ≤ _; omega, Below.refl _ _⟩
  case round =>
    obtain ⟨k, hk, rfl, rfl, hbd, hb⟩ := hrel
    by_cases hlt : k < m
    · by_cases hgo : 22 + sizP (l.take k) ≤ 60000
      · obtain ⟨b, off, rfl, hB, hc⟩ := h4 (by omega)
        obtain ⟨d1, d2⟩ := hc k hlt
        have d1' := (hb.cell (p := ⟨b, off + k * 2, none⟩) hB).trans d1
        have d2' := (hb.cell (p := ⟨b, off + k * 2 + 1, none⟩) hB).trans d2
        have hs := sizP_take l k (by rw [hm]; exact hlt)
        have hok := prAt_ok H3.out (i := k) (by rw [hm]; exact hlt)
        have HS := Lib.hid hs
        generalize prAt l k = x at d1' d2' HS hok
        obtain ⟨xk, xv⟩ := x
        obtain ⟨o1, o2⟩ := hok
        generalize hsz : sizP (l.take k) = sz at *
        simp only at d1' d2' o1 o2
        have HSZ := Lib.hid hsz
        have hbdr := hb.drew
        have q1 : ((22 + sz : Nat) : Int) ≤ 60000 := by omega
        clear d1 d2 hc hs hsz h4 hbd
        go_wp2_with fail
        go_region
        go_wp2
        go_roundw
        case rel => exact ⟨k + 1, by omega, by go_num, by rw [HS.out]; simp only [Value.int.injEq, true_and]; push_cast; omega, by rw [HS.out]; omega, hbdr⟩
        case measure => simp [intOf]; omega
      · have q1 : ¬ ((22 + sizP (l.take k) : Nat) : Int) ≤ 60000 := by omega
        have HF : Hid (60000 < 22 + sizP (l.take k) ↔ 60000 < 22 + sizP l) := Lib.hid (by have := sizP_mono l k; omega)
        generalize sizP (l.take k) = sz at *
        clear h4
        go_wp2
        go_ret
        exact ⟨22 + sz, rfl, HF.out, hb⟩
    · have HF : Hid (60000 < 22 + sizP (l.take k) ↔ 60000 < 22 + sizP l) := Lib.hid (by rw [List.take_of_length_le (by omega)])
      generalize sizP (l.take k) = sz at *
      clear h4
      go_wp2
      go_ret
      exact ⟨22 + sz, rfl, HF.out, hb⟩

theorem bytesLess_nil (l : List UInt8) : Op.bytesLess l [] = false := by cases l <;> rfl
theorem leS_empty (k : ByteArray) : leS k ByteArray.empty = decide (k.size = 0) := by
  unfold leS
  rw [show ByteArray.empty.toList = [] from (size_list ByteArray.empty).2 rfl, bytesLess_nil, Bool.false_or]
  by_cases h : k.size = 0
  · rw [(size_list k).2 h, decide_eq_true h]; rfl
  · rw [decide_eq_false h]
    have : k.toList ≠ [] := fun e => h ((size_list k).1 e)
    simpa using this
theorem leS_nil (k p : ByteArray) (h : k.size = 0) : leS k p = true := by
  unfold leS
  rw [(size_list k).2 h]
  cases p.toList <;> rfl
theorem prevK_succ (l : List Pr) (k : Nat) (h : k ≠ 0) : prevK l k = (prAt l (k - 1)).k := by unfold prevK; rw [if_neg h]
end Go.Proofs.Ytmkomhdlcbimoaa
