/- A log of which one sector is torn: what is found in it. No statement of the seat is proved here. -/
import Derived.Test.YtlddfgbjhmihnaaWTrimL
namespace Go.Proofs.Ytlddfgbjhmihnaa
set_option maxRecDepth 20000
open Go.RowKit

abbrev zIms (n : Nat) : List Im := List.replicate n Im.none
/-- for each record its transaction's place -/
def ahF : Nat → Txs → List Int
  | _, [] => []
  | k, x :: r => List.replicate (x.2.length + 1) (k : Int) ++ ahF (k + 1) r
theorem ahF_append : ∀ (A : Txs) (k : Nat) (B : Txs), ahF k (A ++ B) = ahF k A ++ ahF (k + A.length) B
  | [], k, B => by simp [ahF]
  | x :: r, k, B => by
    simp only [List.cons_append, ahF, List.append_assoc, ahF_append r (k + 1) B, List.length_cons]
    rw [show k + 1 + r.length = k + (r.length + 1) by omega]
theorem ahF_length : ∀ (T : Txs) (k : Nat), (ahF k T).length = lenT T
  | [], _ => rfl
  | x :: r, k => by simp only [ahF, lenT, List.length_append, List.length_replicate, ahF_length r (k + 1)]
theorem ahF_get : ∀ (T : Txs) (k at_ : Nat), at_ < lenT T → ∃ c x r, T.drop c = x :: r ∧ c < T.length ∧ (ahF k T).getD at_ 0 = ((k + c : Nat) : Int) ∧ lenT (T.take c) ≤ at_ ∧ at_ - lenT (T.take c) ≤ x.2.length
  | [], k, a, h => by simp [lenT] at h
  | x :: r, k, a, h => by
    by_cases h1 : a < x.2.length + 1
    · refine ⟨0, x, r, rfl, by simp, ?_, by simp [lenT], by simp [lenT]; omega⟩
      simp only [ahF]
      rw [List.getD_eq_getElem?_getD, List.getElem?_append_left (by rw [List.length_replicate]; exact h1), List.getElem?_replicate, if_pos h1]; rfl
    · obtain ⟨c, y, s, e1, e2, e3, e4, e5⟩ := ahF_get r (k + 1) (a - (x.2.length + 1)) (by simp only [lenT] at h; omega)
      refine ⟨c + 1, y, s, e1, by simp; omega, ?_, ?_, ?_⟩
      · simp only [ahF]
        rw [List.getD_eq_getElem?_getD, List.getElem?_append_right (by rw [List.length_replicate]; omega), List.length_replicate, ← List.getD_eq_getElem?_getD, e3]
        congr 1; omega
      · simp only [List.take_succ_cons, lenT]; omega
      · simp only [List.take_succ_cons, lenT]; omega
theorem pick2 : pickOf [2] 0 = 2 := by decide
def tornD (d : Dev) (a : Nat) : Dev := ({ d with waits := d.waits ++ [((a : Int), zeros)] } : Dev).crash [2]
theorem torn_last {d : Dev} (hw : d.waits = []) (a : Nat) (i : Int) : (tornD d a).last i = if i = (a : Int) then (zeros, true) else d.last i := by
  have e0 : (({ d with waits := [((a : Int), zeros)] } : Dev).crash [2]).last i = (({ d with waits := [((a : Int), zeros)] } : Dev).apply (crashF [2]) 1).last i := rfl
  have e : crashF [2] 0 ((a : Int), zeros) = some (zeros, true) := by
    unfold crashF; rw [pick2]; rfl
  have e1 : (({ d with waits := [((a : Int), zeros)] } : Dev).apply (crashF [2]) 1) = (match crashF [2] 0 ((a : Int), zeros) with | some q => Dev.keep ({ d with waits := [((a : Int), zeros)] } : Dev) (a : Int) q | none => ({ d with waits := [((a : Int), zeros)] } : Dev)) := rfl
  unfold tornD
  rw [hw, List.nil_append, e0, e1, e]
  rfl
theorem torn_read {d : Dev} (h1 : d.off = false) (hw : d.waits = []) {a : Nat} (ha : a < d.size) (i : Int) : (tornD d a).read i = if i = (a : Int) then ([], 3) else d.read i := by
  obtain ⟨c1, c2, c3, c4, c5⟩ := crash_same ({ d with waits := d.waits ++ [((a : Int), zeros)] } : Dev) [2]
  by_cases hh : 0 ≤ i ∧ i < d.size
  · rw [read_free (d := tornD d a) c3 (by rw [show (tornD d a).size = d.size from c2]; exact hh), show (tornD d a).waits = [] from c1, torn_last hw]
    show (if (if i = (a : Int) then (zeros, true) else d.last i).2 = true then ([], 3) else ((if i = (a : Int) then (zeros, true) else d.last i).1, 0)) = _
    by_cases hi : i = (a : Int)
    · rw [if_pos hi, if_pos hi]; rfl
    · rw [if_neg hi, if_neg hi, read_free h1 hh, hw]; rfl
  · have hia : ¬ i = (a : Int) := by omega
    rw [if_neg hia]
    unfold Dev.read
    have e1 : (tornD d a).has i = false := has_false (by rw [show (tornD d a).size = d.size from c2]; exact hh)
    rw [if_pos e1, if_pos (has_false hh)]
theorem torn_vw {d : Dev} {l : Wl} (h1 : d.off = false) (hw : d.waits = []) (hs : 100 ≤ d.size) (hf : l.first = 0) (hl : l.size = 100) {a : Nat} (ha : a < 100) {q : Nat} (hq : q < 100) :
    vw (tornD d a) (wl0 0 100 0 2) q = if q = a then none else vw d l q := by
  have e1 : (wl0 0 100 0 2).at q = q := by unfold Wl.at wl0; simp only; omega
  have e2 : l.at q = q := by unfold Wl.at; rw [hf, hl]; omega
  by_cases hqa : q = a
  · have hr : (tornD d a).read (q : Int) = ([], 3) := by rw [torn_read h1 hw (by omega), if_pos (by omega)]
    rw [vw_of, e1, hr, if_pos hqa]; rfl
  · have hr : (tornD d a).read (q : Int) = d.read (q : Int) := by rw [torn_read h1 hw (by omega), if_neg (by omega)]
    rw [vw_of, e1, hr, if_neg hqa, vw_of, e2]
theorem torn_opens {d : Dev} {l : Wl} {T : Txs} {k : Nat} (h : TInv d l T 100 k) (hdz : d.size ≤ 4096) (hk : 6 * k < 100) {a c : Nat} {x : Nat × List Im} {r : Txs} (hd : T.drop c = x :: r) (h1 : lenT (T.take c) ≤ a) (h2 : a - lenT (T.take c) ≤ x.2.length) :
    d.flush = (0, d.flushed) ∧ d.flushed.write (a : Int) zeros = (0, { d.flushed with waits := d.flushed.waits ++ [((a : Int), zeros)] }) ∧ openB (tornD d.flushed a) ((0 : Nat) : Int) ((100 : Nat) : Int) ((0 : Nat) : Int) ((2 : Nat) : Int) = true ∧ ((tornD d.flushed a).read ((0 : Nat) : Int)).2 ≠ 4 ∧
      scanR (tornD d.flushed a) 100 (wl0 0 100 0 2) 0 = ((imgT T).take c, lenT (T.take c)) := by
  obtain ⟨f1, f2⟩ := h.grown.flush
  obtain ⟨s1, s2, s3, s4, s5⟩ := flushed_same d
  have hlT := lenT_append (T.take c) (T.drop c)
  rw [List.take_append_drop, hd] at hlT
  simp only [lenT] at hlT
  have hn := h.next
  have ha : a < 100 := by omega
  have hft := h.grown.fits
  unfold Fits at hft
  rw [h.first, h.size] at hft
  have hds : 100 ≤ d.flushed.size := by rw [s2]; omega
  have hdm : d.flushed.size ≤ 4096 := by rw [s2]; exact hdz
  have hoff := s3.trans h.grown.off
  have harm := s4.trans h.grown.arm
  have hob : openB (tornD d.flushed a) ((0 : Nat) : Int) ((100 : Nat) : Int) ((0 : Nat) : Int) ((2 : Nat) : Int) = true := by
    obtain ⟨c1, c2, c3, c4, c5⟩ := crash_same ({ d.flushed with waits := d.flushed.waits ++ [((a : Int), zeros)] } : Dev) [2]
    have e : (tornD d.flushed a).size = d.flushed.size := c2
    unfold openB fitsB cntB
    simp only [Bool.and_eq_true, decide_eq_true_eq]
    rw [e]; omega
  have hl0 : (wl0 0 100 0 2).Ok := by
    unfold wl0
    exact ⟨by simp only; omega, by simp only; omega, Nat.le_refl _, by simp only; omega, by simp only; omega, by simp only; omega⟩
  have hv : ∀ q, q < 100 → vw (tornD d.flushed a) (wl0 0 100 0 2) q = if q = a then none else vw d.flushed l q := fun q hq => torn_vw hoff s1 hds h.first h.size ha hq
  have hst := f2.std
  rw [h.tail, ← List.take_append_drop c T, hd, StdA_append] at hst
  obtain ⟨t1, t2⟩ := hst
  have t3 : Std (vw d.flushed l) (0 + lenT (T.take c)) x.1 x.2 := t2.1
  rw [Nat.zero_add] at t3
  refine ⟨f1, write_free hoff harm ⟨by omega, by omega⟩ zeros_length, hob, ?_, ?_⟩
  · rw [torn_read hoff s1 (by omega)]
    split
    · decide
    · rw [read_free hoff ⟨by omega, by omega⟩, s1]
      show (if (d.flushed.last ((0 : Nat) : Int)).2 = true then (([] : List UInt8), (3 : Int)) else ((d.flushed.last ((0 : Nat) : Int)).1, 0)).2 ≠ 4
      split <;> simp
  · have hsc := scan_all (d := tornD d.flushed a) (T := T.take c) (l := wl0 0 100 0 2) (e := 0) hl0 (StdA.keep t1 (fun q q1 q2 => by
        have q2' : q < 0 + lenT (T.take c) := q2
        rw [hv q (by omega), if_neg (by omega)])) (epsA_const (Nat.zero_le _) (fun y hy => f2.eps y (List.mem_of_mem_take hy)))
      (by rw [room_lim hl0]; show lenT (T.take c) ≤ 0 + 100 - 0; omega)
      (by
        intro hd1 e1 _ hw
        have e1 : vw (tornD d.flushed a) (wl0 0 100 0 2) (0 + lenT (T.take c)) = some hd1 := e1
        rw [Nat.zero_add, hv _ (by omega)] at e1
        by_cases hsa : lenT (T.take c) = a
        · rw [if_pos hsa] at e1; cases e1
        · rw [if_neg hsa] at e1
          have t4 := t3 0 (Nat.zero_le _)
          rw [Nat.add_zero] at t4
          rw [t4] at e1
          injection e1 with e1
          have hcnt : hd1.count.toNat = x.2.length := by rw [← e1, (want_head _ _ _ _).1]; omega
          obtain ⟨_, hw2⟩ := hw
          obtain ⟨y, hy, _⟩ := hw2 (a - lenT (T.take c)) (by rw [hcnt]; exact h2)
          have hy : vw (tornD d.flushed a) (wl0 0 100 0 2) (0 + lenT (T.take c) + (a - lenT (T.take c))) = some y := hy
          rw [show 0 + lenT (T.take c) + (a - lenT (T.take c)) = a by omega, hv a ha, if_pos rfl] at hy
          cases hy)
      (f := 100) (by have := lenT_pos (T.take c); omega)
    show scanR (tornD d.flushed a) 100 (wl0 0 100 0 2) ((0 : Nat) : Int) = _
    rw [hsc]
    unfold imgT
    rw [List.map_take]
    show (_, 0 + lenT (T.take c)) = _
    rw [Nat.zero_add]
end Go.Proofs.Ytlddfgbjhmihnaa
