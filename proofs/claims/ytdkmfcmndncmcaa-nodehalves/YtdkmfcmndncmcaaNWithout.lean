/- The contracts of the document's own without and of half. No statement of the seat is proved here. -/
import Derived.Test.YtdkmfcmndncmcaaNMapL
namespace Go.Proofs.Ytdkmfcmndncmcaa
set_option maxRecDepth 20000
open Go.RowKit

set_option maxHeartbeats 1600000 in
theorem without_any {w : World} {v : Value} {l : List Pr} (h : SlAt elP w.heap.size w v l) (key : ByteArray) (hl : l.length ≤ 1000) : Calls Try.prog 45 #[v, .string key] w fun e w' => ∃ v', e = .returned v' ∧ OwnR elP w.heap.size w' v' (l.filter (keep key)) ∧ Below w.heap.size w w' := by
  obtain ⟨ao, m, cap, rfl, hm⟩ := h.form
  have H := Lib.hid h
  have hml : m ≤ 1000 := by rw [hm.out]; exact hl
  clear h hl
  go_enter Try.func45, Try.ntmps45
  go_wp2
  go_loopw [5, 6] (fun av iv wr => ∃ k : Nat, k ≤ m ∧ iv = .int .i64 k ∧ OwnR elP w.heap.size wr av ((l.take k).filter (keep key)) ∧ Below w.heap.size w wr) (fun _ iv _ => m - (intOf iv).toNat)
  case atStart => exact ⟨0, Nat.zero_le _, rfl, OwnR.nil _ _ _, Below.refl _ _⟩
  case round =>
    obtain ⟨k, hk, rfl, o, hb⟩ := hrel
    obtain ⟨va, vm, vc, rfl, hvm⟩ := o.form'
    by_cases hlt : k < m
    · have hlt' : k < l.length := by rw [← hm.out]; exact hlt
      obtain ⟨b, off, cap', hv, hB, hc1, hc2⟩ := H.out.getP hlt'
      obtain ⟨rfl, -, rfl⟩ : ao = some ⟨b, off, none⟩ ∧ m = l.length ∧ cap = cap' := by cases hv; exact ⟨rfl, rfl, rfl⟩
      have d1 := (hb.cell (p := ⟨b, off + k * 2, none⟩) hB).trans hc1
      have d2 := (hb.cell (p := ⟨b, off + k * 2 + 1, none⟩) hB).trans hc2
      have hfa := filter_at (p := keep key) hlt'
      have hfl : ((l.take k).filter (keep key)).length ≤ 1000 := by
        refine Nat.le_trans (List.length_filter_le _ _) ?_
        rw [List.length_take]; omega
      clear hv hc1 hc2
      cases hke : keep key (prAt l k)
      · have e9 : (l.take (k + 1)).filter (keep key) = (l.take k).filter (keep key) := by rw [hfa, hke]; simp
        have heq : ((prAt l k).k.toList == key.toList) = true := by unfold keep at hke; show eqS _ _ = true; simpa using hke
        have HO : Hid (OwnR elP w.heap.size wr (.slice va vm vc) ((l.take (k + 1)).filter (keep key))) := Lib.hid (by rw [e9]; exact o)
        generalize prAt l k = x at *
        obtain ⟨xk, xv⟩ := x
        simp only at d1 d2 heq
        have heq2 : xk.toList = key.toList := by simpa using heq
        clear hfa hke e9 o hvm hfl
        go_wp2
        go_roundw
        case rel => exact ⟨k + 1, by omega, by go_num, HO.out, hb⟩
        case measure => simp [intOf]; omega
      · have e9 : (l.take (k + 1)).filter (keep key) = (l.take k).filter (keep key) ++ [prAt l k] := by rw [hfa, hke]; simp
        have heq : ((prAt l k).k.toList == key.toList) = false := by unfold keep at hke; show eqS _ _ = false; simpa using hke
        have hs := hb.size
        obtain ⟨v9, w9, hr9, o9, b9, -, -⟩ := own_app okP (o.below (below_new wr (prO (prAt l k)))) (one_pr wr (prAt l k)) (by show (_ + 1) * 32 ≤ _; omega) (by simp; omega) 22
        rw [← e9] at o9
        have hbs := build_prs (prAt l k) wr
        have hb9 := (hb.alloc hs (prO (prAt l k))).trans b9
        obtain ⟨ya, ym, yc, rfl, hym⟩ := o9.form'
        have HR := Lib.hid hr9
        have HO := Lib.hid o9
        clear hr9 o9 b9
        generalize prAt l k = x at *
        obtain ⟨xk, xv⟩ := x
        simp only at d1 d2 heq hbs
        have heq2 : ¬ xk.toList = key.toList := by simpa using heq
        clear hfa hke e9 o hvm hfl hym
        go_wp2_with (with_reducible refine wpList_append_own rfl (.tmp 20) (.tmp 25) 22 22 rfl (.slice va vm vc) (.slice (some ⟨wr.heap.size, 0, none⟩) 1 1) (.slice ya ym yc) rfl rfl HR.out ?_)
        go_roundw
        case rel => exact ⟨k + 1, by omega, by go_num, HO.out, hb9⟩
        case measure => simp [intOf]; omega
    · have HO : Hid (OwnR elP w.heap.size wr (.slice va vm vc) (l.filter (keep key))) := Lib.hid (by
        have e : l.take k = l := List.take_of_length_le (by have := hm.out; omega)
        rw [e] at o; exact o)
      clear o hvm
      go_wp2
      go_ret
      exact ⟨_, rfl, HO.out, hb⟩
end Go.Proofs.Ytdkmfcmndncmcaa
