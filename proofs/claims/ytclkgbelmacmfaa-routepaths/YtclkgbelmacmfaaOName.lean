/- The contracts of Name, the program's and the document's. No statement of the seat is proved here. -/
import Derived.Test.YtclkgbelmacmfaaOSteps
namespace Go.Proofs.Ytclkgbelmacmfaa
set_option maxRecDepth 20000
open Go.RowKit

theorem toL (s : ByteArray) : s.toList = bl s := by rw [ByteArray.toList_eq]; rfl
theorem nm_eq (s : ByteArray) : nm s = (!(bl s).isEmpty && !decide (16 < (s.size : Int)) && !(bl s == [46]) && !(bl s == [46, 46]) && (bl s).all okB) := by
  unfold nm nmL
  rw [bl_len]
  have e1 : decide (1 ≤ s.size) = !(bl s).isEmpty := by
    rw [← bl_len]
    cases bl s with
    | nil => rfl
    | cons a r => simp
  have e2 : decide (s.size ≤ 16) = !decide (16 < (s.size : Int)) := by
    by_cases h : s.size ≤ 16
    · rw [decide_eq_true h, decide_eq_false (by omega)]; rfl
    · rw [decide_eq_false h, decide_eq_true (by omega)]; rfl
  rw [e1, e2]
theorem okB_eq (c : UInt8) : okB c = (!decide ((c.toNat : Int) < 33) && !decide (126 < (c.toNat : Int)) && !((c.toNat : Int) == 47)) := by
  unfold okB
  have e1 : decide (33 ≤ c.toNat) = !decide ((c.toNat : Int) < 33) := by
    by_cases h : 33 ≤ c.toNat
    · rw [decide_eq_true h, decide_eq_false (by omega)]; rfl
    · rw [decide_eq_false h, decide_eq_true (by omega)]; rfl
  have e2 : decide (c.toNat ≤ 126) = !decide (126 < (c.toNat : Int)) := by
    by_cases h : c.toNat ≤ 126
    · rw [decide_eq_true h, decide_eq_false (by omega)]; rfl
    · rw [decide_eq_false h, decide_eq_true (by omega)]; rfl
  have e3 : (c == 47) = ((c.toNat : Int) == 47) := by
    by_cases h : c = 47
    · subst h; rfl
    · have h1 : ¬ (c.toNat : Int) = 47 := fun h2 => h (UInt8.toNat_inj.1 (by simpa using (by omega : c.toNat = 47)))
      rw [beq_eq_false_iff_ne.2 h, beq_eq_false_iff_ne.2 h1]
  rw [e1, e2, e3]
theorem all_true {s : ByteArray} (h : ∀ j, j < s.size → okB (atB s j) = true) : (bl s).all okB = true := by
  rw [List.all_eq_true]
  intro x hx
  obtain ⟨i, hi, rfl⟩ := List.mem_iff_getElem.1 hx
  have := h i (by rw [← bl_len]; exact hi)
  unfold atB at this
  rwa [List.getD_eq_getElem?_getD, List.getElem?_eq_getElem hi] at this
theorem all_false {s : ByteArray} {k : Nat} (hk : k < s.size) (h : okB (atB s k) = false) : (bl s).all okB = false := by
  rw [← bl_len] at hk
  rw [List.all_eq_false]
  refine ⟨atB s k, ?_, by rw [h]; decide⟩
  unfold atB
  rw [List.getD_eq_getElem?_getD, List.getElem?_eq_getElem hk]
  exact List.getElem_mem hk
theorem snocB {s : ByteArray} {k : Nat} (hf : ∀ j, j < k → okB (atB s j) = true) (h : okB (atB s k) = true) : ∀ j, j < k + 1 → okB (atB s j) = true := fun j hj => by
  by_cases e : j = k
  · subst e; exact h
  · exact hf j (by omega)
set_option maxHeartbeats 1600000 in
theorem refName_any (s : ByteArray) (w : World) : Calls Try.prog 16 #[.string s] w fun e w' => e = .returned (.bool (nm s)) ∧ Below w.heap.size w w' := by
  have hn := nm_eq s
  obtain ⟨A, hA⟩ : ∃ A, nm s = A := ⟨_, rfl⟩
  rw [hA] at hn ⊢
  cases h0 : (bl s).isEmpty
  · cases h1 : decide (16 < (s.size : Int))
    · cases h2 : bl s == [46]
      · cases h3 : bl s == [46, 46]
        · rw [h0, h1, h2, h3] at hn
          have e0 : s.toList.isEmpty = false := by rw [toL]; exact h0
          have e2 : (s.toList == [46]) = false := by rw [toL]; exact h2
          have e3 : (s.toList == [46, 46]) = false := by rw [toL]; exact h3
          have HN := Lib.hid (show A = (bl s).all okB by rw [hn]; rfl)
          have hle : s.size ≤ 16 := by have := of_decide_eq_false h1; omega
          clear hn h0 h2 h3 hA
          go_enter Try.func16, Try.ntmps16
          go_wp2
          go_loopw [3] (fun iv wr => ∃ k : Nat, k ≤ s.size ∧ iv = .int .i64 k ∧ Hid (∀ j, j < k → okB (atB s j) = true) ∧ Below w.heap.size w wr) (fun iv _ => s.size - (intOf iv).toNat)
          case atStart => exact ⟨0, Nat.zero_le _, rfl, Lib.hid (fun j hj => by omega), Below.refl _ _⟩
          case round =>
            obtain ⟨k, hk, rfl, hf, hb⟩ := hrel
            by_cases hlt : k < s.size
            · have hi := fun wx => run_idx (P := Try.prog) (w := wx) Try.underlying9 hlt
              have he := okB_eq (atB s k)
              have HA := Lib.hid (fun h : okB (atB s k) = false => all_false hlt h)
              have HF := Lib.hid (snocB (s := s) hf.out)
              obtain ⟨c, hc⟩ : ∃ c, okB (atB s k) = c := ⟨_, rfl⟩
              rw [hc] at he HA
              have HF := Lib.hid (fun h : c = true => HF.out (hc.trans h))
              clear hc
              generalize ((atB s k).toNat : Int) = z at *
              cases g1 : decide (z < 33)
              · cases g2 : decide (126 < z)
                · cases g3 : z == 47
                  · have hct : c = true := by rw [he, g1, g2, g3]; rfl
                    have HT := Lib.hid (HF.out hct)
                    clear he HA HF hct
                    go_wp2
                    go_roundw
                    case rel => exact ⟨k + 1, by omega, by go_num, HT, hb⟩
                    case measure => simp [intOf]; omega
                  · have hct : c = false := by rw [he, g1, g2, g3]; rfl
                    have HT := Lib.hid (HN.out.trans (HA.out hct))
                    clear he HA HF hct
                    go_wp2
                    go_ret
                    exact ⟨by rw [HT.out]; rfl, hb⟩
                · have hct : c = false := by rw [he, g1, g2]; rfl
                  have HT := Lib.hid (HN.out.trans (HA.out hct))
                  clear he HA HF hct
                  go_wp2
                  go_ret
                  exact ⟨by rw [HT.out]; rfl, hb⟩
              · have hct : c = false := by rw [he, g1]; rfl
                have HT := Lib.hid (HN.out.trans (HA.out hct))
                clear he HA HF hct
                go_wp2
                go_ret
                exact ⟨by rw [HT.out]; rfl, hb⟩
            · have HT := Lib.hid (HN.out.trans (all_true (fun j hj => hf.out j (by omega))))
              go_wp2
              go_ret
              exact ⟨by rw [HT.out]; rfl, hb⟩
        · have e0 : s.toList.isEmpty = false := by rw [toL]; exact h0
          have e2 : (s.toList == [46]) = false := by rw [toL]; exact h2
          have e3 : (s.toList == [46, 46]) = true := by rw [toL]; exact h3
          have HN := Lib.hid (show A = false by rw [hn, h0, h1, h2, h3]; rfl)
          clear hn hA h0 h2 h3
          go_enter Try.func16, Try.ntmps16
          go_wp2
          go_ret
          exact ⟨by rw [HN.out]; rfl, Below.refl _ _⟩
      · have e0 : s.toList.isEmpty = false := by rw [toL]; exact h0
        have e2 : (s.toList == [46]) = true := by rw [toL]; exact h2
        have HN := Lib.hid (show A = false by rw [hn, h0, h1, h2]; rfl)
        clear hn hA h0 h2
        go_enter Try.func16, Try.ntmps16
        go_wp2
        go_ret
        exact ⟨by rw [HN.out]; rfl, Below.refl _ _⟩
    · have e0 : s.toList.isEmpty = false := by rw [toL]; exact h0
      have HN := Lib.hid (show A = false by rw [hn, h0, h1]; rfl)
      clear hn hA h0
      go_enter Try.func16, Try.ntmps16
      go_wp2
      go_ret
      exact ⟨by rw [HN.out]; rfl, Below.refl _ _⟩
  · have e0 : s.toList.isEmpty = true := by rw [toL]; exact h0
    have HN := Lib.hid (show A = false by rw [hn, h0]; rfl)
    clear hn hA h0
    go_enter Try.func16, Try.ntmps16
    go_wp2
    go_ret
    exact ⟨by rw [HN.out]; rfl, Below.refl _ _⟩
end Go.Proofs.Ytclkgbelmacmfaa
