/- The contracts of a blob's name: blob.Name and the document's own. No statement of the seat is proved here. -/
import Derived.Test.YtcbbppgleclndaaBytes
namespace Go.Proofs.Ytcbbppgleclndaa
open Go.RowKit

def letB (n : Int) : Bool := (decide (97 ≤ n) && decide (n ≤ 122)) || (decide (48 ≤ n) && decide (n ≤ 57)) || decide (n = 45)
def lettersB (l : List UInt8) : Bool := l.all fun c => letB c.toNat
def nameB (l : List UInt8) : Bool := decide (1 ≤ l.length) && decide (l.length ≤ 40) && lettersB l
theorem letters_snoc (s : ByteArray) (k : Nat) (h : k < s.size) : lettersB (s.data.toList.take (k + 1)) = (lettersB (s.data.toList.take k) && letB s[k].toNat) := by
  unfold lettersB
  rw [List.take_succ_eq_append_getElem (by simpa using h), List.all_append]
  simp; rfl
theorem letters_false {s : ByteArray} {k : Nat} (h : k < s.size) (h2 : letB s[k].toNat = false) : lettersB s.data.toList = false := by
  unfold lettersB
  rw [List.all_eq_false]
  refine ⟨s[k], ?_, by simpa using h2⟩
  exact List.mem_of_getElem? (i := k) (by rw [List.getElem?_eq_getElem (by simpa using h)]; rfl)
theorem letters_all {s : ByteArray} {k : Nat} (hk : k = s.size) (h : lettersB (s.data.toList.take k) = true) : lettersB s.data.toList = true := by
  rw [List.take_of_length_le (by rw [hk]; simp)] at h; exact h

set_option maxHeartbeats 400000 in
theorem letter_any (n : Int) (w : World) (h0 : 0 ≤ n) (h1 : n ≤ 255) : Calls Try.prog 33 #[.int .u8 n] w fun e w' => e = .returned (.bool (letB n)) ∧ w = w' := by
  obtain ⟨b, hb⟩ : ∃ b, letB n = b := ⟨_, rfl⟩
  have HB := Lib.hid hb
  rw [hb]
  unfold letB at hb
  by_cases c1 : 97 ≤ n
  · by_cases c2 : n ≤ 122
    · obtain rfl : b = true := by rw [← hb]; simp [c1, c2]
      clear hb HB
      go_enter Try.func33, Try.ntmps33
      go_wp2
      go_ret
      exact ⟨rfl, rfl⟩
    · obtain rfl : b = false := by rw [← hb]; simp; omega
      have d1 : decide (n ≤ 57) = false := by simp; omega
      have d2 : decide (n ≤ 122) = false := by simpa using c2
      have d3 : (n == 45) = false := by simp; omega
      clear hb HB
      go_enter Try.func33, Try.ntmps33
      go_wp2
      go_ret
      exact ⟨rfl, rfl⟩
  · have d0 : decide (97 ≤ n) = false := by simpa using c1
    by_cases c3 : 48 ≤ n
    · by_cases c4 : n ≤ 57
      · obtain rfl : b = true := by rw [← hb]; simp [c3, c4]
        clear hb HB
        go_enter Try.func33, Try.ntmps33
        go_wp2
        go_ret
        exact ⟨rfl, rfl⟩
      · obtain rfl : b = false := by rw [← hb]; simp; omega
        have d1 : decide (n ≤ 57) = false := by simpa using c4
        have d3 : (n == 45) = false := by simp; omega
        clear hb HB
        go_enter Try.func33, Try.ntmps33
        go_wp2
        go_ret
        exact ⟨rfl, rfl⟩
    · have d1 : decide (48 ≤ n) = false := by simpa using c3
      by_cases c5 : n = 45
      · subst c5
        obtain rfl : b = true := by rw [← hb]; rfl
        clear hb HB
        go_enter Try.func33, Try.ntmps33
        go_wp2
        go_ret
        exact ⟨rfl, rfl⟩
      · obtain rfl : b = false := by rw [← hb]; simp; omega
        have d3 : (n == 45) = false := by simpa using c5
        clear hb HB
        go_enter Try.func33, Try.ntmps33
        go_wp2
        go_ret
        exact ⟨rfl, rfl⟩

set_option maxHeartbeats 400000 in
theorem name_any (s : ByteArray) (w : World) (hs : s.size ≤ maxLen) : Calls Try.prog 15 #[.string s] w fun e w' => e = .returned (.bool (nameB s.data.toList)) ∧ w = w' := by
  unfold maxLen at hs
  have hl : s.data.toList.length = s.size := by simp
  by_cases h1 : 1 ≤ s.size
  · by_cases h2 : s.size ≤ 40
    · have HN : Hid (nameB s.data.toList = lettersB s.data.toList) := by unfold nameB; rw [hl]; simp [h1, h2, Hid]
      clear hl
      go_enter Try.func15, Try.ntmps15
      go_wp2
      go_loop [3] (fun iv => ∃ k : Nat, k ≤ s.size ∧ iv = .int .i64 k ∧ lettersB (s.data.toList.take k) = true) (fun iv => s.size - (intOf iv).toNat)
      case atStart => exact ⟨0, Nat.zero_le _, rfl, rfl⟩
      case round =>
        obtain ⟨k, hk, rfl, hall⟩ := hrel
        by_cases hlt : k < s.size
        · have hsn := letters_snoc s k hlt
          rw [hall] at hsn
          have hu : (s[k].toNat : Int) ≤ 255 := by have := s[k].toNat_lt; omega
          cases hq : letB s[k].toNat
          · have hn : nameB s.data.toList = false := by rw [HN.out]; exact letters_false hlt hq
            have HNN := Lib.hid hn
            have HQ := Lib.hid hq
            clear hn hq hsn hall
            go_wp2_with fail
            refine (letter_any _ _ (by omega) hu).mono ?_
            rintro e w' ⟨rfl, rfl⟩
            rw [HQ.out]
            go_wp2
            go_ret
            exact ⟨by rw [HNN.out]; rfl, rfl⟩
          · rw [hq] at hsn
            have HS := Lib.hid hsn
            have HQ := Lib.hid hq
            clear hq hsn hall
            go_wp2_with fail
            refine (letter_any _ _ (by omega) hu).mono ?_
            rintro e w' ⟨rfl, rfl⟩
            rw [HQ.out]
            go_wp2
            go_round
            case rel => exact ⟨k + 1, by omega, by go_num, HS.out⟩
            case measure => simp [intOf]; omega
        · have hn : nameB s.data.toList = true := by rw [HN.out]; exact letters_all (by omega) hall
          have HNN := Lib.hid hn
          clear hn hall
          go_wp2
          go_ret
          exact ⟨by rw [HNN.out]; rfl, rfl⟩
    · have HN : Hid (nameB s.data.toList = false) := by unfold nameB; rw [hl]; simp [h2, Hid]
      clear hl
      have h2' : 40 < s.size := by omega
      go_enter Try.func15, Try.ntmps15
      go_wp2
      go_ret
      exact ⟨by rw [HN.out]; rfl, rfl⟩
  · have HN : Hid (nameB s.data.toList = false) := by unfold nameB; rw [hl]; simp [h1, Hid]
    clear hl
    have h1' : s.size < 1 := by omega
    go_enter Try.func15, Try.ntmps15
    go_wp2
    go_ret
    exact ⟨by rw [HN.out]; rfl, rfl⟩

set_option maxHeartbeats 800000 in
theorem refName_any (s : ByteArray) (w : World) (hs : s.size ≤ maxLen) : Calls Try.prog 16 #[.string s] w fun e w' => e = .returned (.bool (nameB s.data.toList)) ∧ w = w' := by
  unfold maxLen at hs
  have hl : s.data.toList.length = s.size := by simp
  by_cases h1 : 1 ≤ s.size
  · have hne : s.toList.isEmpty = false := by rw [ByteArray.toList_eq]; cases h : s.data.toList with | nil => rw [h] at hl; simp at hl; omega | cons _ _ => rfl
    have hne2 : (s.toList == []) = false := by rw [ByteArray.toList_eq]; cases h : s.data.toList with | nil => rw [h] at hl; simp at hl; omega | cons _ _ => rfl
    by_cases h2 : s.size ≤ 40
    · have HN : Hid (nameB s.data.toList = lettersB s.data.toList) := by unfold nameB; rw [hl]; simp [h1, h2, Hid]
      clear hl
      go_enter Try.func16, Try.ntmps16
      go_wp2
      go_loop [3] (fun iv => ∃ k : Nat, k ≤ s.size ∧ iv = .int .i64 k ∧ lettersB (s.data.toList.take k) = true) (fun iv => s.size - (intOf iv).toNat)
      case atStart => exact ⟨0, Nat.zero_le _, rfl, rfl⟩
      case round =>
        clear hne hne2
        obtain ⟨k, hk, rfl, hall⟩ := hrel
        by_cases hlt : k < s.size
        · have hsn := letters_snoc s k hlt
          rw [hall] at hsn
          obtain ⟨c, hcc⟩ : ∃ c : Int, ((s[k].toNat : Nat) : Int) = c := ⟨_, rfl⟩
          have hcell := hcc
          have h0 : 0 ≤ c := by omega
          have hu : c ≤ 255 := by have := s[k].toNat_lt; omega
          by_cases c1 : 97 ≤ c
          · have e1 : decide (c < 97) = false := by simp; omega
            by_cases c2 : c ≤ 122
            · have e2 : decide (122 < c) = false := by simp; omega
              have hq : letB s[k].toNat = true := by rw [hcc]; unfold letB; simp; omega
              rw [hq] at hsn
              have HS := Lib.hid hsn
              clear hq hsn hall hcc
              go_wp2
              go_round
              case rel => exact ⟨k + 1, by omega, by go_num, HS.out⟩
              case measure => simp [intOf]; omega
            · have e2 : decide (122 < c) = true := by simp; omega
              have e3 : decide (57 < c) = true := by simp; omega
              have e5 : decide (c < 48) = false := by simp; omega
              have e4 : (c != 45) = true := by simp; omega
              have hn : nameB s.data.toList = false := by rw [HN.out]; exact letters_false hlt (by rw [hcc]; unfold letB; simp; omega)
              have HNN := Lib.hid hn
              clear hn hsn hall hcc
              go_wp2
              go_ret
              exact ⟨by rw [HNN.out]; rfl, rfl⟩
          · have e1 : decide (c < 97) = true := by simp; omega
            by_cases c3 : 48 ≤ c
            · have e5 : decide (c < 48) = false := by simp; omega
              by_cases c4 : c ≤ 57
              · have e6 : decide (57 < c) = false := by simp; omega
                have hq : letB s[k].toNat = true := by rw [hcc]; unfold letB; simp; omega
                rw [hq] at hsn
                have HS := Lib.hid hsn
                clear hq hsn hall hcc
                go_wp2
                go_round
                case rel => exact ⟨k + 1, by omega, by go_num, HS.out⟩
                case measure => simp [intOf]; omega
              · have e6 : decide (57 < c) = true := by simp; omega
                have e4 : (c != 45) = true := by simp; omega
                have hn : nameB s.data.toList = false := by rw [HN.out]; exact letters_false hlt (by rw [hcc]; unfold letB; simp; omega)
                have HNN := Lib.hid hn
                clear hn hsn hall hcc
                go_wp2
                go_ret
                exact ⟨by rw [HNN.out]; rfl, rfl⟩
            · have e5 : decide (c < 48) = true := by simp; omega
              by_cases c5 : c = 45
              · have e4 : (c != 45) = false := by simp; omega
                have hq : letB s[k].toNat = true := by rw [hcc]; unfold letB; simp; omega
                rw [hq] at hsn
                have HS := Lib.hid hsn
                clear hq hsn hall hcc
                go_wp2
                go_round
                case rel => exact ⟨k + 1, by omega, by go_num, HS.out⟩
                case measure => simp [intOf]; omega
              · have e4 : (c != 45) = true := by simp; omega
                have hn : nameB s.data.toList = false := by rw [HN.out]; exact letters_false hlt (by rw [hcc]; unfold letB; simp; omega)
                have HNN := Lib.hid hn
                clear hn hsn hall hcc
                go_wp2
                go_ret
                exact ⟨by rw [HNN.out]; rfl, rfl⟩
        · have hn : nameB s.data.toList = true := by rw [HN.out]; exact letters_all (by omega) hall
          have HNN := Lib.hid hn
          clear hn hall
          go_wp2
          go_ret
          exact ⟨by rw [HNN.out]; rfl, rfl⟩
    · have HN : Hid (nameB s.data.toList = false) := by unfold nameB; rw [hl]; simp [h2, Hid]
      clear hl
      have h2' : 40 < s.size := by omega
      go_enter Try.func16, Try.ntmps16
      go_wp2
      go_ret
      exact ⟨by rw [HN.out]; rfl, rfl⟩
  · have HN : Hid (nameB s.data.toList = false) := by unfold nameB; rw [hl]; simp [h1, Hid]
    have hs0 : s.data.toList = [] := List.eq_nil_of_length_eq_zero (by omega)
    have hne : s.toList.isEmpty = true := by rw [ByteArray.toList_eq, hs0]; rfl
    have hne2 : (s.toList == []) = true := by rw [ByteArray.toList_eq, hs0]; rfl
    clear hl hs0
    go_enter Try.func16, Try.ntmps16
    go_wp2
    go_ret
    exact ⟨by rw [HN.out]; rfl, rfl⟩
end Go.Proofs.Ytcbbppgleclndaa
