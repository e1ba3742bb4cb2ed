/- The contract of the document's own Check. No statement of the seat is proved here. -/
import Derived.Test.YtifbfnfcjkpjfaaPRef2
import Derived.Test.YtifbfnfcjkpjfaaPSame
namespace Go.Proofs.Ytifbfnfcjkpjfaa
open Go.RowKit

theorem encE_big {l : List It} (h : bigB l = true) : encE l = 14 := by unfold encE; rw [if_pos h]
theorem encE_form {l : List It} (h : bigB l = false) (x : It) (hx : x ∈ l) (hf : formB x = false) : encE l = 2 := by
  unfold encE
  rw [if_neg (by rw [h]; decide), if_neg]
  intro ha
  rw [List.all_eq_true] at ha
  rw [ha x hx] at hf; cases hf
theorem encE_zero {l : List It} (h : bigB l = false) (hf : ∀ x ∈ l, formB x = true) : encE l = 0 := by
  unfold encE
  rw [if_neg (by rw [h]; decide), if_pos]
  rw [List.all_eq_true]; exact hf
set_option maxHeartbeats 1600000 in
theorem refCheck_any {B : Nat} {w : World} {v : Value} {l : List It} (h : ItemsAt B w v l) : Calls Try.prog 28 #[v] w fun e w' => e = .returned (.int .i64 (encE l)) ∧ w = w' := by
  obtain ⟨ao, cap, rfl, h1, h2, h3, h4⟩ := h
  by_cases c1 : 4000 < l.length
  · rw [encE_big (show bigB l = true by unfold bigB; simp [c1])]
    go_enter Try.func28, Try.ntmps28
    go_wp2
    go_ret
    exact ⟨rfl, rfl⟩
  · go_enter Try.func28, Try.ntmps28
    go_wp2
    go_loop [3] (fun iv => ∃ k : Nat, k ≤ l.length ∧ iv = .int .i64 k ∧ Hid (∀ j, j < k → longB (itAt l j) = false)) (fun iv => l.length - (intOf iv).toNat)
    case atStart => exact ⟨0, Nat.zero_le _, rfl, Lib.hid (fun j hj => by omega)⟩
    case round =>
      obtain ⟨k, hk, rfl, hf⟩ := hrel
      by_cases hlt : k < l.length
      · obtain ⟨b, off, rfl, hB, hc⟩ := h4 (by omega)
        obtain ⟨d1, d2, d3⟩ := hc k hlt
        generalize hx : itAt l k = x at d1 d2 d3
        have HX := Lib.hid hx
        obtain ⟨xk, xn, xs⟩ := x
        clear hc hx
        by_cases q1 : xk = 2
        · subst q1
          by_cases q2 : 50000 < xs.size
          · have ht : bigB l = true := by
              unfold bigB; rw [Bool.or_eq_true]; right
              rw [List.any_eq_true]
              exact ⟨_, itAt_mem hlt, by rw [HX.out]; simp [longB, q2]⟩
            have HT := Lib.hid (encE_big ht)
            clear ht
            go_wp2
            go_ret
            exact ⟨by rw [HT.out]; rfl, rfl⟩
          · have q2' : Hid (longB ⟨2, xn, xs⟩ = false) := Lib.hid (by simp [longB]; omega)
            go_wp2
            go_round
            case rel => exact ⟨k + 1, by omega, by go_num, Lib.hid (snoc_false hf.out (by rw [HX.out]; exact q2'.out))⟩
            case measure => simp [intOf]; omega
        · have q1' : (xk == 2) = false := by simpa using q1
          have q2' : Hid (longB ⟨xk, xn, xs⟩ = false) := Lib.hid (by simp [longB, q1])
          clear q1
          go_wp2
          go_round
          case rel => exact ⟨k + 1, by omega, by go_num, Lib.hid (snoc_false hf.out (by rw [HX.out]; exact q2'.out))⟩
          case measure => simp [intOf]; omega
      · have ht : bigB l = false := by
          unfold bigB; rw [Bool.or_eq_false_iff]
          refine ⟨by simpa using c1, ?_⟩
          rw [List.any_eq_false]
          intro x hx
          obtain ⟨i, hi, rfl⟩ := mem_itAt hx
          rw [hf.out i (by omega)]; simp
        have HT := Lib.hid ht
        clear ht hf
        go_wp2
        go_loop [4] (fun iv => ∃ k : Nat, k ≤ l.length ∧ iv = .int .i64 k ∧ Hid (∀ j, j < k → formB (itAt l j) = true)) (fun iv => l.length - (intOf iv).toNat)
        case atStart => exact ⟨0, Nat.zero_le _, rfl, Lib.hid (fun j hj => by omega)⟩
        case round =>
          obtain ⟨i, hi, rfl, hf⟩ := hrel
          by_cases hlt : i < l.length
          · obtain ⟨b, off, rfl, hB, hc⟩ := h4 (by omega)
            obtain ⟨d1, d2, d3⟩ := hc i hlt
            generalize hx : itAt l i = x at d1 d2 d3
            have HX := Lib.hid hx
            obtain ⟨xk, xn, xs⟩ := x
            clear hc hx
            have bad : formB ⟨xk, xn, xs⟩ = false → encE l = 2 := fun hq => encE_form HT.out _ (itAt_mem hlt) (by rw [HX.out]; exact hq)
            have BAD := Lib.hid bad
            clear bad
            by_cases q1 : xk = 1
            · subst q1
              by_cases q2 : xs.toList = []
              · have q3 : Hid (formB ⟨1, xn, xs⟩ = true) := Lib.hid (by have := (size_list xs).1 q2; simp [formB, this])
                go_wp2
                go_round
                case rel => exact ⟨i + 1, by omega, by go_num, Lib.hid (snoc_true hf.out (by rw [HX.out]; exact q3.out))⟩
                case measure => simp [intOf]; omega
              · have q3 : Hid (encE l = 2) := Lib.hid (BAD.out (by have : xs.size ≠ 0 := fun e => q2 ((size_list xs).2 e); simp [formB, this]))
                go_wp2
                go_ret
                exact ⟨by rw [q3.out]; rfl, rfl⟩
            · have q1' : (xk == 1) = false := by simpa using q1
              by_cases q2 : xk = 2
              · subst q2
                by_cases q4 : xn = 0
                · subst q4
                  have q3 : Hid (formB ⟨2, 0, xs⟩ = true) := Lib.hid (by simp [formB])
                  clear q1 q1'
                  go_wp2
                  go_round
                  case rel => exact ⟨i + 1, by omega, by go_num, Lib.hid (snoc_true hf.out (by rw [HX.out]; exact q3.out))⟩
                  case measure => simp [intOf]; omega
                · have q3 : Hid (encE l = 2) := Lib.hid (BAD.out (by simp [formB, q4]))
                  have q4' : (xn == 0) = false := by simpa using q4
                  clear q1 q1' q4
                  go_wp2
                  go_ret
                  exact ⟨by rw [q3.out]; rfl, rfl⟩
              · have q3 : Hid (encE l = 2) := Lib.hid (BAD.out (by simp [formB, q1, q2]))
                have q2' : (xk == 2) = false := by simpa using q2
                have n1 : (xk != 1) = true := by simpa using q1
                have n2 : (xk != 2) = true := by simpa using q2
                clear q1 q2
                go_wp2
                go_ret
                exact ⟨by rw [q3.out]; rfl, rfl⟩
          · have q3 : Hid (encE l = 0) := Lib.hid (encE_zero HT.out fun x hx => by
              obtain ⟨j, hj, rfl⟩ := mem_itAt hx
              exact hf.out j (by omega))
            go_wp2
            go_ret
            exact ⟨by rw [q3.out]; rfl, rfl⟩
end Go.Proofs.Ytifbfnfcjkpjfaa
