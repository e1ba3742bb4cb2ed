/- The contracts of Clone, Grow, Concat at numbers. No statement of the seat is proved here. -/
import Derived.Test.YtdkmfcmndncmcaaNListP
import Derived.Lib.AppendZeros
namespace Go.Proofs.Ytdkmfcmndncmcaa
set_option maxRecDepth 20000
open Go.RowKit

theorem build0I (w : World) : (Instr.buildSlice 24 0 #[]).run Try.prog w = .ok (.slice (some ⟨w.heap.size, 0, none⟩) 0 0) (w.alloc (.cells #[] 3)) := by kernel_rfl
theorem isNilI (c : Nat) (w : World) : (binOp .eql 24 (.slice none 0 c) (.slice none 0 0)).run Try.prog w = .ok (.bool true) w := by kernel_rfl
theorem notNilI (a : Addr) (n c : Nat) (w : World) : (binOp .eql 24 (.slice (some a) n c) (.slice none 0 0)).run Try.prog w = .ok (.bool false) w := by kernel_rfl
set_option maxHeartbeats 800000 in
theorem cloneI_any {w : World} {v : Value} {l : List Int} (h : SlAt elI w.heap.size w v l) : Calls Try.prog 52 #[v] w fun e w' => ∃ v', e = .returned v' ∧ OwnR elI w.heap.size w' v' l ∧ Below w.heap.size w w' := by
  obtain ⟨ao, cap, rfl, h1, h2, h3⟩ := h
  cases ao with
  | none =>
    have h0 : l = [] := by
      cases l with
      | nil => rfl
      | cons a r => obtain ⟨b, off, e, _⟩ := h3 (by simp); cases e
    subst h0
    have hq := isNilI cap w
    clear h1 h2 h3
    go_enter Try.func52, Try.ntmps52
    go_wp2
    go_ret
    exact ⟨_, rfl, OwnR.nil _ _ _, Below.refl _ _⟩
  | some a =>
    have hbn := below_new w (.cells #[] 3)
    have hz : (w.alloc (.cells #[] 3)).heap.size = w.heap.size + 1 := by simp
    have hx : SlAt elI w.heap.size (w.alloc (.cells #[] 3)) (.slice (some a) l.length cap) l := SlAt.below ⟨_, _, rfl, h1, h2, h3⟩ hbn
    have ho : OwnR elI w.heap.size (w.alloc (.cells #[] 3)) (.slice (some ⟨w.heap.size, 0, none⟩) 0 0) [] := ⟨rfl, .inr ⟨w.heap.size, 0, #[], rfl, Nat.le_refl _, heap_alloc_new w _, Nat.le_refl _, Nat.zero_le _, rfl, rfl⟩⟩
    obtain ⟨v', w', hr, o', b', -, -⟩ := own_app okZ ho hx (by rw [List.length_nil, Nat.zero_add]; exact Nat.le_trans h2 (by decide)) (by rw [hz]; omega) 24
    rw [List.nil_append] at o'
    have hb2 := hbn.trans b'
    obtain ⟨va, vm, vc, rfl, -⟩ := o'.form'
    have HB := Lib.hid (build0I w)
    have HR := Lib.hid hr
    have HO := Lib.hid o'
    generalize l.length = n at *
    clear hr o' b' hbn hx ho h1 h2 h3 hz
    obtain ⟨ab, aoff, asp⟩ := a
    have hbs := HB.out
    have hq := notNilI ⟨ab, aoff, asp⟩ n cap w
    go_enter Try.func52, Try.ntmps52
    go_wp2_with (with_reducible refine wpList_append_own rfl (.tmp 5) (.tmp 6) 24 24 rfl (.slice (some ⟨w.heap.size, 0, none⟩) 0 0) (.slice (some ⟨ab, aoff, asp⟩) n cap) (.slice va vm vc) rfl rfl HR.out ?_)
    go_ret
    exact ⟨_, rfl, HO.out, hb2⟩
set_option maxHeartbeats 800000 in
theorem growI_any (w : World) (n : Nat) (hn : n * elI.bytes ≤ 140737488355328) : Calls Try.prog 74 #[.slice none 0 0, .int .i64 n] w fun e w' => ∃ v', e = .returned v' ∧ OwnR elI w.heap.size w' v' [] ∧ Below w.heap.size w w' := by
  have hnb : n ≤ 17592186044416 := by
    have : n * 8 ≤ n * elI.bytes := Nat.mul_le_mul_left n okZ.by8
    omega
  have e1 : IntKind.i64.wrap ((n : Int) - 0) = n := by rw [IntKind.wrap_i64]; omega
  by_cases h0 : 0 < n
  · obtain ⟨c, w', hr, o', b', h1, h2⟩ := own_zeros okZ w n h0 hn 3 24 .i64 Try.underlying3
    have HR := Lib.hid hr
    have HO := Lib.hid o'
    have hc : c ≤ 9223372036854775807 := by unfold maxLen at h2; omega
    clear hr o' h2 hn
    go_enter Try.func74, Try.ntmps74
    go_wp2_with (with_reducible refine wpList_append_own rfl (.tmp 20) (.tmp 21) 24 3 rfl (.slice none 0 0) (.int .i64 n) (.slice (some ⟨w.heap.size, 0, none⟩) n c) rfl rfl HR.out ?_)
    go_ret
    exact ⟨_, rfl, HO.out, b'⟩
  · obtain rfl : n = 0 := by omega
    go_enter Try.func74, Try.ntmps74
    go_wp2
    go_ret
    exact ⟨_, rfl, OwnR.nil _ _ _, Below.refl _ _⟩
set_option maxHeartbeats 1600000 in
theorem concatI_any {w : World} {v : Value} {q : List (Value × List Int)} (h : ArgsAt elI w v q) (hq : q.length ≤ 1000) (hlen : lensQ q * elI.bytes ≤ 140737488351232) : Calls Try.prog 55 #[v] w fun e w' => ∃ v', e = .returned v' ∧ OwnR elI w.heap.size w' v' (flatQ q) ∧ Below w.heap.size w w' := by
  obtain ⟨g, off, rfl, hg, hx⟩ := h
  obtain ⟨N, hN⟩ : ∃ N, q.length = N := ⟨_, rfl⟩
  rw [hN] at hq ⊢
  have HN := Lib.hid hN
  have HX := Lib.hid hx
  have HL := Lib.hid hlen
  have hlb : lensQ q ≤ 17592186044416 := by
    have := Nat.mul_le_mul_left (lensQ q) okZ.by8
    omega
  have HLB := Lib.hid hlb
  clear hx hN hlen hlb
  go_enter Try.func55, Try.ntmps55
  go_wp2
  go_loopw [3, 11] (fun sv iv wr => ∃ k : Nat, k ≤ N ∧ iv = .int .i64 k ∧ sv = .int .i64 (lensQ (q.take k) : Nat) ∧ Below w.heap.size w wr) (fun _ iv _ => N - (intOf iv).toNat)
  case atStart => exact ⟨0, Nat.zero_le _, rfl, rfl, Below.refl _ _⟩
  case round =>
    obtain ⟨k, hk, rfl, rfl, hb⟩ := hrel
    by_cases hlt : k < N
    · have hlt' : k < q.length := by rw [HN.out]; exact hlt
      have hqk : q[k]? = some q[k] := List.getElem?_eq_getElem hlt'
      obtain ⟨hc, hsl⟩ := HX.out k _ hqk
      have hst := lensQ_take hqk
      have hle := lensQ_le q (k + 1)
      have hbd := HLB.out
      generalize q[k] = x at hc hsl hst
      obtain ⟨xv, xl⟩ := x
      simp only at hc hsl hst
      obtain ⟨xa, xm, xc, rfl, hxm⟩ := hsl.form
      have d1 := (hb.cell (p := ⟨g, off + k, none⟩) hg).trans hc
      rw [hst] at hle
      generalize hS : lensQ (q.take k) = S at *
      rw [← hxm.out] at hst hle
      have hbd2 : S + xm ≤ 17592186044416 := by omega
      have HST := Lib.hid hst
      clear hc hsl hst hle hbd hqk hxm hS
      go_wp2
      go_roundw
      case rel => exact ⟨k + 1, by omega, by go_num, by rw [HST.out]; push_cast; rfl, hb⟩
      case measure => simp [intOf]; omega
    · have hS : lensQ (q.take k) = lensQ q := by rw [List.take_of_length_le (by have := HN.out; omega)]
      rw [hS]
      have gr := growI_any wr (lensQ q) (Nat.le_trans HL.out (by decide))
      obtain ⟨S, hS2⟩ : ∃ S, lensQ q = S := ⟨_, rfl⟩
      rw [hS2] at gr ⊢
      have hsb : S ≤ 17592186044416 := by rw [← hS2]; exact HLB.out
      have HS := Lib.hid hS2
      clear hS hS2 hk
      go_wp2_with fail
      refine Calls.mono gr ?_
      rintro e wg ⟨v', rfl, o', b1⟩
      have hsz := hb.size
      have hb2 := Below.then hb b1 (Nat.le_refl _)
      have o2 : OwnR elI w.heap.size wg v' (flatQ (q.take 0)) := o'.base hsz
      clear gr o' b1 hb
      go_wp2
      go_loopw [6, 27] (fun av iv wr' => ∃ k : Nat, k ≤ N ∧ iv = .int .i64 k ∧ OwnR elI w.heap.size wr' av (flatQ (q.take k)) ∧ Below w.heap.size w wr') (fun _ iv _ => N - (intOf iv).toNat)
      case atStart => exact ⟨0, Nat.zero_le _, rfl, o2, hb2⟩
      case round =>
        clear hb2 o2
        obtain ⟨k, hk, rfl, o3, hb⟩ := hrel
        obtain ⟨va, vm, vc, rfl, hvm⟩ := o3.form'
        by_cases hlt : k < N
        · have hlt' : k < q.length := by rw [HN.out]; exact hlt
          have hqk : q[k]? = some q[k] := List.getElem?_eq_getElem hlt'
          obtain ⟨hc, hsl⟩ := HX.out k _ hqk
          have hst := flatQ_take hqk
          have hstl := lensQ_take hqk
          have hle := lensQ_le q (k + 1)
          have hbd := HL.out
          generalize q[k] = x at hc hsl hst hstl
          obtain ⟨xv, xl⟩ := x
          simp only at hc hsl hst hstl
          have hsl' := (hsl.below hb)
          obtain ⟨xa, xm, xc, rfl, hxm⟩ := hsl.form
          have d1 := (hb.cell (p := ⟨g, off + k, none⟩) hg).trans hc
          obtain ⟨v9, w9, hr9, o9, b9, -, -⟩ := own_app okZ o3 hsl' (by
            rw [flatQ_length, ← hstl]
            exact Nat.le_trans (Nat.mul_le_mul_right _ hle) (Nat.le_trans hbd (by decide))) hb.size 24
          rw [← hst] at o9
          obtain ⟨ya, ym, yc, rfl, hym⟩ := o9.form'
          have HR := Lib.hid hr9
          have HO := Lib.hid o9
          have hb9 := hb.trans b9
          clear hr9 o9 b9 o3 hsl hsl' hc hst hstl hle hbd hqk hxm hym hvm hb
          go_wp2_with (with_reducible refine wpList_append_own rfl (.tmp 31) (.tmp 32) 24 24 rfl (.slice va vm vc) (.slice xa xm xc) (.slice ya ym yc) rfl rfl HR.out ?_)
          go_roundw
          case rel => exact ⟨k + 1, by omega, by go_num, HO.out, hb9⟩
          case measure => simp [intOf]; omega
        · have hS : flatQ (q.take k) = flatQ q := by rw [List.take_of_length_le (by have := HN.out; omega)]
          rw [hS] at o3
          have HO := Lib.hid o3
          clear o3 hS hvm
          go_wp2
          go_ret
          exact ⟨_, rfl, HO.out, hb⟩
end Go.Proofs.Ytdkmfcmndncmcaa
