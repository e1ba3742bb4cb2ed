/- The contracts of Clone, Grow, Concat at pairs. No statement of the seat is proved here. -/
import Derived.Test.YtdkmfcmndncmcaaNSize
import Derived.Lib.AppendZeros
namespace Go.Proofs.Ytdkmfcmndncmcaa
set_option maxRecDepth 20000
open Go.RowKit

/-- what Concat is given: slices in a row -/
def ArgsAt {α : Type} (E : El α) (w : World) (v : Value) (q : List (Value × List α)) : Prop :=
  ∃ g off, v = .slice (some ⟨g, off, none⟩) q.length q.length ∧ g < w.heap.size ∧ ∀ i x, q[i]? = some x → w.cell? ⟨g, off + i, none⟩ = some x.1 ∧ SlAt E w.heap.size w x.1 x.2
def lensQ {α : Type} (q : List (Value × List α)) : Nat := (q.map fun x => x.2.length).sum
def flatQ {α : Type} (q : List (Value × List α)) : List α := q.flatMap fun x => x.2
theorem flatQ_length {α : Type} (q : List (Value × List α)) : (flatQ q).length = lensQ q := by
  induction q with
  | nil => rfl
  | cons a r ih => simp only [flatQ, lensQ, List.flatMap_cons, List.length_append, List.map_cons, List.sum_cons] at *; omega
theorem flatQ_take {α : Type} {q : List (Value × List α)} {k : Nat} {x : Value × List α} (h : q[k]? = some x) : flatQ (q.take (k + 1)) = flatQ (q.take k) ++ x.2 := by
  obtain ⟨hk, e⟩ := List.getElem?_eq_some_iff.1 h
  unfold flatQ
  rw [List.take_succ_eq_append_getElem hk, List.flatMap_append, e]; simp
theorem lensQ_take {α : Type} {q : List (Value × List α)} {k : Nat} {x : Value × List α} (h : q[k]? = some x) : lensQ (q.take (k + 1)) = lensQ (q.take k) + x.2.length := by
  rw [← flatQ_length, ← flatQ_length, flatQ_take h, List.length_append]
theorem lensQ_le {α : Type} (q : List (Value × List α)) (k : Nat) : lensQ (q.take k) ≤ lensQ q := by
  have e : lensQ q = lensQ (q.take k) + lensQ (q.drop k) := by
    unfold lensQ
    conv => lhs; rw [← List.take_append_drop k q, List.map_append, List.sum_append]
  omega
/-- an empty slice with room -/
theorem own_zeros {α : Type} {E : El α} (hE : ElOk E) (w : World) (n : Nat) (h0 : 0 < n) (hn : n * E.bytes ≤ 140737488355328) (tn ty : TypeId) (kn : IntKind) (htn : Try.prog.underlying tn = some (.int kn)) :
    ∃ c w', (Builtin.append_ #[E.st, tn] ty #[.slice none 0 0, .int .i64 n]).run Try.prog w = .ok (.slice (some ⟨w.heap.size, 0, none⟩) n c) w' ∧ OwnR E w.heap.size w' (.slice (some ⟨w.heap.size, 0, none⟩) 0 c) [] ∧ Below w.heap.size w w' ∧ n ≤ c ∧ c ≤ maxLen := by
  obtain ⟨i, hi, hi0, hi1, hi2⟩ := hE.info
  have h8 := Nat.mul_le_mul_left n hE.by8
  have hr := Lib.run_append_nil_zeros (P := Try.prog) w E.st tn ty E.t i E.z .i64 kn hE.under htn hi hi0 n h0 (by rw [hi1]; exact hE.pos) (by omega) (by rw [hi2]; omega)
  have hge := grownCap_ge w n 0 E.t
  have hle := grownCap_le_maxLen w n 0 E.t (by unfold maxLen; omega)
  refine ⟨_, _, hr, ⟨by simp [cells], .inr ⟨w.heap.size, _, _, rfl, Nat.le_refl _, heap_alloc_new w.drew _, Nat.zero_le _, hle, ?_, by simp [cells]⟩⟩, ((Below.refl _ _).drew).alloc (by simp) _, hge, hle⟩
  have hzc : ∀ k : Nat, (Builtin.zeroCells E.z.cells k).size = k * E.k := fun k => by
    rw [← hE.zs]; exact size_zeroCells _ _
  rw [Array.size_append, hzc, hzc, ← Nat.add_mul]
  congr 1; omega
theorem build0P (w : World) : (Instr.buildSlice 22 0 #[]).run Try.prog w = .ok (.slice (some ⟨w.heap.size, 0, none⟩) 0 0) (w.alloc (.cells #[] 50)) := by kernel_rfl
theorem isNilP (c : Nat) (w : World) : (binOp .eql 22 (.slice none 0 c) (.slice none 0 0)).run Try.prog w = .ok (.bool true) w := by kernel_rfl
theorem notNilP (a : Addr) (n c : Nat) (w : World) : (binOp .eql 22 (.slice (some a) n c) (.slice none 0 0)).run Try.prog w = .ok (.bool false) w := by kernel_rfl
set_option maxHeartbeats 800000 in
theorem cloneP_any {w : World} {v : Value} {l : List Pr} (h : SlAt elP w.heap.size w v l) : Calls Try.prog 46 #[v] w fun e w' => ∃ v', e = .returned v' ∧ OwnR elP w.heap.size w' v' l ∧ Below w.heap.size w w' := by
  obtain ⟨ao, cap, rfl, h1, h2, h3⟩ := h
  cases ao with
  | none =>
    have h0 : l = [] := by
      cases l with
      | nil => rfl
      | cons a r => obtain ⟨b, off, e, _⟩ := h3 (by simp); cases e
    subst h0
    have hq := isNilP cap w
    clear h1 h2 h3
    go_enter Try.func46, Try.ntmps46
    go_wp2
    go_ret
    exact ⟨_, rfl, OwnR.nil _ _ _, Below.refl _ _⟩
  | some a =>
    have hbn := below_new w (.cells #[] 50)
    have hz : (w.alloc (.cells #[] 50)).heap.size = w.heap.size + 1 := by simp
    have hx : SlAt elP w.heap.size (w.alloc (.cells #[] 50)) (.slice (some a) l.length cap) l := SlAt.below ⟨_, _, rfl, h1, h2, h3⟩ hbn
    have ho : OwnR elP w.heap.size (w.alloc (.cells #[] 50)) (.slice (some ⟨w.heap.size, 0, none⟩) 0 0) [] := ⟨rfl, .inr ⟨w.heap.size, 0, #[], rfl, Nat.le_refl _, heap_alloc_new w _, Nat.le_refl _, Nat.zero_le _, rfl, rfl⟩⟩
    obtain ⟨v', w', hr, o', b', -, -⟩ := own_app okP ho hx (by rw [List.length_nil, Nat.zero_add]; exact Nat.le_trans h2 (by decide)) (by rw [hz]; omega) 22
    rw [List.nil_append] at o'
    have hb2 := hbn.trans b'
    obtain ⟨va, vm, vc, rfl, -⟩ := o'.form'
    have HB := Lib.hid (build0P w)
    have HR := Lib.hid hr
    have HO := Lib.hid o'
    generalize l.length = n at *
    clear hr o' b' hbn hx ho h1 h2 h3 hz
    obtain ⟨ab, aoff, asp⟩ := a
    have hbs := HB.out
    have hq := notNilP ⟨ab, aoff, asp⟩ n cap w
    go_enter Try.func46, Try.ntmps46
    go_wp2_with (with_reducible refine wpList_append_own rfl (.tmp 5) (.tmp 6) 22 22 rfl (.slice (some ⟨w.heap.size, 0, none⟩) 0 0) (.slice (some ⟨ab, aoff, asp⟩) n cap) (.slice va vm vc) rfl rfl HR.out ?_)
    go_ret
    exact ⟨_, rfl, HO.out, hb2⟩
set_option maxHeartbeats 800000 in
theorem growP_any (w : World) (n : Nat) (hn : n * elP.bytes ≤ 140737488355328) : Calls Try.prog 72 #[.slice none 0 0, .int .i64 n] w fun e w' => ∃ v', e = .returned v' ∧ OwnR elP w.heap.size w' v' [] ∧ Below w.heap.size w w' := by
  have hnb : n ≤ 17592186044416 := by
    have : n * 8 ≤ n * elP.bytes := Nat.mul_le_mul_left n okP.by8
    omega
  have e1 : IntKind.i64.wrap ((n : Int) - 0) = n := by rw [IntKind.wrap_i64]; omega
  by_cases h0 : 0 < n
  · obtain ⟨c, w', hr, o', b', h1, h2⟩ := own_zeros okP w n h0 hn 3 22 .i64 Try.underlying3
    have HR := Lib.hid hr
    have HO := Lib.hid o'
    have hc : c ≤ 9223372036854775807 := by unfold maxLen at h2; omega
    clear hr o' h2 hn
    go_enter Try.func72, Try.ntmps72
    go_wp2_with (with_reducible refine wpList_append_own rfl (.tmp 20) (.tmp 21) 22 3 rfl (.slice none 0 0) (.int .i64 n) (.slice (some ⟨w.heap.size, 0, none⟩) n c) rfl rfl HR.out ?_)
    go_ret
    exact ⟨_, rfl, HO.out, b'⟩
  · obtain rfl : n = 0 := by omega
    go_enter Try.func72, Try.ntmps72
    go_wp2
    go_ret
    exact ⟨_, rfl, OwnR.nil _ _ _, Below.refl _ _⟩
set_option maxHeartbeats 1600000 in
theorem concatP_any {w : World} {v : Value} {q : List (Value × List Pr)} (h : ArgsAt elP w v q) (hq : q.length ≤ 1000) (hlen : lensQ q * elP.bytes ≤ 140737488351232) : Calls Try.prog 49 #[v] w fun e w' => ∃ v', e = .returned v' ∧ OwnR elP w.heap.size w' v' (flatQ q) ∧ Below w.heap.size w w' := by
  obtain ⟨g, off, rfl, hg, hx⟩ := h
  obtain ⟨N, hN⟩ : ∃ N, q.length = N := ⟨_, rfl⟩
  rw [hN] at hq ⊢
  have HN := Lib.hid hN
  have HX := Lib.hid hx
  have HL := Lib.hid hlen
  have hlb : lensQ q ≤ 17592186044416 := by
    have := Nat.mul_le_mul_left (lensQ q) okP.by8
    omega
  have HLB := Lib.hid hlb
  clear hx hN hlen hlb
  go_enter Try.func49, Try.ntmps49
  go_wp2
  go_loopw [3, 11] (fun sv iv wr => ∃ k : Nat, k ≤ N ∧ iv = .int .i64 k ∧ sv = .int .i64 (lensQ (q.take k) : Nat) ∧ Below w.heap.size w wr) (fun _ iv _ => N - (intOf iv).toNat)
  case atStart => exact ⟨0, Nat.zero_le _, rfl, rfl, Below.refl _ _⟩
  case round =>
    obtain ⟨k, hk, rfl, rfl, hb⟩ := hrel
    by_cases hlt : k < N
    · have hlt' : k < q.length := by rw [HN.out]; exact hlt
      have hqk : q[k]? = some q[k] := List.getElem?_eq_getElem hlt'
      obtain ⟨hc, hsl⟩ := HX.out k _ hqk
      have hst := lensQ_take hqk
      have hle := lensQ_le q (k + 1)
      have hbd := HLB.out
      generalize q[k] = x at hc hsl hst
      obtain ⟨xv, xl⟩ := x
      simp only at hc hsl hst
      obtain ⟨xa, xm, xc, rfl, hxm⟩ := hsl.form
      have d1 := (hb.cell (p := ⟨g, off + k, none⟩) hg).trans hc
      rw [hst] at hle
      generalize hS : lensQ (q.take k) = S at *
      rw [← hxm.out] at hst hle
      have hbd2 : S + xm ≤ 17592186044416 := by omega
      have HST := Lib.hid hst
      clear hc hsl hst hle hbd hqk hxm hS
      go_wp2
      go_roundw
      case rel => exact ⟨k + 1, by omega, by go_num, by rw [HST.out]; push_cast; rfl, hb⟩
      case measure => simp [intOf]; omega
    · have hS : lensQ (q.take k) = lensQ q := by rw [List.take_of_length_le (by have := HN.out; omega)]
      rw [hS]
      have gr := growP_any wr (lensQ q) (Nat.le_trans HL.out (by decide))
      obtain ⟨S, hS2⟩ : ∃ S, lensQ q = S := ⟨_, rfl⟩
      rw [hS2] at gr ⊢
      have hsb : S ≤ 17592186044416 := by rw [← hS2]; exact HLB.out
      have HS := Lib.hid hS2
      clear hS hS2 hk
      go_wp2_with fail
      refine Calls.mono gr ?_
      rintro e wg ⟨v', rfl, o', b1⟩
      have hsz := hb.size
      have hb2 := Below.then hb b1 (Nat.le_refl _)
      have o2 : OwnR elP w.heap.size wg v' (flatQ (q.take 0)) := o'.base hsz
      clear gr o' b1 hb
      go_wp2
      go_loopw [6, 27] (fun av iv wr' => ∃ k : Nat, k ≤ N ∧ iv = .int .i64 k ∧ OwnR elP w.heap.size wr' av (flatQ (q.take k)) ∧ Below w.heap.size w wr') (fun _ iv _ => N - (intOf iv).toNat)
      case atStart => exact ⟨0, Nat.zero_le _, rfl, o2, hb2⟩
      case round =>
        clear hb2 o2
        obtain ⟨k, hk, rfl, o3, hb⟩ := hrel
        obtain ⟨va, vm, vc, rfl, hvm⟩ := o3.form'
        by_cases hlt : k < N
        · have hlt' : k < q.length := by rw [HN.out]; exact hlt
          have hqk : q[k]? = some q[k] := List.getElem?_eq_getElem hlt'
          obtain ⟨hc, hsl⟩ := HX.out k _ hqk
          have hst := flatQ_take hqk
          have hstl := lensQ_take hqk
          have hle := lensQ_le q (k + 1)
          have hbd := HL.out
          generalize q[k] = x at hc hsl hst hstl
          obtain ⟨xv, xl⟩ := x
          simp only at hc hsl hst hstl
          have hsl' := (hsl.below hb)
          obtain ⟨xa, xm, xc, rfl, hxm⟩ := hsl.form
          have d1 := (hb.cell (p := ⟨g, off + k, none⟩) hg).trans hc
          obtain ⟨v9, w9, hr9, o9, b9, -, -⟩ := own_app okP o3 hsl' (by
            rw [flatQ_length, ← hstl]
            exact Nat.le_trans (Nat.mul_le_mul_right _ hle) (Nat.le_trans hbd (by decide))) hb.size 22
          rw [← hst] at o9
          obtain ⟨ya, ym, yc, rfl, hym⟩ := o9.form'
          have HR := Lib.hid hr9
          have HO := Lib.hid o9
          have hb9 := hb.trans b9
          clear hr9 o9 b9 o3 hsl hsl' hc hst hstl hle hbd hqk hxm hym hvm hb
          go_wp2_with (with_reducible refine wpList_append_own rfl (.tmp 31) (.tmp 32) 22 22 rfl (.slice va vm vc) (.slice xa xm xc) (.slice ya ym yc) rfl rfl HR.out ?_)
          go_roundw
          case rel => exact ⟨k + 1, by omega, by go_num, HO.out, hb9⟩
          case measure => simp [intOf]; omega
        · have hS : flatQ (q.take k) = flatQ q := by rw [List.take_of_length_le (by have := HN.out; omega)]
          rw [hS] at o3
          have HO := Lib.hid o3
          clear o3 hS hvm
          go_wp2
          go_ret
          exact ⟨_, rfl, HO.out, hb⟩
end Go.Proofs.Ytdkmfcmndncmcaa
