/- The contracts of what tells a node's form: isKey, rising, formed and what they call. No statement of the seat is proved here. -/
import Derived.Test.YtdkmfcmndncmcaaNSteps
import Derived.Lib.Bytealg
namespace Go.Proofs.Ytdkmfcmndncmcaa
set_option maxRecDepth 20000
open Go.RowKit

abbrev prV (x : Pr) : Value := .agg #[.string x.k, .string x.v]
abbrev prO (x : Pr) : Obj := .cells #[.string x.k, .string x.v] 50
theorem isKey_any (s : ByteArray) (w : World) : Calls Try.prog 53 #[.string s] w fun e w' => e = .returned (.bool (okK s)) ∧ w' = w := by
  unfold okK
  by_cases h1 : 1 ≤ s.size
  · rw [decide_eq_true h1]
    by_cases h2 : s.size ≤ 32
    · rw [decide_eq_true h2]
      go_enter Try.func53, Try.ntmps53
      go_wp2
      go_ret
      refine ⟨?_, rfl⟩
      show Ending.returned (.bool (decide ((s.size : Int) ≤ 32))) = _
      rw [decide_eq_true (by omega : (s.size : Int) ≤ 32)]; rfl
    · rw [decide_eq_false h2]
      go_enter Try.func53, Try.ntmps53
      go_wp2
      go_ret
      refine ⟨?_, rfl⟩
      show Ending.returned (.bool (decide ((s.size : Int) ≤ 32))) = _
      rw [decide_eq_false (by omega : ¬ (s.size : Int) ≤ 32)]; rfl
  · rw [decide_eq_false h1]
    go_enter Try.func53, Try.ntmps53
    go_wp2
    go_ret
    exact ⟨rfl, rfl⟩
theorem longValue_any (x : Pr) (w : World) : Calls Try.prog 59 #[prV x] w fun e w' => e = .returned (.bool (decide (48 < x.v.size))) ∧ Below w.heap.size w w' := by
  obtain ⟨xk, xv⟩ := x
  have hb := (Below.refl w.heap.size w).alloc (Nat.le_refl _) (prO ⟨xk, xv⟩)
  go_enter Try.func59, Try.ntmps59
  go_wp2
  go_ret
  refine ⟨?_, hb⟩
  rw [show decide ((48 : Int) < (xv.size : Int)) = decide (48 < xv.size) from decide_eq_decide.2 (by omega)]
  rfl
theorem ofPair_any (x : Pr) (w : World) : Calls Try.prog 42 #[prV x] w fun e w' => e = .returned (.string x.k) ∧ Below w.heap.size w w' := by
  obtain ⟨xk, xv⟩ := x
  have hb := (Below.refl w.heap.size w).alloc (Nat.le_refl _) (prO ⟨xk, xv⟩)
  go_enter Try.func42, Try.ntmps42
  go_wp2
  go_ret
  exact ⟨rfl, hb⟩
theorem itself_any (s : ByteArray) (w : World) : Calls Try.prog 44 #[.string s] w fun e w' => e = .returned (.string s) ∧ w' = w := by
  go_enter Try.func44, Try.ntmps44
  go_wp2
  go_ret
  exact ⟨rfl, rfl⟩
def badI (z : Int) : Bool := decide (z < 1) || decide (65535 < z)
theorem noKid_any (z : Int) (w : World) : Calls Try.prog 62 #[.int .i64 z] w fun e w' => e = .returned (.bool (badI z)) ∧ w' = w := by
  unfold badI
  by_cases h1 : z < 1
  · rw [decide_eq_true h1]
    go_enter Try.func62, Try.ntmps62
    go_wp2
    go_ret
    exact ⟨rfl, rfl⟩
  · rw [decide_eq_false h1]
    go_enter Try.func62, Try.ntmps62
    go_wp2
    go_ret
    exact ⟨by simp, rfl⟩
theorem snoc_true {p : Nat → Bool} {k : Nat} (h : ∀ j, j < k → p j = true) (hk : p k = true) : ∀ j, j < k + 1 → p j = true := fun j hj => by
  by_cases e : j = k
  · rw [e]; exact hk
  · exact h j (by omega)
set_option maxHeartbeats 1600000 in
theorem risingS_any {w : World} {v : Value} {l : List ByteArray} (h : SlAt elS w.heap.size w v l) : Calls Try.prog 60 #[v, .func (.func 44) #[] #[]] w fun e w' => e = .returned (.bool (risB l)) ∧ Below w.heap.size w w' := by
  obtain ⟨ao, m, cap, rfl, hm⟩ := h.form
  have H := Lib.hid h
  have hml := h.len okS
  rw [← hm.out] at hml
  clear h
  go_enter Try.func60, Try.ntmps60
  go_wp2
  go_loopw [9] (fun iv wr => ∃ k : Nat, k ≤ m ∧ iv = .int .i64 k ∧ Hid (∀ j, j < k → risAt l j = true) ∧ Below w.heap.size w wr) (fun iv _ => m - (intOf iv).toNat)
  case atStart => exact ⟨0, Nat.zero_le _, rfl, Lib.hid (fun j hj => by omega), Below.refl _ _⟩
  case round =>
    obtain ⟨k, hk, rfl, hf, hb⟩ := hrel
    by_cases hlt : k < m
    · have hlt' : k < l.length := by rw [← hm.out]; exact hlt
      obtain ⟨b, off, cap', hv, hB, hc⟩ := H.out.getS hlt'
      obtain ⟨rfl, -, rfl⟩ : ao = some ⟨b, off, none⟩ ∧ m = l.length ∧ cap = cap' := by cases hv; exact ⟨rfl, rfl, rfl⟩
      have d1 := (hb.cell (p := ⟨b, off + k, none⟩) hB).trans hc
      have hfd : risAt l k = (okK (kAt l k) && (decide (k = 0) || ltS (kAt l (k - 1)) (kAt l k))) := rfl
      clear hv hc
      cases hK : okK (kAt l k)
      · rw [hK] at hfd
        have HF := Lib.hid (risB_false hlt' hfd)
        generalize kAt l k = x at *
        have ci := isKey_any x wr
        rw [hK] at ci
        clear hfd hK
        go_wp2_with fail
        refine Calls.mono (itself_any x _) ?_
        rintro e _ ⟨rfl, rfl⟩
        go_wp2_with fail
        refine Calls.mono ci ?_
        rintro e _ ⟨rfl, rfl⟩
        go_wp2
        go_ret
        exact ⟨by rw [HF.out]; rfl, hb⟩
      · rw [hK, Bool.true_and] at hfd
        by_cases h0 : k = 0
        · have HF := Lib.hid (snoc_true hf.out (by rw [hfd, decide_eq_true h0]; rfl))
          have n0 : ¬ (0 : Int) < (k : Int) := by omega
          have HK := Lib.hid h0
          clear h0
          generalize kAt l k = x at *
          have ci := isKey_any x wr
          rw [hK] at ci
          clear hfd hK hf
          go_wp2_with fail
          refine Calls.mono (itself_any x _) ?_
          rintro e _ ⟨rfl, rfl⟩
          go_wp2_with fail
          refine Calls.mono ci ?_
          rintro e _ ⟨rfl, rfl⟩
          go_wp2
          go_roundw
          case rel => exact ⟨k + 1, by omega, by go_num, HF, hb⟩
          case measure => simp [intOf]; omega
        · have hk1 : k - 1 < l.length := by omega
          obtain ⟨b', off', cap'', hv, hB', hc⟩ := H.out.getS hk1
          obtain ⟨rfl, rfl, -⟩ : b = b' ∧ off = off' ∧ True := by cases hv; exact ⟨rfl, rfl, trivial⟩
          have d0 := (hb.cell (p := ⟨b, off + (k - 1), none⟩) hB').trans hc
          rw [decide_eq_false h0, Bool.false_or] at hfd
          have hR : risAt l k = false ∨ risAt l k = true := by cases risAt l k <;> simp
          have RF := Lib.hid (fun (q : ltS (kAt l (k - 1)) (kAt l k) = false) => risB_false hlt' (hfd.trans q))
          have RT := Lib.hid (fun (q : ltS (kAt l (k - 1)) (kAt l k) = true) => snoc_true hf.out (hfd.trans q))
          obtain ⟨j, rfl⟩ : ∃ j, k = j + 1 := ⟨k - 1, by omega⟩
          have ej : j + 1 - 1 = j := rfl
          rw [ej] at d0
          have RF' : Hid (ltS (kAt l j) (kAt l (j + 1)) = false → risB l = false) := RF
          have RT' : Hid (ltS (kAt l j) (kAt l (j + 1)) = true → ∀ i, i < j + 1 + 1 → risAt l i = true) := RT
          have hw : IntKind.i64.wrap (((j + 1 : Nat) : Int) - 1) = (j : Int) := by rw [IntKind.wrap_i64]; omega
          clear RF RT hfd hf hR hv hc
          generalize kAt l (j + 1) = x at *
          generalize kAt l j = y at *
          have ci := isKey_any x wr
          rw [hK] at ci
          clear hK
          cases hL : ltS y x
          · have hL' : Op.bytesLess y.toList x.toList = false := hL
            have HF := Lib.hid (RF'.out hL)
            clear hL RF' RT'
            go_wp2_with fail
            refine Calls.mono (itself_any x _) ?_
            rintro e _ ⟨rfl, rfl⟩
            go_wp2_with fail
            refine Calls.mono ci ?_
            rintro e _ ⟨rfl, rfl⟩
            go_wp2_with fail
            refine Calls.mono (itself_any y _) ?_
            rintro e _ ⟨rfl, rfl⟩
            go_wp2_with fail
            refine Calls.mono (itself_any x _) ?_
            rintro e _ ⟨rfl, rfl⟩
            go_wp2
            go_ret
            exact ⟨by rw [HF.out]; rfl, hb⟩
          · have hL' : Op.bytesLess y.toList x.toList = true := hL
            have HF := Lib.hid (RT'.out hL)
            clear hL RF' RT'
            go_wp2_with fail
            refine Calls.mono (itself_any x _) ?_
            rintro e _ ⟨rfl, rfl⟩
            go_wp2_with fail
            refine Calls.mono ci ?_
            rintro e _ ⟨rfl, rfl⟩
            go_wp2_with fail
            refine Calls.mono (itself_any y _) ?_
            rintro e _ ⟨rfl, rfl⟩
            go_wp2_with fail
            refine Calls.mono (itself_any x _) ?_
            rintro e _ ⟨rfl, rfl⟩
            go_wp2
            go_roundw
            case rel => exact ⟨j + 1 + 1, by omega, by go_num, HF, hb⟩
            case measure => simp [intOf]; omega
    · have ht := Lib.hid (risB_true (l := l) (fun i hi => hf.out i (by have := hm.out; omega)))
      clear hf
      go_wp2
      go_ret
      exact ⟨by rw [ht.out]; rfl, hb⟩
end Go.Proofs.Ytdkmfcmndncmcaa
