/- An allocator as it lies in memory; the contract of leastFree. No statement of the seat is proved here. -/
import Derived.Test.YtkmaikmbjebjeaaDoorASet
import Derived.BigQuiet
import Derived.Laws.Bits64
import Derived.Deep.Draws
namespace Go.Proofs.YtkmaikmbjebjeaaDoor
set_option maxRecDepth 20000
open Go.RowKit

structure Al where
  n : Nat
  u : Nat → Bool
  l : Nat → Bool
  k : Nat
structure Al.Ok (A : Al) : Prop where
  n1 : 1 ≤ A.n
  n2 : A.n ≤ 4096
  us : ∀ j, A.u j = true → j < A.n
  ls : ∀ j, A.l j = true → j < A.n
  dis : ∀ j, A.u j = true → A.l j = false
  sum : cnt A.u 4096 + cnt A.l 4096 + A.k ≤ A.n
def Al.free (A : Al) : Nat := A.n - cnt A.u 4096 - cnt A.l 4096 - A.k
def SetIn (cs : Array Value) (off : Nat) (f : Nat → Bool) : Prop := ∀ i, i < 64 → cs[off + i]? = some (.int .u64 (wordOf f i : Nat))
/-- THE ALLOCATOR A AT BLOCK ab. -/
def AlAt (w : World) (ab : Nat) (A : Al) : Prop := ∃ cs, w.heap[ab]? = some (.cells cs 51 (0, 0)) ∧ cs.size = 130 ∧ cs[0]? = some (.int .i64 (A.n : Nat)) ∧ SetIn cs 1 A.u ∧ SetIn cs 65 A.l ∧ cs[129]? = some (.int .i64 (A.k : Nat))
theorem AlAt.lt {w : World} {ab : Nat} {A : Al} (h : AlAt w ab A) : ab < w.heap.size := by obtain ⟨cs, hc, _⟩ := h; exact lt_of_heap hc
theorem AlAt.keep {w w' : World} {ab : Nat} {A : Al} (h : AlAt w ab A) (hk : w'.heap[ab]? = w.heap[ab]?) : AlAt w' ab A := by
  obtain ⟨cs, hc, r⟩ := h; exact ⟨cs, hk.trans hc, r⟩
theorem AlAt.below {w w' : World} {ab : Nat} {A : Al} (h : AlAt w ab A) (hb : Below w.heap.size w w') : AlAt w' ab A := h.keep (hb.block _ h.lt)
theorem AlAt.sets {w : World} {ab : Nat} {A : Al} (h : AlAt w ab A) : SetAt w ab 1 A.u ∧ SetAt w ab 65 A.l ∧ w.cell? ⟨ab, 0, none⟩ = some (.int .i64 (A.n : Nat)) ∧ w.cell? ⟨ab, 129, none⟩ = some (.int .i64 (A.k : Nat)) ∧ ∀ i, w.frozen? ⟨ab, i, none⟩ = false := by
  obtain ⟨cs, hc, hs, h0, h1, h2, h3⟩ := h
  exact ⟨fun i hi => cell_row hc _ (h1 i hi), fun i hi => cell_row hc _ (h2 i hi), cell_row hc _ h0, cell_row hc _ h3, free_row hc⟩
theorem AlAt.set1 {w : World} {ab : Nat} {A : Al} (h : AlAt w ab A) (b : Nat) (hb : b < 4096) (v : Bool) : AlAt (w.setCell ⟨ab, 1 + b / 64, none⟩ (.int .u64 (wordOf (setB A.u b v) (b / 64) : Nat))) ab { A with u := setB A.u b v } := by
  obtain ⟨cs, hc, hs, h0, h1, h2, h3⟩ := h
  refine ⟨_, heap_setCell_same w ab _ cs _ _ hc, by simpa using hs, ?_, fun i hi => ?_, fun i hi => ?_, ?_⟩
  · rw [Array.getElem?_setIfInBounds_ne (by omega)]; exact h0
  · by_cases e : i = b / 64
    · subst e
      rw [Array.getElem?_setIfInBounds_self_of_lt (by omega)]
    · rw [Array.getElem?_setIfInBounds_ne (by omega), h1 i hi, wordOf_other e]
  · rw [Array.getElem?_setIfInBounds_ne (by omega)]; exact h2 i hi
  · rw [Array.getElem?_setIfInBounds_ne (by omega)]; exact h3
theorem AlAt.set2 {w : World} {ab : Nat} {A : Al} (h : AlAt w ab A) (b : Nat) (hb : b < 4096) (v : Bool) : AlAt (w.setCell ⟨ab, 65 + b / 64, none⟩ (.int .u64 (wordOf (setB A.l b v) (b / 64) : Nat))) ab { A with l := setB A.l b v } := by
  obtain ⟨cs, hc, hs, h0, h1, h2, h3⟩ := h
  refine ⟨_, heap_setCell_same w ab _ cs _ _ hc, by simpa using hs, ?_, fun i hi => ?_, fun i hi => ?_, ?_⟩
  · rw [Array.getElem?_setIfInBounds_ne (by omega)]; exact h0
  · rw [Array.getElem?_setIfInBounds_ne (by omega)]; exact h1 i hi
  · by_cases e : i = b / 64
    · subst e
      rw [Array.getElem?_setIfInBounds_self_of_lt (by omega)]
    · rw [Array.getElem?_setIfInBounds_ne (by omega), h2 i hi, wordOf_other e]
  · rw [Array.getElem?_setIfInBounds_ne (by omega)]; exact h3
theorem AlAt.setK {w : World} {ab : Nat} {A : Al} (h : AlAt w ab A) (k : Nat) : AlAt (w.setCell ⟨ab, 129, none⟩ (.int .i64 (k : Nat))) ab { A with k := k } := by
  obtain ⟨cs, hc, hs, h0, h1, h2, h3⟩ := h
  refine ⟨_, heap_setCell_same w ab _ cs _ _ hc, by simpa using hs, ?_, fun i hi => ?_, fun i hi => ?_, ?_⟩
  · rw [Array.getElem?_setIfInBounds_ne (by omega)]; exact h0
  · rw [Array.getElem?_setIfInBounds_ne (by omega)]; exact h1 i hi
  · rw [Array.getElem?_setIfInBounds_ne (by omega)]; exact h2 i hi
  · rw [Array.getElem?_setIfInBounds_self_of_lt (by omega)]
/-- the least that is in neither set -/
def LeastF (A : Al) (b : Nat) : Prop := A.u b = false ∧ A.l b = false ∧ ∀ j, j < b → A.u j = true ∨ A.l j = true
theorem LeastF.uniq {A : Al} {b c : Nat} (h : LeastF A b) (g : LeastF A c) : b = c := by
  rcases Nat.lt_trichotomy b c with e | e | e
  · rcases g.2.2 b e with q | q
    · rw [h.1] at q; exact absurd q (by simp)
    · rw [h.2.1] at q; exact absurd q (by simp)
  · exact e
  · rcases h.2.2 c e with q | q
    · rw [g.1] at q; exact absurd q (by simp)
    · rw [g.2.1] at q; exact absurd q (by simp)
theorem ctz_bits {f : Nat → Bool} {b : Nat} (hb : b < 64) (hf : f b = true) (hl : ∀ j, j < b → f j = false) : Lib.ctz 64 (bitsN f 64) = b := by
  have hpos := bitsN_pos (k := 64) hb hf
  obtain ⟨m, hm, hk⟩ := Lib.ctzFrom_spec 64 (bitsN f 64) hpos (bitsN_lt f 64)
  have e : Lib.ctz 64 (bitsN f 64) = Lib.ctzFrom 64 (bitsN f 64) := by unfold Lib.ctz; rw [if_neg (by omega)]
  rw [e]
  generalize Lib.ctzFrom 64 (bitsN f 64) = c at hm hk
  have ht := testBit_bitsN f 64
  rw [hm] at ht
  have hbit : ∀ j, (2 ^ c * (2 * m + 1)).testBit j = (decide (c ≤ j) && (2 * m + 1).testBit (j - c)) := fun j => by
    rw [Nat.mul_comm, Nat.testBit_mul_two_pow]
  rcases Nat.lt_trichotomy b c with h | h | h
  · have := ht b
    rw [hbit b, hf, decide_eq_false (show ¬ c ≤ b by omega), decide_eq_true hb] at this
    simp at this
  · exact h.symm
  · have := ht c
    rw [hbit c, hl c h] at this
    simp at this
theorem u64_not (f : Nat → Bool) : bits BinOp.xor IntKind.u64 (if IntKind.u64.signed = true then -1 else IntKind.u64.max) ((bitsN f 64 : Nat) : Int) = ((bitsN (fun j => !f j) 64 : Nat) : Int) := by
  rw [← bitsN_not]
  have hl := bitsN_lt f 64
  have h := bits_xor_u64_nat 18446744073709551615 (bitsN f 64) (by decide) (by omega)
  have e1 : (if IntKind.u64.signed = true then (-1 : Int) else IntKind.u64.max) = ((18446744073709551615 : Nat) : Int) := by decide
  have e2 : 18446744073709551615 ^^^ bitsN f 64 = 2 ^ 64 - 1 - bitsN f 64 := by
    apply Nat.eq_of_testBit_eq
    intro i
    rw [Nat.testBit_xor, show (18446744073709551615 : Nat) = 2 ^ 64 - 1 from rfl, Nat.testBit_two_pow_sub_one, show 2 ^ 64 - 1 - bitsN f 64 = 2 ^ 64 - (bitsN f 64 + 1) by omega, Nat.testBit_two_pow_sub_succ hl, testBit_bitsN]
    cases decide (i < 64) <;> simp
  rw [e1, h, e2]
set_option maxRecDepth 20000 in
set_option maxHeartbeats 1600000 in
theorem leastFree_any {w : World} {ab : Nat} {A : Al} (h : AlAt w ab A) (hT : tabG w) {b : Nat} (hb : b < 4096) (hlf : LeastF A b) : Calls Tryd.prog 31 #[.pointer (some ⟨ab, 0, none⟩)] w fun e w' => e = .returned (.int .i64 (b : Nat)) ∧ Below w.heap.size w w' := by
  have HL := Lib.hid hlf
  have HH := Lib.hid h
  have HT := Lib.hid hT
  clear h hlf hT
  go_enter Tryd.func31, Tryd.ntmps31
  go_wp2
  go_loopw [5] (fun iv wr => ∃ k : Nat, k ≤ b / 64 ∧ iv = .int .i64 k ∧ Hid (∃ q, wr = w.drewN q)) (fun iv _ => 64 - (intOf iv).toNat)
  case atStart => exact ⟨0, Nat.zero_le _, rfl, Lib.hid ⟨0, rfl⟩⟩
  case round =>
    obtain ⟨k, hk, rfl, hwr⟩ := hrel
    obtain ⟨q, hwr'⟩ := hwr.out
    subst hwr'
    clear hwr
    have hk64 : k < 64 := by omega
    obtain ⟨su, sl, -, -, -⟩ := HH.out.sets
    have c1 : w.cell? ⟨ab, 1 + k, none⟩ = some (.int .u64 (wordOf A.u k : Nat)) := su k hk64
    have c2 : w.cell? ⟨ab, 65 + k, none⟩ = some (.int .u64 (wordOf A.l k : Nat)) := sl k hk64
    have ho := bits_or_u64_nat (wordOf A.u k) (wordOf A.l k) (wordOf_lt _ _) (wordOf_lt _ _)
    rw [show wordOf A.u k ||| wordOf A.l k = bitsN (fun j => A.u (64 * k + j) || A.l (64 * k + j)) 64 from bitsN_or _ _ _] at ho
    have hn := u64_not (fun j => A.u (64 * k + j) || A.l (64 * k + j))
    obtain ⟨z, hz⟩ : ∃ z, bitsN (fun j => !(A.u (64 * k + j) || A.l (64 * k + j))) 64 = z := ⟨_, rfl⟩
    obtain ⟨z', hz'⟩ : ∃ z, bitsN (fun j => A.u (64 * k + j) || A.l (64 * k + j)) 64 = z := ⟨_, rfl⟩
    have hzl : z < 18446744073709551616 := by rw [← hz]; exact bitsN_lt _ _
    rw [hz'] at ho
    rw [hz, hz'] at hn
    have HZ := Lib.hid hz
    generalize wordOf A.u k = x at c1 ho
    generalize wordOf A.l k = y at c2 ho
    clear hz hz' su sl
    by_cases hkb : k = b / 64
    · have hb64 : b % 64 < 64 := by omega
      have hbe : 64 * k + b % 64 = b := by omega
      have hct : Lib.ctz 64 z = b % 64 := by
        rw [← HZ.out]
        refine ctz_bits hb64 ?_ (fun j hj => ?_)
        · rw [hbe, HL.out.1, HL.out.2.1]; rfl
        · have := HL.out.2.2 (64 * k + j) (by omega)
          rcases this with h | h <;> rw [h] <;> simp
      have hz0 : z ≠ 0 := by
        rw [← HZ.out]
        have := bitsN_pos (f := fun j => !(A.u (64 * k + j) || A.l (64 * k + j))) (k := 64) hb64 (by rw [hbe, HL.out.1, HL.out.2.1]; rfl)
        omega
      have htz := fun w' (hT : tabG w') => tz_any z hzl hz0 w' hT
      rw [hct] at htz
      have hzq : ((z : Int) != 0) = true := by simp; omega
      have hsum : (k : Int) * 64 + ((b % 64 : Nat) : Int) = (b : Nat) := by omega
      have HS := Lib.hid hsum
      have hr64 : b % 64 < 64 := hb64
      have HX := Lib.hid hkb
      generalize b % 64 = r at htz HS hr64
      clear hct hz0 hbe hb64 hsum hkb
      go_wp2_with fail
      go_quiet (fail)
      go_wp2_with fail
      refine Calls.mono (htz _ HT.out) ?_
      rintro e _ ⟨rfl, rfl⟩
      clear htz
      go_wp2
      go_ret
      refine ⟨?_, ⟨rfl, rfl, rfl, Nat.le_refl _, fun _ _ => rfl⟩⟩
      rw [← HS.out]
      rfl
    · obtain rfl : z = 0 := by
        rw [← HZ.out]
        refine bitsN_zero (fun j hj => ?_)
        rcases HL.out.2.2 (64 * k + j) (by omega) with h | h <;> rw [h] <;> simp
      go_wp2_with fail
      go_quiet (fail)
      go_wp2
      go_roundw
      case rel => exact ⟨k + 1, by omega, by go_num, Lib.hid ⟨_, rfl⟩⟩
      case measure => simp [intOf]; omega
end Go.Proofs.YtkmaikmbjebjeaaDoor
