/- A set of blocks as it lies in memory: words of bits; the contracts of has, add, drop, count. No statement of the seat is proved here. -/
import Derived.Test.YtkmaikmbjebjeaaDoorABits
import Derived.Test.YtkmaikmbjebjeaaDoorFill
namespace Go.Proofs.YtkmaikmbjebjeaaDoor
set_option maxRecDepth 20000
open Go.RowKit

def wordOf (f : Nat → Bool) (i : Nat) : Nat := bitsN (fun j => f (64 * i + j)) 64
theorem wordOf_lt (f : Nat → Bool) (i : Nat) : wordOf f i < 18446744073709551616 := bitsN_lt _ 64
def setB (f : Nat → Bool) (b : Nat) (v : Bool) : Nat → Bool := fun j => if j = b then v else f j
theorem wordOf_other {f : Nat → Bool} {b i : Nat} {v : Bool} (h : i ≠ b / 64) : wordOf (setB f b v) i = wordOf f i :=
  bitsN_congr (fun j hj => if_neg (by omega))
theorem wordOf_add (f : Nat → Bool) (b : Nat) : wordOf (setB f b true) (b / 64) = wordOf f (b / 64) ||| 2 ^ (b % 64) := by
  rw [← bitsN_one (k := 64) (j := b % 64) (by omega)]
  unfold wordOf
  rw [bitsN_or]
  refine bitsN_congr (fun j hj => ?_)
  unfold setB
  by_cases e : j = b % 64
  · rw [if_pos (by omega)]; simp [e]
  · rw [if_neg (by omega)]; simp [e]
theorem wordOf_drop (f : Nat → Bool) (b : Nat) : wordOf (setB f b false) (b / 64) = wordOf f (b / 64) &&& (2 ^ 64 - 1 - 2 ^ (b % 64)) := by
  rw [← bitsN_one (k := 64) (j := b % 64) (by omega), bitsN_not]
  unfold wordOf
  rw [bitsN_and]
  refine bitsN_congr (fun j hj => ?_)
  unfold setB
  by_cases e : j = b % 64
  · rw [if_pos (by omega)]; simp [e]
  · rw [if_neg (by omega)]; simp [e]
theorem wordOf_bit (f : Nat → Bool) (b : Nat) : wordOf f (b / 64) / 2 ^ (b % 64) % 2 = if f b then 1 else 0 := by
  have h := testBit_bitsN (fun j => f (64 * (b / 64) + j)) 64 (b % 64)
  rw [Nat.testBit_eq_decide_div_mod_eq] at h
  have e : 64 * (b / 64) + b % 64 = b := by omega
  simp only [e] at h
  have hlt : b % 64 < 64 := by omega
  simp only [hlt, decide_true, Bool.true_and] at h
  unfold wordOf
  cases hf : f b
  · rw [hf] at h
    have := of_decide_eq_false h
    simp; omega
  · rw [hf] at h
    have := of_decide_eq_true h
    simpa using this
/-- a set at a place of a block -/
def SetAt (w : World) (b off : Nat) (f : Nat → Bool) : Prop := ∀ i, i < 64 → w.cell? ⟨b, off + i, none⟩ = some (.int .u64 (wordOf f i : Nat))
set_option maxRecDepth 20000 in
set_option maxHeartbeats 800000 in
theorem has_any {w : World} {ab off : Nat} {f : Nat → Bool} (h : SetAt w ab off f) (b : Nat) (hb : b < 4096) : Calls Tryd.prog 28 #[.pointer (some ⟨ab, off, none⟩), .int .i64 (b : Nat)] w fun e w' => e = .returned (.bool (f b)) ∧ w = w' := by
  have hq : (b : Int).tdiv 64 = ((b / 64 : Nat) : Int) := by rw [Int.tdiv_eq_ediv_of_nonneg (by omega)]; omega
  have hr : (b : Int).tmod 64 = ((b % 64 : Nat) : Int) := by rw [Int.tmod_eq_emod_of_nonneg (by omega)]; omega
  have hc := h (b / 64) (by omega)
  have hx := wordOf_lt f (b / 64)
  have HB := Lib.hid (wordOf_bit f b)
  have hq64 : b / 64 < 64 := by omega
  have hr64 : b % 64 < 64 := by omega
  generalize wordOf f (b / 64) = x at hc hx HB
  generalize b / 64 = q at hq hc hq64
  generalize b % 64 = r at hr HB hr64
  go_enter Tryd.func28, Tryd.ntmps28
  go_wp2
  go_ret
  refine ⟨?_, rfl⟩
  have h1 : (x : Int) / 2 ^ r = ((x / 2 ^ r : Nat) : Int) := by rw [Int.natCast_ediv, Int.natCast_pow]; rfl
  have hle : x / 2 ^ r ≤ x := Nat.div_le_self _ _
  have h2 := bits_and_u64_nat (x / 2 ^ r) 1 (by omega) (by decide)
  have h3 : x / 2 ^ r &&& 1 = x / 2 ^ r % 2 := Nat.and_one_is_mod _
  have h4 := HB.out
  show Ending.returned (Value.bool (bits BinOp.and IntKind.u64 ((x : Int) / 2 ^ r) 1 == 1)) = _
  rw [h1, show (1 : Int) = ((1 : Nat) : Int) from rfl, h2, h3, h4]
  cases f b <;> rfl
theorem bits_andNot_u64_nat (a b : Nat) (ha : a < 18446744073709551616) (hb : b < 18446744073709551616) : bits .andNot .u64 (a : Int) (b : Int) = ((a &&& (2 ^ 64 - 1 - b) : Nat) : Int) := by
  have h1 : ∀ n : Nat, n < 18446744073709551616 → (BitVec.ofInt 64 (n : Int)).toNat = n := fun n hn => by
    rw [BitVec.ofInt_natCast, BitVec.toNat_ofNat]; exact Nat.mod_eq_of_lt (by omega)
  show IntKind.u64.wrap ((BitVec.ofInt 64 (a : Int) &&& ~~~ BitVec.ofInt 64 (b : Int)).toNat : Int) = _
  have h2 : (~~~ BitVec.ofInt 64 (b : Int)).toNat = 2 ^ 64 - 1 - b := by rw [BitVec.toNat_not, h1 b hb]
  rw [BitVec.toNat_and, h1 a ha, h2, IntKind.wrap_u64]
  have : a &&& (2 ^ 64 - 1 - b) ≤ a := Nat.and_le_left
  omega
/-- What add and drop make of a set. -/
def SetPost (w : World) (ab off : Nat) (x : Nat) (q : Nat) (e : Ending) (w' : World) : Prop := e = .returned (.tuple #[]) ∧ w' = (w.setCell ⟨ab, off + q, none⟩ (.int .u64 (x : Nat))).drew
set_option maxRecDepth 20000 in
set_option maxHeartbeats 1600000 in
theorem add_raw {w : World} {ab off : Nat} {f : Nat → Bool} (h : SetAt w ab off f) (hfz : ∀ i, w.frozen? ⟨ab, i, none⟩ = false) (b : Nat) (hb : b < 4096) : Calls Tryd.prog 30 #[.pointer (some ⟨ab, off, none⟩), .int .i64 (b : Nat)] w (SetPost w ab off (wordOf (setB f b true) (b / 64)) (b / 64)) := by
  have hq : (b : Int).tdiv 64 = ((b / 64 : Nat) : Int) := by rw [Int.tdiv_eq_ediv_of_nonneg (by omega)]; omega
  have hr : (b : Int).tmod 64 = ((b % 64 : Nat) : Int) := by rw [Int.tmod_eq_emod_of_nonneg (by omega)]; omega
  have hc := h (b / 64) (by omega)
  have hx := wordOf_lt f (b / 64)
  have hy := wordOf_lt (setB f b true) (b / 64)
  have HW := Lib.hid (wordOf_add f b)
  have hq64 : b / 64 < 64 := by omega
  have hr64 : b % 64 < 64 := by omega
  generalize wordOf f (b / 64) = x at hc hx HW
  generalize wordOf (setB f b true) (b / 64) = y at hy HW ⊢
  generalize b / 64 = q at hq hc hq64 ⊢
  generalize b % 64 = r at hr HW hr64
  have hp : 2 ^ r < 18446744073709551616 := Nat.lt_of_lt_of_le (Nat.pow_lt_pow_right (by decide) hr64) (by decide)
  have hpi : (2 : Int) ^ r = ((2 ^ r : Nat) : Int) := by rw [Int.natCast_pow]; rfl
  have h1 : IntKind.u64.wrap (2 ^ r) = 2 ^ r := by rw [IntKind.wrap_u64, hpi]; generalize 2 ^ r = P at hp ⊢; omega
  have h2 : bits BinOp.or IntKind.u64 (x : Int) (2 ^ r) = (y : Nat) := by rw [hpi, bits_or_u64_nat x (2 ^ r) hx hp, HW.out]
  have hfq := hfz (off + q)
  have H2 := Lib.hid h2
  clear h HW hfz h2 hpi
  go_enter Tryd.func30, Tryd.ntmps30
  go_wp2_with fail
  go_region
  go_returns
  refine ⟨rfl, ?_⟩
  rw [← H2.out]
set_option maxRecDepth 20000 in
set_option maxHeartbeats 1600000 in
theorem drop_raw {w : World} {ab off : Nat} {f : Nat → Bool} (h : SetAt w ab off f) (hfz : ∀ i, w.frozen? ⟨ab, i, none⟩ = false) (b : Nat) (hb : b < 4096) : Calls Tryd.prog 29 #[.pointer (some ⟨ab, off, none⟩), .int .i64 (b : Nat)] w (SetPost w ab off (wordOf (setB f b false) (b / 64)) (b / 64)) := by
  have hq : (b : Int).tdiv 64 = ((b / 64 : Nat) : Int) := by rw [Int.tdiv_eq_ediv_of_nonneg (by omega)]; omega
  have hr : (b : Int).tmod 64 = ((b % 64 : Nat) : Int) := by rw [Int.tmod_eq_emod_of_nonneg (by omega)]; omega
  have hc := h (b / 64) (by omega)
  have hx := wordOf_lt f (b / 64)
  have hy := wordOf_lt (setB f b false) (b / 64)
  have HW := Lib.hid (wordOf_drop f b)
  have hq64 : b / 64 < 64 := by omega
  have hr64 : b % 64 < 64 := by omega
  generalize wordOf f (b / 64) = x at hc hx HW
  generalize wordOf (setB f b false) (b / 64) = y at hy HW ⊢
  generalize b / 64 = q at hq hc hq64 ⊢
  generalize b % 64 = r at hr HW hr64
  have hp : 2 ^ r < 18446744073709551616 := Nat.lt_of_lt_of_le (Nat.pow_lt_pow_right (by decide) hr64) (by decide)
  have hpi : (2 : Int) ^ r = ((2 ^ r : Nat) : Int) := by rw [Int.natCast_pow]; rfl
  have h1 : IntKind.u64.wrap (2 ^ r) = 2 ^ r := by rw [IntKind.wrap_u64, hpi]; generalize 2 ^ r = P at hp ⊢; omega
  have h2 : bits BinOp.andNot IntKind.u64 (x : Int) (2 ^ r) = (y : Nat) := by rw [hpi, bits_andNot_u64_nat x (2 ^ r) hx hp, HW.out]
  have hfq := hfz (off + q)
  have H2 := Lib.hid h2
  clear h HW hfz h2 hpi
  go_enter Tryd.func29, Tryd.ntmps29
  go_wp2_with fail
  go_region
  go_returns
  refine ⟨rfl, ?_⟩
  rw [← H2.out]
set_option maxRecDepth 20000 in
set_option maxHeartbeats 1600000 in
theorem count_any {w : World} {ab off : Nat} {f : Nat → Bool} (h : SetAt w ab off f) : Calls Tryd.prog 26 #[.pointer (some ⟨ab, off, none⟩)] w fun e w' => e = .returned (.int .i64 (cnt f 4096 : Nat)) ∧ w = w' := by
  go_enter Tryd.func26, Tryd.ntmps26
  go_wp2
  go_loopw [3, 7] (fun nv iv wr => ∃ k : Nat, k ≤ 64 ∧ iv = .int .i64 k ∧ nv = .int .i64 (cnt f (64 * k) : Nat) ∧ wr = w) (fun _ iv _ => 64 - (intOf iv).toNat)
  case atStart => exact ⟨0, Nat.zero_le _, rfl, rfl, rfl⟩
  case round =>
    obtain ⟨k, hk, rfl, rfl, rfl⟩ := hrel
    have hle := cnt_le f (64 * k)
    by_cases hlt : k < 64
    · have hc := h k hlt
      have ho := ones_any (wordOf f k) (wordOf_lt f k) wr
      rw [show Lib.onesCount (wordOf f k) = cnt (fun j => f (64 * k + j)) 64 from onesCount_bits _] at ho
      have hs := cnt_words f k
      have hle2 := cnt_le (fun j => f (64 * k + j)) 64
      generalize cnt (fun j => f (64 * k + j)) 64 = y at ho hs hle2
      have HS := Lib.hid hs
      clear hs
      generalize cnt f (64 * k) = z at hle HS
      go_wp2_with fail
      refine Calls.mono ho ?_
      rintro e _ ⟨rfl, rfl⟩
      go_wp2
      go_roundw
      case rel => exact ⟨k + 1, by omega, by go_num, by rw [HS.out]; go_num, trivial⟩
      case measure => simp [intOf]; omega
    · obtain rfl : k = 64 := by omega
      go_wp2
      go_ret
      exact ⟨rfl, rfl⟩
end Go.Proofs.YtkmaikmbjebjeaaDoor
