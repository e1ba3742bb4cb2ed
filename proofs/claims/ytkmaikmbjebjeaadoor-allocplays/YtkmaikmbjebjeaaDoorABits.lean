/- The contracts of math/bits' OnesCount64 and TrailingZeros64. No statement of the seat is proved here. -/
import Derived.Test.YtkmaikmbjebjeaaDoorAMath
import Derived.Test.YtkmaikmbjebjeaaDoorMem
import Derived.Test.YtkmaikmbjebjeaaDoorChecked
import Derived.Shelf.Spec.TrailingZeros
import Derived.Lib.Hide
namespace Go.Proofs.YtkmaikmbjebjeaaDoor
set_option maxRecDepth 20000
open Go.RowKit

theorem and_lt (a m : Nat) : a &&& m ≤ m := Nat.and_le_right
theorem step1 (x : Nat) (hx : x < 18446744073709551616) : IntKind.u64.wrap (bits BinOp.and IntKind.u64 ((x : Int) / 2) 6148914691236517205 + bits BinOp.and IntKind.u64 (x : Int) 6148914691236517205) = ((s1 8 x : Nat) : Int) := by
  have e0 : ((x : Int) / 2) = ((x / 2 : Nat) : Int) := by omega
  have h1 := bits_and_u64_nat (x / 2) 6148914691236517205 (by omega) (by decide)
  have h2 := bits_and_u64_nat x 6148914691236517205 hx (by decide)
  have r : rep 85 8 = 6148914691236517205 := by decide +kernel
  have l1 := and_lt (x / 2) 6148914691236517205
  have l2 := and_lt x 6148914691236517205
  unfold s1
  rw [e0, r, IntKind.wrap_u64]
  rw [show (6148914691236517205 : Int) = ((6148914691236517205 : Nat) : Int) from rfl, h1, h2]
  omega
theorem step2 (x : Nat) (hx : x < 18446744073709551616) : IntKind.u64.wrap (bits BinOp.and IntKind.u64 ((x : Int) / 4) 3689348814741910323 + bits BinOp.and IntKind.u64 (x : Int) 3689348814741910323) = ((s2 8 x : Nat) : Int) := by
  have e0 : ((x : Int) / 4) = ((x / 4 : Nat) : Int) := by omega
  have h1 := bits_and_u64_nat (x / 4) 3689348814741910323 (by omega) (by decide)
  have h2 := bits_and_u64_nat x 3689348814741910323 hx (by decide)
  have r : rep 51 8 = 3689348814741910323 := by decide +kernel
  have l1 := and_lt (x / 4) 3689348814741910323
  have l2 := and_lt x 3689348814741910323
  unfold s2
  rw [e0, r, IntKind.wrap_u64]
  rw [show (3689348814741910323 : Int) = ((3689348814741910323 : Nat) : Int) from rfl, h1, h2]
  omega
theorem step3 (x : Nat) (hx : x ≤ 7378697629483820646) : bits BinOp.and IntKind.u64 (IntKind.u64.wrap ((x : Int) / 16 + (x : Int))) 1085102592571150095 = ((s3 8 x : Nat) : Int) := by
  have e0 : IntKind.u64.wrap ((x : Int) / 16 + (x : Int)) = ((x / 16 + x : Nat) : Int) := by rw [IntKind.wrap_u64]; omega
  have h1 := bits_and_u64_nat (x / 16 + x) 1085102592571150095 (by omega) (by decide)
  have r : rep 15 8 = 1085102592571150095 := by decide +kernel
  unfold s3
  rw [e0, r, show (1085102592571150095 : Int) = ((1085102592571150095 : Nat) : Int) from rfl, h1]
theorem s1_lt (x : Nat) : s1 8 x < 18446744073709551616 := by
  have r : rep 85 8 = 6148914691236517205 := by decide +kernel
  unfold s1; rw [r]
  have l1 := and_lt (x / 2) 6148914691236517205
  have l2 := and_lt x 6148914691236517205
  omega
theorem s2_le (x : Nat) : s2 8 x ≤ 7378697629483820646 := by
  have r : rep 51 8 = 3689348814741910323 := by decide +kernel
  unfold s2; rw [r]
  have l1 := and_lt (x / 4) 3689348814741910323
  have l2 := and_lt x 3689348814741910323
  omega
theorem s3_le (x : Nat) : s3 8 x ≤ 1085102592571150095 := by
  have r : rep 15 8 = 1085102592571150095 := by decide +kernel
  unfold s3; rw [r]
  exact and_lt _ _
theorem low7 (z : Nat) (h : z < 9223372036854775808) : bits BinOp.and IntKind.i64 (wrap64 (z : Int)) 127 = ((z % 128 : Nat) : Int) := by
  have e : wrap64 (z : Int) = (z : Int) := by unfold wrap64; omega
  rw [e]
  have h1 : (BitVec.ofInt 64 (z : Int)).toNat = z := by
    rw [BitVec.ofInt_natCast, BitVec.toNat_ofNat]; exact Nat.mod_eq_of_lt (by omega)
  show IntKind.i64.wrap ((BitVec.ofInt 64 (z : Int) &&& BitVec.ofInt 64 (127 : Int)).toNat : Int) = _
  have h2 : (BitVec.ofInt 64 (127 : Int)).toNat = 127 := by decide
  have h3 : z &&& 127 = z % 128 := Nat.and_two_pow_sub_one_eq_mod z 7
  rw [BitVec.toNat_and, h1, h2, h3, IntKind.wrap_i64]
  omega
set_option maxRecDepth 20000 in
set_option maxHeartbeats 1000000 in
theorem ones_any (x : Nat) (hx : x < 18446744073709551616) (w : World) : Calls Tryd.prog 37 #[.int .u64 (x : Nat)] w fun e w' => e = .returned (.int .i64 (Lib.onesCount x : Nat)) ∧ w = w' := by
  obtain ⟨y, y1, y2, hy, h1, h2, h3, h4⟩ := pop_all x hx
  have k3 := s3_le (s2 8 (s1 8 x))
  rw [← hy] at k3
  have q1 : IntKind.u64.wrap ((y : Int) + (y : Int) / 256) = (y1 : Int) := by rw [IntKind.wrap_u64]; omega
  have q2 : IntKind.u64.wrap ((y1 : Int) + (y1 : Int) / 65536) = (y2 : Int) := by rw [IntKind.wrap_u64]; omega
  have q3 : IntKind.u64.wrap ((y2 : Int) + (y2 : Int) / 4294967296) = ((y2 + y2 / 4294967296 : Nat) : Int) := by rw [IntKind.wrap_u64]; omega
  have E1 := Lib.hid (step1 x hx)
  have E2 := Lib.hid (step2 (s1 8 x) (s1_lt x))
  have E3 := Lib.hid (step3 (s2 8 (s1 8 x)) (s2_le _))
  have HY := Lib.hid hy
  have Q1 := Lib.hid q1
  have Q2 := Lib.hid q2
  have Q3 := Lib.hid q3
  have H3 := Lib.hid h3
  have H4 := Lib.hid h4
  clear q1 q2 q3 h1 h2 h3 h4 hy k3
  go_enter Tryd.func37, Tryd.ntmps37
  go_wp2_with fail
  go_ret
  simp only [E1.out, E2.out, E3.out, ← HY.out, Q1.out, Q2.out, Q3.out]
  refine ⟨?_, trivial⟩
  rw [← H3.out]
  have H4' := H4.out
  generalize y2 + y2 / 4294967296 = z at H4' ⊢
  have ez : bits BinOp.and IntKind.i64 (wrap64 (z : Int)) 127 = ((z % 128 : Nat) : Int) := low7 z H4'
  show Ending.returned (Value.int IntKind.i64 (bits BinOp.and IntKind.i64 (wrap64 (z : Int)) 127)) = _
  rw [ez]
def tabG (w : World) : Prop := TabAt 0 Lib.deBruijn64tab w
set_option maxRecDepth 20000 in
set_option maxHeartbeats 1000000 in
theorem tz_core (x k idx : Nat) (w : World) (hx0 : ((x : Int) == 0) = false)
    (key : IntKind.u64.wrap (bits BinOp.and IntKind.u64 (x : Int) (IntKind.u64.wrap (-(x : Int))) * 285870213051353865) / 288230376151711744 = (idx : Int))
    (hi : idx < 64) (hk : k < 64) (hcell : w.cell? ⟨0, idx, none⟩ = some (.int .u8 k)) : Calls Tryd.prog 38 #[.int .u64 (x : Nat)] w fun e w' => e = .returned (.int .i64 (k : Nat)) ∧ w = w' := by
  go_enter Tryd.func38, Tryd.ntmps38
  go_wp2_with (simp only [key])
  go_ret
  exact ⟨rfl, rfl⟩
theorem tz_any (x : Nat) (hx : x < 18446744073709551616) (hx0 : x ≠ 0) (w : World) (hT : tabG w) : Calls Tryd.prog 38 #[.int .u64 (x : Nat)] w fun e w' => e = .returned (.int .i64 (Lib.ctz 64 x : Nat)) ∧ w = w' := by
  obtain ⟨hlow, hk⟩ := Lib.lowest_bit 64 x hx0 hx
  obtain ⟨hi, htab⟩ := Lib.deBruijn64_at _ hk
  have hcell := hT _ hi
  rw [htab] at hcell
  exact tz_core x _ _ w (by simp; omega) (tz64_key x _ hx hx0 hlow) hi hk hcell
end Go.Proofs.YtkmaikmbjebjeaaDoor
