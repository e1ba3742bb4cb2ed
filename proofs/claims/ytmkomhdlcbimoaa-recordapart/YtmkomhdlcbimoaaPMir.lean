/- The checksum the other way round: its mathematics, and the contracts of the document's own mirror, Crc, Seal, DocOpen. No statement of the seat is proved here. -/
import Derived.Test.YtmkomhdlcbimoaaPRef2
namespace Go.Proofs.Ytmkomhdlcbimoaa
set_option maxRecDepth 20000
open Go.RowKit

def mir (x : Nat) : Nat → Nat
  | 0 => 0
  | k + 1 => 2 * mir x k + x / 2 ^ k % 2
theorem testBit_two (m b j : Nat) (hb : b < 2) : (2 * m + b).testBit j = if j = 0 then decide (b = 1) else m.testBit (j - 1) := by
  cases j with
  | zero => rw [Nat.testBit_zero, if_pos rfl]; congr 1; rw [eq_iff_iff]; omega
  | succ j => rw [Nat.testBit_succ, if_neg (by omega), show (2 * m + b) / 2 = m by omega]; rfl
theorem mir_bit (x k j : Nat) : (mir x k).testBit j = (decide (j < k) && x.testBit (k - 1 - j)) := by
  induction k generalizing j with
  | zero => simp [mir]
  | succ k ih =>
    rw [mir, testBit_two _ _ _ (Nat.mod_lt _ (by decide))]
    split
    · rename_i h; subst h
      rw [Nat.testBit_eq_decide_div_mod_eq]; simp
    · rename_i h
      rw [ih]
      have e1 : decide (j - 1 < k) = decide (j < k + 1) := by congr 1; rw [eq_iff_iff]; omega
      rw [e1, show k - 1 - (j - 1) = k + 1 - 1 - j by omega]
theorem mir_lt (x k : Nat) : mir x k < 2 ^ k := by
  induction k with
  | zero => simp [mir]
  | succ k ih => rw [mir, Nat.pow_succ]; have : x / 2 ^ k % 2 < 2 := Nat.mod_lt _ (by decide); omega
theorem mir_xor (a b k : Nat) : mir (a ^^^ b) k = mir a k ^^^ mir b k := by
  apply Nat.eq_of_testBit_eq; intro j
  rw [Nat.testBit_xor, mir_bit, mir_bit, mir_bit, Nat.testBit_xor]
  cases decide (j < k) <;> simp
theorem bit_high {s j : Nat} (hs : s < 4294967296) (hj : 32 ≤ j) : s.testBit j = false := by
  apply Nat.testBit_lt_two_pow
  exact Nat.lt_of_lt_of_le hs (by have := Nat.pow_le_pow_right (show 0 < 2 by decide) hj; exact this)
theorem mir_mir {s : Nat} (hs : s < 4294967296) : mir (mir s 32) 32 = s := by
  apply Nat.eq_of_testBit_eq; intro j
  rw [mir_bit, mir_bit]
  by_cases h : j < 32
  · have h1 : 32 - 1 - j < 32 := by omega
    rw [show 32 - 1 - (32 - 1 - j) = j by omega]
    simp [h, h1]
  · have := bit_high hs (show 32 ≤ j by omega)
    simp [h, this]
def refBit (r : Nat) : Nat := if 2 * r / 4294967296 ≠ 0 then (2 * r) ^^^ 4374732215 else 2 * r
theorem two_mir {s : Nat} (hs : s < 4294967296) : 2 * mir s 32 = mir (s / 2) 32 ^^^ (if s % 2 = 1 then 4294967296 else 0) := by
  apply Nat.eq_of_testBit_eq; intro j
  have e0 : 2 * mir s 32 = 2 * mir s 32 + 0 := rfl
  rw [Nat.testBit_xor, mir_bit, e0, testBit_two _ _ _ (by decide)]
  have e32 : (if s % 2 = 1 then 4294967296 else 0).testBit j = (decide (j = 32) && decide (s % 2 = 1)) := by
    split
    · rename_i h
      rw [show (4294967296 : Nat) = 2 ^ 32 by decide, Nat.testBit_two_pow, h]
      simp; exact eq_comm
    · rename_i h; simp [h]
  rw [e32]
  have hsb : ∀ i, (s / 2).testBit i = s.testBit (i + 1) := fun i => (Nat.testBit_succ s i).symm
  by_cases h0 : j = 0
  · subst h0
    rw [if_pos rfl, hsb]
    rw [show 32 - 1 - 0 + 1 = 32 from rfl, bit_high hs (Nat.le_refl _)]
    simp
  · rw [if_neg h0, mir_bit, hsb]
    by_cases h1 : j < 32
    · have h2 : j - 1 < 32 := by omega
      have h3 : j ≠ 32 := by omega
      rw [show 32 - 1 - (j - 1) = 32 - 1 - j + 1 by omega]
      simp [h1, h2, h3]
    · by_cases h2 : j = 32
      · subst h2
        rw [show 32 - 1 - (32 - 1) = 0 from rfl, Nat.testBit_zero]
        simp
      · have h3 : ¬ j - 1 < 32 := by omega
        simp [h1, h2, h3]
theorem ref_bit {s : Nat} (hs : s < 4294967296) : refBit (mir s 32) = mir (bitS s) 32 := by
  have h2 := two_mir hs
  have hlt := mir_lt (s / 2) 32
  have e32 : (2 : Nat) ^ 32 = 4294967296 := by decide
  unfold refBit bitS
  by_cases ho : s % 2 = 1
  · rw [if_pos ho] at h2
    have hx : mir (s / 2) 32 ^^^ 4294967296 = 4294967296 + mir (s / 2) 32 := by
      rw [Nat.xor_comm, ← e32]
      have := Nat.two_pow_add_eq_or_of_lt hlt 1
      apply Nat.eq_of_testBit_eq; intro j
      rw [Nat.testBit_xor, Nat.testBit_two_pow, show 2 ^ 32 + mir (s / 2) 32 = 2 ^ 32 * 1 + mir (s / 2) 32 by omega, Nat.testBit_two_pow_mul_add _ hlt]
      split
      · rename_i hj
        have : ¬ (32 = j) := by omega
        simp [this]
      · rename_i hj
        have hm : (mir (s / 2) 32).testBit j = false := by rw [mir_bit]; simp; omega
        rw [hm]
        by_cases e : j = 32
        · subst e; simp
        · have h1 : 1 < 2 ^ (j - 32) := Nat.lt_of_lt_of_le (by decide : 1 < 2 ^ 1) (Nat.pow_le_pow_right (by decide) (by omega))
          rw [Nat.testBit_lt_two_pow h1]; simp; omega
    rw [if_pos (by rw [h2, hx]; omega), if_pos ho, mir_xor, h2, Nat.xor_assoc]
    congr 1
  · rw [if_neg ho, Nat.xor_zero] at h2
    rw [if_neg (by rw [h2]; simp; omega), if_neg ho, h2]
theorem mir_byte {c : Nat} (hc : c < 256) : mir c 8 * 16777216 = mir c 32 := by
  apply Nat.eq_of_testBit_eq; intro j
  rw [mir_bit, show (16777216 : Nat) = 2 ^ 24 by decide, Nat.mul_comm]
  have := Nat.testBit_two_pow_mul (i := 24) (a := mir c 8) (j := j)
  rw [this, mir_bit]
  have hz : ∀ i, 8 ≤ i → c.testBit i = false := fun i hi => Nat.testBit_lt_two_pow (Nat.lt_of_lt_of_le hc (by have := Nat.pow_le_pow_right (show 0 < 2 by decide) hi; exact this))
  by_cases h1 : 24 ≤ j
  · by_cases h2 : j < 32
    · have h3 : j - 24 < 8 := by omega
      rw [show 8 - 1 - (j - 24) = 32 - 1 - j by omega]
      simp [h1, h2, h3]
    · have h3 : ¬ j - 24 < 8 := by omega
      simp [h2, h3]
  · rw [hz (32 - 1 - j) (by omega)]
    simp [h1]
theorem mir_all : mir 4294967295 32 = 4294967295 := by decide +kernel

set_option maxHeartbeats 800000 in
theorem mirror_any (x k : Nat) (hx : x < 18446744073709551616) (hk : k ≤ 32) (w : World) : Calls Try.prog 72 #[.int .u64 x, .int .i64 k] w fun e w' => e = .returned (.int .u64 (mir x k)) ∧ w = w' := by
  go_enter Try.func72, Try.ntmps72
  go_wp2
  go_loop [5, 6] (fun ov iv => ∃ i : Nat, i ≤ k ∧ iv = .int .i64 i ∧ ov = .int .u64 (mir x i)) (fun _ iv => k - (intOf iv).toNat)
  case atStart => exact ⟨0, Nat.zero_le _, rfl, rfl⟩
  case round =>
    obtain ⟨i, hi, rfl, rfl⟩ := hrel
    have hm := mir_lt x i
    have hp : (2 : Nat) ^ i ≤ 2 ^ 32 := Nat.pow_le_pow_right (by decide) (by omega)
    have e32 : (2 : Nat) ^ 32 = 4294967296 := by decide
    have hmb : mir x i < 4294967296 := by omega
    by_cases hlt : i < k
    · have hS : Hid (mir x (i + 1) = 2 * mir x i + x / 2 ^ i % 2) := Lib.hid rfl
      have hd : x / 2 ^ i < 18446744073709551616 := Nat.lt_of_le_of_lt (Nat.div_le_self _ _) hx
      have ha : bits .and .u64 ((x : Int) / 2 ^ i) 1 = ((x / 2 ^ i % 2 : Nat) : Int) := by
        have e : ((x : Int) / 2 ^ i) = ((x / 2 ^ i : Nat) : Int) := by rw [Int.natCast_ediv, Int.natCast_pow]; rfl
        rw [e, show (1 : Int) = ((1 : Nat) : Int) from rfl, u64_and_nat _ 1 hd (by decide), Nat.and_one_is_mod]
      have hb2 : x / 2 ^ i % 2 < 2 := Nat.mod_lt _ (by decide)
      generalize x / 2 ^ i % 2 = b at ha hS hb2
      generalize mir x i = q at hS hmb ⊢
      clear hm hp hd
      go_wp2
      go_round
      case rel => exact ⟨i + 1, by omega, by go_num, by rw [hS.out]; congr 1; omega⟩
      case measure => simp [intOf]; omega
    · have hki : Hid (i = k) := Lib.hid (by omega)
      go_wp2
      go_ret
      exact ⟨by rw [← hki.out]; rfl, rfl⟩

theorem xor64 (a b : Nat) (ha : a < 18446744073709551616) (hb : b < 18446744073709551616) : bits .xor .u64 (a : Int) (b : Int) = ((a ^^^ b : Nat) : Int) := u64_xor_nat a b ha hb
def refBits : Nat → Nat → Nat
  | 0, r => r
  | k + 1, r => refBit (refBits k r)
theorem refBits_mir (k : Nat) {s : Nat} (hs : s < 4294967296) : refBits k (mir s 32) = mir (bitsS k s) 32 := by
  induction k with
  | zero => rfl
  | succ k ih => show refBit _ = _; rw [ih, ref_bit (bitsS_lt k hs)]; rfl
set_option maxHeartbeats 1600000 in
theorem refCrc_any (bs : List UInt8) (hbs : bs.length ≤ 140737488355328) (w : World) : Calls Try.prog 67 #[.string (strOf bs)] w fun e w' => e = .returned (.int .i64 (crc bs)) ∧ w = w' := by
  have hsz := strOf_size bs
  have hdl : (strOf bs).data.toList = bs := by simp [strOf]
  generalize strOf bs = s at hsz hdl
  have HSZ := Lib.hid hsz
  have HDL := Lib.hid hdl
  have hs9 : s.size ≤ 140737488355328 := by rw [hsz]; exact hbs
  clear hsz hdl
  go_enter Try.func67, Try.ntmps67
  go_wp2
  go_loop [3, 4] (fun rv iv => ∃ k : Nat, k ≤ s.size ∧ iv = .int .i64 k ∧ rv = .int .u64 (mir (crcS (bs.take k)) 32)) (fun _ iv => s.size - (intOf iv).toNat)
  case atStart => exact ⟨0, Nat.zero_le _, rfl, by rw [show crcS (bs.take 0) = 4294967295 from rfl, mir_all]; rfl⟩
  case round =>
    obtain ⟨k, hk, rfl, rfl⟩ := hrel
    have hs := crcS_lt (bs.take k)
    have hr : mir (crcS (bs.take k)) 32 < 4294967296 := mir_lt (crcS (bs.take k)) 32
    by_cases hlt : k < s.size
    · have hg := byte_get s k hlt
      rw [HDL.out] at hg
      have hb := byteAt_le bs k
      have hm8 := mir_lt (byteAt bs k) 8
      have hmb := mir_byte (show byteAt bs k < 256 by omega)
      have hr2 : mir (byteAt bs k) 32 < 4294967296 := mir_lt (byteAt bs k) 32
      have hN := Lib.hid (crcS_take bs k (by rw [← HSZ.out]; exact hlt))
      have hz : crcS (bs.take k) ^^^ byteAt bs k < 4294967296 := Nat.xor_lt_two_pow (n := 32) (by omega) (by omega)
      have hx : bits .xor .u64 (mir (crcS (bs.take k)) 32 : Int) ((mir (byteAt bs k) 8 : Int) * 16777216) = ((mir (crcS (bs.take k) ^^^ byteAt bs k) 32 : Nat) : Int) := by
        have e : ((mir (byteAt bs k) 8 : Int) * 16777216) = ((mir (byteAt bs k) 32 : Nat) : Int) := by rw [← hmb]; simp
        rw [e, xor64 _ _ (by omega) (by omega), mir_xor]
      have HX := Lib.hid hx
      have hmir := mirror_any (byteAt bs k) 8 (by omega) (by decide) w
      have hm8' : mir (byteAt bs k) 8 < 256 := hm8
      clear hx hmb hr2 hm8
      generalize byteAt bs k = c at hg hb hm8' hmir hN HX hz
      generalize mir c 8 = c8 at hm8' hmir HX
      generalize mir (crcS (bs.take k)) 32 = r0 at hr HX ⊢
      go_wp2_with fail
      refine hmir.mono ?_
      rintro e _ ⟨rfl, rfl⟩
      clear hmir
      go_wp2
      rw [HX.out]
      clear HX hm8' hr
      generalize hZ : crcS (bs.take k) ^^^ c = z at hz ⊢
      have HZ := Lib.hid hZ
      clear hZ
      go_loop [3, 5] (fun r j => ∃ m : Nat, m ≤ 8 ∧ j = .int .i64 m ∧ r = .int .u64 (refBits m (mir z 32))) (fun _ j => 8 - (intOf j).toNat)
      case atStart => exact ⟨0, Nat.zero_le _, rfl, rfl⟩
      case round =>
        obtain ⟨m, hm, rfl, rfl⟩ := hrel
        have hq : refBits m (mir z 32) < 4294967296 := by rw [refBits_mir m hz]; exact mir_lt _ 32
        have hS : Hid (refBits (m + 1) (mir z 32) = refBit (refBits m (mir z 32))) := Lib.hid rfl
        generalize hQ' : refBits m (mir z 32) = q at hq hS ⊢
        have hQ := Lib.hid hQ'
        clear hQ'
        by_cases hlm : m < 8
        · by_cases ho : 2 * q / 4294967296 ≠ 0
          · have hx2 : Hid (bits .xor .u64 ((q : Int) * 2) 4374732215 = ((2 * q ^^^ 4374732215 : Nat) : Int)) := Lib.hid (by
              rw [show ((q : Int) * 2) = ((2 * q : Nat) : Int) by omega, show (4374732215 : Int) = ((4374732215 : Nat) : Int) from rfl, xor64 _ _ (by omega) (by decide)])
            have hS' : Hid (refBits (m + 1) (mir z 32) = 2 * q ^^^ 4374732215) := Lib.hid (by rw [hS.out, refBit, if_pos ho])
            have hge : 2147483648 ≤ q := by omega
            clear ho hS
            go_wp2
            go_round
            case rel => exact ⟨m + 1, by omega, by go_num, by rw [hS'.out, hx2.out]⟩
            case measure => simp [intOf]; omega
          · have hS' : Hid (refBits (m + 1) (mir z 32) = 2 * q) := Lib.hid (by rw [hS.out, refBit, if_neg ho])
            have hge : q < 2147483648 := by omega
            clear ho hS
            go_wp2
            go_round
            case rel => exact ⟨m + 1, by omega, by go_num, by rw [hS'.out]; congr 1; omega⟩
            case measure => simp [intOf]; omega
        · have hm8 : m = 8 := by omega
          have hS' : Hid (mir (crcS (bs.take (k + 1))) 32 = q) := Lib.hid (by rw [hN.out, byteS, HZ.out, ← hQ.out, hm8, refBits_mir 8 hz])
          clear hS
          go_wp2
          go_round
          case rel => exact ⟨k + 1, by omega, by go_num, by rw [hS'.out]⟩
          case measure => simp [intOf]; omega
    · have ht : Hid (bs.take k = bs) := Lib.hid (List.take_of_length_le (by rw [← HSZ.out]; omega))
      have hx : bits .xor .u64 (mir (crcS (bs.take k)) 32 : Int) 4294967295 = ((mir (crc bs) 32 : Nat) : Int) := by
        rw [ht.out, show (4294967295 : Int) = ((4294967295 : Nat) : Int) from rfl, xor64 _ _ (by have := mir_lt (crcS bs) 32; omega) (by decide)]
        rw [crc, mir_xor, mir_all, Nat.xor_comm]
      have hc := crc_lt bs
      have hmir := mirror_any (mir (crc bs) 32) 32 (by have := mir_lt (crc bs) 32; omega) (by decide) w
      rw [mir_mir hc] at hmir
      generalize mir (crcS (bs.take k)) 32 = r0 at hr hx ⊢
      generalize mir (crc bs) 32 = r1 at hx hmir
      go_wp2_with fail
      refine hmir.mono ?_
      rintro e _ ⟨rfl, rfl⟩
      clear hmir
      go_wp2
      go_ret
      exact ⟨rfl, rfl⟩
end Go.Proofs.Ytmkomhdlcbimoaa
