/- The checksum: its mathematics, and the contract of pack.Crc. No statement of the seat is proved here. -/
import Derived.Test.YtmkomhdlcbimoaaPBase
namespace Go.Proofs.Ytmkomhdlcbimoaa
set_option maxRecDepth 20000
open Go.RowKit

/-- one bit's step -/
def bitS (s : Nat) : Nat := if s % 2 = 1 then (s / 2) ^^^ 3988292384 else s / 2
def bitsS : Nat → Nat → Nat
  | 0, s => s
  | k + 1, s => bitS (bitsS k s)
def byteS (s c : Nat) : Nat := bitsS 8 (s ^^^ c)
def crcS (bs : List UInt8) : Nat := bs.foldl (fun s c => byteS s c.toNat) 4294967295
def crc (bs : List UInt8) : Nat := 4294967295 ^^^ crcS bs
theorem bitS_lt {s : Nat} (h : s < 4294967296) : bitS s < 4294967296 := by
  unfold bitS
  split
  · exact Nat.xor_lt_two_pow (n := 32) (by omega) (by decide)
  · omega
theorem bitsS_lt (k : Nat) {s : Nat} (h : s < 4294967296) : bitsS k s < 4294967296 := by
  induction k with
  | zero => exact h
  | succ k ih => exact bitS_lt ih
theorem byteS_lt {s c : Nat} (h : s < 4294967296) (hc : c ≤ 255) : byteS s c < 4294967296 := bitsS_lt 8 (Nat.xor_lt_two_pow (n := 32) (by omega) (by omega))
theorem crcS_lt (bs : List UInt8) : crcS bs < 4294967296 := by
  unfold crcS
  suffices ∀ (l : List UInt8) s, s < 4294967296 → l.foldl (fun s c => byteS s c.toNat) s < 4294967296 from this _ _ (by decide)
  intro l
  induction l with
  | nil => intro s h; exact h
  | cons a r ih => intro s h; exact ih _ (byteS_lt h (by have := a.toNat_lt; omega))
theorem crc_lt (bs : List UInt8) : crc bs < 4294967296 := Nat.xor_lt_two_pow (n := 32) (by decide) (by have := crcS_lt bs; omega)
theorem crcS_take (bs : List UInt8) (k : Nat) (h : k < bs.length) : crcS (bs.take (k + 1)) = byteS (crcS (bs.take k)) (byteAt bs k) := by
  unfold crcS byteAt
  rw [take_snoc' bs k h, List.foldl_append]; rfl
theorem xor32 (a b : Nat) (ha : a < 4294967296) (hb : b < 4294967296) : bits .xor .u32 (a : Int) (b : Int) = ((a ^^^ b : Nat) : Int) := u32_xor_nat a b ha hb
theorem and_one (a : Nat) (ha : a < 4294967296) : bits .and .u32 (a : Int) 1 = ((a % 2 : Nat) : Int) := by
  rw [show (1 : Int) = ((1 : Nat) : Int) from rfl, u32_and_nat a 1 ha (by decide), Nat.and_one_is_mod]

theorem xor_half (q : Nat) (hq : q < 4294967296) : bits .xor .u32 ((q : Int) / 2) 3988292384 = ((q / 2 ^^^ 3988292384 : Nat) : Int) := by
  show bits .xor .u32 ((q / 2 : Nat) : Int) ((3988292384 : Nat) : Int) = _
  exact xor32 _ _ (by omega) (by decide)
theorem xor_all (q : Nat) (hq : q < 4294967296) : bits .xor .u32 4294967295 (q : Int) = ((4294967295 ^^^ q : Nat) : Int) := xor32 4294967295 q (by decide) hq
set_option maxHeartbeats 800000 in
theorem crc_any {w : World} {v : Value} {bs : List UInt8} (h : ByC w v bs) : Calls Try.prog 63 #[v] w fun e w' => e = .returned (.int .i64 (crc bs)) ∧ w = w' := by
  obtain ⟨ao, cap, rfl, hl⟩ := h.form
  have hh := h
  go_enter Try.func63, Try.ntmps63
  go_wp2
  go_loop [3, 9] (fun s i => ∃ k : Nat, k ≤ bs.length ∧ i = .int .i64 k ∧ s = .int .u32 (crcS (bs.take k))) (fun _ i => bs.length - (intOf i).toNat)
  case atStart => exact ⟨0, Nat.zero_le _, rfl, by simp [crcS]⟩
  case round =>
    obtain ⟨k, hk, rfl, rfl⟩ := hrel
    have hs := crcS_lt (bs.take k)
    by_cases hlt : k < bs.length
    · obtain ⟨b, off, rfl, hcell⟩ := hh.get hlt
      have hb := byteAt_le bs k
      have hx := xor32 (crcS (bs.take k)) (byteAt bs k) hs (by omega)
      have hN := Lib.hid (crcS_take bs k hlt)
      have hz : crcS (bs.take k) ^^^ byteAt bs k < 4294967296 := Nat.xor_lt_two_pow (n := 32) (by omega) (by omega)
      go_wp2
      generalize hZ : crcS (bs.take k) ^^^ byteAt bs k = z at hz ⊢
      have HZ := Lib.hid hZ
      clear hZ hx
      go_loop [3, 17] (fun s j => ∃ m : Nat, m ≤ 8 ∧ j = .int .i64 m ∧ s = .int .u32 (bitsS m z)) (fun _ j => 8 - (intOf j).toNat)
      case atStart => exact ⟨0, Nat.zero_le _, rfl, rfl⟩
      case round =>
        obtain ⟨m, hm, rfl, rfl⟩ := hrel
        have hq := bitsS_lt m hz
        have hS : Hid (bitsS (m + 1) z = bitS (bitsS m z)) := Lib.hid rfl
        generalize hQ' : bitsS m z = q at hq hS ⊢
        have hQ := Lib.hid hQ'
        clear hQ'
        have ha := and_one q hq
        by_cases hlm : m < 8
        · by_cases ho : q % 2 = 1
          · rw [ho] at ha
            have hx2 := Lib.hid (xor_half q hq)
            have hS' : Hid (bitsS (m + 1) z = (q / 2) ^^^ 3988292384) := Lib.hid (by rw [hS.out, bitS, if_pos ho])
            clear ho hS
            go_wp2
            go_round
            case rel => exact ⟨m + 1, by omega, by go_num, by rw [hS'.out, hx2.out]⟩
            case measure => simp [intOf]; omega
          · have ho' : q % 2 = 0 := by omega
            rw [ho'] at ha
            have hS' : Hid (bitsS (m + 1) z = q / 2) := Lib.hid (by rw [hS.out, bitS, if_neg ho])
            clear ho ho' hS
            go_wp2
            go_round
            case rel => exact ⟨m + 1, by omega, by go_num, by rw [hS'.out]; rfl⟩
            case measure => simp [intOf]; omega
        · have hm8 : m = 8 := by omega
          have hS' : Hid (crcS (bs.take (k + 1)) = q) := Lib.hid (by rw [hN.out, byteS, HZ.out, ← hQ.out, hm8])
          clear ha
          go_wp2
          go_round
          case rel => exact ⟨k + 1, by omega, by go_num, by rw [hS'.out]⟩
          case measure => simp [intOf]; omega
    · have hx := Lib.hid (xor_all (crcS (bs.take k)) hs)
      have ht : Hid (bs.take k = bs) := Lib.hid (List.take_of_length_le (by omega))
      have hw : Hid (wrap64 ((4294967295 ^^^ crcS (bs.take k) : Nat) : Int) = (crc bs : Nat)) := Lib.hid (by
        rw [ht.out]; have := crc_lt bs; show wrap64 ((crc bs : Nat) : Int) = _; unfold wrap64; omega)
      have hmax : IntKind.u32.max = 4294967295 := by decide
      have hsg : IntKind.u32.signed = false := rfl
      go_wp2
      go_ret
      refine ⟨?_, rfl⟩
      show Ending.returned (.int .i64 (wrap64 (bits .xor .u32 4294967295 (crcS (bs.take k) : Nat)))) = _
      rw [hx.out, hw.out]
end Go.Proofs.Ytmkomhdlcbimoaa
