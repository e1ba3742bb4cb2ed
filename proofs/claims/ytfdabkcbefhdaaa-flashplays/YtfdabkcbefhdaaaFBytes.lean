/- The contract of the statements' own bytes. No statement of the seat is proved here. -/
import Derived.Test.YtfdabkcbefhdaaaFRead
namespace Go.Proofs.Ytfdabkcbefhdaaa
set_option maxRecDepth 20000
open Go.RowKit

def bOf (z : Int) : UInt8 := UInt8.ofNat (z % 256).toNat
theorem byteV_bOf (z : Int) : byteV (bOf z) = .int .u8 (z % 256) := by
  unfold byteV bOf
  congr 1
  have h1 : 0 ≤ z % 256 := by omega
  have h2 : z % 256 < 256 := by omega
  rw [UInt8.toNat_ofNat']
  omega
def bytesL (fill : Int) (m : Nat) : List UInt8 := if 1 < m then bOf (fill.tdiv 256) :: bOf (fill.tdiv 65536) :: List.replicate (m - 2) (bOf fill) else List.replicate m (bOf fill)
theorem bytesL_length (fill : Int) (m : Nat) : (bytesL fill m).length = m := by
  unfold bytesL; split
  · simp; omega
  · simp
/-- What the loop has made of the cells behind k rounds. -/
def cellsTo (u : Value) (m k : Nat) : List Value := List.replicate k u ++ List.replicate (m - k) (.int .u8 0)
theorem cellsTo_zero (u : Value) (m : Nat) : cellsTo u m 0 = List.replicate m (.int .u8 0) := by simp [cellsTo]
theorem cellsTo_all (u : Value) (m : Nat) : cellsTo u m m = List.replicate m u := by simp [cellsTo]
theorem cellsTo_length (u : Value) (m k : Nat) (h : k ≤ m) : (cellsTo u m k).length = m := by simp [cellsTo]; omega
theorem cellsTo_set (u : Value) (m k : Nat) (h : k < m) : (cellsTo u m k).set k u = cellsTo u m (k + 1) := by
  unfold cellsTo
  obtain ⟨r, hr⟩ : ∃ r, m - k = r + 1 := ⟨m - k - 1, by omega⟩
  rw [hr, show m - (k + 1) = r by omega, List.replicate_succ, List.replicate_succ', List.set_append]
  simp

theorem tdiv256 (a : Int) (ha : -9223372036854775808 ≤ a ∧ a ≤ 9223372036854775807) : -9223372036854775808 ≤ a.tdiv 256 ∧ a.tdiv 256 ≤ 9223372036854775807 := by
  have h : (a.tdiv 256).natAbs = a.natAbs / 256 := Int.natAbs_tdiv a 256
  generalize a.tdiv 256 = q at *
  omega
theorem tdiv65536 (a : Int) (ha : -9223372036854775808 ≤ a ∧ a ≤ 9223372036854775807) : -9223372036854775808 ≤ a.tdiv 65536 ∧ a.tdiv 65536 ≤ 9223372036854775807 := by
  have h : (a.tdiv 65536).natAbs = a.natAbs / 65536 := Int.natAbs_tdiv a 65536
  generalize a.tdiv 65536 = q at *
  omega
theorem bytesL_cells (fill : Int) (k : Nat) (h : 1 < k) : ((List.replicate k (Value.int .u8 (fill % 256))).set 0 (.int .u8 ((fill.tdiv 256) % 256))).set 1 (.int .u8 ((fill.tdiv 65536) % 256)) = cellsB (bytesL fill k) := by
  obtain ⟨r, rfl⟩ : ∃ r, k = r + 2 := ⟨k - 2, by omega⟩
  unfold bytesL
  rw [if_pos h]
  simp [cellsB, byteV_bOf, List.replicate_succ]
set_option maxHeartbeats 800000 in
theorem bytes_any (w : World) (fill n : Int) (hn : -300 ≤ n ∧ n ≤ 300) (hf : -9223372036854775808 ≤ fill ∧ fill ≤ 9223372036854775807) :
    Calls Try.prog 16 #[.int .i64 fill, .int .i64 n] w fun e w' => ∃ v, e = .returned v ∧ OwnB w.heap.size w' v (bytesL fill (256 + n).toNat) ∧ Below w.heap.size w w' := by
  obtain ⟨i0, hi0, hz0, hz1, hz2⟩ := info_parts info5
  obtain ⟨m, hm⟩ : ∃ m : Nat, m = (256 + n).toNat := ⟨_, rfl⟩
  have hm1 : m ≤ 600 := by omega
  rw [← hm]
  have hmI : (m : Int) = max (256 + n) 0 := by omega
  have HM := Lib.hid hmI
  clear hm hmI
  by_cases h0 : 0 ≤ 256 + n
  all_goals
    go_enter Try.func16, Try.ntmps16
    go_wp2_with (at_make; refine wpList_make_full _ rfl (.tmp 10) (.tmp 10) 31 rfl w.heap.size 5 i0 (.int .u8 0) 1 Try.underlying31 hi0 hz0 hz1 .i64 .i64 _ _ m rfl rfl ?hL ?hC ?b2 ?b3 (Nat.le_refl _) ?_)
    case hL => rw [HM.out]; omega
    case hC => rw [HM.out]; omega
    case b2 => first | omega | (rw [hz2]; omega)
    case b3 => simp only [maxLen]; omega
    intro w1 hown hgr
    have hown1 : w1.ownsRow w.heap.size 5 1 (.slice (some ⟨w.heap.size, 0, none⟩) m m) m (cellsTo (.int .u8 (fill % 256)) m 0) := by
      rw [cellsTo_zero, ← toList_madeCells_one]; simpa using hown
    have hb1 : Below w.heap.size w w1 := (Below.refl _ _).grown hgr (Nat.le_refl _) (fun k e => by cases e)
    clear hown hgr
    go_wp2
    go_loopw [6] (fun iv wr => ∃ k : Nat, k ≤ m ∧ iv = .int .i64 k ∧ wr.ownsRow w.heap.size 5 1 (.slice (some ⟨w.heap.size, 0, none⟩) m m) m (cellsTo (.int .u8 (fill % 256)) m k) ∧ Below w.heap.size w wr) (fun iv _ => m - (intOf iv).toNat)
    case atStart => exact ⟨0, Nat.zero_le _, rfl, hown1, hb1⟩
    case round =>
      obtain ⟨k, hk, rfl, hok, hbk⟩ := hrel
      by_cases hlt : k < m
      · have hck := hok.cellAt k (by omega)
        rw [List.getElem?_eq_getElem (by rw [cellsTo_length _ _ _ hk]; exact hlt)] at hck
        have hfk := hok.frozenAt k
        have hst := hok.stored k (.int .u8 (fill % 256))
        rw [cellsTo_set _ _ _ hlt] at hst
        have HST := Lib.hid hst
        clear hst hown1 hb1
        generalize (cellsTo (.int .u8 (fill % 256)) m k)[k]'_ = old at hck
        go_wp2
        go_roundw
        case rel => exact ⟨k + 1, by omega, by go_num, HST.out.1, hbk.setCell (Nat.le_refl _) _⟩
        case measure => simp [intOf]; omega
      · obtain rfl : k = m := by omega
        by_cases h1 : 1 < k
        · rw [cellsTo_all] at hok
          have c0 := hok.cellAt 0 (by omega)
          have f0 := hok.frozenAt 0
          have hs0 := (hok.stored 0 (.int .u8 ((fill.tdiv 256) % 256))).1
          have c1 := hs0.cellAt 1 (by omega)
          have f1 := hs0.frozenAt 1
          have hs1 := (hs0.stored 1 (.int .u8 ((fill.tdiv 65536) % 256))).1
          have HS1 := Lib.hid hs1
          rw [List.getElem?_replicate_of_lt (by omega)] at c0
          rw [List.getElem?_set_ne (by decide), List.getElem?_replicate_of_lt (by omega)] at c1
          clear hs1 hs0 hok
          have hq1 := tdiv256 fill hf
          have hq2 := tdiv65536 fill hf
          go_wp2
          go_ret
          refine ⟨_, rfl, ?_, (hbk.setCell (Nat.le_refl _) _).setCell (Nat.le_refl _) _⟩
          unfold OwnB
          rw [bytesL_length, ← bytesL_cells fill k h1]
          exact HS1.out
        · rw [cellsTo_all] at hok
          have HO := Lib.hid hok
          clear hok hown1
          go_wp2
          go_ret
          refine ⟨_, rfl, ?_, hbk⟩
          unfold OwnB bytesL
          rw [if_neg h1]
          simpa [cellsB, byteV_bOf] using HO.out
/-- .. of a whole sector. -/
theorem bytes0_any (w : World) (fill : Int) (hf : -9223372036854775808 ≤ fill ∧ fill ≤ 9223372036854775807) :
    Calls Try.prog 16 #[.int .i64 fill, .int .i64 0] w fun e w' => ∃ v, e = .returned v ∧ OwnB w.heap.size w' v (bytesL fill 256) ∧ Below w.heap.size w w' := bytes_any w fill 0 (by decide) hf
end Go.Proofs.Ytfdabkcbefhdaaa
