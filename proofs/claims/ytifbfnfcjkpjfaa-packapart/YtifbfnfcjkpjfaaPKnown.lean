/- The contract of the laws' own known. No statement of the seat is proved here. -/
import Derived.Test.YtifbfnfcjkpjfaaPEnc
import Derived.Test.YtifbfnfcjkpjfaaKept
import Derived.Lib.SlBytesConst
namespace Go.Proofs.Ytifbfnfcjkpjfaa
open Go.RowKit

theorem items_one (w : World) (x : It) (hx : x.ok) : ItemsAt (w.alloc (.cells #[.int .i64 x.k, .int .i64 x.n, .string x.s] 50)).heap.size (w.alloc (.cells #[.int .i64 x.k, .int .i64 x.n, .string x.s] 50)) (.slice (some ⟨w.heap.size, 0, none⟩) 1 1) [x] := by
  refine ⟨_, 1, rfl, Nat.le_refl _, by simp, fun y hy => ?_, fun _ => ⟨w.heap.size, 0, rfl, by simp, fun i hi => ?_⟩⟩
  · rw [List.mem_singleton.1 hy]; exact hx
  · have : i = 0 := by simpa using hi
    subst this
    have hc : ∀ j u, (#[Value.int .i64 x.k, .int .i64 x.n, .string x.s] : Array Value)[j]? = some u → (w.alloc (.cells #[.int .i64 x.k, .int .i64 x.n, .string x.s] 50)).cell? ⟨w.heap.size, j, none⟩ = some u := fun j u hu => by
      rw [cell_of_row _ _ _ _ _ _ (heap_alloc_new w _)]; exact hu
    exact ⟨hc 0 _ rfl, hc 1 _ rfl, hc 2 _ rfl⟩
theorem info50 : (Try.prog.info? 50).map (fun i => (i.zero, i.size, i.bytes)) = some (some (.agg #[.int .i64 0, .int .i64 0, .string ByteArray.empty]), 3, 32) := by kernel_rfl
theorem info50' : ∃ i, Try.prog.info? 50 = some i ∧ i.zero = some (.agg #[.int .i64 0, .int .i64 0, .string ByteArray.empty]) ∧ i.size = 3 ∧ i.bytes = 32 := by
  have h := info50
  cases hq : Try.prog.info? 50 with
  | none => rw [hq] at h; simp at h
  | some i => rw [hq] at h; simp at h; exact ⟨i, rfl, h.1, h.2.1, h.2.2⟩
theorem build_slice_one (w : World) (x : It) : (Instr.buildSlice 22 1 #[(0, .agg #[.int .i64 x.k, .int .i64 x.n, .string x.s])]).run Try.prog w = .ok (.slice (some ⟨w.heap.size, 0, none⟩) 1 1) (w.alloc (.cells #[.int .i64 x.k, .int .i64 x.n, .string x.s] 50)) := by
  obtain ⟨i, hi, hi0, hi1, hi2⟩ := info50'
  exact run_buildSlice_one w 22 50 i _ [.int .i64 x.k, .int .i64 x.n, .string x.s] Try.underlying22 hi hi0 hi1 (by simp) (by simp)
theorem strOf_toList (bs : List UInt8) : (strOf bs).toList = bs := ByteArray.toList_mk bs
def kIt : It := ⟨1, 258, ByteArray.empty⟩
def nine : List UInt8 := [49, 50, 51, 52, 53, 54, 55, 56, 57]
theorem known_enc : encE [kIt] = 0 ∧ encR [kIt] = [1, 2, 1, 0, 0, 0, 0, 0, 0] := by decide +kernel
theorem known_crc : crc nine = 3421780262 := by decide +kernel
def nineC : Array Value := #[.int .u8 49, .int .u8 50, .int .u8 51, .int .u8 52, .int .u8 53, .int .u8 54, .int .u8 55, .int .u8 56, .int .u8 57]
theorem bytes_nine (w : World) : ByC (w.alloc (.cells nineC 5 (9, 10))) (.slice (some ⟨w.heap.size, 0, none⟩) 9 9) nine := by
  refine BytesAt.c ⟨_, 9, rfl, by simp [maxLen, nine], fun _ => ⟨w.heap.size, 0, _, _, rfl, heap_alloc_new w _, fun i hi => ?_⟩⟩
  have : i = 0 ∨ i = 1 ∨ i = 2 ∨ i = 3 ∨ i = 4 ∨ i = 5 ∨ i = 6 ∨ i = 7 ∨ i = 8 := by simp [nine] at hi; omega
  rcases this with rfl | rfl | rfl | rfl | rfl | rfl | rfl | rfl | rfl <;> rfl
theorem conv_nine (w : World) : (convert 23 23 (.slice (some ⟨w.heap.size, 0, none⟩) 9 9)).run Try.prog (w.alloc (.cells nineC 5)) = .ok (.slice (some ⟨w.heap.size, 0, none⟩) 9 9) (w.alloc (.cells nineC 5 (9, 10))) :=
  Lib.run_convert_bytes_const w 23 5 nineC 9 9 Try.underlying23 Try.underlying5
set_option maxRecDepth 20000 in
set_option maxHeartbeats 1600000 in
theorem known_any (w : World) : Calls Try.prog 12 #[] w fun e w' => e = .returned (.bool true) ∧ Below w.heap.size w w' := by
  have hb : ∀ w, (Instr.build 50 #[(0, .int .i64 1), (1, .int .i64 258)]).run Try.prog w = .ok (.agg #[.int .i64 1, .int .i64 258, .string ByteArray.empty]) w := fun w => run_build w 50 _ _ (by kernel_rfl)
  have hs := build_slice_one w kIt
  have he := encode_any (items_one w kIt ⟨by decide, by decide, by decide⟩)
  rw [known_enc.1, known_enc.2] at he
  have hs' : (Instr.buildSlice 22 1 #[(0, .agg #[.int .i64 1, .int .i64 258, .string ByteArray.empty])]).run Try.prog w = .ok (.slice (some ⟨w.heap.size, 0, none⟩) 1 1) (w.alloc (.cells #[.int .i64 1, .int .i64 258, .string ByteArray.empty] 50)) := hs
  have he' : Calls Try.prog 14 #[.slice (some ⟨w.heap.size, 0, none⟩) 1 1] (w.alloc (.cells #[.int .i64 1, .int .i64 258, .string ByteArray.empty] 50)) (OwnRetE (w.alloc (.cells #[.int .i64 1, .int .i64 258, .string ByteArray.empty] 50)).heap.size (w.alloc (.cells #[.int .i64 1, .int .i64 258, .string ByteArray.empty] 50)) [1, 2, 1, 0, 0, 0, 0, 0, 0] 0) := he
  have hcv := conv_nine
  unfold nineC at hcv
  clear hs he
  go_enter Try.func12, Try.ntmps12
  go_wp2_with fail
  refine he'.mono ?_
  rintro e w1 ⟨v1, rfl, h1, b1⟩
  have hst := run_string h1
  have hq := strOf_toList [1, 2, 1, 0, 0, 0, 0, 0, 0]
  obtain ⟨ao1, m1, cap1, hv1, hm1⟩ := h1.form'
  subst hv1
  have bb : Below w.heap.size w w1 := ((Below.refl _ _).alloc (Nat.le_refl _) _).trans (b1.mono (by simp))
  have hc := crc_any (bytes_nine w1)
  rw [known_crc] at hc
  unfold nineC at hc
  clear he' b1 h1 hb hs'
  go_wp2_with fail
  refine hc.mono ?_
  rintro e _ ⟨rfl, rfl⟩
  go_wp2
  go_ret
  exact ⟨rfl, bb.alloc bb.size _⟩
end Go.Proofs.Ytifbfnfcjkpjfaa
