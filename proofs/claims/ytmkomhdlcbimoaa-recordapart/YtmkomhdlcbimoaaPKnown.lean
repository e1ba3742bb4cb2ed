/- The contract of the laws' own known. No statement of the seat is proved here. -/
import Derived.Test.YtmkomhdlcbimoaaJ1
import Derived.Test.YtmkomhdlcbimoaaKept
import Derived.Lib.SlBytesConst
namespace Go.Proofs.Ytmkomhdlcbimoaa
set_option maxRecDepth 20000
open Go.RowKit

theorem items_one (w : World) (x : It) (hx : x.ok) : ItemsAt (w.alloc (.cells #[.int .i64 x.k, .int .i64 x.n, .string x.s] 77)).heap.size (w.alloc (.cells #[.int .i64 x.k, .int .i64 x.n, .string x.s] 77)) (.slice (some ⟨w.heap.size, 0, none⟩) 1 1) [x] := by
  refine ⟨_, 1, rfl, Nat.le_refl _, by simp, fun y hy => ?_, fun _ => ⟨w.heap.size, 0, rfl, by simp, fun i hi => ?_⟩⟩
  · rw [List.mem_singleton.1 hy]; exact hx
  · have : i = 0 := by simpa using hi
    subst this
    have hc : ∀ j u, (#[Value.int .i64 x.k, .int .i64 x.n, .string x.s] : Array Value)[j]? = some u → (w.alloc (.cells #[.int .i64 x.k, .int .i64 x.n, .string x.s] 77)).cell? ⟨w.heap.size, j, none⟩ = some u := fun j u hu => by
      rw [cell_of_row _ _ _ _ _ _ (heap_alloc_new w _)]; exact hu
    exact ⟨hc 0 _ rfl, hc 1 _ rfl, hc 2 _ rfl⟩
theorem info50 : (Try.prog.info? 77).map (fun i => (i.zero, i.size, i.bytes)) = some (some (.agg #[.int .i64 0, .int .i64 0, .string ByteArray.empty]), 3, 32) := by kernel_rfl
theorem info50' : ∃ i, Try.prog.info? 77 = some i ∧ i.zero = some (.agg #[.int .i64 0, .int .i64 0, .string ByteArray.empty]) ∧ i.size = 3 ∧ i.bytes = 32 := by
  have h := info50
  cases hq : Try.prog.info? 77 with
  | none => rw [hq] at h; simp at h
  | some i => rw [hq] at h; simp at h; exact ⟨i, rfl, h.1, h.2.1, h.2.2⟩
theorem build_slice_one (w : World) (x : It) : (Instr.buildSlice 74 1 #[(0, .agg #[.int .i64 x.k, .int .i64 x.n, .string x.s])]).run Try.prog w = .ok (.slice (some ⟨w.heap.size, 0, none⟩) 1 1) (w.alloc (.cells #[.int .i64 x.k, .int .i64 x.n, .string x.s] 77)) := by
  obtain ⟨i, hi, hi0, hi1, hi2⟩ := info50'
  exact run_buildSlice_one w 74 77 i _ [.int .i64 x.k, .int .i64 x.n, .string x.s] Try.underlying74 hi hi0 hi1 (by simp) (by simp)
theorem strOf_toList (bs : List UInt8) : (strOf bs).toList = bs := ByteArray.toList_mk bs
def kIt : It := ⟨1, 258, ByteArray.empty⟩
def nine : List UInt8 := [49, 50, 51, 52, 53, 54, 55, 56, 57]
theorem known_enc : encE [kIt] = 0 ∧ encR [kIt] = [1, 2, 1, 0, 0, 0, 0, 0, 0] := by decide +kernel
theorem known_crc : crc nine = 3421780262 := by decide +kernel
def nineC : Array Value := #[.int .u8 49, .int .u8 50, .int .u8 51, .int .u8 52, .int .u8 53, .int .u8 54, .int .u8 55, .int .u8 56, .int .u8 57]
theorem bytes_nine (w : World) : ByC (w.alloc (.cells nineC 5 (9, 10))) (.slice (some ⟨w.heap.size, 0, none⟩) 9 9) nine := by
  refine BytesAt.c ⟨_, 9, rfl, by simp [maxLen, nine], fun _ => ⟨w.heap.size, 0, _, _, rfl, heap_alloc_new w _, fun i hi => ?_⟩⟩
  have : i = 0 ∨ i = 1 ∨ i = 2 ∨ i = 3 ∨ i = 4 ∨ i = 5 ∨ i = 6 ∨ i = 7 ∨ i = 8 := by simp [nine] at hi; omega
  rcases this with rfl | rfl | rfl | rfl | rfl | rfl | rfl | rfl | rfl <;> rfl
theorem conv_nine (w : World) : (convert 36 36 (.slice (some ⟨w.heap.size, 0, none⟩) 9 9)).run Try.prog (w.alloc (.cells nineC 5)) = .ok (.slice (some ⟨w.heap.size, 0, none⟩) 9 9) (w.alloc (.cells nineC 5 (9, 10))) :=
  Lib.run_convert_bytes_const w 36 5 nineC 9 9 Try.underlying36 Try.underlying5
end Go.Proofs.Ytmkomhdlcbimoaa
