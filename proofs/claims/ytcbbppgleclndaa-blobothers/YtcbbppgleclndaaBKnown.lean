/- The contract of the laws' own known. No statement of the seat is proved here. -/
import Derived.Test.YtcbbppgleclndaaBGet
import Derived.Lib.SlBytesConst
namespace Go.Proofs.Ytcbbppgleclndaa
open Go.RowKit

theorem bytes_lit1 {X : Nat → Prop} (w : World) (x : UInt8) : BytesIn (Wd X w.heap.size (w.alloc (.cells #[byteV x] 5 (1, 2))).heap.size) (w.alloc (.cells #[byteV x] 5 (1, 2))) (.slice (some ⟨w.heap.size, 0, none⟩) 1 1) [x] := by
  refine ⟨_, 1, rfl, by simp [maxLen], fun _ => ⟨w.heap.size, 0, _, _, rfl, wd_in (Nat.le_refl _) (by simp), heap_alloc_new w _, fun i hi => ?_⟩⟩
  have : i = 0 := by simpa using hi
  subst this
  rfl
theorem below_alloc (w : World) (o : Obj) : Below w.heap.size w (w.alloc o) := (Below.refl _ _).alloc (Nat.le_refl _) _
theorem ints_lit1 (w : World) (z : Int) (hz : -9223372036854775808 ≤ z ∧ z ≤ 9223372036854775807) : IntsNow (w.alloc (.cells #[.int .i64 z] 3)) (.slice (some ⟨w.heap.size, 0, none⟩) 1 1) [z] := by
  refine ⟨_, 1, rfl, by simpa using hz, fun _ => ⟨w.heap.size, 0, rfl, fun i hi => ?_⟩⟩
  have : i = 0 := by simpa using hi
  subst this
  exact cell_row (heap_alloc_new w _) 0 rfl

theorem conv_lit (w : World) (C : Array Value) (n c : Nat) : (convert 36 36 (.slice (some ⟨w.heap.size, 0, none⟩) n c)).run Try.prog (w.alloc (.cells C 5)) = .ok (.slice (some ⟨w.heap.size, 0, none⟩) n c) (w.alloc (.cells C 5 (C.size, C.size + 1))) :=
  Lib.run_convert_bytes_const w 36 5 C n c Try.underlying36 Try.underlying5
theorem below_step {X : Nat → Prop} {B : Nat} {w w1 w2 w3 : World} (b : Below B w w1) (ha : Below w1.heap.size w1 w2) (k : Kp X w2 w3) (hB : B ≤ w1.heap.size) (hX : ∀ k, k < B → X k) : Below B w w3 :=
  b.trans (((Kp.of_below ha).trans k).below (B := B) hB hX)
def aB : ByteArray := ⟨#[97]⟩
def k1 : Sto := { blobs := putF (fun _ => none) [97] [120], version := 0, root := ByteArray.empty, outs := [], calls := 1 }
def k2 : Sto := { k1 with outs := [2] }
def k3 : Sto := { blobs := putF k1.blobs [97] [121], version := 0, root := ByteArray.empty, outs := [], calls := 2 }
theorem put1E : Sto.fresh.putE aB [120] = 0 := by decide
theorem put1S : Sto.fresh.put aB [120] = k1 := rfl
theorem put2E : k2.putE aB [121] = 15 := by decide
theorem put2S : k2.put aB [121] = k3 := rfl
theorem get3E : k3.getE aB = 0 := by decide
theorem get3B : k3.getB aB = [121] := by decide
theorem get3S : k3.get aB = { k3 with calls := 3 } := rfl

set_option maxRecDepth 20000 in
set_option maxHeartbeats 800000 in
theorem known_any (w : World) : Calls Try.prog 9 #[] w fun e w' => e = .returned (.bool true) ∧ Below w.heap.size w w' := by
  have hcv := conv_lit
  go_enter Try.func9, Try.ntmps9
  go_wp2_with fail
  refine (new_any w).mono ?_
  rintro e w1 ⟨rfl, h1, b1⟩
  go_wp2_with fail
  have hp := put_any (h1.wd (below_alloc w1 (.cells #[byteV 120] 5 (1, 2)))) (by decide) (by decide) aB (by decide) (bytes_lit1 w1 120)
  rw [put1E, put1S] at hp
  refine hp.mono ?_
  rintro e w2 ⟨rfl, h2, kp2⟩
  have b2 : Below w.heap.size w w2 := below_step b1 (below_alloc w1 _) kp2.unwd b1.size (fun k hk => hk)
  replace h2 := h2.unwd
  clear hp h1 kp2 b1
  go_wp2_with fail
  have hq := script_any (h2.below (below_alloc w2 (.cells #[.int .i64 2] 3))) (ints_lit1 w2 2 (by decide)) (by decide)
  refine hq.mono ?_
  rintro e w3 ⟨rfl, h3, kp3⟩
  have b3 : Below w.heap.size w w3 := below_step b2 (below_alloc w2 _) kp3 b2.size (fun k hk => hk)
  replace h3 : StoAt (fun k => k < w.heap.size) w3 w.heap.size k2 (0 + 1) := h3
  clear hq h2 kp3 b2
  go_wp2_with fail
  have hp := put_any (h3.wd (below_alloc w3 (.cells #[byteV 121] 5 (1, 2)))) (by decide) (by decide) aB (by decide) (bytes_lit1 w3 121)
  rw [put2E, put2S] at hp
  refine hp.mono ?_
  rintro e w4 ⟨rfl, h4, kp4⟩
  have b4 : Below w.heap.size w w4 := below_step b3 (below_alloc w3 _) kp4.unwd b3.size (fun k hk => hk)
  replace h4 := h4.unwd
  clear hp h3 kp4 b3
  go_wp2_with fail
  have hg := get_any h4 (by decide) aB (by decide) (fun bs e => by cases e; decide)
  rw [get3E, get3B, get3S] at hg
  refine hg.mono ?_
  rintro e w5 ⟨v5, m, rfl, hm, h5, by5, kp5⟩
  have b5 : Below w.heap.size w w5 := below_step b4 (Below.refl _ _) kp5 b4.size (fun k hk => hk)
  replace h5 := h5.unwd
  have hcs : (convert 36 9 v5).run Try.prog w5 = .ok (.string ⟨#[121]⟩) w5 := run_string_at by5.at
  clear hg h4 kp5 b4 by5 hm hcv
  go_wp2_with fail
  refine (calls_any h5).mono ?_
  rintro e w6 ⟨rfl, rfl⟩
  clear h5
  go_wp2
  go_ret
  exact ⟨rfl, b5⟩
end Go.Proofs.Ytcbbppgleclndaa
