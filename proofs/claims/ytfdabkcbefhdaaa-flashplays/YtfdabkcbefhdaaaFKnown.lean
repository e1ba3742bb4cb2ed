/- The contract of the statements' own known. No statement of the seat is proved here. -/
import Derived.Test.YtfdabkcbefhdaaaFBytes
import Derived.Test.YtfdabkcbefhdaaaHeld
namespace Go.Proofs.Ytfdabkcbefhdaaa
set_option maxRecDepth 20000
open Go.RowKit

/-- Bytes of one's own are told as a text. -/
def strOf (bs : List UInt8) : ByteArray := ⟨bs.toArray⟩
theorem run_string {w : World} {base : Nat} {v : Value} {bs : List UInt8} (h : OwnB base w v bs) : (convert 31 9 v).run Try.prog w = .ok (.string (strOf bs)) w := by
  rcases h.2 with ⟨h1, h2⟩ | ⟨g, cap, cur, hv, _, hg, _, _, _, htake⟩
  · have hb : bs = [] := List.eq_nil_of_length_eq_zero h2
    subst hb
    rw [h1]
    exact run_convert_bytes_nil (P := Try.prog) w 31 5 Try.underlying31 Try.underlying5 0 0 9 Try.underlying9
  · rw [hv]
    have := run_convert_bytes_arg (P := Try.prog) w 31 5 Try.underlying31 Try.underlying5 g 0 bs.length cap (bs.map fun x => (x.toNat : Int)) (by simp) (fun i hi => by
      rw [cell_of_row w g (0 + i) cur _ _ hg, Nat.zero_add]
      have hc : (cellsB bs)[i]? = some (byteV (bs.getD i 0)) := by
        simp only [cellsB, List.getElem?_map, List.getElem?_eq_getElem hi, Option.map_some, List.getD_eq_getElem?_getD, Option.getD_some]
      rw [← htake, List.getElem?_take, Nat.mul_one, if_pos hi] at hc
      have hc' : cur[i]? = some (byteV (bs.getD i 0)) := by simpa using hc
      rw [hc']
      simp [byteV, List.getD_eq_getElem?_getD, List.getElem?_eq_getElem hi]) 9 Try.underlying9
    rw [this]
    congr 2
    simp [strOfNums, strOf, Function.comp_def]

def k0 : Dev := Dev.fresh 2
def kB : List UInt8 := bytesL 7 256
def k1 : Dev := { k0 with waits := [(1, kB)] }
def k2 : Dev := k1.flushed
def k3 : Dev := k2.crash []
theorem kB_len : kB.length = 256 := bytesL_length 7 256
theorem k_write : k0.write 1 kB = (0, k1) := by kernel_rfl
theorem k_flush : k1.flush = (0, k2) := by kernel_rfl
theorem k_read : k3.read 1 = (kB, 0) := by kernel_rfl

set_option maxHeartbeats 400000 in
theorem known_any (w : World) : Calls Try.prog 10 #[] w fun e w' => e = .returned (.bool true) ∧ Below w.heap.size w w' := by
  go_enter Try.func10, Try.ntmps10
  go_wp2_with fail
  refine (new_any w.heap.size w 2 (by decide) (by decide) (Nat.le_refl _)).mono ?_
  rintro e w1 ⟨rfl, h1, b1, s1⟩
  go_wp2_with fail
  have hsz : Calls Try.prog 18 #[.pointer (some ⟨w.heap.size, 0, none⟩)] w1 fun e w' => e = .returned (.int .i64 2) ∧ w1 = w' := size_any h1
  refine hsz.mono ?_
  rintro e w1' ⟨rfl, rfl⟩
  clear hsz
  go_wp2_with fail
  refine (bytes_any w1 7 0 (by decide) (by decide)).mono ?_
  rintro e w2 ⟨v2, rfl, o2, b2⟩
  have h2 : DevAt w.heap.size w2 w.heap.size k0 0 := h1.below b2
  have o2' : OwnB w1.heap.size w2 v2 kB := o2
  clear o2
  go_wp2_with fail
  have hwr := write_any h2 1 (o2'.bytes (by rw [kB_len]; simp only [maxLen]; omega)) (by decide) (Nat.le_trans b1.size b2.size)
  rw [k_write] at hwr
  refine hwr.mono ?_
  rintro e w3 ⟨rfl, h3, f3⟩
  clear hwr
  go_wp2_with fail
  have hfl := flush_any h3 (by decide) (by decide)
  rw [k_flush] at hfl
  refine hfl.mono ?_
  rintro e w4 ⟨rfl, h4, f4⟩
  clear hfl
  go_wp2_with fail
  refine (crash_any h4 (by decide) (by decide) (Ints.nil FK w.heap.size w4)).mono ?_
  rintro e w5 ⟨rfl, h5, f5⟩
  go_wp2_with fail
  have hrd := read_any (d := k3) h5 1 (by decide)
  rw [k_read] at hrd
  refine hrd.mono ?_
  rintro e w6 ⟨v6, rfl, o6, b6⟩
  clear hrd
  have hb6 : Below w.heap.size w w6 := (b1.trans (b2.mono b1.size)).trans (((f3.trans (f4.trans f5)).below (Nat.le_trans b1.size b2.size)).trans (b6.mono (Nat.le_trans (Nat.le_trans b1.size b2.size) (f3.trans (f4.trans f5)).size)))
  clear f3 f4 f5 b6 b2 b1 s1 h1 h2 h3 h4 h5 o2'
  have hcv : ∀ w', Below w6.heap.size w6 w' → (convert 31 9 v6).run Try.prog w' = .ok (.string (strOf kB)) w' := fun w' hb => run_string (row_keep (K := fun _ => false) (B' := 0) o6 (Fr.of_below hb) (fun _ => rfl))
  clear o6
  go_wp2_with fail
  have hS : Below w6.heap.size w6 w6.drew := (Below.refl _ _).drew
  refine wp_region_held_drew (S := fun w' => Below w6.heap.size w6 w') mixed hS (fun _ => ?_)
  show wpAnyH _ _ _ _ _ 18 (Array.replicate 18 false) _ _
  refine wpAnyH_take_d 0 (some 34) (.int .i64 0) rfl (by kernel_rfl) (by kernel_rfl) (by kernel_rfl) (by kernel_rfl) rfl (fun _ _ _ h => h) (fun _ _ => by kernel_rfl) (by exact hS) ?_
  simp only [Act.put, List.setIfInBounds_toArray, List.set_cons_succ, List.set_cons_zero]
  refine wpAnyH_take_d 1 (some 35) (.bool true) rfl (by kernel_rfl) (by kernel_rfl) (by kernel_rfl) (by kernel_rfl) rfl (fun _ _ _ h => h) (fun _ _ => by kernel_rfl) (by exact hS) ?_
  simp only [Act.put, List.setIfInBounds_toArray, List.set_cons_succ, List.set_cons_zero]
  refine wpAnyH_take_d 2 (some 36) (.bool true) rfl (by kernel_rfl) (by kernel_rfl) (by kernel_rfl) (by kernel_rfl) rfl (fun _ _ _ h => h) (fun _ _ => by kernel_rfl) (by exact hS) ?_
  simp only [Act.put, List.setIfInBounds_toArray, List.set_cons_succ, List.set_cons_zero]
  refine wpAnyH_take_d 3 (some 37) (.int .i64 0) rfl (by kernel_rfl) (by kernel_rfl) (by kernel_rfl) (by kernel_rfl) rfl (fun _ _ _ h => h) (fun _ _ => by kernel_rfl) (by exact hS) ?_
  simp only [Act.put, List.setIfInBounds_toArray, List.set_cons_succ, List.set_cons_zero]
  refine wpAnyH_take_d 4 (some 38) (.bool true) rfl (by kernel_rfl) (by kernel_rfl) (by kernel_rfl) (by kernel_rfl) rfl (fun _ _ _ h => h) (fun _ _ => by kernel_rfl) (by exact hS) ?_
  simp only [Act.put, List.setIfInBounds_toArray, List.set_cons_succ, List.set_cons_zero]
  refine wpAnyH_take_d 5 (some 39) (.bool true) rfl (by kernel_rfl) (by kernel_rfl) (by kernel_rfl) (by kernel_rfl) rfl (fun _ _ _ h => h) (fun _ _ => by kernel_rfl) (by exact hS) ?_
  simp only [Act.put, List.setIfInBounds_toArray, List.set_cons_succ, List.set_cons_zero]
  refine wpAnyH_take_d 6 (some 40) (.bool true) rfl (by kernel_rfl) (by kernel_rfl) (by kernel_rfl) (by kernel_rfl) rfl (fun _ _ _ h => h) (fun _ _ => by kernel_rfl) (by exact hS) ?_
  simp only [Act.put, List.setIfInBounds_toArray, List.set_cons_succ, List.set_cons_zero]
  refine wpAnyH_take_d 7 (some 41) (.int .i64 0) rfl (by kernel_rfl) (by kernel_rfl) (by kernel_rfl) (by kernel_rfl) rfl (fun _ _ _ h => h) (fun _ _ => by kernel_rfl) (by exact hS) ?_
  simp only [Act.put, List.setIfInBounds_toArray, List.set_cons_succ, List.set_cons_zero]
  refine wpAnyH_take_d 8 (some 42) (.bool true) rfl (by kernel_rfl) (by kernel_rfl) (by kernel_rfl) (by kernel_rfl) rfl (fun _ _ _ h => h) (fun _ _ => by kernel_rfl) (by exact hS) ?_
  simp only [Act.put, List.setIfInBounds_toArray, List.set_cons_succ, List.set_cons_zero]
  refine wpAnyH_take_d 9 (some 43) (.bool true) rfl (by kernel_rfl) (by kernel_rfl) (by kernel_rfl) (by kernel_rfl) rfl (fun _ _ _ h => h) (fun _ _ => by kernel_rfl) (by exact hS) ?_
  simp only [Act.put, List.setIfInBounds_toArray, List.set_cons_succ, List.set_cons_zero]
  refine wpAnyH_take_d 10 (some 44) (.bool true) rfl (by kernel_rfl) (by kernel_rfl) (by kernel_rfl) (by kernel_rfl) rfl (fun _ _ _ h => h) (fun _ _ => by kernel_rfl) (by exact hS) ?_
  simp only [Act.put, List.setIfInBounds_toArray, List.set_cons_succ, List.set_cons_zero]
  refine wpAnyH_take_d 11 (some 45) (v6) rfl (by kernel_rfl) (by kernel_rfl) (by kernel_rfl) (by kernel_rfl) rfl (fun _ _ _ h => h) (fun _ _ => by kernel_rfl) (by exact hS) ?_
  simp only [Act.put, List.setIfInBounds_toArray, List.set_cons_succ, List.set_cons_zero]
  refine wpAnyH_take_d 12 (some 46) (.string (strOf kB)) rfl (by kernel_rfl) (by kernel_rfl) (by kernel_rfl) (by kernel_rfl) rfl (fun _ _ _ h => h) (fun w' hb => exec_convert rfl rfl (hcv w' hb)) (by exact hS) ?_
  simp only [Act.put, List.setIfInBounds_toArray, List.set_cons_succ, List.set_cons_zero]
  refine wpAnyH_call 13 (some 47) 16 #[.int .i64 7, .int .i64 0] rfl (by kernel_rfl) (by kernel_rfl) rfl (by kernel_rfl) (bytes_any w6.drew 7 0 (by decide) (by decide)) ?_
  rintro e w7 ⟨v7, rfl, o7, b7⟩
  have hS : Below w6.heap.size w6 w7 := (Below.refl w6.heap.size w6).drew.trans b7
  refine ⟨v7, rfl, hS, ?_⟩
  simp only [Act.put, List.setIfInBounds_toArray, List.set_cons_succ, List.set_cons_zero]
  have hc7 := run_string o7
  refine wpAnyH_one 14 (some 48) (.string (strOf kB)) rfl (by kernel_rfl) (by kernel_rfl) rfl (exec_convert rfl rfl hc7) (by exact hS) ?_
  simp only [Act.put, List.setIfInBounds_toArray, List.set_cons_succ, List.set_cons_zero]
  refine wpAnyH_one 15 (some 49) (.bool true) rfl (by kernel_rfl) (by kernel_rfl) rfl (exec_streq rfl rfl rfl (by simp)) (by exact hS) ?_
  simp only [Act.put, List.setIfInBounds_toArray, List.set_cons_succ, List.set_cons_zero]
  refine wpAnyH_one 16 (some 50) (.bool true) rfl (by kernel_rfl) (by kernel_rfl) rfl (by kernel_rfl) (by exact hS) ?_
  simp only [Act.put, List.setIfInBounds_toArray, List.set_cons_succ, List.set_cons_zero]
  refine wpAnyH_one 17 (some 0) (.bool true) rfl (by kernel_rfl) (by kernel_rfl) rfl (by kernel_rfl) (by exact hS) ?_
  simp only [Act.put, List.setIfInBounds_toArray, List.set_cons_zero]
  refine wpAnyH_done (by kernel_rfl) ?_ _
  have hb7 := hb6.trans (hS.mono hb6.size)
  go_wp2
  go_ret
  exact ⟨rfl, hb7⟩
end Go.Proofs.Ytfdabkcbefhdaaa
