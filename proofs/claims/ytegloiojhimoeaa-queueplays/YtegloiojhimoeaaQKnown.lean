/- The contract of layer 5's 'known'. No statement of the seat is proved here. -/
import Derived.Test.YtegloiojhimoeaaQPop2
namespace Go.Proofs.Ytegloiojhimoeaa
open Go.RowKit

theorem key_one : key 4607182418800017408 = 4607182418800017408 := by decide +kernel
theorem key_two : key 4611686018427387904 = 4611686018427387904 := by decide +kernel
theorem fits_nat (n : Nat) (h : n ≤ 1000000000) : fits (n : Int) := by unfold fits; omega
theorem min_mem_del {S : List Wt} {m : Wt} (h : IsMin m S) : m ∈ S := h.1
abbrev S3 (b1 b2 b3 : Nat) : List Wt := [⟨b1, 1, 4611686018427387904, 0⟩, ⟨b2, 2, 4607182418800017408, 1⟩, ⟨b3, 3, 4607182418800017408, 2⟩]
theorem S3_min {b1 b2 b3 : Nat} {m : Wt} (h : IsMin m (S3 b1 b2 b3)) : m.id = 2 := by
  have h1 := h.2 ⟨b2, 2, 4607182418800017408, 1⟩ (by simp)
  have h2 := h.1
  simp only [S3, List.mem_cons, List.not_mem_nil, or_false] at h2
  unfold Wt.ky at h1
  rcases h2 with rfl | rfl | rfl
  · simp only [key_one, key_two] at h1; omega
  · rfl
  · simp only [key_one] at h1; omega
theorem S3_del (b1 b2 b3 : Nat) : del (S3 b1 b2 b3) 2 = [⟨b1, 1, 4611686018427387904, 0⟩, ⟨b3, 3, 4607182418800017408, 2⟩] := by simp [del]
theorem S2_min {b1 b3 : Nat} {m : Wt} (h : IsMin m [⟨b1, 1, 4611686018427387904, 0⟩, ⟨b3, 3, 4607182418800017408, 2⟩]) : m.id = 3 := by
  have h1 := h.2 ⟨b3, 3, 4607182418800017408, 2⟩ (by simp)
  have h2 := h.1
  simp only [List.mem_cons, List.not_mem_nil, or_false] at h2
  unfold Wt.ky at h1
  rcases h2 with rfl | rfl
  · simp only [key_one, key_two] at h1; omega
  · rfl

set_option maxRecDepth 20000 in
set_option maxHeartbeats 3200000 in
theorem known_any (w : World) : Calls Try.prog 8 #[] w fun e w' => e = .returned (.bool true) ∧ Below w.heap.size w w' := by
  go_enter Try.func8, Try.ntmps8
  go_wp2_with fail
  refine (new_any w).mono ?_
  rintro e w1 ⟨rfl, q1, b1⟩
  have K1 : Hid (Kp (fun k => k < w.heap.size) w w1) := Kp.of_below b1
  clear b1
  go_wp2_with fail
  refine (push_ok q1 (id := 1) (p := 4611686018427387904) (by unfold fits; omega) (by decide) rfl (by decide) (by decide) (by unfold maxLen; omega)).mono ?_
  rintro e w2 ⟨x1, rfl, q2, k2⟩
  have K2 := Lib.hid (K1.out.trans k2)
  clear q1 K1 k2
  go_wp2_with fail
  refine (push_ok q2 (id := 2) (p := 4607182418800017408) (by unfold fits; omega) (by decide) rfl (by simp) (by decide) (by unfold maxLen; omega)).mono ?_
  rintro e w3 ⟨x2, rfl, q3, k3⟩
  have K3 := Lib.hid (K2.out.trans k3)
  clear q2 K2 k3
  go_wp2_with fail
  refine (push_ok q3 (id := 3) (p := 4607182418800017408) (by unfold fits; omega) (by decide) rfl (by simp) (by decide) (by unfold maxLen; omega)).mono ?_
  rintro e w4 ⟨x3, rfl, q4, k4⟩
  have K4 := Lib.hid (K3.out.trans k4)
  clear q3 K3 k4
  have Q4 : Hid (QAt (fun k => k < w.heap.size) w4 w.heap.size (S3 x1 x2 x3) 3 3) := q4
  clear q4
  go_wp2_with fail
  refine (len_any Q4.out).mono ?_
  rintro e _ ⟨rfl, rfl⟩
  have e3 : ((S3 x1 x2 x3).length : Int) = 3 := rfl
  rw [e3]
  go_wp2_with fail
  refine (pop_ok Q4.out (by simp) (by decide)).mono ?_
  rintro e w5 ⟨m, rfl, hm, q5, k5⟩
  have hid := S3_min hm
  rw [hid, S3_del] at q5
  have K5 := Lib.hid (K4.out.trans k5)
  have Q5 := Lib.hid q5
  obtain ⟨mb, mi, mp, mt⟩ := m
  obtain rfl : mi = 2 := hid
  clear hm q5 k5 K4 Q4 e3
  go_wp2_with (with_reducible refine wpList_alloc_row rfl 43 rfl #[.int .i64 0, .float .f64 0] (by kernel_rfl) ?_)
  intro w6 hg6 hb6 hs6
  obtain ⟨d0, g0, hst, hg7, -, hbl7⟩ := ent_store hg6 2 mp
  have b7 := hbl7 _ _ hb6 (Nat.le_refl _)
  have hs7 : w5.heap.size < ((w6.setCell ⟨w5.heap.size, 0, none⟩ (.int .i64 2)).setCell ⟨w5.heap.size, 1, none⟩ (.float .f64 mp)).heap.size := by simpa [World.setCell] using hs6
  have F7 := Lib.hid (And.intro hg7 (And.intro b7 hs7))
  clear hg7 b7 hbl7 hg6 hb6 hs6 hs7
  generalize hw7 : (w6.setCell ⟨w5.heap.size, 0, none⟩ (.int .i64 2)).setCell ⟨w5.heap.size, 1, none⟩ (.float .f64 mp) = w7 at *
  clear hw7
  have PK := Lib.hid (peek_ok (Q5.out.below F7.out.2.1) (by simp))
  go_wp2_with fail
  refine PK.out.mono ?_
  rintro e w8 ⟨m, rfl, hm, b8⟩
  have hid := S2_min hm
  obtain ⟨nb, ni, np, nt⟩ := m
  obtain rfl : ni = 3 := hid
  have c2 := cell_row ((b8.block _ F7.out.2.2).trans F7.out.1) 0 rfl
  have K8 := Lib.hid (K5.out.trans ((Kp.of_below F7.out.2.1).trans (Kp.of_below b8)))
  have hs8 := Nat.lt_of_lt_of_le F7.out.2.2 b8.size
  clear hm PK F7 Q5 K5 b8 hst d0 g0
  go_wp2_with (with_reducible refine wpList_alloc_row rfl 43 rfl #[.int .i64 0, .float .f64 0] (by kernel_rfl) ?_)
  intro w9 hg9 hb9 hs9
  obtain ⟨d0, g0, hst, hg10, ho10, hbl10⟩ := ent_store hg9 3 np
  have b10 := hbl10 _ _ hb9 (Nat.le_refl _)
  have c2' : ((w9.setCell ⟨w8.heap.size, 0, none⟩ (.int .i64 3)).setCell ⟨w8.heap.size, 1, none⟩ (.float .f64 np)).cell? ⟨w5.heap.size, 0, none⟩ = some (.int .i64 2) := (b10.cell (p := ⟨w5.heap.size, 0, none⟩) hs8).trans c2
  have c3 := cell_row hg10 0 rfl
  have K10 := Lib.hid (K8.out.trans (Kp.of_below b10))
  clear hg10 ho10 hbl10 b10 hg9 hb9 hs9 c2 hs8 K8
  generalize hw10 : (w9.setCell ⟨w8.heap.size, 0, none⟩ (.int .i64 3)).setCell ⟨w8.heap.size, 1, none⟩ (.float .f64 np) = w10 at *
  clear hw10
  go_wp2
  go_ret
  exact ⟨rfl, K10.out.below (Nat.le_refl _) (fun _ e => e)⟩
end Go.Proofs.Ytegloiojhimoeaa
