/- A device has as many sectors as were asked for, and no others; what is asked of others is refused: the law cisternlaw01.FlashSizes returns true at every input. No condition. -/
import Derived.Test.YtmlmncnnccegdaaFKnown
import Derived.ProofKit
import Derived.OpenShut
namespace Go.Proofs.Ytmlmncnnccegdaa.flashSizes
open Go.ChangeShapes Go.WideShapes Go.ChangeAt Go.RowKit

theorem own : ownKnob Try.prog.godebug = none := by kernel_rfl

theorem has_true {d : Dev} {i : Int} (h : 0 ≤ i ∧ i < d.size) : d.has i = true := by simp [Dev.has, h]
theorem has_false {d : Dev} {i : Int} (h : ¬ (0 ≤ i ∧ i < d.size)) : d.has i = false := by simp [Dev.has]; intro _; omega
theorem read_in (n : Nat) (i : Int) (h : 0 ≤ i ∧ i < n) : (Dev.fresh n).read i = (zeros, 0) := by
  unfold Dev.read
  rw [if_neg (by rw [has_true h]; simp), if_neg (by simp [Dev.fresh])]
  simp [Dev.fresh, newest]
theorem read_out (n : Nat) (i : Int) (h : ¬ (0 ≤ i ∧ i < n)) : (Dev.fresh n).read i = ([], 1) := by
  unfold Dev.read
  rw [if_pos (has_false h)]
theorem write_in (n : Nat) (i : Int) (bs : List UInt8) (h : 0 ≤ i ∧ i < n) (hb : bs.length = 256) : (Dev.fresh n).write i bs = (0, { Dev.fresh n with waits := [(i, bs)] }) := by
  unfold Dev.write
  rw [if_neg (by rw [has_true h]; simp [hb])]
  simp [Dev.spend, Dev.fresh]
theorem write_out (d : Dev) (i : Int) (bs : List UInt8) (h : d.has i = false) : d.write i bs = (1, d) := by
  unfold Dev.write
  rw [if_pos (Or.inl h)]
theorem write_len (d : Dev) (i : Int) (bs : List UInt8) (hb : bs.length ≠ 256) : d.write i bs = (1, d) := by
  unfold Dev.write
  rw [if_pos (Or.inr hb)]

theorem bytes_nil (w : World) : BytesAt w (.slice none 0 0) [] := ⟨none, 0, rfl, Nat.zero_le _, fun h => by simp at h⟩

theorem below_all {K : Obj → Bool} {w w0 w1 w2 w3 w4 w5 w6 w8 : World} (b0 : Below w.heap.size w w0) (b1 : Below w0.heap.size w0 w1) (b2 : Below w1.heap.size w1 w2) (b3 : Below w2.heap.size w2 w3) (f4 : Fr K w0.heap.size w3 w4)
    (b5 : Below w4.heap.size w4 w5) (f6 : Fr K w0.heap.size w5 w6) (f8 : Fr K w0.heap.size w6 w8) : Below w.heap.size w w8 := by
  have h1 := b0.trans (b1.mono b0.size)
  have h2 := h1.trans (b2.mono h1.size)
  have h3 := h2.trans (b3.mono h2.size)
  have s3 : w0.heap.size ≤ w3.heap.size := Nat.le_trans b1.size (Nat.le_trans b2.size b3.size)
  have h4 := h3.trans ((f4.below s3).mono b0.size)
  have h5 := h4.trans (b5.mono h4.size)
  have s5 : w0.heap.size ≤ w5.heap.size := Nat.le_trans s3 (Nat.le_trans f4.size b5.size)
  have h6 := h5.trans ((f6.below s5).mono b0.size)
  exact h6.trans ((f8.below (Nat.le_trans s5 f6.size)).mono b0.size)

set_option maxHeartbeats 800000 in
theorem walk_ok (n : Nat) (i : Int) (h1 : 1 ≤ n) (h2 : n ≤ 4096) (w : World) :
    Calls Try.prog 9 #[.int .i64 n, .int .i64 i] w fun e w' => e = .returned (.bool true) ∧ Below w.heap.size w w' := by
  go_enter Try.func9, Try.ntmps9
  go_wp2_with fail
  refine (known_any w).mono ?_
  rintro e w0 ⟨rfl, b0⟩
  go_wp2_with fail
  refine (new_any w0.heap.size w0 n h1 h2 (Nat.le_refl _)).mono ?_
  rintro e w1 ⟨rfl, d1, b1, s1⟩
  by_cases hin : 0 ≤ i ∧ i < n
  · have hr := read_any d1 i (by simp [Dev.fresh])
    rw [read_in n i hin] at hr
    go_wp2_with fail
    refine hr.mono ?_
    rintro e w2 ⟨v2, rfl, -, b2⟩
    clear hr
    have d2 := d1.below b2
    obtain ⟨hi1, hi2⟩ := hin
    go_wp2_with fail
    have hsz : Calls Try.prog 18 #[.pointer (some ⟨w0.heap.size, 0, none⟩)] w2 fun e w' => e = .returned (.int .i64 n) ∧ w2 = w' := size_any d2
    refine hsz.mono ?_
    rintro e w2' ⟨rfl, rfl⟩
    clear hsz
    go_wp2_with fail
    refine (bytes0_any w2 1 (by decide)).mono ?_
    rintro e w3 ⟨v3, rfl, o3, b3⟩
    have hw3 := write_any (d2.below b3) i (o3.bytes (by rw [bytesL_length]; decide)) (by simp [Dev.fresh]) (Nat.le_trans b1.size (Nat.le_trans b2.size b3.size))
    rw [write_in n i _ ⟨hi1, hi2⟩ (bytesL_length _ _)] at hw3
    go_wp2_with fail
    refine hw3.mono ?_
    rintro e w4 ⟨rfl, d4, f4⟩
    clear hw3
    go_wp2_with fail
    refine (bytes_any w4 1 1 (by decide) (by decide)).mono ?_
    rintro e w5 ⟨v5, rfl, o5, b5⟩
    have hw5 := write_any (d4.below b5) 0 (o5.bytes (by rw [bytesL_length]; decide)) (by simp) (Nat.le_trans b1.size (Nat.le_trans b2.size (Nat.le_trans b3.size (Nat.le_trans f4.size b5.size))))
    rw [write_len _ _ _ (by rw [bytesL_length]; decide)] at hw5
    go_wp2_with fail
    refine hw5.mono ?_
    rintro e w6 ⟨rfl, d6, f6⟩
    clear hw5
    have hw7 := write_any d6 0 (bytes_nil w6) (by simp) (Nat.le_trans b1.size (Nat.le_trans b2.size (Nat.le_trans b3.size (Nat.le_trans f4.size (Nat.le_trans b5.size f6.size)))))
    rw [write_len _ _ _ (by simp)] at hw7
    go_wp2_with fail
    refine hw7.mono ?_
    rintro e w8 ⟨rfl, d8, f8⟩
    clear hw7
    have hB := below_all b0 b1 b2 b3 f4 b5 f6 f8
    clear b0 b1 b2 b3 f4 b5 f6 f8 d1 d2 d4 d6 d8 s1 o3 o5
    go_wp2
    go_ret
    exact ⟨rfl, hB⟩
  · have hr := read_any d1 i (by simp [Dev.fresh])
    rw [read_out n i hin] at hr
    go_wp2_with fail
    refine hr.mono ?_
    rintro e w2 ⟨v2, rfl, -, b2⟩
    clear hr
    have d2 := d1.below b2
    by_cases hi0 : 0 ≤ i
    · have hi1 : (n : Int) ≤ i := by omega
      have hdn : decide (i < (n : Int)) = false := by simpa using hi1
      go_wp2_with fail
      have hsz : Calls Try.prog 18 #[.pointer (some ⟨w0.heap.size, 0, none⟩)] w2 fun e w' => e = .returned (.int .i64 n) ∧ w2 = w' := size_any d2
      refine hsz.mono ?_
      rintro e w2' ⟨rfl, rfl⟩
      clear hsz
      go_wp2_with fail
      refine (bytes0_any w2 1 (by decide)).mono ?_
      rintro e w3 ⟨v3, rfl, o3, b3⟩
      have hw3 := write_any (d2.below b3) i (o3.bytes (by rw [bytesL_length]; decide)) (by simp [Dev.fresh]) (Nat.le_trans b1.size (Nat.le_trans b2.size b3.size))
      rw [write_out _ i _ (has_false hin)] at hw3
      go_wp2_with fail
      refine hw3.mono ?_
      rintro e w4 ⟨rfl, d4, f4⟩
      clear hw3
      go_wp2_with fail
      refine (bytes_any w4 1 1 (by decide) (by decide)).mono ?_
      rintro e w5 ⟨v5, rfl, o5, b5⟩
      have hw5 := write_any (d4.below b5) 0 (o5.bytes (by rw [bytesL_length]; decide)) (by simp [Dev.fresh]) (Nat.le_trans b1.size (Nat.le_trans b2.size (Nat.le_trans b3.size (Nat.le_trans f4.size b5.size))))
      rw [write_len _ _ _ (by rw [bytesL_length]; decide)] at hw5
      go_wp2_with fail
      refine hw5.mono ?_
      rintro e w6 ⟨rfl, d6, f6⟩
      clear hw5
      have hw7 := write_any d6 0 (bytes_nil w6) (by simp [Dev.fresh]) (Nat.le_trans b1.size (Nat.le_trans b2.size (Nat.le_trans b3.size (Nat.le_trans f4.size (Nat.le_trans b5.size f6.size)))))
      rw [write_len _ _ _ (by simp)] at hw7
      go_wp2_with fail
      refine hw7.mono ?_
      rintro e w8 ⟨rfl, d8, f8⟩
      clear hw7
      have hB := below_all b0 b1 b2 b3 f4 b5 f6 f8
      clear b0 b1 b2 b3 f4 b5 f6 f8 d1 d2 d4 d6 d8 s1 o3 o5
      go_wp2
      go_ret
      exact ⟨rfl, hB⟩
    · go_wp2_with fail
      have hsz : Calls Try.prog 18 #[.pointer (some ⟨w0.heap.size, 0, none⟩)] w2 fun e w' => e = .returned (.int .i64 n) ∧ w2 = w' := size_any d2
      refine hsz.mono ?_
      rintro e w2' ⟨rfl, rfl⟩
      clear hsz
      go_wp2_with fail
      refine (bytes0_any w2 1 (by decide)).mono ?_
      rintro e w3 ⟨v3, rfl, o3, b3⟩
      have hw3 := write_any (d2.below b3) i (o3.bytes (by rw [bytesL_length]; decide)) (by simp [Dev.fresh]) (Nat.le_trans b1.size (Nat.le_trans b2.size b3.size))
      rw [write_out _ i _ (has_false hin)] at hw3
      go_wp2_with fail
      refine hw3.mono ?_
      rintro e w4 ⟨rfl, d4, f4⟩
      clear hw3
      go_wp2_with fail
      refine (bytes_any w4 1 1 (by decide) (by decide)).mono ?_
      rintro e w5 ⟨v5, rfl, o5, b5⟩
      have hw5 := write_any (d4.below b5) 0 (o5.bytes (by rw [bytesL_length]; decide)) (by simp [Dev.fresh]) (Nat.le_trans b1.size (Nat.le_trans b2.size (Nat.le_trans b3.size (Nat.le_trans f4.size b5.size))))
      rw [write_len _ _ _ (by rw [bytesL_length]; decide)] at hw5
      go_wp2_with fail
      refine hw5.mono ?_
      rintro e w6 ⟨rfl, d6, f6⟩
      clear hw5
      have hw7 := write_any d6 0 (bytes_nil w6) (by simp [Dev.fresh]) (Nat.le_trans b1.size (Nat.le_trans b2.size (Nat.le_trans b3.size (Nat.le_trans f4.size (Nat.le_trans b5.size f6.size)))))
      rw [write_len _ _ _ (by simp)] at hw7
      go_wp2_with fail
      refine hw7.mono ?_
      rintro e w8 ⟨rfl, d8, f8⟩
      clear hw7
      have hB := below_all b0 b1 b2 b3 f4 b5 f6 f8
      clear b0 b1 b2 b3 f4 b5 f6 f8 d1 d2 d4 d6 d8 s1 o3 o5
      go_wp2
      go_ret
      exact ⟨rfl, hB⟩

set_option maxHeartbeats 400000 in
theorem walk_no (n i : Int) (h : n < 1 ∨ 4096 < n) (w : World) :
    Calls Try.prog 9 #[.int .i64 n, .int .i64 i] w fun e w' => e = .returned (.bool true) ∧ Below w.heap.size w w' := by
  have hn := fun w0 => new_no w0 n h
  rcases h with h | h
  · go_enter Try.func9, Try.ntmps9
    go_wp2_with fail
    refine (known_any w).mono ?_
    rintro e w0 ⟨rfl, b0⟩
    go_wp2_with fail
    refine (hn w0).mono ?_
    rintro e w1 ⟨rfl, rfl⟩
    go_wp2
    go_ret
    exact ⟨rfl, b0⟩
  · have h' : ¬ n < 1 := by omega
    go_enter Try.func9, Try.ntmps9
    go_wp2_with fail
    refine (known_any w).mono ?_
    rintro e w0 ⟨rfl, b0⟩
    go_wp2_with fail
    refine (hn w0).mono ?_
    rintro e w1 ⟨rfl, rfl⟩
    go_wp2
    go_ret
    exact ⟨rfl, b0⟩

theorem walk (n i : Int) (w : World) :
    Calls Try.prog 9 #[.int .i64 n, .int .i64 i] w fun e w' => e = .returned (.bool true) ∧ Below w.heap.size w w' := by
  by_cases h : n < 1 ∨ 4096 < n
  · exact walk_no n i h w
  · obtain ⟨m, rfl⟩ : ∃ m : Nat, n = m := ⟨n.toNat, by omega⟩
    exact walk_ok m i (by omega) (by omega) w

/-! ### the row -/
set_option maxRecDepth 100000 in
theorem lifted (os : Os) (started : os.Started) (H : Type) (enc : TypeId × Value → H) :
    ReturnsInHanded {} Try.checked os 9 .any (Rows.flashSizesSpec.pre6 enc Try.prog Try.f9 Rows.flashSizesRow.domain false) (Rows.flashSizesSpec.post enc Try.prog Try.f9 false true false false) := by
  refine returnsInHanded_of_change (C := Try.checked) own started (by kernel_rfl) Try.func9
    (ChangeSpec.witness6 (enc := enc) (C := Try.checked) false ⟨#[], #[.int .i64 0, .int .i64 0], []⟩ 8 (by kernel_rfl) (by kernel_rfl) (by kernel_rfl) (by kernel_rfl)) ?_
  intro W base args ds gs before hval0 hW hcnd _
  have hval : ∀ (j : Nat) t v, Try.f9.params[j]? = some t → args[j]? = some v → Value.okWide Try.prog W .any base t v := hval0
  have hW' := hW
  obtain ⟨p, q, hA0, hV, rfl, hfz, hnd⟩ := hW
  have hA : DataW.TrodAll enc Try.prog W 0 (fun _ => true) true Try.f9.params.toList args.toList ds p := hA0
  rw [Try.params9] at hA hval
  obtain ⟨v0, vs0, d0, ds0, p0, q0, hargs, rfl, rfl, h0, r0⟩ := trodAll_cons hA
  obtain ⟨v1, vs1, d1, ds1, p1, q1, rfl, rfl, rfl, h1, r1⟩ := trodAll_cons r0
  obtain ⟨rfl, rfl, rfl⟩ := trodAll_nil r1
  obtain rfl : args = #[v0, v1] := by cases args; simp_all
  obtain ⟨rfl, rfl⟩ := trodVars_none hV
  obtain ⟨a0, rfl, rfl, rfl, w0⟩ := open_int Try.underlying3 (hval 0 3 v0 rfl rfl) h0
  obtain ⟨a1, rfl, rfl, rfl, w1⟩ := open_int Try.underlying3 (hval 1 3 v1 rfl rfl) h1
  clear hA0 hval0
  refine (walk a0 a1 W).mono fun e W' ⟨he, bel⟩ => ?_
  subst he
  exact ⟨_, rfl, _, _, _, [], _, [], hW', trodAll_mk1 (shut_bool Try.underlying4 _), (trodAll_cons_mk (shut_int Try.underlying3 w0) (trodAll_cons_mk (shut_int Try.underlying3 w1) trodAll_mk0)), rfl, bel.frame _, fun h => by cases h⟩

theorem over : Rows.flashSizesRow.holds Try.pinned (OpenSpec.ofChange Rows.flashSizesSpec) :=
  OpenClaim.holds_of_wide 9 Try.f9 rfl rfl rfl rfl rfl rfl rfl ⟨rfl, rfl, rfl, rfl, rfl⟩ rfl rfl rfl rfl rfl (by kernel_rfl) Try.func9 (by kernel_rfl)
    (of_decide_eq_true (by kernel_rfl)) (by unfold Func.isWrapper; first | (rw [if_pos (by decide +kernel)]; kernel_rfl) | (rw [if_neg (by decide +kernel)]; exact ⟨rfl, rfl⟩))
    (fun os started H enc _ => lifted os started H enc)
end Go.Proofs.Ytmlmncnnccegdaa.flashSizes

namespace Go.Proofs.Ytmlmncnnccegdaa
/-- The law returns true at every input. -/
theorem flashSizes_holds : Rows.FlashSizesSaid := flashSizes.over
end Go.Proofs.Ytmlmncnnccegdaa
