/- The document's allocator: Give, Settle, Reserve, Release. No statement of the seat is proved here. -/
import Derived.Test.YtkmaikmbjebjeaaDoorADoc2
namespace Go.Proofs.YtkmaikmbjebjeaaDoor
set_option maxRecDepth 20000
open Go.RowKit

set_option maxRecDepth 20000 in
set_option maxHeartbeats 1600000 in
theorem dgive_any {B : Nat} {w : World} {rb : Nat} {A : Al} (h : RS B w rb A.n (stA A) A.k) (z : Int) : Calls Tryd.prog 17 #[.pointer (some ⟨rb, 0, none⟩), .int .i64 z] w fun e w' => e = .returned (.int .i64 (giveR A z).1) ∧ RS B w' rb (giveR A z).2.n (stA (giveR A z).2) (giveR A z).2.k ∧ Fr KR B w w' := by
  have hn2 := h.n2
  obtain ⟨ao, cap, hall⟩ := h.all
  obtain ⟨c0, -, cs⟩ := hall w (Below.refl _ _)
  unfold giveR isB
  by_cases h1 : 0 ≤ z
  · by_cases h2 : z < (A.n : Int)
    · rw [decide_eq_true ⟨h1, h2⟩, if_neg (by simp)]
      obtain ⟨b, rfl⟩ : ∃ b : Nat, z = b := ⟨z.toNat, by omega⟩
      simp only [Int.toNat_natCast]
      have hb : b < A.n := by omega
      obtain ⟨g, rfl, cb⟩ := cs b hb
      cases hu : A.u b
      · have hx : stA A b ≠ 1 := by
          have := congrFun (stA_one A) b
          simp only [hu] at this
          simpa using this
        generalize stA A b = x at cb hx
        have hxn : (x != 1) = true := by simpa using hx
        have FIN : Hid (RS B w rb A.n (stA A) A.k ∧ Fr KR B w w) := Lib.hid ⟨h, Fr.refl _ _ _⟩
        rw [if_pos rfl]
        clear h hall cs h1
        generalize A.n = n at *
        go_enter Tryd.func17, Tryd.ntmps17
        go_wp2
        go_ret
        exact ⟨rfl, FIN.out⟩
      · have hx : stA A b = 1 := by unfold stA; simp [hu]
        rw [hx] at cb
        obtain ⟨g', cap', d0, d1, fz, r1, r2⟩ := h.turn (Below.refl _ _) hb 2
        rw [c0] at d0
        injection d0 with d0
        obtain ⟨rfl, rfl⟩ : g = g' ∧ cap = cap' := by cases d0; exact ⟨rfl, rfl⟩
        have FIN : Hid (RS B (w.setCell ⟨g, b, none⟩ (.int .i64 2)) rb (A.give b).n (stA (A.give b)) (A.give b).k ∧ Fr KR B w (w.setCell ⟨g, b, none⟩ (.int .i64 2))) := Lib.hid ⟨r1.congr (fun i _ => (stA_give i).symm), r2⟩
        rw [if_neg (by simp)]
        clear h hall cs h1 r1 r2 hx d1 d0
        generalize (A.give b).n = n' at *
        generalize (A.give b).k = k' at *
        generalize stA (A.give b) = st' at *
        generalize A.n = n at *
        go_enter Tryd.func17, Tryd.ntmps17
        go_wp2
        go_ret
        exact ⟨rfl, FIN.out⟩
    · rw [decide_eq_false (fun h => h2 h.2), if_pos rfl]
      have FIN : Hid (RS B w rb A.n (stA A) A.k ∧ Fr KR B w w) := Lib.hid ⟨h, Fr.refl _ _ _⟩
      clear h hall cs
      generalize A.n = n at *
      go_enter Tryd.func17, Tryd.ntmps17
      go_wp2
      go_ret
      exact ⟨rfl, FIN.out⟩
  · rw [decide_eq_false (fun h => h1 h.1), if_pos rfl]
    have FIN : Hid (RS B w rb A.n (stA A) A.k ∧ Fr KR B w w) := Lib.hid ⟨h, Fr.refl _ _ _⟩
    clear h hall cs c0
    generalize A.n = n at *
    go_enter Tryd.func17, Tryd.ntmps17
    go_wp2
    go_ret
    exact ⟨rfl, FIN.out⟩
/-! ### Reserve, Release -/
set_option maxRecDepth 20000 in
set_option maxHeartbeats 800000 in
theorem dreserve_bad {w : World} {rb : Nat} (z : Int) (hz : z < 0) : Calls Tryd.prog 21 #[.pointer (some ⟨rb, 0, none⟩), .int .i64 z] w fun e w' => e = .returned (.int .i64 1) ∧ w = w' := by
  go_enter Tryd.func21, Tryd.ntmps21
  go_wp2
  go_ret
  exact ⟨rfl, rfl⟩
set_option maxRecDepth 20000 in
set_option maxHeartbeats 800000 in
theorem dreserve_full {B : Nat} {w : World} {rb : Nat} {A : Al} (h : RS B w rb A.n (stA A) A.k) (ok : A.Ok) (z : Int) (hz : 0 ≤ z) (hf : (A.free : Int) < z) : Calls Tryd.prog 21 #[.pointer (some ⟨rb, 0, none⟩), .int .i64 z] w fun e w' => e = .returned (.int .i64 5) ∧ Below w.heap.size w w' := by
  have hfr := dfree_any h ok
  generalize A.free = q at *
  clear h ok
  go_enter Tryd.func21, Tryd.ntmps21
  go_wp2_with fail
  refine Calls.mono hfr ?_
  rintro e w2 ⟨rfl, b2⟩
  clear hfr
  go_wp2
  go_ret
  exact ⟨rfl, b2⟩
set_option maxRecDepth 20000 in
set_option maxHeartbeats 1600000 in
theorem dreserve_ok {B : Nat} {w : World} {rb : Nat} {A : Al} (h : RS B w rb A.n (stA A) A.k) (ok : A.Ok) (m : Nat) (hf : m ≤ A.free) : Calls Tryd.prog 21 #[.pointer (some ⟨rb, 0, none⟩), .int .i64 (m : Nat)] w fun e w' => e = .returned (.int .i64 0) ∧ RS B w' rb A.n (stA A) (A.k + m) ∧ Fr KR B w w' := by
  have hfr := dfree_any h ok
  have hn2 := ok.n2
  have hs := ok.sum
  have hk : A.k + m ≤ 4096 := by unfold Al.free at hf; omega
  have HT : Hid (∀ w2, Below w.heap.size w w2 → w2.cell? ⟨rb, 1, none⟩ = some (.int .i64 (A.k : Nat)) ∧ w2.frozen? ⟨rb, 1, none⟩ = false ∧ RS B (w2.setCell ⟨rb, 1, none⟩ (.int .i64 ((A.k + m : Nat) : Int))) rb A.n (stA A) (A.k + m) ∧ Fr KR B w (w2.setCell ⟨rb, 1, none⟩ (.int .i64 ((A.k + m : Nat) : Int)))) := Lib.hid fun w2 b2 => by
    have h2 := h.below b2
    obtain ⟨ao, cap, -, c1, fz, -⟩ := h2.cells
    obtain ⟨r1, r2⟩ := h2.keep (A.k + m)
    exact ⟨c1, fz 1, r1, (Fr.of_below b2).trans r2⟩
  generalize A.free = q at *
  generalize A.k = k at *
  generalize A.n = n at *
  generalize stA A = st at *
  obtain ⟨j, hj⟩ : ∃ j, k + m = j := ⟨_, rfl⟩
  rw [hj] at HT hk ⊢
  have hjj : ((k : Nat) : Int) + ((m : Nat) : Int) = (j : Nat) := by omega
  have hw : IntKind.i64.wrap (((k : Nat) : Int) + ((m : Nat) : Int)) = (j : Nat) := by rw [hjj, IntKind.wrap_i64]; omega
  have hlt : ¬ ((q : Nat) : Int) < (m : Nat) := by omega
  clear h ok hs hjj hj hn2 hf
  go_enter Tryd.func21, Tryd.ntmps21
  go_wp2_with fail
  refine Calls.mono hfr ?_
  rintro e w2 ⟨rfl, b2⟩
  obtain ⟨c1, fz, r1, r2⟩ := HT.out w2 b2
  have FIN := Lib.hid (And.intro r1 r2)
  clear hfr r1 r2 b2
  go_wp2_with (simp only [hw])
  go_ret
  try rw [hw]
  exact ⟨rfl, FIN.out⟩
set_option maxRecDepth 20000 in
set_option maxHeartbeats 800000 in
theorem drelease_bad {B : Nat} {w : World} {rb n : Nat} {st : Nat → Int} {k : Nat} (h : RS B w rb n st k) (z : Int) (hz : z < 0 ∨ (k : Int) < z) : Calls Tryd.prog 23 #[.pointer (some ⟨rb, 0, none⟩), .int .i64 z] w fun e w' => e = .returned (.int .i64 1) ∧ w = w' := by
  obtain ⟨ao, cap, -, c1, fz, -⟩ := h.cells
  clear h
  by_cases h0 : z < 0
  · clear hz
    go_enter Tryd.func23, Tryd.ntmps23
    go_wp2
    go_ret
    exact ⟨rfl, rfl⟩
  · have h1 : (k : Int) < z := hz.resolve_left h0
    clear hz
    go_enter Tryd.func23, Tryd.ntmps23
    go_wp2
    go_ret
    exact ⟨rfl, rfl⟩
set_option maxRecDepth 20000 in
set_option maxHeartbeats 1600000 in
theorem drelease_ok {B : Nat} {w : World} {rb n : Nat} {st : Nat → Int} {k : Nat} (h : RS B w rb n st k) (hk4 : k ≤ 4096) (m : Nat) (hm : m ≤ k) : Calls Tryd.prog 23 #[.pointer (some ⟨rb, 0, none⟩), .int .i64 (m : Nat)] w fun e w' => e = .returned (.int .i64 0) ∧ RS B w' rb n st (k - m) ∧ Fr KR B w w' := by
  obtain ⟨ao, cap, -, c1, fz, -⟩ := h.cells
  have fz1 := fz 1
  have FIN := Lib.hid (h.keep (k - m))
  obtain ⟨j, hj⟩ : ∃ j, k - m = j := ⟨_, rfl⟩
  rw [hj] at FIN ⊢
  have hw : IntKind.i64.wrap (((k : Nat) : Int) - ((m : Nat) : Int)) = (j : Nat) := by rw [IntKind.wrap_i64]; omega
  have hlt : ¬ ((k : Nat) : Int) < (m : Nat) := by omega
  clear h hj fz hm
  go_enter Tryd.func23, Tryd.ntmps23
  go_wp2_with (simp only [hw])
  go_ret
  try rw [hw]
  exact ⟨rfl, FIN.out⟩
end Go.Proofs.YtkmaikmbjebjeaaDoor
