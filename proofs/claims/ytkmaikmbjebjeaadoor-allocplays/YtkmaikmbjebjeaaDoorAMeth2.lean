/- The contracts of Take, Give, Settle, Reserve, Release, Copy. No statement of the seat is proved here. -/
import Derived.Test.YtkmaikmbjebjeaaDoorAMeth
namespace Go.Proofs.YtkmaikmbjebjeaaDoor
set_option maxRecDepth 20000
open Go.RowKit

/-! ### counting -/
theorem cnt_beyond {f : Nat → Bool} {n m : Nat} (hn : n ≤ m) (h : ∀ j, f j = true → j < n) : cnt f m = cnt f n := by
  obtain ⟨d, rfl⟩ := Nat.exists_eq_add_of_le hn
  have hz : cnt (fun j => f (n + j)) d = 0 := cnt_none (fun j _ => by
    cases hf : f (n + j)
    · rfl
    · have := h _ hf; omega)
  rw [cnt_add, hz, Nat.add_zero]
theorem cnt_unset {f : Nat → Bool} {b n : Nat} (hb : b < n) (hf : f b = true) : cnt (setB f b false) n + 1 = cnt f n := by
  have h := cnt_set (f := setB f b false) (g := f) (b := b) (by simp [setB]) hf (fun j hj => by simp [setB, hj]) hb
  omega
theorem cnt_reset {f : Nat → Bool} {b n : Nat} (hb : b < n) (hf : f b = false) : cnt (setB f b true) n = cnt f n + 1 :=
  cnt_set (f := f) (g := setB f b true) (b := b) hf (by simp [setB]) (fun j hj => by simp [setB, hj]) hb
theorem Al.Ok.counts {A : Al} (ok : A.Ok) : cnt A.u 4096 = cnt A.u A.n ∧ cnt A.l 4096 = cnt A.l A.n := ⟨cnt_beyond ok.n2 ok.us, cnt_beyond ok.n2 ok.ls⟩
theorem Al.Ok.least {A : Al} (ok : A.Ok) (hf : A.free ≠ 0) : ∃ b, b < A.n ∧ LeastF A b := by
  obtain ⟨h1, h2⟩ := ok.counts
  have hs := ok.sum
  have hor := cnt_or (f := A.u) (g := A.l) ok.dis A.n
  have hnot := cnt_not (fun j => A.u j || A.l j) A.n
  unfold Al.free at hf
  have hpos : 0 < cnt (fun j => !(A.u j || A.l j)) A.n := by omega
  have hex : ∃ j, j < A.n ∧ (!(A.u j || A.l j)) = true := by
    apply Classical.byContradiction
    intro hno
    have : cnt (fun j => !(A.u j || A.l j)) A.n = 0 := cnt_none (fun j hj => by
      cases hq : !(A.u j || A.l j)
      · rfl
      · exact absurd ⟨j, hj, hq⟩ hno)
    omega
  obtain ⟨b, hb, hfb, hl⟩ := least_of _ hex
  simp only [Bool.not_eq_true', Bool.or_eq_false_iff] at hfb
  refine ⟨b, hb, hfb.1, hfb.2, fun j hj => ?_⟩
  have := hl j hj
  simp only [Bool.not_eq_false', Bool.or_eq_true] at this
  exact this
def Al.take (A : Al) (b : Nat) : Al := { A with u := setB A.u b true }
def Al.give (A : Al) (b : Nat) : Al := { A with u := setB A.u b false, l := setB A.l b true }
def Al.settle (A : Al) : Al := { A with l := fun _ => false }
theorem Al.Ok.take {A : Al} (ok : A.Ok) {b : Nat} (hb : b < A.n) (hl : LeastF A b) (hf : A.free ≠ 0) : (A.take b).Ok ∧ (A.take b).free + 1 = A.free := by
  have hs := ok.sum
  have hn := ok.n2
  have hc := cnt_reset (f := A.u) (b := b) (n := 4096) (by omega) hl.1
  unfold Al.free at hf
  refine ⟨⟨ok.n1, ok.n2, fun j hj => ?_, ok.ls, fun j hj => ?_, ?_⟩, ?_⟩
  · simp only [Al.take, setB] at hj ⊢
    split at hj
    · omega
    · exact ok.us j hj
  · simp only [Al.take, setB] at hj ⊢
    split at hj
    · rename_i e; rw [e]; exact hl.2.1
    · exact ok.dis j hj
  · show cnt (setB A.u b true) 4096 + cnt A.l 4096 + A.k ≤ A.n
    omega
  · show A.n - cnt (setB A.u b true) 4096 - cnt A.l 4096 - A.k + 1 = A.n - cnt A.u 4096 - cnt A.l 4096 - A.k
    omega
theorem Al.Ok.give {A : Al} (ok : A.Ok) {b : Nat} (hu : A.u b = true) : (A.give b).Ok ∧ (A.give b).free = A.free := by
  have hb := ok.us b hu
  have hn := ok.n2
  have hl := ok.dis b hu
  have h1 := cnt_unset (f := A.u) (b := b) (n := 4096) (by omega) hu
  have h2 := cnt_reset (f := A.l) (b := b) (n := 4096) (by omega) hl
  have hs := ok.sum
  refine ⟨⟨ok.n1, ok.n2, fun j hj => ?_, fun j hj => ?_, fun j hj => ?_, ?_⟩, ?_⟩
  · simp only [Al.give, setB] at hj ⊢
    split at hj
    · exact absurd hj (by simp)
    · exact ok.us j hj
  · simp only [Al.give, setB] at hj ⊢
    split at hj
    · omega
    · exact ok.ls j hj
  · simp only [Al.give, setB] at hj ⊢
    split at hj
    · exact absurd hj (by simp)
    · rename_i e; rw [if_neg e]; exact ok.dis j hj
  · show cnt (setB A.u b false) 4096 + cnt (setB A.l b true) 4096 + A.k ≤ A.n
    omega
  · show A.n - cnt (setB A.u b false) 4096 - cnt (setB A.l b true) 4096 - A.k = A.n - cnt A.u 4096 - cnt A.l 4096 - A.k
    omega
theorem cnt_void (n : Nat) : cnt (fun _ => false) n = 0 := cnt_none (fun _ _ => rfl)
theorem Al.Ok.settle {A : Al} (ok : A.Ok) : A.settle.Ok ∧ A.settle.free = A.free + cnt A.l 4096 := by
  have hs := ok.sum
  refine ⟨⟨ok.n1, ok.n2, ok.us, fun j hj => absurd hj (by simp [Al.settle]), fun j _ => rfl, ?_⟩, ?_⟩
  · show cnt A.u 4096 + cnt (fun _ => false) 4096 + A.k ≤ A.n
    rw [cnt_void]; omega
  · show A.n - cnt A.u 4096 - cnt (fun _ => false) 4096 - A.k = A.n - cnt A.u 4096 - cnt A.l 4096 - A.k + cnt A.l 4096
    rw [cnt_void]; omega
theorem Al.Ok.keep {A : Al} (ok : A.Ok) {k : Nat} (hk : k ≤ A.free + A.k) : Al.Ok { A with k := k } ∧ Al.free { A with k := k } = A.free + A.k - k := by
  have hs := ok.sum
  unfold Al.free at *
  exact ⟨⟨ok.n1, ok.n2, ok.us, ok.ls, ok.dis, by simp only; omega⟩, by simp only; omega⟩

/-! ### the calls -/
set_option maxRecDepth 20000 in
set_option maxHeartbeats 1600000 in
theorem take_full {w : World} {ab : Nat} {A : Al} (h : AlAt w ab A) (ok : A.Ok) (hf : A.free = 0) : Calls Tryd.prog 15 #[.pointer (some ⟨ab, 0, none⟩)] w fun e w' => e = .returned (.tuple #[.int .i64 0, .int .i64 5]) ∧ Below w.heap.size w w' := by
  have hfr := free_any h ok
  rw [hf] at hfr
  clear h hf ok
  go_enter Tryd.func15, Tryd.ntmps15
  go_wp2_with fail
  refine Calls.mono hfr ?_
  rintro e w1 ⟨rfl, b1⟩
  go_wp2
  go_returns
  exact ⟨rfl, b1⟩
set_option maxRecDepth 20000 in
set_option maxHeartbeats 1600000 in
theorem take_ok {w : World} {ab : Nat} {A : Al} (h : AlAt w ab A) (ok : A.Ok) (hT : tabG w) (hf : A.free ≠ 0) {b : Nat} (hb : b < A.n) (hl : LeastF A b) : Calls Tryd.prog 15 #[.pointer (some ⟨ab, 0, none⟩)] w fun e w' => e = .returned (.tuple #[.int .i64 (b : Nat), .int .i64 0]) ∧ AlAt w' ab (A.take b) ∧ Only ab w w' := by
  have hfr := free_any h ok
  obtain ⟨r, hr⟩ : ∃ r, A.free = r := ⟨_, rfl⟩
  rw [hr] at hfr hf
  have hn := ok.n2
  have hlt := h.lt
  have hrz : ((r : Int) == 0) = false := by simp; omega
  go_enter Tryd.func15, Tryd.ntmps15
  go_wp2_with fail
  refine Calls.mono hfr ?_
  rintro e w1 ⟨rfl, b1⟩
  have h1 := h.below b1
  have hT1 := hT.below (fun k hk => b1.block k (by subst hk; exact Nat.lt_of_le_of_lt (Nat.zero_le _) hlt))
  have hlf := leastFree_any h1 hT1 (by omega) hl
  clear hfr hr
  go_wp2_with fail
  refine Calls.mono hlf ?_
  rintro e w2 ⟨rfl, b2⟩
  have h2 := h1.below b2
  obtain ⟨su, -, -, -, fz⟩ := h2.sets
  have hadd := add_raw su fz b (by omega)
  have O2 : Only ab w w2 := (Only.of_below b1).trans (Only.of_below b2)
  have FIN := Lib.hid (And.intro ((h2.set1 b (by omega) true).drew) ((O2.setCell (1 + b / 64) (.int .u64 (wordOf (setB A.u b true) (b / 64) : Nat))).drew))
  clear hlf h1 h2 su fz O2 h hT hT1 hl
  go_wp2_with fail
  refine Calls.mono hadd ?_
  rintro e w3 ⟨rfl, rfl⟩
  clear hadd
  go_wp2
  go_returns
  exact ⟨rfl, FIN.out⟩
set_option maxRecDepth 20000 in
set_option maxHeartbeats 1600000 in
theorem give_bad {w : World} {ab : Nat} {A : Al} (h : AlAt w ab A) (b : Int) (hb : isB A b = false) : Calls Tryd.prog 11 #[.pointer (some ⟨ab, 0, none⟩), .int .i64 b] w fun e w' => e = .returned (.int .i64 1) ∧ w = w' := by
  have hi := is_any h b
  rw [hb] at hi
  clear h hb
  go_enter Tryd.func11, Tryd.ntmps11
  go_wp2_with fail
  refine Calls.mono hi ?_
  rintro e _ ⟨rfl, rfl⟩
  go_wp2
  go_ret
  exact ⟨rfl, rfl⟩
set_option maxRecDepth 20000 in
set_option maxHeartbeats 1600000 in
theorem give_miss {w : World} {ab : Nat} {A : Al} (h : AlAt w ab A) (ok : A.Ok) (b : Nat) (hb : b < A.n) (hu : A.u b = false) : Calls Tryd.prog 11 #[.pointer (some ⟨ab, 0, none⟩), .int .i64 (b : Nat)] w fun e w' => e = .returned (.int .i64 7) ∧ w = w' := by
  have hi := is_any h b
  rw [show isB A (b : Int) = true from decide_eq_true ⟨by omega, by omega⟩] at hi
  have hh := has_any h.sets.1 b (by have := ok.n2; omega)
  rw [hu] at hh
  clear h hb hu ok
  go_enter Tryd.func11, Tryd.ntmps11
  go_wp2_with fail
  refine Calls.mono hi ?_
  rintro e _ ⟨rfl, rfl⟩
  go_wp2_with fail
  refine Calls.mono hh ?_
  rintro e _ ⟨rfl, rfl⟩
  go_wp2
  go_ret
  exact ⟨rfl, rfl⟩
set_option maxRecDepth 20000 in
set_option maxHeartbeats 1600000 in
theorem give_ok {w : World} {ab : Nat} {A : Al} (h : AlAt w ab A) (ok : A.Ok) (b : Nat) (hu : A.u b = true) : Calls Tryd.prog 11 #[.pointer (some ⟨ab, 0, none⟩), .int .i64 (b : Nat)] w fun e w' => e = .returned (.int .i64 0) ∧ AlAt w' ab (A.give b) ∧ Only ab w w' := by
  have hb := ok.us b hu
  have hb4 : b < 4096 := by have := ok.n2; omega
  have hi := is_any h b
  rw [show isB A (b : Int) = true from decide_eq_true ⟨by omega, by omega⟩] at hi
  obtain ⟨su, sl, -, -, fz⟩ := h.sets
  have hh := has_any su b hb4
  rw [hu] at hh
  have hdr := drop_raw su fz b hb4
  have h2 := (h.set1 b hb4 false).drew
  have O2 := ((Only.refl ab w).setCell (1 + b / 64) (.int .u64 (wordOf (setB A.u b false) (b / 64) : Nat))).drew
  clear h su sl fz hu ok
  go_enter Tryd.func11, Tryd.ntmps11
  go_wp2_with fail
  refine Calls.mono hi ?_
  rintro e _ ⟨rfl, rfl⟩
  go_wp2_with fail
  refine Calls.mono hh ?_
  rintro e _ ⟨rfl, rfl⟩
  go_wp2_with fail
  refine Calls.mono hdr ?_
  rintro e w2 ⟨rfl, hw2⟩
  rw [← hw2] at h2 O2
  clear hdr hi hh hw2
  obtain ⟨-, sl, -, -, fz⟩ := h2.sets
  have hadd := add_raw sl fz b hb4
  have FIN := Lib.hid (And.intro ((h2.set2 b hb4 true).drew) ((O2.setCell (65 + b / 64) (.int .u64 (wordOf (setB A.l b true) (b / 64) : Nat))).drew))
  clear h2 O2 sl fz
  go_wp2_with fail
  refine Calls.mono hadd ?_
  rintro e w3 ⟨rfl, rfl⟩
  clear hadd
  go_wp2
  go_ret
  exact ⟨rfl, FIN.out⟩
set_option maxRecDepth 20000 in
set_option maxHeartbeats 1600000 in
theorem reserve_bad {w : World} {ab : Nat} (z : Int) (hz : z < 0) : Calls Tryd.prog 20 #[.pointer (some ⟨ab, 0, none⟩), .int .i64 z] w fun e w' => e = .returned (.int .i64 1) ∧ w = w' := by
  go_enter Tryd.func20, Tryd.ntmps20
  go_wp2
  go_ret
  exact ⟨rfl, rfl⟩
set_option maxRecDepth 20000 in
set_option maxHeartbeats 1600000 in
theorem reserve_full {w : World} {ab : Nat} {A : Al} (h : AlAt w ab A) (ok : A.Ok) (z : Int) (hz : 0 ≤ z) (hf : (A.free : Int) < z) : Calls Tryd.prog 20 #[.pointer (some ⟨ab, 0, none⟩), .int .i64 z] w fun e w' => e = .returned (.int .i64 5) ∧ Below w.heap.size w w' := by
  have hfr := free_any h ok
  generalize A.free = r at hfr hf
  clear h ok
  have hz' : ¬ z < 0 := by omega
  go_enter Tryd.func20, Tryd.ntmps20
  go_wp2_with fail
  refine Calls.mono hfr ?_
  rintro e w1 ⟨rfl, b1⟩
  go_wp2
  go_ret
  exact ⟨rfl, b1⟩
set_option maxRecDepth 20000 in
set_option maxHeartbeats 1600000 in
theorem reserve_ok {w : World} {ab : Nat} {A : Al} (h : AlAt w ab A) (ok : A.Ok) (m : Nat) (hf : m ≤ A.free) : Calls Tryd.prog 20 #[.pointer (some ⟨ab, 0, none⟩), .int .i64 (m : Nat)] w fun e w' => e = .returned (.int .i64 0) ∧ AlAt w' ab { A with k := A.k + m } ∧ Only ab w w' := by
  have hfr := free_any h ok
  have hs := ok.sum
  have hn := ok.n2
  have hfd : A.free ≤ 4096 := by unfold Al.free; omega
  have hkd : A.k ≤ 4096 := by omega
  obtain ⟨r, hr⟩ : ∃ r, A.free = r := ⟨_, rfl⟩
  rw [hr] at hfr hf hfd
  have hz' : ¬ (m : Int) < 0 := by omega
  have hz2 : ¬ (r : Int) < (m : Int) := by omega
  go_enter Tryd.func20, Tryd.ntmps20
  go_wp2_with fail
  refine Calls.mono hfr ?_
  rintro e w1 ⟨rfl, b1⟩
  have h1 := h.below b1
  obtain ⟨-, -, -, c3, fz⟩ := h1.sets
  have f3 := fz 129
  have hst := h1.setK (A.k + m)
  have O := (Only.of_below (b := ab) b1).setCell 129 (.int .i64 ((A.k + m : Nat) : Int))
  have hsum : ((A.k + m : Nat) : Int) = (A.k : Int) + (m : Int) := by omega
  rw [hsum] at hst O
  have FIN := Lib.hid (And.intro hst O)
  clear hst O h h1 hfr hs ok fz b1 hr hsum
  go_wp2
  go_ret
  exact ⟨rfl, FIN.out⟩
set_option maxRecDepth 20000 in
set_option maxHeartbeats 1600000 in
theorem release_bad {w : World} {ab : Nat} {A : Al} (h : AlAt w ab A) (z : Int) (hz : z < 0 ∨ (A.k : Int) < z) : Calls Tryd.prog 22 #[.pointer (some ⟨ab, 0, none⟩), .int .i64 z] w fun e w' => e = .returned (.int .i64 1) ∧ w = w' := by
  obtain ⟨-, -, -, c3, -⟩ := h.sets
  generalize A.k = kk at c3 hz
  clear h
  by_cases h1 : z < 0
  · go_enter Tryd.func22, Tryd.ntmps22
    go_wp2
    go_ret
    exact ⟨rfl, rfl⟩
  · have h2 : (kk : Int) < z := by omega
    go_enter Tryd.func22, Tryd.ntmps22
    go_wp2
    go_ret
    exact ⟨rfl, rfl⟩
set_option maxRecDepth 20000 in
set_option maxHeartbeats 1600000 in
theorem release_ok {w : World} {ab : Nat} {A : Al} (h : AlAt w ab A) (ok : A.Ok) (m : Nat) (hm : m ≤ A.k) : Calls Tryd.prog 22 #[.pointer (some ⟨ab, 0, none⟩), .int .i64 (m : Nat)] w fun e w' => e = .returned (.int .i64 0) ∧ AlAt w' ab { A with k := A.k - m } ∧ Only ab w w' := by
  have hs := ok.sum
  have hn := ok.n2
  have hkd : A.k ≤ 4096 := by omega
  obtain ⟨-, -, -, c3, fz⟩ := h.sets
  have f3 := fz 129
  have hst := h.setK (A.k - m)
  have O := (Only.refl ab w).setCell 129 (.int .i64 ((A.k - m : Nat) : Int))
  have hsum : ((A.k - m : Nat) : Int) = (A.k : Int) - (m : Int) := by omega
  rw [hsum] at hst O
  have FIN := Lib.hid (And.intro hst O)
  have h1 : ¬ (m : Int) < 0 := by omega
  have h2 : ¬ (A.k : Int) < (m : Int) := by omega
  clear hst O h hs ok fz hsum hm
  generalize A.k = kk at c3 FIN hkd h2 ⊢
  go_enter Tryd.func22, Tryd.ntmps22
  go_wp2
  go_ret
  exact ⟨rfl, FIN.out⟩
end Go.Proofs.YtkmaikmbjebjeaaDoor
