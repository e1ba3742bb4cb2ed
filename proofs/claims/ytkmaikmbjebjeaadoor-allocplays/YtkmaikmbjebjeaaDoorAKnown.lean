/- The contract of layer 9's known; Take in one. No statement of the seat is proved here. -/
import Derived.Test.YtkmaikmbjebjeaaDoorANew
namespace Go.Proofs.YtkmaikmbjebjeaaDoor
set_option maxRecDepth 20000
open Go.RowKit

theorem below_new (w : World) (o : Obj) : Below w.heap.size w (w.alloc o) := (Below.refl _ _).alloc (Nat.le_refl _) _
theorem tabG.mono {W w : World} (h : tabG W) (hb : Below W.heap.size W w) : tabG w := fun j hj => by
  have hc := h j hj
  exact (hb.cell (World.block_lt_of_cell? W _ hc)).trans hc
def TakePost (w : World) (ab : Nat) (A : Al) (e : Ending) (w' : World) : Prop :=
  (A.free = 0 ∧ e = .returned (.tuple #[.int .i64 0, .int .i64 5]) ∧ Below w.heap.size w w') ∨
  ∃ b, A.free ≠ 0 ∧ b < A.n ∧ LeastF A b ∧ e = .returned (.tuple #[.int .i64 (b : Nat), .int .i64 0]) ∧ AlAt w' ab (A.take b) ∧ Only ab w w'
theorem take_any {w : World} {ab : Nat} {A : Al} (h : AlAt w ab A) (ok : A.Ok) (hT : tabG w) : Calls Tryd.prog 15 #[.pointer (some ⟨ab, 0, none⟩)] w (TakePost w ab A) := by
  by_cases hf : A.free = 0
  · exact (take_full h ok hf).mono fun e w' ⟨h1, h2⟩ => .inl ⟨hf, h1, h2⟩
  · obtain ⟨b, hb, hl⟩ := ok.least hf
    exact (take_ok h ok hT hf hb hl).mono fun e w' ⟨h1, h2, h3⟩ => .inr ⟨b, hf, hb, hl, h1, h2, h3⟩
theorem known_facts : (newA 2 [1] 1).Ok ∧ (newA 2 [1] 1).free = 1 ∧ (∀ b, b < 2 → LeastF (newA 2 [1] 1) b → b = 0) ∧ LeastF (newA 2 [1] 1) 0 ∧ cnt (newA 2 [1] 1).l 4096 = 0 := by
  have hin : ∀ i, i < 1 → inR 2 (([1] : List Int).getD i 0) = true := fun i hi => by
    obtain rfl : i = 0 := by omega
    decide
  obtain ⟨h1, h2⟩ := newA_ok (n := 2) (by decide) (by decide) (zs := [1]) (k := 1) hin
  have hu1 : memK [1] 1 1 = true := by decide
  have hpos := cnt_pos (f := memK [1] 1) (n := 4096) (j := 1) (by decide) hu1
  refine ⟨h1, ?_, fun b hb hl => ?_, ⟨by decide, rfl, fun j hj => by omega⟩, cnt_void _⟩
  · show 2 - cnt (memK [1] 1) 4096 - cnt (fun _ => false) 4096 - 0 = 1
    rw [cnt_void]; omega
  · by_cases e : b = 1
    · subst e
      have := hl.1
      rw [show (newA 2 [1] 1).u 1 = true from hu1] at this
      exact absurd this (by simp)
    · omega
theorem build_1 (w : World) : (Instr.buildSlice 22 1 #[(0, .int .i64 1)]).run Tryd.prog w = .ok (.slice (some ⟨w.heap.size, 0, none⟩) 1 1) (w.alloc (.cells #[.int .i64 1] 3)) := by kernel_rfl
set_option maxRecDepth 20000 in
set_option maxHeartbeats 3200000 in
theorem aknown_any {w : World} (hT : tabG w) : Calls Tryd.prog 8 #[] w fun e w' => e = .returned (.bool true) ∧ Below w.heap.size w w' := by
  obtain ⟨k1, k2, k3, k4, k5⟩ := known_facts
  have K1 := Lib.hid k1
  have K2 := Lib.hid k2
  have K3 := Lib.hid k3
  have K4 := Lib.hid k4
  have K5 := Lib.hid k5
  clear k1 k2 k3 k4 k5
  have bn := below_new w (.cells #[.int .i64 1] 3)
  have hgn := heap_alloc_new w (.cells #[.int .i64 1] 3)
  have hrd : ReadZ (w.alloc (.cells #[.int .i64 1] 3)) (.slice (some ⟨w.heap.size, 0, none⟩) 1 1) [1] := ⟨_, 1, rfl, by decide, fun i hi => ⟨w.heap.size, 0, rfl, by simp, by
    obtain rfl : i = 0 := by simpa using hi
    exact cell_row hgn 0 rfl⟩⟩
  have hnew := new_any hrd (n := 2) (by decide) (by decide)
  have hb1 := build_1 w
  clear hrd hgn
  go_enter Tryd.func8, Tryd.ntmps8
  go_wp2_with fail
  refine Calls.mono hnew ?_
  rintro e w1 h1
  rcases h1 with ⟨-, ⟨i, hi, hr⟩, -⟩ | ⟨-, b1, ⟨-, hlt⟩ | ⟨ab, rfl, hab, a1, -⟩⟩
  · obtain rfl : i = 0 := by simpa using hi
    exact absurd hr (by decide)
  · exfalso
    have := cnt_pos (f := memK [1] 1) (n := 4096) (j := 1) (by decide) (by decide)
    have hlt : cnt (memK [1] 1) 4096 < 1 := hlt
    omega
  · have a1 : AlAt w1 ab (newA 2 [1] 1) := a1
    have bw := bn.trans (b1.mono bn.size)
    have hab : w.heap.size ≤ ab := Nat.le_trans bn.size hab
    generalize newA 2 [1] 1 = A at *
    have hfr := free_any a1 K1.out
    rw [K2.out] at hfr
    clear hnew hb1 b1 bn
    go_wp2_with fail
    refine Calls.mono hfr ?_
    rintro e w2 ⟨rfl, b2⟩
    have a2 := a1.below b2
    have bw := bw.trans (b2.mono bw.size)
    have htk := take_any a2 K1.out (hT.mono bw)
    clear hfr b2 a1
    go_wp2_with fail
    refine Calls.mono htk ?_
    rintro e w3 h3
    rcases h3 with ⟨hf, -⟩ | ⟨b, hf, hb, hl, rfl, a3, o3⟩
    · rw [K2.out] at hf; exact absurd hf (by decide)
    · have hb0 : b = 0 := K4.out.uniq hl |>.symm
      subst hb0
      obtain ⟨ok3, fr3⟩ := K1.out.take hb hl hf
      have hu3 : (A.take 0).u 0 = true := by simp [Al.take, setB]
      have hl3 : (A.take 0).l 0 = false := hl.2.1
      have fr3' : (A.take 0).free = 0 := by have := K2.out; omega
      have hcl : A.l 0 = false := hl.2.1
      have bw := bw.trans (o3.below hab a2.lt)
      have hgv := give_ok a3 ok3 0 hu3
      clear htk a2 o3 hl hf hb
      go_wp2_with fail
      refine Calls.mono hgv ?_
      rintro e w4 ⟨rfl, a4, o4⟩
      obtain ⟨ok4, fr4⟩ := ok3.give hu3
      rw [fr3'] at fr4
      have bw := bw.trans (o4.below hab a3.lt)
      have htk2 := take_full a4 ok4 fr4
      clear hgv a3 o4
      go_wp2_with fail
      refine Calls.mono htk2 ?_
      rintro e w5 ⟨rfl, b5⟩
      have a5 := a4.below b5
      have bw := bw.trans (b5.mono bw.size)
      have hse := settle_any a5
      have hc1 := cnt_reset (f := A.l) (b := 0) (n := 4096) (by decide) hcl
      rw [K5.out] at hc1
      have hc2 : cnt ((A.take 0).give 0).l 4096 = 1 := hc1
      rw [hc2] at hse
      obtain ⟨ok6, fr6⟩ := ok4.settle
      rw [fr4, hc2] at fr6
      clear htk2 a4 b5 hc1 hc2
      go_wp2_with fail
      refine Calls.mono hse ?_
      rintro e w6 ⟨rfl, a6, o6⟩
      have bw := bw.trans (o6.below hab a5.lt)
      have hfr6 := free_any a6 ok6
      rw [fr6] at hfr6
      clear hse a5 o6
      go_wp2_with fail
      refine Calls.mono hfr6 ?_
      rintro e w7 ⟨rfl, b7⟩
      have bw := bw.trans (b7.mono bw.size)
      clear hfr6 a6 b7
      go_wp2
      go_ret
      exact ⟨rfl, bw⟩
end Go.Proofs.YtkmaikmbjebjeaaDoor
