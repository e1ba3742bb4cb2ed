/- The contract of layer 5's step: the same call of both queues. No statement of the seat is proved here. -/
import Derived.Test.YtegloiojhimoeaaQPair
namespace Go.Proofs.Ytegloiojhimoeaa
open Go.RowKit

def StepPost (B : Nat) (w : World) (qb rb : Nat) (pu N : Nat) (e : Ending) (w' : World) : Prop := e = .returned (.bool true) ∧ ∃ S' pu' N', Both B w' qb rb S' pu' N' ∧ pu' ≤ pu + 1 ∧ N' ≤ N + 1 ∧ Below B w w'
set_option maxRecDepth 20000 in
set_option maxHeartbeats 12800000 in
theorem step_any {B : Nat} {w : World} {qb rb : Nat} {S : List Wt} {pu N : Nat} (h : Both B w qb rb S pu N) (hB : B ≤ w.heap.size) {k id : Int} {p : Nat} (hf : fits id) (hp : p < 18446744073709551616) (hpu : pu < 1000000) (hN : N < 1000000) :
    Calls Try.prog 10 #[.pointer (some ⟨qb, 0, none⟩), .pointer (some ⟨rb, 0, none⟩), .agg #[.int .i64 k, .int .i64 id, .float .f64 p]] w (StepPost B w qb rb pu N) := by
  go_enter Try.func10, Try.ntmps10
  go_wp2_with (with_reducible refine wpList_box_row rfl 33 (.tmp 2) rfl #[.int .i64 k, .int .i64 id, .float .f64 p] rfl ?_)
  intro w1 hg1 hb1 hs1
  have o0 := cell_row hg1 0 rfl
  have o1 := cell_row hg1 1 rfl
  have o2 := cell_row hg1 2 rfl
  obtain ⟨X, Y, hXY, hcv, q0, r0⟩ := h
  have cv1 : ∀ k, k < w1.heap.size → (X k ∨ (w.heap.size ≤ k ∧ k < w1.heap.size)) ∨ (Y k ∨ (w.heap.size ≤ k ∧ k < w1.heap.size)) := fun k hk => by
    by_cases e : k < w.heap.size
    · rcases hcv k e with e | e
      · exact Or.inl (Or.inl e)
      · exact Or.inr (Or.inl e)
    · exact Or.inl (Or.inr ⟨by omega, hk⟩)
  have H := Lib.hid (And.intro (q0.wider hb1) (And.intro (r0.wider hb1) (And.intro cv1 (And.intro (show X w.heap.size ∨ (w.heap.size ≤ w.heap.size ∧ w.heap.size < w1.heap.size) from Or.inr ⟨Nat.le_refl _, hs1⟩) (And.intro (show Y w.heap.size ∨ (w.heap.size ≤ w.heap.size ∧ w.heap.size < w1.heap.size) from Or.inr ⟨Nat.le_refl _, hs1⟩)
    (And.intro (show ∀ k, k < B → (X k ∨ (w.heap.size ≤ k ∧ k < w1.heap.size)) ∧ (Y k ∨ (w.heap.size ≤ k ∧ k < w1.heap.size)) from fun k hk => ⟨Or.inl (hXY k hk).1, Or.inl (hXY k hk).2⟩) (hb1.mono hB)))))))
  clear q0 r0 cv1 hcv hXY hg1 hb1 hs1
  have SZ : ∀ {x : World}, Below B w x → B ≤ x.heap.size := fun h => Nat.le_trans hB h.size
  by_cases k1 : k = 1
  · subst k1
    go_wp2_with fail
    have hS : w1.drew.cell? ⟨w.heap.size, 1, none⟩ = some (.int .i64 id) ∧ w1.drew.cell? ⟨w.heap.size, 2, none⟩ = some (.float .f64 p) := ⟨o1, o2⟩
    refine wp_region_held_drew (S := fun w' => w'.cell? ⟨w.heap.size, 1, none⟩ = some (.int .i64 id) ∧ w'.cell? ⟨w.heap.size, 2, none⟩ = some (.float .f64 p)) mixed hS (fun _ => ?_)
    show wpAnyH _ _ _ _ _ 14 (Array.replicate 14 false) _ _
    refine wpAnyH_take_d 0 (some 22) (.pointer (some ⟨qb, 0, none⟩)) rfl (by kernel_rfl) (by kernel_rfl) (by kernel_rfl) (by kernel_rfl) rfl (fun _ _ _ h => h) (fun _ _ => by kernel_rfl) (by exact hS) ?_
    simp only [Act.put, List.setIfInBounds_toArray, List.set_cons_succ, List.set_cons_zero]
    refine wpAnyH_take_d 1 (some 23) (.pointer (some ⟨w.heap.size, 1, none⟩)) rfl (by kernel_rfl) (by kernel_rfl) (by kernel_rfl) (by kernel_rfl) rfl (fun _ _ _ h => h) (fun _ _ => by kernel_rfl) (by exact hS) ?_
    simp only [Act.put, List.setIfInBounds_toArray, List.set_cons_succ, List.set_cons_zero]
    refine wpAnyH_take_d 2 (some 24) (.int .i64 id) rfl (by kernel_rfl) (by kernel_rfl) (by kernel_rfl) (by kernel_rfl) rfl (fun _ _ _ h => h) (fun w' h => exec_load_cell rfl rfl h.1 Try.underlying3 rfl) (by exact hS) ?_
    simp only [Act.put, List.setIfInBounds_toArray, List.set_cons_succ, List.set_cons_zero]
    refine wpAnyH_take_d 3 (some 25) (.pointer (some ⟨w.heap.size, 2, none⟩)) rfl (by kernel_rfl) (by kernel_rfl) (by kernel_rfl) (by kernel_rfl) rfl (fun _ _ _ h => h) (fun _ _ => by kernel_rfl) (by exact hS) ?_
    simp only [Act.put, List.setIfInBounds_toArray, List.set_cons_succ, List.set_cons_zero]
    refine wpAnyH_take_d 4 (some 26) (.float .f64 p) rfl (by kernel_rfl) (by kernel_rfl) (by kernel_rfl) (by kernel_rfl) rfl (fun _ _ _ h => h) (fun w' h => exec_load_cell rfl rfl h.2 Try.underlying31 rfl) (by exact hS) ?_
    simp only [Act.put, List.setIfInBounds_toArray, List.set_cons_succ, List.set_cons_zero]
    refine wpAnyH_take_d 6 (some 28) (.pointer (some ⟨rb, 0, none⟩)) rfl (by kernel_rfl) (by kernel_rfl) (by kernel_rfl) (by kernel_rfl) rfl (fun _ _ _ h => h) (fun _ _ => by kernel_rfl) (by exact hS) ?_
    simp only [Act.put, List.setIfInBounds_toArray, List.set_cons_succ, List.set_cons_zero]
    refine wpAnyH_take_d 7 (some 29) (.pointer (some ⟨w.heap.size, 1, none⟩)) rfl (by kernel_rfl) (by kernel_rfl) (by kernel_rfl) (by kernel_rfl) rfl (fun _ _ _ h => h) (fun _ _ => by kernel_rfl) (by exact hS) ?_
    simp only [Act.put, List.setIfInBounds_toArray, List.set_cons_succ, List.set_cons_zero]
    refine wpAnyH_take_d 8 (some 30) (.int .i64 id) rfl (by kernel_rfl) (by kernel_rfl) (by kernel_rfl) (by kernel_rfl) rfl (fun _ _ _ h => h) (fun w' h => exec_load_cell rfl rfl h.1 Try.underlying3 rfl) (by exact hS) ?_
    simp only [Act.put, List.setIfInBounds_toArray, List.set_cons_succ, List.set_cons_zero]
    refine wpAnyH_take_d 9 (some 31) (.pointer (some ⟨w.heap.size, 2, none⟩)) rfl (by kernel_rfl) (by kernel_rfl) (by kernel_rfl) (by kernel_rfl) rfl (fun _ _ _ h => h) (fun _ _ => by kernel_rfl) (by exact hS) ?_
    simp only [Act.put, List.setIfInBounds_toArray, List.set_cons_succ, List.set_cons_zero]
    refine wpAnyH_take_d 10 (some 32) (.float .f64 p) rfl (by kernel_rfl) (by kernel_rfl) (by kernel_rfl) (by kernel_rfl) rfl (fun _ _ _ h => h) (fun w' h => exec_load_cell rfl rfl h.2 Try.underlying31 rfl) (by exact hS) ?_
    simp only [Act.put, List.setIfInBounds_toArray, List.set_cons_succ, List.set_cons_zero]
    have q1d := H.out.1.below ((Below.refl _ _).drew)
    refine wpAnyH_call 5 (some 27) 13 #[.pointer (some ⟨qb, 0, none⟩), .int .i64 id, .float .f64 p] rfl (by kernel_rfl) (by kernel_rfl) rfl (by kernel_rfl) (push_pair (rb := rb) q1d hf hp (by omega) (by unfold maxLen; omega)) ?_
    rintro e w2 ⟨c, rfl, S', pu', N', q2, k2, hpu', hN', RC⟩
    have hS := And.intro (k2.cell (p := ⟨w.heap.size, 1, none⟩) H.out.2.2.2.1 hS.1) (k2.cell (p := ⟨w.heap.size, 2, none⟩) H.out.2.2.2.1 hS.2)
    refine ⟨_, rfl, hS, ?_⟩
    simp only [Act.put, List.setIfInBounds_toArray, List.set_cons_succ, List.set_cons_zero]
    have k2c : Kp _ w1 w2 := ⟨k2.os, k2.tape, k2.output, k2.size, k2.keep⟩
    have r2 := H.out.2.1.other k2c H.out.2.2.1
    refine wpAnyH_call 11 (some 33) 22 #[.pointer (some ⟨rb, 0, none⟩), .int .i64 id, .float .f64 p] rfl (by kernel_rfl) (by kernel_rfl) rfl (by kernel_rfl) (RC _ w2 r2) ?_
    rintro e w3 ⟨rfl, r3, k3⟩
    have hS := And.intro (k3.cell (p := ⟨w.heap.size, 1, none⟩) (Or.inl H.out.2.2.2.2.1) hS.1) (k3.cell (p := ⟨w.heap.size, 2, none⟩) (Or.inl H.out.2.2.2.2.1) hS.2)
    refine ⟨_, rfl, hS, ?_⟩
    simp only [Act.put, List.setIfInBounds_toArray, List.set_cons_succ, List.set_cons_zero]
    refine wpAnyH_one 12 (some 34) (.bool true) rfl (by kernel_rfl) (by kernel_rfl) rfl (exec_inteq rfl rfl rfl rfl) (by exact hS) ?_
    simp only [Act.put, List.setIfInBounds_toArray, List.set_cons_succ, List.set_cons_zero]
    refine wpAnyH_one 13 (some 6) (.bool true) rfl (by kernel_rfl) (by kernel_rfl) rfl (by kernel_rfl) (by exact hS) ?_
    simp only [Act.put, List.setIfInBounds_toArray, List.set_cons_succ, List.set_cons_zero]
    refine wpAnyH_done (by kernel_rfl) ?_ _
    have FIN : Hid (StepPost B w qb rb pu N (.returned (.bool true)) w3) := ⟨rfl, S', pu', N', both_of H.out.2.2.2.2.2.1 H.out.2.2.1 q2 r3 k3, hpu', hN', (H.out.2.2.2.2.2.2.trans (k2c.below (SZ H.out.2.2.2.2.2.2) (fun j hj => (H.out.2.2.2.2.2.1 j hj).1))).trans (k3.below (Nat.le_trans (SZ H.out.2.2.2.2.2.2) k2c.size) (fun j hj => Or.inl (H.out.2.2.2.2.2.1 j hj).2))⟩
    clear hS q2 k2 k2c r2 r3 k3 RC q1d H
    go_wp2
    go_ret
    exact FIN.out
  · have k1' : (k == 1) = false := by simpa using k1
    by_cases k2 : k = 2
    · subst k2
      go_wp2_with fail
      refine (pop_pair (rb := rb) H.out.1 (by omega)).mono ?_
      rintro e w2 ⟨i, pp, c, rfl, S', pu', N', q2, k2, hpu', hN', RC⟩
      have r2 := H.out.2.1.other k2 H.out.2.2.1
      have cv2 := cover_other (w' := w2) H.out.2.2.1
      have B2 := H.out.2.2.2.2.2.2.trans (k2.below (SZ H.out.2.2.2.2.2.2) (fun j hj => (H.out.2.2.2.2.2.1 j hj).1))
      have F2 := Lib.hid (And.intro q2 (And.intro r2 (And.intro cv2 (And.intro B2 (And.intro hpu' (And.intro hN' RC))))))
      have HB := Lib.hid H.out.2.2.2.2.2.1
      clear q2 k2 r2 cv2 B2 hpu' hN' RC H o0 o1 o2
      go_wp2_with (with_reducible refine wpList_alloc_row rfl 43 rfl #[.int .i64 0, .float .f64 0] (by kernel_rfl) ?_)
      intro w3 hg3 hb3 hs3
      obtain ⟨d0, g0, hst, hg4, -, hbl4⟩ := ent_store hg3 i pp
      have b4 := hbl4 _ _ hb3 (Nat.le_refl _)
      have hs4 : w2.heap.size < ((w3.setCell ⟨w2.heap.size, 0, none⟩ (.int .i64 i)).setCell ⟨w2.heap.size, 1, none⟩ (.float .f64 pp)).heap.size := by simpa [World.setCell] using hs3
      have F4 := Lib.hid (And.intro hg4 (And.intro b4 hs4))
      clear hg4 b4 hbl4 hg3 hb3 hs3 hs4
      generalize hw4 : (w3.setCell ⟨w2.heap.size, 0, none⟩ (.int .i64 i)).setCell ⟨w2.heap.size, 1, none⟩ (.float .f64 pp) = w4 at *
      clear hw4
      have r4 := F2.out.2.1.wider F4.out.2.1
      have RR := Lib.hid (F2.out.2.2.2.2.2.2 _ w4 r4)
      go_wp2_with fail
      refine RR.out.mono ?_
      rintro e w5 ⟨rfl, r5, k5⟩
      have q4 := F2.out.1.wider F4.out.2.1
      have cv4 : ∀ k, k < w4.heap.size → ((_ ∨ (w1.heap.size ≤ k ∧ k < w2.heap.size)) ∨ (w2.heap.size ≤ k ∧ k < w4.heap.size)) ∨ (_ ∨ (w2.heap.size ≤ k ∧ k < w4.heap.size)) := fun k hk => by
        by_cases e : k < w2.heap.size
        · rcases F2.out.2.2.1 k e with e | e
          · exact Or.inr (Or.inl e)
          · exact Or.inl (Or.inl e)
        · exact Or.inl (Or.inr ⟨by omega, hk⟩)
      have q5 := q4.other k5 cv4
      have hg5 := k5.keep _ _ (Or.inr ⟨Nat.le_refl _, F4.out.2.2⟩) F4.out.1
      have hs5 := Nat.lt_of_lt_of_le F4.out.2.2 k5.size
      have bo5 : Both B w5 qb rb S' pu' N' := ⟨_, _, fun k hk => ⟨Or.inl (Or.inl (HB.out k hk).1), Or.inl (Or.inl (HB.out k hk).2)⟩, fun k hk => by
        by_cases e : k < w4.heap.size
        · rcases cv4 k e with e | e
          · exact Or.inr e
          · exact Or.inl (Or.inl e)
        · exact Or.inl (Or.inr ⟨by omega, hk⟩), q5, r5⟩
      have B4 := F2.out.2.2.2.1.trans (F4.out.2.1.mono (SZ F2.out.2.2.2.1))
      have B5 := B4.trans (k5.below (SZ B4) (fun j hj => Or.inl (Or.inl (HB.out j hj).2)))
      have F5 := Lib.hid (And.intro bo5 (And.intro B5 (And.intro hg5 (And.intro hs5 (And.intro F2.out.2.2.2.2.1 F2.out.2.2.2.2.2.1)))))
      clear bo5 B5 B4 hg5 hs5 q5 q4 cv4 r5 k5 r4 RR F2 F4 HB hst d0 g0
      go_wp2_with (with_reducible refine wpList_alloc_row rfl 60 rfl #[.int .i64 0, .float .f64 0] (by kernel_rfl) ?_)
      intro w6 hg6 hb6 hs6
      obtain ⟨d0, g0, hst, hg7, -, hbl7⟩ := ent_storeR hg6 i pp
      have b7 := hbl7 _ _ hb6 (Nat.le_refl _)
      obtain ⟨bo5, B5, hg5, hs5, hpu', hN'⟩ := F5.out
      have hg5' := (b7.block _ hs5).trans hg5
      have x0 := cell_row hg5' 0 rfl
      have x1 := cell_row hg5' 1 rfl
      have y0 := cell_row hg7 0 rfl
      have y1 := cell_row hg7 1 rfl
      have F7 := Lib.hid (And.intro (bo5.below b7) (And.intro (B5.trans (b7.mono (SZ B5))) (And.intro hpu' hN')))
      clear hg7 hbl7 hg6 hb6 hs6 hg5 hg5' hs5 bo5 B5 hpu' hN' F5 b7
      generalize hw7 : (w6.setCell ⟨w5.heap.size, 0, none⟩ (.int .i64 i)).setCell ⟨w5.heap.size, 1, none⟩ (.float .f64 pp) = w7 at *
      clear hw7
      go_wp2_with fail
      refine (sameE_any i pp w7).mono ?_
      rintro e w8 ⟨rfl, b8⟩
      have FIN : Hid (StepPost B w qb rb pu N (.returned (.bool true)) w8) := ⟨rfl, S', pu', N', F7.out.1.below b8, F7.out.2.2.1, F7.out.2.2.2, F7.out.2.1.trans (b8.mono (SZ F7.out.2.1))⟩
      clear F7 b8 x0 x1 y0 y1 hst d0 g0
      go_wp2
      go_ret
      exact FIN.out
    · have k2' : (k == 2) = false := by simpa using k2
      by_cases k3 : k = 3
      · subst k3
        go_wp2_with fail
        refine (peek_pair (rb := rb) H.out.1 (by omega)).mono ?_
        rintro e w2 ⟨i, pp, c, rfl, S', pu', N', q2, k2, hpu', hN', RC⟩
        have r2 := H.out.2.1.other k2 H.out.2.2.1
        have cv2 := cover_other (w' := w2) H.out.2.2.1
        have B2 := H.out.2.2.2.2.2.2.trans (k2.below (SZ H.out.2.2.2.2.2.2) (fun j hj => (H.out.2.2.2.2.2.1 j hj).1))
        have F2 := Lib.hid (And.intro q2 (And.intro r2 (And.intro cv2 (And.intro B2 (And.intro hpu' (And.intro hN' RC))))))
        have HB := Lib.hid H.out.2.2.2.2.2.1
        clear q2 k2 r2 cv2 B2 hpu' hN' RC H o0 o1 o2
        go_wp2_with (with_reducible refine wpList_alloc_row rfl 43 rfl #[.int .i64 0, .float .f64 0] (by kernel_rfl) ?_)
        intro w3 hg3 hb3 hs3
        obtain ⟨d0, g0, hst, hg4, -, hbl4⟩ := ent_store hg3 i pp
        have b4 := hbl4 _ _ hb3 (Nat.le_refl _)
        have hs4 : w2.heap.size < ((w3.setCell ⟨w2.heap.size, 0, none⟩ (.int .i64 i)).setCell ⟨w2.heap.size, 1, none⟩ (.float .f64 pp)).heap.size := by simpa [World.setCell] using hs3
        have F4 := Lib.hid (And.intro hg4 (And.intro b4 hs4))
        clear hg4 b4 hbl4 hg3 hb3 hs3 hs4
        generalize hw4 : (w3.setCell ⟨w2.heap.size, 0, none⟩ (.int .i64 i)).setCell ⟨w2.heap.size, 1, none⟩ (.float .f64 pp) = w4 at *
        clear hw4
        have r4 := F2.out.2.1.wider F4.out.2.1
        have RR := Lib.hid (F2.out.2.2.2.2.2.2 _ w4 r4)
        go_wp2_with fail
        refine RR.out.mono ?_
        rintro e w5 ⟨rfl, r5, k5⟩
        have q4 := F2.out.1.wider F4.out.2.1
        have cv4 : ∀ k, k < w4.heap.size → ((_ ∨ (w1.heap.size ≤ k ∧ k < w2.heap.size)) ∨ (w2.heap.size ≤ k ∧ k < w4.heap.size)) ∨ (_ ∨ (w2.heap.size ≤ k ∧ k < w4.heap.size)) := fun k hk => by
          by_cases e : k < w2.heap.size
          · rcases F2.out.2.2.1 k e with e | e
            · exact Or.inr (Or.inl e)
            · exact Or.inl (Or.inl e)
          · exact Or.inl (Or.inr ⟨by omega, hk⟩)
        have q5 := q4.other k5 cv4
        have hg5 := k5.keep _ _ (Or.inr ⟨Nat.le_refl _, F4.out.2.2⟩) F4.out.1
        have hs5 := Nat.lt_of_lt_of_le F4.out.2.2 k5.size
        have bo5 : Both B w5 qb rb S' pu' N' := ⟨_, _, fun k hk => ⟨Or.inl (Or.inl (HB.out k hk).1), Or.inl (Or.inl (HB.out k hk).2)⟩, fun k hk => by
          by_cases e : k < w4.heap.size
          · rcases cv4 k e with e | e
            · exact Or.inr e
            · exact Or.inl (Or.inl e)
          · exact Or.inl (Or.inr ⟨by omega, hk⟩), q5, r5⟩
        have B4 := F2.out.2.2.2.1.trans (F4.out.2.1.mono (SZ F2.out.2.2.2.1))
        have B5 := B4.trans (k5.below (SZ B4) (fun j hj => Or.inl (Or.inl (HB.out j hj).2)))
        have F5 := Lib.hid (And.intro bo5 (And.intro B5 (And.intro hg5 (And.intro hs5 (And.intro F2.out.2.2.2.2.1 F2.out.2.2.2.2.2.1)))))
        clear bo5 B5 B4 hg5 hs5 q5 q4 cv4 r5 k5 r4 RR F2 F4 HB hst d0 g0
        go_wp2_with (with_reducible refine wpList_alloc_row rfl 60 rfl #[.int .i64 0, .float .f64 0] (by kernel_rfl) ?_)
        intro w6 hg6 hb6 hs6
        obtain ⟨d0, g0, hst, hg7, -, hbl7⟩ := ent_storeR hg6 i pp
        have b7 := hbl7 _ _ hb6 (Nat.le_refl _)
        obtain ⟨bo5, B5, hg5, hs5, hpu', hN'⟩ := F5.out
        have hg5' := (b7.block _ hs5).trans hg5
        have x0 := cell_row hg5' 0 rfl
        have x1 := cell_row hg5' 1 rfl
        have y0 := cell_row hg7 0 rfl
        have y1 := cell_row hg7 1 rfl
        have F7 := Lib.hid (And.intro (bo5.below b7) (And.intro (B5.trans (b7.mono (SZ B5))) (And.intro hpu' hN')))
        clear hg7 hbl7 hg6 hb6 hs6 hg5 hg5' hs5 bo5 B5 hpu' hN' F5 b7
        generalize hw7 : (w6.setCell ⟨w5.heap.size, 0, none⟩ (.int .i64 i)).setCell ⟨w5.heap.size, 1, none⟩ (.float .f64 pp) = w7 at *
        clear hw7
        go_wp2_with fail
        refine (sameE_any i pp w7).mono ?_
        rintro e w8 ⟨rfl, b8⟩
        have FIN : Hid (StepPost B w qb rb pu N (.returned (.bool true)) w8) := ⟨rfl, S', pu', N', F7.out.1.below b8, F7.out.2.2.1, F7.out.2.2.2, F7.out.2.1.trans (b8.mono (SZ F7.out.2.1))⟩
        clear F7 b8 x0 x1 y0 y1 hst d0 g0
        go_wp2
        go_ret
        exact FIN.out
      · have k3' : (k == 3) = false := by simpa using k3
        by_cases k4 : k = 4
        · subst k4
          go_wp2_with fail
          have hS : w1.drew.cell? ⟨w.heap.size, 1, none⟩ = some (.int .i64 id) ∧ w1.drew.cell? ⟨w.heap.size, 2, none⟩ = some (.float .f64 p) := ⟨o1, o2⟩
          refine wp_region_held_drew (S := fun w' => w'.cell? ⟨w.heap.size, 1, none⟩ = some (.int .i64 id) ∧ w'.cell? ⟨w.heap.size, 2, none⟩ = some (.float .f64 p)) mixed hS (fun _ => ?_)
          show wpAnyH _ _ _ _ _ 14 (Array.replicate 14 false) _ _
          refine wpAnyH_take_d 0 (some 77) (.pointer (some ⟨qb, 0, none⟩)) rfl (by kernel_rfl) (by kernel_rfl) (by kernel_rfl) (by kernel_rfl) rfl (fun _ _ _ h => h) (fun _ _ => by kernel_rfl) (by exact hS) ?_
          simp only [Act.put, List.setIfInBounds_toArray, List.set_cons_succ, List.set_cons_zero]
          refine wpAnyH_take_d 1 (some 78) (.pointer (some ⟨w.heap.size, 1, none⟩)) rfl (by kernel_rfl) (by kernel_rfl) (by kernel_rfl) (by kernel_rfl) rfl (fun _ _ _ h => h) (fun _ _ => by kernel_rfl) (by exact hS) ?_
          simp only [Act.put, List.setIfInBounds_toArray, List.set_cons_succ, List.set_cons_zero]
          refine wpAnyH_take_d 2 (some 79) (.int .i64 id) rfl (by kernel_rfl) (by kernel_rfl) (by kernel_rfl) (by kernel_rfl) rfl (fun _ _ _ h => h) (fun w' h => exec_load_cell rfl rfl h.1 Try.underlying3 rfl) (by exact hS) ?_
          simp only [Act.put, List.setIfInBounds_toArray, List.set_cons_succ, List.set_cons_zero]
          refine wpAnyH_take_d 3 (some 80) (.pointer (some ⟨w.heap.size, 2, none⟩)) rfl (by kernel_rfl) (by kernel_rfl) (by kernel_rfl) (by kernel_rfl) rfl (fun _ _ _ h => h) (fun _ _ => by kernel_rfl) (by exact hS) ?_
          simp only [Act.put, List.setIfInBounds_toArray, List.set_cons_succ, List.set_cons_zero]
          refine wpAnyH_take_d 4 (some 81) (.float .f64 p) rfl (by kernel_rfl) (by kernel_rfl) (by kernel_rfl) (by kernel_rfl) rfl (fun _ _ _ h => h) (fun w' h => exec_load_cell rfl rfl h.2 Try.underlying31 rfl) (by exact hS) ?_
          simp only [Act.put, List.setIfInBounds_toArray, List.set_cons_succ, List.set_cons_zero]
          refine wpAnyH_take_d 6 (some 83) (.pointer (some ⟨rb, 0, none⟩)) rfl (by kernel_rfl) (by kernel_rfl) (by kernel_rfl) (by kernel_rfl) rfl (fun _ _ _ h => h) (fun _ _ => by kernel_rfl) (by exact hS) ?_
          simp only [Act.put, List.setIfInBounds_toArray, List.set_cons_succ, List.set_cons_zero]
          refine wpAnyH_take_d 7 (some 84) (.pointer (some ⟨w.heap.size, 1, none⟩)) rfl (by kernel_rfl) (by kernel_rfl) (by kernel_rfl) (by kernel_rfl) rfl (fun _ _ _ h => h) (fun _ _ => by kernel_rfl) (by exact hS) ?_
          simp only [Act.put, List.setIfInBounds_toArray, List.set_cons_succ, List.set_cons_zero]
          refine wpAnyH_take_d 8 (some 85) (.int .i64 id) rfl (by kernel_rfl) (by kernel_rfl) (by kernel_rfl) (by kernel_rfl) rfl (fun _ _ _ h => h) (fun w' h => exec_load_cell rfl rfl h.1 Try.underlying3 rfl) (by exact hS) ?_
          simp only [Act.put, List.setIfInBounds_toArray, List.set_cons_succ, List.set_cons_zero]
          refine wpAnyH_take_d 9 (some 86) (.pointer (some ⟨w.heap.size, 2, none⟩)) rfl (by kernel_rfl) (by kernel_rfl) (by kernel_rfl) (by kernel_rfl) rfl (fun _ _ _ h => h) (fun _ _ => by kernel_rfl) (by exact hS) ?_
          simp only [Act.put, List.setIfInBounds_toArray, List.set_cons_succ, List.set_cons_zero]
          refine wpAnyH_take_d 10 (some 87) (.float .f64 p) rfl (by kernel_rfl) (by kernel_rfl) (by kernel_rfl) (by kernel_rfl) rfl (fun _ _ _ h => h) (fun w' h => exec_load_cell rfl rfl h.2 Try.underlying31 rfl) (by exact hS) ?_
          simp only [Act.put, List.setIfInBounds_toArray, List.set_cons_succ, List.set_cons_zero]
          have q1d := H.out.1.below ((Below.refl _ _).drew)
          refine wpAnyH_call 5 (some 82) 18 #[.pointer (some ⟨qb, 0, none⟩), .int .i64 id, .float .f64 p] rfl (by kernel_rfl) (by kernel_rfl) rfl (by kernel_rfl) (set_pair (rb := rb) q1d hf hp) ?_
          rintro e w2 ⟨c, rfl, S', pu', N', q2, k2, hpu', hN', RC⟩
          have hS := And.intro (k2.cell (p := ⟨w.heap.size, 1, none⟩) H.out.2.2.2.1 hS.1) (k2.cell (p := ⟨w.heap.size, 2, none⟩) H.out.2.2.2.1 hS.2)
          refine ⟨_, rfl, hS, ?_⟩
          simp only [Act.put, List.setIfInBounds_toArray, List.set_cons_succ, List.set_cons_zero]
          have k2c : Kp _ w1 w2 := ⟨k2.os, k2.tape, k2.output, k2.size, k2.keep⟩
          have r2 := H.out.2.1.other k2c H.out.2.2.1
          refine wpAnyH_call 11 (some 88) 26 #[.pointer (some ⟨rb, 0, none⟩), .int .i64 id, .float .f64 p] rfl (by kernel_rfl) (by kernel_rfl) rfl (by kernel_rfl) (RC _ w2 r2) ?_
          rintro e w3 ⟨rfl, r3, k3⟩
          have hS := And.intro (k3.cell (p := ⟨w.heap.size, 1, none⟩) (Or.inl H.out.2.2.2.2.1) hS.1) (k3.cell (p := ⟨w.heap.size, 2, none⟩) (Or.inl H.out.2.2.2.2.1) hS.2)
          refine ⟨_, rfl, hS, ?_⟩
          simp only [Act.put, List.setIfInBounds_toArray, List.set_cons_succ, List.set_cons_zero]
          refine wpAnyH_one 12 (some 89) (.bool true) rfl (by kernel_rfl) (by kernel_rfl) rfl (exec_inteq rfl rfl rfl rfl) (by exact hS) ?_
          simp only [Act.put, List.setIfInBounds_toArray, List.set_cons_succ, List.set_cons_zero]
          refine wpAnyH_one 13 (some 6) (.bool true) rfl (by kernel_rfl) (by kernel_rfl) rfl (by kernel_rfl) (by exact hS) ?_
          simp only [Act.put, List.setIfInBounds_toArray, List.set_cons_succ, List.set_cons_zero]
          refine wpAnyH_done (by kernel_rfl) ?_ _
          have FIN : Hid (StepPost B w qb rb pu N (.returned (.bool true)) w3) := ⟨rfl, S', pu', N', both_of H.out.2.2.2.2.2.1 H.out.2.2.1 q2 r3 k3, hpu', hN', (H.out.2.2.2.2.2.2.trans (k2c.below (SZ H.out.2.2.2.2.2.2) (fun j hj => (H.out.2.2.2.2.2.1 j hj).1))).trans (k3.below (Nat.le_trans (SZ H.out.2.2.2.2.2.2) k2c.size) (fun j hj => Or.inl (H.out.2.2.2.2.2.1 j hj).2))⟩
          clear hS q2 k2 k2c r2 r3 k3 RC q1d H
          go_wp2
          go_ret
          exact FIN.out
        · have k4' : (k == 4) = false := by simpa using k4
          by_cases k5 : k = 5
          · subst k5
            go_wp2_with fail
            have hS : w1.drew.cell? ⟨w.heap.size, 1, none⟩ = some (.int .i64 id) ∧ w1.drew.cell? ⟨w.heap.size, 2, none⟩ = some (.float .f64 p) := ⟨o1, o2⟩
            refine wp_region_held_drew (S := fun w' => w'.cell? ⟨w.heap.size, 1, none⟩ = some (.int .i64 id) ∧ w'.cell? ⟨w.heap.size, 2, none⟩ = some (.float .f64 p)) mixed hS (fun _ => ?_)
            show wpAnyH _ _ _ _ _ 10 (Array.replicate 10 false) _ _
            refine wpAnyH_take_d 0 (some 92) (.pointer (some ⟨qb, 0, none⟩)) rfl (by kernel_rfl) (by kernel_rfl) (by kernel_rfl) (by kernel_rfl) rfl (fun _ _ _ h => h) (fun _ _ => by kernel_rfl) (by exact hS) ?_
            simp only [Act.put, List.setIfInBounds_toArray, List.set_cons_succ, List.set_cons_zero]
            refine wpAnyH_take_d 1 (some 93) (.pointer (some ⟨w.heap.size, 1, none⟩)) rfl (by kernel_rfl) (by kernel_rfl) (by kernel_rfl) (by kernel_rfl) rfl (fun _ _ _ h => h) (fun _ _ => by kernel_rfl) (by exact hS) ?_
            simp only [Act.put, List.setIfInBounds_toArray, List.set_cons_succ, List.set_cons_zero]
            refine wpAnyH_take_d 2 (some 94) (.int .i64 id) rfl (by kernel_rfl) (by kernel_rfl) (by kernel_rfl) (by kernel_rfl) rfl (fun _ _ _ h => h) (fun w' h => exec_load_cell rfl rfl h.1 Try.underlying3 rfl) (by exact hS) ?_
            simp only [Act.put, List.setIfInBounds_toArray, List.set_cons_succ, List.set_cons_zero]
            refine wpAnyH_take_d 4 (some 96) (.pointer (some ⟨rb, 0, none⟩)) rfl (by kernel_rfl) (by kernel_rfl) (by kernel_rfl) (by kernel_rfl) rfl (fun _ _ _ h => h) (fun _ _ => by kernel_rfl) (by exact hS) ?_
            simp only [Act.put, List.setIfInBounds_toArray, List.set_cons_succ, List.set_cons_zero]
            refine wpAnyH_take_d 5 (some 97) (.pointer (some ⟨w.heap.size, 1, none⟩)) rfl (by kernel_rfl) (by kernel_rfl) (by kernel_rfl) (by kernel_rfl) rfl (fun _ _ _ h => h) (fun _ _ => by kernel_rfl) (by exact hS) ?_
            simp only [Act.put, List.setIfInBounds_toArray, List.set_cons_succ, List.set_cons_zero]
            refine wpAnyH_take_d 6 (some 98) (.int .i64 id) rfl (by kernel_rfl) (by kernel_rfl) (by kernel_rfl) (by kernel_rfl) rfl (fun _ _ _ h => h) (fun w' h => exec_load_cell rfl rfl h.1 Try.underlying3 rfl) (by exact hS) ?_
            simp only [Act.put, List.setIfInBounds_toArray, List.set_cons_succ, List.set_cons_zero]
            have q1d := H.out.1.below ((Below.refl _ _).drew)
            refine wpAnyH_call 3 (some 95) 19 #[.pointer (some ⟨qb, 0, none⟩), .int .i64 id] rfl (by kernel_rfl) (by kernel_rfl) rfl (by kernel_rfl) (drop_pair (rb := rb) q1d hf) ?_
            rintro e w2 ⟨c, rfl, S', pu', N', q2, k2, hpu', hN', RC⟩
            have hS := And.intro (k2.cell (p := ⟨w.heap.size, 1, none⟩) H.out.2.2.2.1 hS.1) (k2.cell (p := ⟨w.heap.size, 2, none⟩) H.out.2.2.2.1 hS.2)
            refine ⟨_, rfl, hS, ?_⟩
            simp only [Act.put, List.setIfInBounds_toArray, List.set_cons_succ, List.set_cons_zero]
            have k2c : Kp _ w1 w2 := ⟨k2.os, k2.tape, k2.output, k2.size, k2.keep⟩
            have r2 := H.out.2.1.other k2c H.out.2.2.1
            refine wpAnyH_call 7 (some 99) 27 #[.pointer (some ⟨rb, 0, none⟩), .int .i64 id] rfl (by kernel_rfl) (by kernel_rfl) rfl (by kernel_rfl) (RC _ w2 r2) ?_
            rintro e w3 ⟨rfl, r3, k3⟩
            have hS := And.intro (k3.cell (p := ⟨w.heap.size, 1, none⟩) (Or.inl H.out.2.2.2.2.1) hS.1) (k3.cell (p := ⟨w.heap.size, 2, none⟩) (Or.inl H.out.2.2.2.2.1) hS.2)
            refine ⟨_, rfl, hS, ?_⟩
            simp only [Act.put, List.setIfInBounds_toArray, List.set_cons_succ, List.set_cons_zero]
            refine wpAnyH_one 8 (some 100) (.bool true) rfl (by kernel_rfl) (by kernel_rfl) rfl (exec_inteq rfl rfl rfl rfl) (by exact hS) ?_
            simp only [Act.put, List.setIfInBounds_toArray, List.set_cons_succ, List.set_cons_zero]
            refine wpAnyH_one 9 (some 6) (.bool true) rfl (by kernel_rfl) (by kernel_rfl) rfl (by kernel_rfl) (by exact hS) ?_
            simp only [Act.put, List.setIfInBounds_toArray, List.set_cons_succ, List.set_cons_zero]
            refine wpAnyH_done (by kernel_rfl) ?_ _
            have FIN : Hid (StepPost B w qb rb pu N (.returned (.bool true)) w3) := ⟨rfl, S', pu', N', both_of H.out.2.2.2.2.2.1 H.out.2.2.1 q2 r3 k3, hpu', hN', (H.out.2.2.2.2.2.2.trans (k2c.below (SZ H.out.2.2.2.2.2.2) (fun j hj => (H.out.2.2.2.2.2.1 j hj).1))).trans (k3.below (Nat.le_trans (SZ H.out.2.2.2.2.2.2) k2c.size) (fun j hj => Or.inl (H.out.2.2.2.2.2.1 j hj).2))⟩
            clear hS q2 k2 k2c r2 r3 k3 RC q1d H
            go_wp2
            go_ret
            exact FIN.out
          · have k5' : (k == 5) = false := by simpa using k5
            go_wp2_with fail
            refine (list_any H.out.1 (by omega)).mono ?_
            rintro e w2 ⟨aoA, cA, M, rfl, pA, sA, oA, bA⟩
            have hMl : M.length ≤ 1000 := by rw [pA.length_eq]; exact H.out.1.len
            have RL := Lib.hid (rlist_any (H.out.2.1.below bA) (by have := H.out.1.len; omega) H.out.1.prb H.out.1.srt H.out.1.ids H.out.1.tu (by omega))
            have q2 := H.out.1.wider bA
            have CVV := Lib.hid H.out.2.2.1
            have r2 := H.out.2.1.wider bA
            have F2 := Lib.hid (And.intro q2 (And.intro r2 (And.intro pA (And.intro sA (And.intro oA (And.intro bA (And.intro H.out.2.2.2.2.2.1 H.out.2.2.2.2.2.2)))))))
            clear q2 r2 pA sA oA bA H o0 o1 o2
            generalize hn : M.length = n at *
            go_wp2_with fail
            refine RL.out.mono ?_
            rintro e w3 ⟨aoB, cB, M', rfl, pB, sB, oB, bB⟩
            have eM : M' = M := uniq_sorted Wt.ky (pB.trans F2.out.2.2.1.symm) sB F2.out.2.2.2.1
            subst eM
            rw [hn] at oB
            rw [hn]
            have oA3 := F2.out.2.2.2.2.1.below bB
            have SA := Lib.hid (sameAll_any (w := w3) (ao := aoA) (ao' := aoB) (c := cA) (c' := cB) (n := n) hn.symm (by omega) (by exact ownsRow_base oA3 (fun _ _ => Nat.zero_le _)) (by rw [hn]; exact ownsRow_base oB (fun _ _ => Nat.zero_le _)))
            have B3 := Lib.hid bB
            clear pB sB oB bB oA3 RL
            go_wp2_with fail
            refine SA.out.mono ?_
            rintro e w4 ⟨rfl, b4⟩
            have O2 := Lib.hid (And.intro (ownsRow_below (ownsRow_below (F2.out.2.2.2.2.1) B3.out) b4) (And.intro (World.ownsRow.lt F2.out.2.2.2.2.1) (B3.out.trans (b4.mono B3.out.size))))
            clear b4 SA B3
            go_wp2
            go_loopw [17] (fun kv wx => ∃ kk : Nat, kk ≤ n ∧ kv = .int .i64 kk ∧ (∃ xs, wx.ownsRow 0 43 2 (.slice aoA n cA) n xs) ∧ w2.grownBy wx (Value.slice aoA n cA).ownBlock) (fun kv _ => n - (intOf kv).toNat)
            case atStart => exact ⟨0, Nat.zero_le _, rfl, ⟨_, by have := O2.out.1; rw [hn] at this; exact ownsRow_base this (fun _ _ => Nat.zero_le _)⟩, ⟨O2.out.2.2.os, O2.out.2.2.tape, O2.out.2.2.output, O2.out.2.2.size, fun k hk _ => O2.out.2.2.block k hk⟩⟩
            case round =>
              obtain ⟨kk, hkk, rfl, ⟨xs, ox⟩, gx⟩ := hrel
              by_cases hlk : kk < n
              · have hlk' : (kk : Int) < (n : Int) := by omega
                obtain ⟨lb, cap', hv, -, -⟩ := World.ownsRow.form ox (by omega)
                cases hv
                have e3 : IntKind.i64.wrap ((kk : Int) + 1) = ((kk + 1 : Nat) : Int) := by rw [IntKind.wrap_i64]; omega
                have hxl := ox.1
                obtain ⟨u0, c0⟩ : ∃ u0, wr.cell? ⟨lb, kk * 2, none⟩ = some u0 := ⟨_, (World.ownsRow.cellAt ox (kk * 2) (by omega)).trans (List.getElem?_eq_getElem (by omega))⟩
                have f0 := World.ownsRow.frozenAt ox (kk * 2)
                have o2 := (World.ownsRow.stored ox (kk * 2) (.int .i64 (-99))).1
                obtain ⟨u1, c1⟩ : ∃ u1, (wr.setCell ⟨lb, kk * 2, none⟩ (.int .i64 (-99))).cell? ⟨lb, kk * 2 + 1, none⟩ = some u1 := ⟨_, (World.ownsRow.cellAt o2 (kk * 2 + 1) (by omega)).trans (List.getElem?_eq_getElem (by simp; omega))⟩
                have f1 := World.ownsRow.frozenAt o2 (kk * 2 + 1)
                have hst := run_store1 (P := Try.prog) (v := .float .f64 13840687554816376832) rfl c1 f1
                have o3 := (World.ownsRow.stored o2 (kk * 2 + 1) (.float .f64 13840687554816376832)).1
                have g3 : w2.grownBy ((wr.setCell ⟨lb, kk * 2, none⟩ (.int .i64 (-99))).setCell ⟨lb, kk * 2 + 1, none⟩ (.float .f64 13840687554816376832)) (Value.slice (some ⟨lb, 0, none⟩) n cA).ownBlock :=
                  ⟨gx.os, gx.tape, gx.output, by simpa [World.setCell] using gx.size, fun k hk hne => by
                    have hne' : k ≠ lb := fun e => hne (by rw [e]; rfl)
                    rw [Below.heap_setCell _ _ _ _ hne', Below.heap_setCell _ _ _ _ hne']; exact gx.block k hk hne⟩
                have FIN := Lib.hid (And.intro o3 g3)
                clear o3 g3 o2 ox gx f1 c1 hxl
                generalize hk1 : kk + 1 = kk1 at e3
                go_wp2
                go_roundw
                case rel => exact ⟨kk1, by omega, rfl, ⟨_, FIN.out.1⟩, FIN.out.2⟩
                case measure => simp [intOf]; omega
              · obtain rfl : n = kk := by omega
                have hown : ∀ j, (Value.slice aoA n cA).ownBlock = some j → w1.heap.size ≤ j ∧ j < w2.heap.size := fun j hj => O2.out.2.1 j hj
                have hB1 := SZ F2.out.2.2.2.2.2.2.2
                have bo : Both B wr qb rb S pu N := ⟨_, _, fun j hj => ⟨Or.inl (Or.inl (F2.out.2.2.2.2.2.2.1 j hj).1), Or.inl (Or.inl (F2.out.2.2.2.2.2.2.1 j hj).2)⟩, fun j hj => (by
                    by_cases e : j < w1.heap.size
                    · rcases CVV.out j e with e | e
                      · exact Or.inl (Or.inl (Or.inl e))
                      · exact Or.inr (Or.inl (Or.inl e))
                    · by_cases e2 : j < w2.heap.size
                      · exact Or.inl (Or.inl (Or.inr ⟨by omega, e2⟩))
                      · exact Or.inl (Or.inr ⟨by omega, hj⟩)),
                  F2.out.1.keep (X' := fun k => ((X k ∨ (w.heap.size ≤ k ∧ k < w1.heap.size)) ∨ (w1.heap.size ≤ k ∧ k < w2.heap.size)) ∨ (w2.heap.size ≤ k ∧ k < wr.heap.size)) (fun j o hj ho => (gx.block j (lt_of_heap ho) (fun e => hj (Or.inr (hown j e.symm)))).trans ho) (fun j hj e => by rcases e with e | e; exact e; omega) (fun j e => by rcases e with e | e; exact Nat.lt_of_lt_of_le (F2.out.1.lt j e) gx.size; exact e.2) gx.size,
                  F2.out.2.1.keep (X' := fun k => ((Y k ∨ (w.heap.size ≤ k ∧ k < w1.heap.size)) ∨ (w1.heap.size ≤ k ∧ k < w2.heap.size)) ∨ (w2.heap.size ≤ k ∧ k < wr.heap.size)) (fun j o hj ho => (gx.block j (lt_of_heap ho) (fun e => hj (Or.inr (hown j e.symm)))).trans ho) (fun j hj e => by rcases e with e | e; exact e; omega) (fun j e => by rcases e with e | e; exact Nat.lt_of_lt_of_le (F2.out.2.1.lt j e) gx.size; exact e.2)⟩
                have bel : Below B w wr := F2.out.2.2.2.2.2.2.2.trans ((F2.out.2.2.2.2.2.1.mono hB1).trans ⟨gx.os, gx.tape, gx.output, gx.size, fun j hj => gx.block j (by have := F2.out.2.2.2.2.2.1.size; omega) (fun e => by have := (hown j e.symm).1; omega)⟩)
                have FIN : Hid (StepPost B w qb rb pu N (.returned (.bool true)) wr) := ⟨rfl, S, pu, N, bo, by omega, by omega, bel⟩
                clear bo bel hown gx ox F2 O2
                go_wp2
                go_ret
                exact FIN.out
end Go.Proofs.Ytegloiojhimoeaa
