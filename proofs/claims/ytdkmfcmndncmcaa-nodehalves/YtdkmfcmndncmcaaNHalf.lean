/- The contract of node.half. No statement of the seat is proved here. -/
import Derived.Test.YtdkmfcmndncmcaaNWithout
namespace Go.Proofs.Ytdkmfcmndncmcaa
set_option maxRecDepth 20000
open Go.RowKit

set_option maxHeartbeats 3200000 in
theorem half_any {w : World} {v : Value} {l : List Pr} (h : SlAt elP w.heap.size w v l) (h2 : 2 ≤ l.length) (hl : l.length ≤ 255) (hs : ∀ p ∈ l, p.k.size ≤ 32 ∧ p.v.size ≤ 48) : Calls Try.prog 50 #[v] w fun e w' => ∃ i : Nat, e = .returned (.int .i64 i) ∧ HalfAt l i ∧ Below w.heap.size w w' := by
  obtain ⟨ao, m, cap, rfl, hm⟩ := h.form
  have H := Lib.hid h
  have hcap : m ≤ cap := by obtain ⟨_, _, hv, hc, _⟩ := h; cases hv; rw [hm.out]; exact hc
  obtain ⟨b, off, cap', hv, hB, -, -⟩ := h.getP (i := 0) (by omega)
  obtain ⟨rfl, -, rfl⟩ : ao = some ⟨b, off, none⟩ ∧ m = l.length ∧ cap = cap' := by cases hv; exact ⟨rfl, rfl, rfl⟩
  have hm255 : m ≤ 255 := by rw [hm.out]; exact hl
  have hm2 : 2 ≤ m := by rw [hm.out]; exact h2
  have hok : ∀ p ∈ l, p.ok := fun p hp => by have := hs p hp; unfold Pr.ok; omega
  have PS : Hid (∀ (q : List Pr), (∀ p ∈ q, p ∈ l) → q.length ≤ 255 → ∀ (w' : World) (u : Value), SlAt elP w'.heap.size w' u q → Calls Try.prog 40 #[u] w' fun e w'' => e = .returned (.int .i64 (sizPs q : Nat)) ∧ Below w'.heap.size w' w'') := Lib.hid (fun q hq hql w' u hu => by
    have := pairsSize_any hu (fun p hp => hok p (hq p hp))
    have hle := sizPs_le (fun p hp => hs p (hq p hp))
    rwa [wrap_small (by omega) (by omega)] at this)
  have hwm : IntKind.i64.wrap ((m : Int) - 1) = ((m - 1 : Nat) : Int) := by rw [IntKind.wrap_i64]; omega
  clear h hv hok hs hl h2
  go_enter Try.func50, Try.ntmps50
  go_wp2
  go_loopw [3] (fun iv wr => ∃ i : Nat, 1 ≤ i ∧ i < m ∧ iv = .int .i64 i ∧ Hid (∀ q, 1 ≤ q → q < i → sizPs (l.take q) < sizPs (l.drop q)) ∧ Below w.heap.size w wr) (fun iv _ => m - (intOf iv).toNat)
  case atStart => exact ⟨1, Nat.le_refl _, by omega, rfl, Lib.hid (fun q h1 h2 => by omega), Below.refl _ _⟩
  case round =>
    obtain ⟨i, hi1, him, rfl, hf, hb⟩ := hrel
    have hil : i < l.length := by rw [← hm.out]; exact him
    by_cases hlt : i < m - 1
    · have hd : decide ((i : Int) < ((m - 1 : Nat) : Int)) = true := by simp; omega
      have s1 := H.out.take okP (i := i) (by omega)
      obtain ⟨bo, hr2, hbo⟩ := slP_from (some ⟨b, off, none⟩) (n := m) (c := cap) (k := i) (by omega)
      have s2 := H.out.drop okP (i := i) (by omega) (bo := bo) (cap' := cap - i) (fun b off e hlt => hbo b off e (by omega)) (by have := hm.out; omega)
      rw [← hm.out] at s2
      have R1 := Lib.hid (fun w' => slP_to (some ⟨b, off, none⟩) (n := m) (c := cap) (k := i) (by omega) w')
      have R2 := Lib.hid hr2
      have P1 := Lib.hid (fun (w' : World) (q : Below w.heap.size w w') => PS.out (l.take i) (fun p hp => List.mem_of_mem_take hp) (by rw [List.length_take]; omega) w' _ ((s1.below q).more q.size))
      have P2 := Lib.hid (fun (w' : World) (q : Below w.heap.size w w') => PS.out (l.drop i) (fun p hp => List.mem_of_mem_drop hp) (by rw [List.length_drop, ← hm.out]; omega) w' _ ((s2.below q).more q.size))
      have hS0 : Below w.heap.size w wr.drew := hb.drew
      have T1 := Lib.hid (fun (q : sizPs (l.take i) < sizPs (l.drop i)) (k : Nat) (h1 : 1 ≤ k) (h2 : k < i + 1) => if e : k = i then (by rw [e]; exact q : sizPs (l.take k) < sizPs (l.drop k)) else hf.out k h1 (by omega))
      have T2 := Lib.hid (fun (q : ¬ sizPs (l.take i) < sizPs (l.drop i)) => (⟨hi1, hil, hf.out, fun _ => by omega⟩ : HalfAt l i))
      generalize sizPs (l.take i) = A at *
      generalize sizPs (l.drop i) = D at *
      clear s1 s2 hr2 hbo hf
      by_cases hc : A < D
      · have hcd : decide ((A : Int) < (D : Int)) = true := by simp; omega
        have HF := Lib.hid (T1.out hc)
        clear T1 T2 hc
        go_wp2_with fail
        have hS := hS0
        refine wp_region_held_drew (S := fun w' => Below w.heap.size w w') mixed hS (fun _ => ?_)
        show wpAnyH _ _ _ _ _ 16 (Array.replicate 16 false) _ _
        refine wpAnyH_take_d 0 (some 4) (.int .i64 i) rfl (by kernel_rfl) (by kernel_rfl) (by kernel_rfl) (by kernel_rfl) rfl (fun _ _ _ h => h) (fun _ _ => by kernel_rfl) (by exact hS) ?_
        simp only [Act.put, List.setIfInBounds_toArray, List.set_cons_succ, List.set_cons_zero]
        refine wpAnyH_take_d 1 (some 5) (.slice (some ⟨b, off, none⟩) m cap) rfl (by kernel_rfl) (by kernel_rfl) (by kernel_rfl) (by kernel_rfl) rfl (fun _ _ _ h => h) (fun _ _ => by kernel_rfl) (by exact hS) ?_
        simp only [Act.put, List.setIfInBounds_toArray, List.set_cons_succ, List.set_cons_zero]
        refine wpAnyH_take_d 2 (some 6) (.int .i64 m) rfl (by kernel_rfl) (by kernel_rfl) (by kernel_rfl) (by kernel_rfl) rfl (fun _ _ _ h => h) (fun _ _ => ex_len rfl rfl Try.underlying22) (by exact hS) ?_
        simp only [Act.put, List.setIfInBounds_toArray, List.set_cons_succ, List.set_cons_zero]
        refine wpAnyH_take_d 3 (some 7) (.int .i64 (m - 1 : Nat)) rfl (by kernel_rfl) (by kernel_rfl) (by kernel_rfl) (by kernel_rfl) rfl (fun _ _ _ h => h) (fun _ _ => ex_sub rfl rfl rfl hwm) (by exact hS) ?_
        simp only [Act.put, List.setIfInBounds_toArray, List.set_cons_succ, List.set_cons_zero]
        refine wpAnyH_take_d 4 (some 8) (.bool true) rfl (by kernel_rfl) (by kernel_rfl) (by kernel_rfl) (by kernel_rfl) rfl (fun _ _ _ h => h) (fun _ _ => ex_lt rfl rfl rfl hd) (by exact hS) ?_
        simp only [Act.put, List.setIfInBounds_toArray, List.set_cons_succ, List.set_cons_zero]
        refine wpAnyH_take_d 5 (some 9) (.bool true) rfl (by kernel_rfl) (by kernel_rfl) (by kernel_rfl) (by kernel_rfl) rfl (fun _ _ _ h => h) (fun _ _ => by kernel_rfl) (by exact hS) ?_
        simp only [Act.put, List.setIfInBounds_toArray, List.set_cons_succ, List.set_cons_zero]
        refine wpAnyH_take_d 6 (some 10) (.slice (some ⟨b, off, none⟩) m cap) rfl (by kernel_rfl) (by kernel_rfl) (by kernel_rfl) (by kernel_rfl) rfl (fun _ _ _ h => h) (fun _ _ => by kernel_rfl) (by exact hS) ?_
        simp only [Act.put, List.setIfInBounds_toArray, List.set_cons_succ, List.set_cons_zero]
        refine wpAnyH_take_d 7 (some 11) (.int .i64 i) rfl (by kernel_rfl) (by kernel_rfl) (by kernel_rfl) (by kernel_rfl) rfl (fun _ _ _ h => h) (fun _ _ => by kernel_rfl) (by exact hS) ?_
        simp only [Act.put, List.setIfInBounds_toArray, List.set_cons_succ, List.set_cons_zero]
        refine wpAnyH_take_d 8 (some 12) (.slice (some ⟨b, off, none⟩) i cap) rfl (by kernel_rfl) (by kernel_rfl) (by kernel_rfl) (by kernel_rfl) rfl (fun _ _ _ h => h) (fun w' _ => ex_slice rfl rfl rfl rfl (R1.out w')) (by exact hS) ?_
        simp only [Act.put, List.setIfInBounds_toArray, List.set_cons_succ, List.set_cons_zero]
        refine wpAnyH_take_d 10 (some 14) (.slice (some ⟨b, off, none⟩) m cap) rfl (by kernel_rfl) (by kernel_rfl) (by kernel_rfl) (by kernel_rfl) rfl (fun _ _ _ h => h) (fun _ _ => by kernel_rfl) (by exact hS) ?_
        simp only [Act.put, List.setIfInBounds_toArray, List.set_cons_succ, List.set_cons_zero]
        refine wpAnyH_take_d 11 (some 15) (.int .i64 i) rfl (by kernel_rfl) (by kernel_rfl) (by kernel_rfl) (by kernel_rfl) rfl (fun _ _ _ h => h) (fun _ _ => by kernel_rfl) (by exact hS) ?_
        simp only [Act.put, List.setIfInBounds_toArray, List.set_cons_succ, List.set_cons_zero]
        refine wpAnyH_take_d 12 (some 16) (.slice bo (m - i) (cap - i)) rfl (by kernel_rfl) (by kernel_rfl) (by kernel_rfl) (by kernel_rfl) rfl (fun _ _ _ h => h) (fun w' _ => ex_slice rfl rfl rfl rfl (R2.out w')) (by exact hS) ?_
        simp only [Act.put, List.setIfInBounds_toArray, List.set_cons_succ, List.set_cons_zero]
        refine wpAnyH_call 9 (some 13) 40 #[.slice (some ⟨b, off, none⟩) i cap] rfl (by kernel_rfl) (by kernel_rfl) rfl (by kernel_rfl) (P1.out _ hS0) ?_
        rintro e w1 ⟨rfl, b1⟩
        have hS := Below.then hS b1 (Nat.le_refl _)
        refine ⟨_, rfl, hS, ?_⟩
        simp only [Act.put, List.setIfInBounds_toArray, List.set_cons_succ, List.set_cons_zero]
        refine wpAnyH_call 13 (some 17) 40 #[.slice bo (m - i) (cap - i)] rfl (by kernel_rfl) (by kernel_rfl) rfl (by kernel_rfl) (P2.out _ hS) ?_
        rintro e w2 ⟨rfl, b2⟩
        have hS := Below.then hS b2 (Nat.le_refl _)
        refine ⟨_, rfl, hS, ?_⟩
        simp only [Act.put, List.setIfInBounds_toArray, List.set_cons_succ, List.set_cons_zero]
        refine wpAnyH_take_d 14 (some 18) (.bool true) rfl (by kernel_rfl) (by kernel_rfl) (by kernel_rfl) (by kernel_rfl) rfl (fun _ _ _ h => h) (fun _ _ => ex_lt rfl rfl rfl hcd) (by exact hS) ?_
        simp only [Act.put, List.setIfInBounds_toArray, List.set_cons_succ, List.set_cons_zero]
        refine wpAnyH_take_d 15 (some 19) (.bool true) rfl (by kernel_rfl) (by kernel_rfl) (by kernel_rfl) (by kernel_rfl) rfl (fun _ _ _ h => h) (fun _ _ => by kernel_rfl) (by exact hS) ?_
        simp only [Act.put, List.setIfInBounds_toArray, List.set_cons_succ, List.set_cons_zero]
        refine wpAnyH_done (by kernel_rfl) ?_ _
        have hw1 : IntKind.i64.wrap ((i : Int) + 1) = (i : Int) + 1 := by rw [IntKind.wrap_i64]; omega
        clear b1 b2
        go_wp2
        go_roundw
        case rel => exact ⟨i + 1, by omega, by omega, by go_num, HF, hS⟩
        case measure => simp [intOf]; omega
      · have hcd : decide ((A : Int) < (D : Int)) = false := by simp; omega
        have HF := Lib.hid (T2.out hc)
        clear T1 T2 hc
        go_wp2_with fail
        have hS := hS0
        refine wp_region_held_drew (S := fun w' => Below w.heap.size w w') mixed hS (fun _ => ?_)
        show wpAnyH _ _ _ _ _ 16 (Array.replicate 16 false) _ _
        refine wpAnyH_take_d 0 (some 4) (.int .i64 i) rfl (by kernel_rfl) (by kernel_rfl) (by kernel_rfl) (by kernel_rfl) rfl (fun _ _ _ h => h) (fun _ _ => by kernel_rfl) (by exact hS) ?_
        simp only [Act.put, List.setIfInBounds_toArray, List.set_cons_succ, List.set_cons_zero]
        refine wpAnyH_take_d 1 (some 5) (.slice (some ⟨b, off, none⟩) m cap) rfl (by kernel_rfl) (by kernel_rfl) (by kernel_rfl) (by kernel_rfl) rfl (fun _ _ _ h => h) (fun _ _ => by kernel_rfl) (by exact hS) ?_
        simp only [Act.put, List.setIfInBounds_toArray, List.set_cons_succ, List.set_cons_zero]
        refine wpAnyH_take_d 2 (some 6) (.int .i64 m) rfl (by kernel_rfl) (by kernel_rfl) (by kernel_rfl) (by kernel_rfl) rfl (fun _ _ _ h => h) (fun _ _ => ex_len rfl rfl Try.underlying22) (by exact hS) ?_
        simp only [Act.put, List.setIfInBounds_toArray, List.set_cons_succ, List.set_cons_zero]
        refine wpAnyH_take_d 3 (some 7) (.int .i64 (m - 1 : Nat)) rfl (by kernel_rfl) (by kernel_rfl) (by kernel_rfl) (by kernel_rfl) rfl (fun _ _ _ h => h) (fun _ _ => ex_sub rfl rfl rfl hwm) (by exact hS) ?_
        simp only [Act.put, List.setIfInBounds_toArray, List.set_cons_succ, List.set_cons_zero]
        refine wpAnyH_take_d 4 (some 8) (.bool true) rfl (by kernel_rfl) (by kernel_rfl) (by kernel_rfl) (by kernel_rfl) rfl (fun _ _ _ h => h) (fun _ _ => ex_lt rfl rfl rfl hd) (by exact hS) ?_
        simp only [Act.put, List.setIfInBounds_toArray, List.set_cons_succ, List.set_cons_zero]
        refine wpAnyH_take_d 5 (some 9) (.bool true) rfl (by kernel_rfl) (by kernel_rfl) (by kernel_rfl) (by kernel_rfl) rfl (fun _ _ _ h => h) (fun _ _ => by kernel_rfl) (by exact hS) ?_
        simp only [Act.put, List.setIfInBounds_toArray, List.set_cons_succ, List.set_cons_zero]
        refine wpAnyH_take_d 6 (some 10) (.slice (some ⟨b, off, none⟩) m cap) rfl (by kernel_rfl) (by kernel_rfl) (by kernel_rfl) (by kernel_rfl) rfl (fun _ _ _ h => h) (fun _ _ => by kernel_rfl) (by exact hS) ?_
        simp only [Act.put, List.setIfInBounds_toArray, List.set_cons_succ, List.set_cons_zero]
        refine wpAnyH_take_d 7 (some 11) (.int .i64 i) rfl (by kernel_rfl) (by kernel_rfl) (by kernel_rfl) (by kernel_rfl) rfl (fun _ _ _ h => h) (fun _ _ => by kernel_rfl) (by exact hS) ?_
        simp only [Act.put, List.setIfInBounds_toArray, List.set_cons_succ, List.set_cons_zero]
        refine wpAnyH_take_d 8 (some 12) (.slice (some ⟨b, off, none⟩) i cap) rfl (by kernel_rfl) (by kernel_rfl) (by kernel_rfl) (by kernel_rfl) rfl (fun _ _ _ h => h) (fun w' _ => ex_slice rfl rfl rfl rfl (R1.out w')) (by exact hS) ?_
        simp only [Act.put, List.setIfInBounds_toArray, List.set_cons_succ, List.set_cons_zero]
        refine wpAnyH_take_d 10 (some 14) (.slice (some ⟨b, off, none⟩) m cap) rfl (by kernel_rfl) (by kernel_rfl) (by kernel_rfl) (by kernel_rfl) rfl (fun _ _ _ h => h) (fun _ _ => by kernel_rfl) (by exact hS) ?_
        simp only [Act.put, List.setIfInBounds_toArray, List.set_cons_succ, List.set_cons_zero]
        refine wpAnyH_take_d 11 (some 15) (.int .i64 i) rfl (by kernel_rfl) (by kernel_rfl) (by kernel_rfl) (by kernel_rfl) rfl (fun _ _ _ h => h) (fun _ _ => by kernel_rfl) (by exact hS) ?_
        simp only [Act.put, List.setIfInBounds_toArray, List.set_cons_succ, List.set_cons_zero]
        refine wpAnyH_take_d 12 (some 16) (.slice bo (m - i) (cap - i)) rfl (by kernel_rfl) (by kernel_rfl) (by kernel_rfl) (by kernel_rfl) rfl (fun _ _ _ h => h) (fun w' _ => ex_slice rfl rfl rfl rfl (R2.out w')) (by exact hS) ?_
        simp only [Act.put, List.setIfInBounds_toArray, List.set_cons_succ, List.set_cons_zero]
        refine wpAnyH_call 9 (some 13) 40 #[.slice (some ⟨b, off, none⟩) i cap] rfl (by kernel_rfl) (by kernel_rfl) rfl (by kernel_rfl) (P1.out _ hS0) ?_
        rintro e w1 ⟨rfl, b1⟩
        have hS := Below.then hS b1 (Nat.le_refl _)
        refine ⟨_, rfl, hS, ?_⟩
        simp only [Act.put, List.setIfInBounds_toArray, List.set_cons_succ, List.set_cons_zero]
        refine wpAnyH_call 13 (some 17) 40 #[.slice bo (m - i) (cap - i)] rfl (by kernel_rfl) (by kernel_rfl) rfl (by kernel_rfl) (P2.out _ hS) ?_
        rintro e w2 ⟨rfl, b2⟩
        have hS := Below.then hS b2 (Nat.le_refl _)
        refine ⟨_, rfl, hS, ?_⟩
        simp only [Act.put, List.setIfInBounds_toArray, List.set_cons_succ, List.set_cons_zero]
        refine wpAnyH_take_d 14 (some 18) (.bool false) rfl (by kernel_rfl) (by kernel_rfl) (by kernel_rfl) (by kernel_rfl) rfl (fun _ _ _ h => h) (fun _ _ => ex_lt rfl rfl rfl hcd) (by exact hS) ?_
        simp only [Act.put, List.setIfInBounds_toArray, List.set_cons_succ, List.set_cons_zero]
        refine wpAnyH_take_d 15 (some 19) (.bool false) rfl (by kernel_rfl) (by kernel_rfl) (by kernel_rfl) (by kernel_rfl) rfl (fun _ _ _ h => h) (fun _ _ => by kernel_rfl) (by exact hS) ?_
        simp only [Act.put, List.setIfInBounds_toArray, List.set_cons_succ, List.set_cons_zero]
        refine wpAnyH_done (by kernel_rfl) ?_ _
        clear b1 b2
        go_wp2
        go_ret
        exact ⟨i, rfl, HF.out, hS⟩
    · have hd : decide ((i : Int) < ((m - 1 : Nat) : Int)) = false := by simp; omega
      have HF := Lib.hid (⟨hi1, hil, hf.out, fun q => by have := hm.out; omega⟩ : HalfAt l i)
      have hS0 : Below w.heap.size w wr.drew := hb.drew
      clear hf
      go_wp2_with fail
      have hS := hS0
      refine wp_region_held_drew (S := fun w' => Below w.heap.size w w') mixed hS (fun _ => ?_)
      show wpAnyH _ _ _ _ _ 16 (Array.replicate 16 false) _ _
      refine wpAnyH_take_d 0 (some 4) (.int .i64 i) rfl (by kernel_rfl) (by kernel_rfl) (by kernel_rfl) (by kernel_rfl) rfl (fun _ _ _ h => h) (fun _ _ => by kernel_rfl) (by exact hS) ?_
      simp only [Act.put, List.setIfInBounds_toArray, List.set_cons_succ, List.set_cons_zero]
      refine wpAnyH_take_d 1 (some 5) (.slice (some ⟨b, off, none⟩) m cap) rfl (by kernel_rfl) (by kernel_rfl) (by kernel_rfl) (by kernel_rfl) rfl (fun _ _ _ h => h) (fun _ _ => by kernel_rfl) (by exact hS) ?_
      simp only [Act.put, List.setIfInBounds_toArray, List.set_cons_succ, List.set_cons_zero]
      refine wpAnyH_take_d 2 (some 6) (.int .i64 m) rfl (by kernel_rfl) (by kernel_rfl) (by kernel_rfl) (by kernel_rfl) rfl (fun _ _ _ h => h) (fun _ _ => ex_len rfl rfl Try.underlying22) (by exact hS) ?_
      simp only [Act.put, List.setIfInBounds_toArray, List.set_cons_succ, List.set_cons_zero]
      refine wpAnyH_take_d 3 (some 7) (.int .i64 (m - 1 : Nat)) rfl (by kernel_rfl) (by kernel_rfl) (by kernel_rfl) (by kernel_rfl) rfl (fun _ _ _ h => h) (fun _ _ => ex_sub rfl rfl rfl hwm) (by exact hS) ?_
      simp only [Act.put, List.setIfInBounds_toArray, List.set_cons_succ, List.set_cons_zero]
      refine wpAnyH_take_d 4 (some 8) (.bool false) rfl (by kernel_rfl) (by kernel_rfl) (by kernel_rfl) (by kernel_rfl) rfl (fun _ _ _ h => h) (fun _ _ => ex_lt rfl rfl rfl hd) (by exact hS) ?_
      simp only [Act.put, List.setIfInBounds_toArray, List.set_cons_succ, List.set_cons_zero]
      refine wpAnyH_take_d 5 (some 9) (.bool false) rfl (by kernel_rfl) (by kernel_rfl) (by kernel_rfl) (by kernel_rfl) rfl (fun _ _ _ h => h) (fun _ _ => by kernel_rfl) (by exact hS) ?_
      simp only [Act.put, List.setIfInBounds_toArray, List.set_cons_succ, List.set_cons_zero]
      refine wpAnyH_skip_d 6 (some 10) rfl (by kernel_rfl) (by kernel_rfl) (by kernel_rfl) (by kernel_rfl) rfl (fun _ _ _ h => h) (by exact hS) ?_
      simp only [Act.put, List.setIfInBounds_toArray, List.set_cons_succ, List.set_cons_zero]
      refine wpAnyH_skip_d 7 (some 11) rfl (by kernel_rfl) (by kernel_rfl) (by kernel_rfl) (by kernel_rfl) rfl (fun _ _ _ h => h) (by exact hS) ?_
      simp only [Act.put, List.setIfInBounds_toArray, List.set_cons_succ, List.set_cons_zero]
      refine wpAnyH_skip_d 8 (some 12) rfl (by kernel_rfl) (by kernel_rfl) (by kernel_rfl) (by kernel_rfl) rfl (fun _ _ _ h => h) (by exact hS) ?_
      simp only [Act.put, List.setIfInBounds_toArray, List.set_cons_succ, List.set_cons_zero]
      refine wpAnyH_skip_d 9 (some 13) rfl (by kernel_rfl) (by kernel_rfl) (by kernel_rfl) (by kernel_rfl) rfl (fun _ _ _ h => h) (by exact hS) ?_
      simp only [Act.put, List.setIfInBounds_toArray, List.set_cons_succ, List.set_cons_zero]
      refine wpAnyH_skip_d 10 (some 14) rfl (by kernel_rfl) (by kernel_rfl) (by kernel_rfl) (by kernel_rfl) rfl (fun _ _ _ h => h) (by exact hS) ?_
      simp only [Act.put, List.setIfInBounds_toArray, List.set_cons_succ, List.set_cons_zero]
      refine wpAnyH_skip_d 11 (some 15) rfl (by kernel_rfl) (by kernel_rfl) (by kernel_rfl) (by kernel_rfl) rfl (fun _ _ _ h => h) (by exact hS) ?_
      simp only [Act.put, List.setIfInBounds_toArray, List.set_cons_succ, List.set_cons_zero]
      refine wpAnyH_skip_d 12 (some 16) rfl (by kernel_rfl) (by kernel_rfl) (by kernel_rfl) (by kernel_rfl) rfl (fun _ _ _ h => h) (by exact hS) ?_
      simp only [Act.put, List.setIfInBounds_toArray, List.set_cons_succ, List.set_cons_zero]
      refine wpAnyH_skip_d 13 (some 17) rfl (by kernel_rfl) (by kernel_rfl) (by kernel_rfl) (by kernel_rfl) rfl (fun _ _ _ h => h) (by exact hS) ?_
      simp only [Act.put, List.setIfInBounds_toArray, List.set_cons_succ, List.set_cons_zero]
      refine wpAnyH_skip_d 14 (some 18) rfl (by kernel_rfl) (by kernel_rfl) (by kernel_rfl) (by kernel_rfl) rfl (fun _ _ _ h => h) (by exact hS) ?_
      simp only [Act.put, List.setIfInBounds_toArray, List.set_cons_succ, List.set_cons_zero]
      refine wpAnyH_take_d 15 (some 19) (.bool false) rfl (by kernel_rfl) (by kernel_rfl) (by kernel_rfl) (by kernel_rfl) rfl (fun _ _ _ h => h) (fun _ _ => by kernel_rfl) (by exact hS) ?_
      simp only [Act.put, List.setIfInBounds_toArray, List.set_cons_succ, List.set_cons_zero]
      refine wpAnyH_done (by kernel_rfl) ?_ _
      go_wp2
      go_ret
      exact ⟨i, rfl, HF.out, hS⟩
end Go.Proofs.Ytdkmfcmndncmcaa
