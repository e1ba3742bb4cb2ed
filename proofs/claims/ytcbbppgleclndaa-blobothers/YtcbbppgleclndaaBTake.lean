/- The contracts of the store's take, Root and Script. No statement of the seat is proved here. -/
import Derived.Test.YtcbbppgleclndaaBSto
namespace Go.Proofs.Ytcbbppgleclndaa
open Go.RowKit

theorem StoAt.box' {X : Nat → Prop} {w : World} {sb : Nat} {s : Sto} {N : Nat} (h : StoAt X w sb s N) : ∃ mv ov, w.heap[sb]? = some (.cells #[mv, .int .i64 s.version, .string s.root, ov, .int .i64 s.calls] 55 (0, 0)) ∧ MapIs X w mv N s.blobs ∧ OutsIs X w ov s.outs := h.box
theorem OutsIs.form {X : Nat → Prop} {w : World} {v : Value} {zs : List Int} (h : OutsIs X w v zs) : ∃ ao cap, v = .slice ao zs.length cap ∧ zs.length ≤ cap := by
  obtain ⟨ao, cap, h1, h2, _⟩ := h; exact ⟨ao, cap, h1, h2⟩
/-- Its first one, and the others. -/
theorem OutsIs.cons {X : Nat → Prop} {w : World} {v : Value} {z : Int} {zs : List Int} (h : OutsIs X w v (z :: zs)) :
    ∃ b off cap, v = .slice (some ⟨b, off, none⟩) (zs.length + 1) cap ∧ zs.length + 1 ≤ cap ∧ (∃ cs, w.heap[b]? = some (.cells cs 3 (0, 0))) ∧ w.cell? ⟨b, off, none⟩ = some (.int .i64 z) ∧ OutsIs X w (.slice (some ⟨b, off + 1, none⟩) zs.length (cap - 1)) zs ∧ (cap = 1 → OutsIs X w (.slice (some ⟨b, off, none⟩) zs.length 0) zs) := by
  obtain ⟨ao, cap, hv, h1, h2, h3⟩ := h
  simp only [List.length_cons] at hv h1
  rcases h3 with ⟨_, rfl⟩ | ⟨b, off, cs, rfl, hb, hh, hsz, hat⟩
  · omega
  · refine ⟨b, off, cap, hv, h1, ⟨cs, hh⟩, ?_, ⟨_, cap - 1, rfl, by omega, by omega, Or.inr ⟨b, off + 1, cs, rfl, hb, hh, by omega, fun i hi => ?_⟩⟩, fun e => ?_⟩
    · have := hat 0 (by simp)
      rw [cell_of_row w b off cs _ _ hh]
      simpa using this
    · have := hat (i + 1) (by simp; omega)
      rw [show off + 1 + i = off + (i + 1) by omega, this]; rfl
    · have hz : zs = [] := List.eq_nil_of_length_eq_zero (by omega)
      subst hz
      exact ⟨_, 0, rfl, by simp, by omega, Or.inr ⟨b, off, cs, rfl, hb, hh, by omega, fun i hi => by simp at hi⟩⟩

theorem OutsIs.set {X : Nat → Prop} {w : World} {v : Value} {zs : List Int} {sb : Nat} {c : Array Value} (h : OutsIs X w v zs) (h1 : w.heap[sb]? = some (.cells c 55 (0, 0))) (i : Nat) (u : Value) : OutsIs X (w.setCell ⟨sb, i, none⟩ u) v zs := by
  obtain ⟨ao, cap, hv, g1, g2, g3⟩ := h
  refine ⟨ao, cap, hv, g1, g2, g3.imp_right ?_⟩
  rintro ⟨b, off, cs, e, hb, hh, r⟩
  refine ⟨b, off, cs, e, hb, ?_, r⟩
  rw [Below.heap_setCell _ _ _ _ (by rintro rfl; rw [h1] at hh; simp at hh)]; exact hh
/-- The two stores of a call that takes an outcome. -/
theorem took_two {X : Nat → Prop} {w : World} {sb : Nat} {bl : List UInt8 → Option (List UInt8)} {ve : Nat} {ro : ByteArray} {z : Int} {zs : List Int} {ca N : Nat} {mv ov v' : Value} (h : StoAt X w sb ⟨bl, ve, ro, z :: zs, ca⟩ N)
    (h1 : w.heap[sb]? = some (.cells #[mv, .int .i64 ve, .string ro, ov, .int .i64 ca] 55 (0, 0))) (hov : OutsIs X w ov (z :: zs)) (ht : OutsIs X w v' zs) :
    StoAt X ((w.setCell ⟨sb, 4, none⟩ (.int .i64 ((ca : Int) + 1))).setCell ⟨sb, 3, none⟩ v') sb ⟨bl, ve, ro, zs, ca + 1⟩ N ∧ Kp X w ((w.setCell ⟨sb, 4, none⟩ (.int .i64 ((ca : Int) + 1))).setCell ⟨sb, 3, none⟩ v') := by
  obtain ⟨s1, k1⟩ := h.set (s' := ⟨bl, ve, ro, z :: zs, ca + 1⟩) h1 4 (.int .i64 ((ca : Int) + 1)) ov (by simp) rfl h.rng hov
  have h2 := heap_setCell_same w sb 4 _ _ (.int .i64 ((ca : Int) + 1)) h1
  have h2' : (w.setCell ⟨sb, 4, none⟩ (.int .i64 ((ca : Int) + 1))).heap[sb]? = some (.cells #[mv, .int .i64 ve, .string ro, ov, .int .i64 ((ca + 1 : Nat) : Int)] 55 (0, 0)) := by
    rw [h2]; simp
  obtain ⟨s2, k2⟩ := s1.set (s' := ⟨bl, ve, ro, zs, ca + 1⟩) h2' 3 v' v' (by simp) rfl (fun y hy => h.rng y (List.mem_cons_of_mem _ hy)) (ht.set h1 4 _)
  exact ⟨s2, k1.trans k2⟩
theorem wrap_calls {n : Nat} (h : n < 4611686018427387904) : wrap64 ((n : Int) + 1) = (n : Int) + 1 := IntWalk.wrap64_in _ ⟨by omega, by omega⟩
theorem wrap_rest (z : Int) : wrap64 (z.tmod 3 + 3) = z.tmod 3 + 3 := by
  have h1 := Int.tmod_lt_of_pos z (b := 3) (by decide)
  have h2 := Int.lt_tmod_of_pos z (b := 3) (by decide)
  exact IntWalk.wrap64_in _ ⟨by omega, by omega⟩

set_option maxHeartbeats 400000 in
theorem take_any {X : Nat → Prop} {w : World} {sb : Nat} {s : Sto} {N : Nat} (h : StoAt X w sb s N) (hc : s.calls < 4611686018427387904) :
    Calls Try.prog 31 #[.pointer (some ⟨sb, 0, none⟩)] w fun e w' => e = .returned (.int .i64 s.out) ∧ StoAt X w' sb s.took N ∧ Kp X w w' := by
  obtain ⟨mv, ov, h1, h2, h3⟩ := h.box'
  have c4 := cell_row h1 4 rfl
  have f4 := free_row h1 4
  have c3 := cell_row h1 3 rfl
  have f3 := free_row h1 3
  have st := h.set (s' := { s with calls := s.calls + 1 }) h1 4 (.int .i64 (s.calls + 1)) ov (by simp) rfl h.rng h3
  obtain ⟨bl, ve, ro, outs, ca⟩ := s
  cases outs with
  | nil =>
    obtain ⟨ao, cap, rfl, hcap⟩ := h3.form
    have ST := Lib.hid st
    clear st h h1 h2 h3
    go_enter Try.func31, Try.ntmps31
    go_wp2
    go_ret
    rw [wrap_calls hc]
    exact ⟨rfl, ST.out⟩
  | cons z zs =>
    obtain ⟨b, off, cap, rfl, hcap, ⟨cs, hrow⟩, hz, ht, ht1⟩ := h3.cons
    have hzr := h.rng z (by simp)
    have hne : b ≠ sb := by rintro rfl; rw [h1] at hrow; simp at hrow
    have t1 := took_two h h1 h3 ht
    have T1 := Lib.hid t1
    have T2 : Hid (cap = 1 → _) := fun e => took_two h h1 h3 (ht1 e)
    clear st t1 h h1 h2 h3 hrow ht ht1
    have HW := Lib.hid (wrap_calls hc)
    have HR := Lib.hid (wrap_rest z)
    go_enter Try.func31, Try.ntmps31
    go_wp2
    all_goals
      go_ret
      rw [HW.out]
      refine ⟨?_, ?_⟩
      · show Ending.returned (.int .i64 ((wrap64 (z.tmod 3 + 3)).tmod 3)) = _
        rw [HR.out]; rfl
      · first
          | exact T1.out
          | exact T2.out (by assumption)

/-! ### Root -/
set_option maxHeartbeats 400000 in
theorem root_any {X : Nat → Prop} {w : World} {sb : Nat} {s : Sto} {N : Nat} (h : StoAt X w sb s N) (hc : s.calls < 4611686018427387904) :
    Calls Try.prog 20 #[.pointer (some ⟨sb, 0, none⟩)] w fun e w' => e = .returned (if s.out = 0 then .tuple #[.int .i64 s.version, .string s.root, .int .i64 0] else .tuple #[.int .i64 0, .string ByteArray.empty, .int .i64 15]) ∧ StoAt X w' sb s.took N ∧ Kp X w w' := by
  go_enter Try.func20, Try.ntmps20
  go_wp2_with fail
  refine (take_any h hc).mono ?_
  rintro e w1 ⟨rfl, h1, k1⟩
  have H1 := Lib.hid h1
  have K1 := Lib.hid k1
  obtain ⟨mv, ov, b1, -, -⟩ := h1.box'
  have c1 := cell_row b1 1 rfl
  have c2 := cell_row b1 2 rfl
  clear h1 k1 b1 h
  rcases out_range s with hq | hq | hq
  · rw [hq]
    go_wp2
    have hS : w1.drew.cell? ⟨sb, 1, none⟩ = some (.int .i64 s.version) ∧ w1.drew.cell? ⟨sb, 2, none⟩ = some (.string s.root) ∧ w1.drew = w1.drew := ⟨c1, c2, rfl⟩
    refine wp_region_held_drew (S := fun w' => w'.cell? ⟨sb, 1, none⟩ = some (.int .i64 s.version) ∧ w'.cell? ⟨sb, 2, none⟩ = some (.string s.root) ∧ w' = w1.drew) mixed hS (fun _ => ?_)
    show wpAnyH _ _ _ _ _ 11 (Array.replicate 11 false) _ _
    refine wpAnyH_take_d 0 (some 10) (.pointer (some ⟨sb, 0, none⟩)) rfl (by kernel_rfl) (by kernel_rfl) (by kernel_rfl) (by kernel_rfl) rfl (fun _ _ _ h => h) (fun _ _ => by kernel_rfl) (by exact hS) ?_
    simp only [Act.put, List.setIfInBounds_toArray, List.set_cons_succ, List.set_cons_zero]
    refine wpAnyH_take_d 1 (some 11) (.pointer (some ⟨sb, 0, none⟩)) rfl (by kernel_rfl) (by kernel_rfl) (by kernel_rfl) (by kernel_rfl) rfl (fun _ _ _ h => h) (fun _ _ => by kernel_rfl) (by exact hS) ?_
    simp only [Act.put, List.setIfInBounds_toArray, List.set_cons_succ, List.set_cons_zero]
    refine wpAnyH_take_d 2 (some 12) (.pointer (some ⟨sb, 1, none⟩)) rfl (by kernel_rfl) (by kernel_rfl) (by kernel_rfl) (by kernel_rfl) rfl (fun _ _ _ h => h) (fun _ _ => by kernel_rfl) (by exact hS) ?_
    simp only [Act.put, List.setIfInBounds_toArray, List.set_cons_succ, List.set_cons_zero]
    refine wpAnyH_take_d 3 (some 13) (.int .i64 s.version) rfl (by kernel_rfl) (by kernel_rfl) (by kernel_rfl) (by kernel_rfl) rfl (fun _ _ _ h => h) (fun w' h => exec_load_cell rfl rfl h.1 Try.underlying3 rfl) (by exact hS) ?_
    simp only [Act.put, List.setIfInBounds_toArray, List.set_cons_succ, List.set_cons_zero]
    refine wpAnyH_take_d 4 (some 14) (.pointer (some ⟨sb, 0, none⟩)) rfl (by kernel_rfl) (by kernel_rfl) (by kernel_rfl) (by kernel_rfl) rfl (fun _ _ _ h => h) (fun _ _ => by kernel_rfl) (by exact hS) ?_
    simp only [Act.put, List.setIfInBounds_toArray, List.set_cons_succ, List.set_cons_zero]
    refine wpAnyH_take_d 5 (some 15) (.pointer (some ⟨sb, 0, none⟩)) rfl (by kernel_rfl) (by kernel_rfl) (by kernel_rfl) (by kernel_rfl) rfl (fun _ _ _ h => h) (fun _ _ => by kernel_rfl) (by exact hS) ?_
    simp only [Act.put, List.setIfInBounds_toArray, List.set_cons_succ, List.set_cons_zero]
    refine wpAnyH_take_d 6 (some 16) (.pointer (some ⟨sb, 2, none⟩)) rfl (by kernel_rfl) (by kernel_rfl) (by kernel_rfl) (by kernel_rfl) rfl (fun _ _ _ h => h) (fun _ _ => by kernel_rfl) (by exact hS) ?_
    simp only [Act.put, List.setIfInBounds_toArray, List.set_cons_succ, List.set_cons_zero]
    refine wpAnyH_take_d 7 (some 17) (.string s.root) rfl (by kernel_rfl) (by kernel_rfl) (by kernel_rfl) (by kernel_rfl) rfl (fun _ _ _ h => h) (fun w' h => exec_load_cell rfl rfl h.2.1 Try.underlying9 rfl) (by exact hS) ?_
    simp only [Act.put, List.setIfInBounds_toArray, List.set_cons_succ, List.set_cons_zero]
    refine wpAnyH_take_d 8 (some 2) (.int .i64 s.version) rfl (by kernel_rfl) (by kernel_rfl) (by kernel_rfl) (by kernel_rfl) rfl (fun _ _ _ h => h) (fun _ _ => by kernel_rfl) (by exact hS) ?_
    simp only [Act.put, List.setIfInBounds_toArray, List.set_cons_succ, List.set_cons_zero]
    refine wpAnyH_take_d 9 (some 3) (.string s.root) rfl (by kernel_rfl) (by kernel_rfl) (by kernel_rfl) (by kernel_rfl) rfl (fun _ _ _ h => h) (fun _ _ => by kernel_rfl) (by exact hS) ?_
    simp only [Act.put, List.setIfInBounds_toArray, List.set_cons_succ, List.set_cons_zero]
    refine wpAnyH_take_d 10 (some 4) (.int .i64 0) rfl (by kernel_rfl) (by kernel_rfl) (by kernel_rfl) (by kernel_rfl) rfl (fun _ _ _ h => h) (fun _ _ => by kernel_rfl) (by exact hS) ?_
    simp only [Act.put, List.setIfInBounds_toArray, List.set_cons_succ, List.set_cons_zero]
    refine wpAnyH_done (by kernel_rfl) ?_ _
    go_wp2
    go_returns
    exact ⟨rfl, H1.out.drew, K1.out.drew⟩
  · rw [hq]
    go_wp2
    go_returns
    exact ⟨rfl, H1.out, K1.out⟩
  · rw [hq]
    go_wp2
    go_returns
    exact ⟨rfl, H1.out, K1.out⟩
end Go.Proofs.Ytcbbppgleclndaa
