/- The contracts of Parent, the program's and the document's. No statement of the seat is proved here. -/
import Derived.Test.YtclkgbelmacmfaaOJoinP
namespace Go.Proofs.Ytclkgbelmacmfaa
set_option maxRecDepth 20000
open Go.RowKit

theorem own_sl {B : Nat} {w : World} {v : Value} {l : List ByteArray} (h : OwnR elS B w v l) (hl : l.length ≤ 10) : SlAt elS w.heap.size w v l := h.at (by
  have : elS.bytes = 16 := rfl
  rw [this]; omega)
theorem ok10 {l : List ByteArray} (h : okNs l = true) : l.length ≤ 10 := (okNs_iff.1 h).1
theorem joE_ok {l : List ByteArray} (h : okNs l = true) : joE l = 0 := by unfold joE; rw [h]; rfl
theorem joS_ok {l : List ByteArray} (h : okNs l = true) : joS l = txt (pathL l) := by unfold joS; rw [h]; rfl
theorem pa_none {p : ByteArray} (h : nsOf p = []) : paUp p = ByteArray.empty ∧ paNm p = ByteArray.empty ∧ paE p = 6 := by
  unfold paUp paNm paE; rw [h]; exact ⟨rfl, rfl, rfl⟩
theorem pa_some {p : ByteArray} {k : Nat} (h : (nsOf p).length = k + 1) : paUp p = txt (pathL ((nsOf p).take k)) ∧ paNm p = kAt (nsOf p) k ∧ paE p = 0 := by
  unfold paUp paNm paE
  have h1 : (nsOf p).isEmpty = false := by
    cases hq : nsOf p with
    | nil => rw [hq] at h; simp at h
    | cons a r => rfl
  rw [h1, List.dropLast_eq_take, h]
  refine ⟨rfl, ?_, rfl⟩
  have h2 : nsOf p ≠ [] := fun e => by rw [e] at h; simp at h
  rw [List.getLastD_eq_getLast?, List.getLast?_eq_some_getLast h2, Option.getD_some, List.getLast_eq_getElem]
  simp only [h, Nat.add_sub_cancel]
  exact kAt_get (by omega)
set_option maxHeartbeats 1600000 in
theorem parent_any (p : ByteArray) (w : World) : Calls Try.prog 14 #[.string p] w fun e w' => e = .returned (.tuple #[.string (paUp p), .string (paNm p), .int .i64 (paE p)]) ∧ Below w.heap.size w w' := by
  have pa := parse_any p w
  have hcase := erOf_cases p
  by_cases hns : nsOf p = []
  · obtain ⟨q1, q2, q3⟩ := pa_none hns
    rw [q1, q2, q3]
    clear q1 q2 q3
    rcases hcase with ⟨he, -, -, -⟩ | ⟨he, -, -⟩
    · rw [he] at pa
      clear he
      go_enter Try.func14, Try.ntmps14
      go_wp2_with fail
      refine Calls.mono pa ?_
      rintro e w1 ⟨v, rfl, ho, b1⟩
      obtain ⟨ao, am, ac, rfl, hm⟩ := ho.form'
      have h0 : am = 0 := by rw [hm.out, hns]; rfl
      subst h0
      clear pa ho hm hns
      go_wp2
      exact bodyPost_ret (v := .tuple #[.string ⟨#[]⟩, .string ⟨#[]⟩, .int .i64 6]) (by simp [results, Try.results14, go_sem]) rfl ⟨rfl, b1⟩
    · rw [he] at pa
      clear he
      go_enter Try.func14, Try.ntmps14
      go_wp2_with fail
      refine Calls.mono pa ?_
      rintro e w1 ⟨v, rfl, ho, b1⟩
      obtain ⟨ao, am, ac, rfl, hm⟩ := ho.form'
      clear pa ho hns hm
      go_wp2
      exact bodyPost_ret (v := .tuple #[.string ⟨#[]⟩, .string ⟨#[]⟩, .int .i64 6]) (by simp [results, Try.results14, go_sem]) rfl ⟨rfl, b1⟩
  · have hok : okNs (nsOf p) = true ∧ erOf p = 0 := by
      rcases hcase with ⟨he, _, hok, _⟩ | ⟨_, _, hn⟩
      · exact ⟨hok, he⟩
      · exact absurd hn hns
    obtain ⟨k, hk⟩ : ∃ k, (nsOf p).length = k + 1 := ⟨(nsOf p).length - 1, by
      cases hq : nsOf p with
      | nil => exact absurd hq hns
      | cons a r => simp⟩
    have hk10 := ok10 hok.1
    obtain ⟨q1, q2, q3⟩ := pa_some hk
    rw [q1, q2, q3]
    rw [hok.2] at pa
    have hok1 := okNs_take hok.1 k
    clear q1 q2 q3 hns hcase hok
    generalize nsOf p = ns at *
    obtain ⟨U, hU⟩ : ∃ U, txt (pathL (ns.take k)) = U := ⟨_, rfl⟩
    have HU := Lib.hid ((joS_ok hok1).trans hU)
    have HE := Lib.hid (joE_ok hok1)
    rw [hU]
    obtain ⟨x, hx⟩ : ∃ x, kAt ns k = x := ⟨_, rfl⟩
    rw [hx]
    have HX := Lib.hid hx
    have HK := Lib.hid hk
    have hkk : k ≤ 9 := by omega
    clear hU hok1 hk hk10 hx
    go_enter Try.func14, Try.ntmps14
    go_wp2_with fail
    refine Calls.mono pa ?_
    rintro e w1 ⟨v, rfl, ho, b1⟩
    have sl := own_sl ho (by rw [HK.out]; omega)
    obtain ⟨ao, am, ac, rfl, hm⟩ := sl.form
    obtain rfl : am = k + 1 := by rw [hm.out, HK.out]
    have SL := Lib.hid sl
    have hac : k + 1 ≤ ac := by
      obtain ⟨_, ac', e, h, _⟩ := sl
      have e3 : ac = ac' := by injection e
      rw [e3, ← HK.out]; exact h
    have jo := join_any (sl.take okS (i := k) (by rw [HK.out]; omega)) (Nat.le_refl _)
    rw [HU.out, HE.out] at jo
    clear pa ho sl hm
    go_wp2_with fail
    refine Calls.mono jo ?_
    rintro e w2 ⟨rfl, b2⟩
    have hb := Below.then b1 b2 (Nat.le_refl _)
    obtain ⟨b, off, cap', hv, hB, hc⟩ := SL.out.getS (i := k) (by rw [HK.out]; omega)
    obtain ⟨rfl, rfl⟩ : ao = some ⟨b, off, none⟩ ∧ ac = cap' := by
      injection hv with h1 h2 h3; exact ⟨h1, h3⟩
    have d1 := (b2.cell (p := ⟨b, off + k, none⟩) hB).trans hc
    have hBl : b < w2.heap.size := Nat.lt_of_lt_of_le hB b2.size
    rw [HX.out] at d1
    have D1 := Lib.hid (fun w' (h : Below w2.heap.size w2 w') => (h.cell (p := ⟨b, off + k, none⟩) hBl).trans d1)
    clear b1 b2 jo hv hc d1 hB
    go_wp2_with fail
    have hS := (Below.refl w2.heap.size w2).drew
    refine wp_region_held_drew (S := fun w' => Below w2.heap.size w2 w') mixed hS (fun _ => ?_)
    show wpAnyH _ _ _ _ _ 8 (Array.replicate 8 false) _ _
    refine wpAnyH_take_d 0 (some 34) (.string U) rfl (by kernel_rfl) (by kernel_rfl) (by kernel_rfl) (by kernel_rfl) rfl (fun _ _ _ h => h) (fun _ _ => by kernel_rfl) (by exact hS) ?_
    simp only [Act.put, List.setIfInBounds_toArray, List.set_cons_succ, List.set_cons_zero]
    refine wpAnyH_take_d 1 (some 35) (.slice (some ⟨b, off, none⟩) (k + 1) ac) rfl (by kernel_rfl) (by kernel_rfl) (by kernel_rfl) (by kernel_rfl) rfl (fun _ _ _ h => h) (fun _ _ => by kernel_rfl) (by exact hS) ?_
    simp only [Act.put, List.setIfInBounds_toArray, List.set_cons_succ, List.set_cons_zero]
    refine wpAnyH_take_d 2 (some 36) (.int .i64 k) rfl (by kernel_rfl) (by kernel_rfl) (by kernel_rfl) (by kernel_rfl) rfl (fun _ _ _ h => h) (fun _ _ => by kernel_rfl) (by exact hS) ?_
    simp only [Act.put, List.setIfInBounds_toArray, List.set_cons_succ, List.set_cons_zero]
    refine wpAnyH_take_d 3 (some 37) (.pointer (some ⟨b, off + k, none⟩)) rfl (by kernel_rfl) (by kernel_rfl) (by kernel_rfl) (by kernel_rfl) rfl (fun _ _ _ h => h) (fun _ _ => ex_index1 rfl rfl rfl (Nat.lt_succ_self k) Try.underlying23 (by kernel_rfl)) (by exact hS) ?_
    simp only [Act.put, List.setIfInBounds_toArray, List.set_cons_succ, List.set_cons_zero]
    refine wpAnyH_take_d 4 (some 38) (.string x) rfl (by kernel_rfl) (by kernel_rfl) (by kernel_rfl) (by kernel_rfl) rfl (fun _ _ _ h => h) (fun w' h => exec_load_cell rfl rfl (D1.out _ h) Try.underlying9 rfl) (by exact hS) ?_
    simp only [Act.put, List.setIfInBounds_toArray, List.set_cons_succ, List.set_cons_zero]
    refine wpAnyH_take_d 5 (some 2) (.string U) rfl (by kernel_rfl) (by kernel_rfl) (by kernel_rfl) (by kernel_rfl) rfl (fun _ _ _ h => h) (fun _ _ => by kernel_rfl) (by exact hS) ?_
    simp only [Act.put, List.setIfInBounds_toArray, List.set_cons_succ, List.set_cons_zero]
    refine wpAnyH_take_d 6 (some 3) (.string x) rfl (by kernel_rfl) (by kernel_rfl) (by kernel_rfl) (by kernel_rfl) rfl (fun _ _ _ h => h) (fun _ _ => by kernel_rfl) (by exact hS) ?_
    simp only [Act.put, List.setIfInBounds_toArray, List.set_cons_succ, List.set_cons_zero]
    refine wpAnyH_take_d 7 (some 4) (.int .i64 0) rfl (by kernel_rfl) (by kernel_rfl) (by kernel_rfl) (by kernel_rfl) rfl (fun _ _ _ h => h) (fun _ _ => by kernel_rfl) (by exact hS) ?_
    simp only [Act.put, List.setIfInBounds_toArray, List.set_cons_succ, List.set_cons_zero]
    refine wpAnyH_done (by kernel_rfl) ?_ _
    have hb := Below.then hb hS (Nat.le_refl _)
    clear hS D1
    go_wp2
    exact bodyPost_ret (v := .tuple #[.string U, .string x, .int .i64 0]) (by simp [results, Try.results14, go_sem]) rfl ⟨rfl, hb⟩
end Go.Proofs.Ytclkgbelmacmfaa
