/- The contract of the document's DocParent. No statement of the seat is proved here. -/
import Derived.Test.YtclkgbelmacmfaaOParent
namespace Go.Proofs.Ytclkgbelmacmfaa
set_option maxRecDepth 20000
open Go.RowKit

theorem uS : Try.prog.underlying 23 = some (.slice (Try.prog.elem 23)) := by kernel_rfl
theorem szS (w : World) : (sizeOf (Try.prog.elem 23)).run Try.prog w = .ok 1 w := by kernel_rfl
theorem slS_to (a : Option Addr) {n c k : Nat} (hk : k ≤ c) (w : World) : (Instr.sliceAt 23 (.slice a n c) none (some (.int .i64 ((k : Nat) : Int))) none).run Try.prog w = .ok (.slice a k c) w := by
  rw [run_sliceAt_slice (P := Try.prog) w 23 _ _ _ _ uS, run_slice_h (P := Try.prog) w 23 a n c uS .i64 ((k : Nat) : Int) (by omega) (by omega), szS]
  have e : ((k : Nat) : Int).toNat = k := by omega
  simp only [Result.andThen, e, sliced, Nat.zero_mul, Nat.sub_zero]
  congr 2
  split
  · rfl
  · cases a with
    | none => rfl
    | some x => simp [Addr.add]
set_option maxHeartbeats 1600000 in
theorem docParent_any (p : ByteArray) (hps : p.size ≤ 9223372036854775807) (w : World) : Calls Try.prog 13 #[.string p] w fun e w' => e = .returned (.tuple #[.string (paUp p), .string (paNm p), .int .i64 (paE p)]) ∧ Below w.heap.size w w' := by
  have pa := refParse_any p hps w
  have hcase := erOf_cases p
  by_cases hns : nsOf p = []
  · obtain ⟨q1, q2, q3⟩ := pa_none hns
    rw [q1, q2, q3]
    clear q1 q2 q3
    rcases hcase with ⟨he, -, -, -⟩ | ⟨he, -, -⟩
    · rw [he] at pa
      clear he
      go_enter Try.func13, Try.ntmps13
      go_wp2_with fail
      refine Calls.mono pa ?_
      rintro e w1 ⟨v, rfl, ho, b1⟩
      obtain ⟨ao, am, ac, rfl, hm⟩ := ho.form'
      have h0 : am = 0 := by rw [hm.out, hns]; rfl
      subst h0
      clear pa ho hm hns
      go_wp2
      exact bodyPost_ret (v := .tuple #[.string ⟨#[]⟩, .string ⟨#[]⟩, .int .i64 6]) (by simp [results, Try.results13, go_sem]) rfl ⟨rfl, b1⟩
    · rw [he] at pa
      clear he
      go_enter Try.func13, Try.ntmps13
      go_wp2_with fail
      refine Calls.mono pa ?_
      rintro e w1 ⟨v, rfl, ho, b1⟩
      obtain ⟨ao, am, ac, rfl, hm⟩ := ho.form'
      clear pa ho hns hm
      go_wp2
      exact bodyPost_ret (v := .tuple #[.string ⟨#[]⟩, .string ⟨#[]⟩, .int .i64 6]) (by simp [results, Try.results13, go_sem]) rfl ⟨rfl, b1⟩
  · have hok : okNs (nsOf p) = true ∧ erOf p = 0 := by
      rcases hcase with ⟨he, _, hok, _⟩ | ⟨_, _, hn⟩
      · exact ⟨hok, he⟩
      · exact absurd hn hns
    obtain ⟨k, hk⟩ : ∃ k, (nsOf p).length = k + 1 := ⟨(nsOf p).length - 1, by
      cases hq : nsOf p with
      | nil => exact absurd hq hns
      | cons a r => simp⟩
    have hk10 := ok10 hok.1
    obtain ⟨q1, q2, q3⟩ := pa_some hk
    rw [q1, q2, q3]
    rw [hok.2] at pa
    have hok1 := okNs_take hok.1 k
    clear q1 q2 q3 hns hcase hok
    generalize nsOf p = ns at *
    obtain ⟨U, hU⟩ : ∃ U, txt (pathL (ns.take k)) = U := ⟨_, rfl⟩
    have HU := Lib.hid hU
    have HOK := Lib.hid hok1
    rw [hU]
    obtain ⟨x, hx⟩ : ∃ x, kAt ns k = x := ⟨_, rfl⟩
    rw [hx]
    have HX := Lib.hid hx
    have HK := Lib.hid hk
    have hkk : k ≤ 9 := by omega
    clear hU hok1 hk hk10 hx
    go_enter Try.func13, Try.ntmps13
    go_wp2_with fail
    refine Calls.mono pa ?_
    rintro e w1 ⟨v, rfl, ho, b1⟩
    have sl := own_sl ho (by rw [HK.out]; omega)
    obtain ⟨ao, am, ac, rfl, hm⟩ := sl.form
    obtain rfl : am = k + 1 := by rw [hm.out, HK.out]
    have SL := Lib.hid sl
    have hac : k + 1 ≤ ac := by
      obtain ⟨_, ac', e, h, _⟩ := sl
      have e3 : ac = ac' := by injection e
      rw [e3, ← HK.out]; exact h
    obtain ⟨b, off, cap', hv, hB, hc⟩ := SL.out.getS (i := k) (by rw [HK.out]; omega)
    obtain ⟨rfl, rfl⟩ : ao = some ⟨b, off, none⟩ ∧ ac = cap' := by
      injection hv with h1 h2 h3; exact ⟨h1, h3⟩
    rw [HX.out] at hc
    have JO := Lib.hid (fun (w' : World) (h : Below w1.heap.size w1 w') => refJoin_any ((SL.out.take okS (i := k) (by rw [HK.out]; omega)).below h) h.size HOK.out)
    rw [HU.out] at JO
    have D1 := Lib.hid (fun w' (h : Below w1.heap.size w1 w') => (h.cell (p := ⟨b, off + k, none⟩) hB).trans hc)
    have R1 := Lib.hid (fun w' => slS_to (some ⟨b, off, none⟩) (n := k + 1) (c := ac) (k := k) (by omega) w')
    have hwm : IntKind.i64.wrap (((k + 1 : Nat) : Int) - 1) = ((k : Nat) : Int) := by rw [IntKind.wrap_i64]; omega
    clear pa ho sl hm hv hc hB
    go_wp2_with fail
    have hS := (Below.refl w1.heap.size w1).drew
    refine wp_region_held_drew (S := fun w' => Below w1.heap.size w1 w') mixed hS (fun _ => ?_)
    show wpAnyH _ _ _ _ _ 15 (Array.replicate 15 false) _ _
    refine wpAnyH_take_d 0 (some 19) (.slice (some ⟨b, off, none⟩) (k + 1) ac) rfl (by kernel_rfl) (by kernel_rfl) (by kernel_rfl) (by kernel_rfl) rfl (fun _ _ _ h => h) (fun _ _ => by kernel_rfl) (by exact hS) ?_
    simp only [Act.put, List.setIfInBounds_toArray, List.set_cons_succ, List.set_cons_zero]
    refine wpAnyH_take_d 1 (some 20) (.slice (some ⟨b, off, none⟩) (k + 1) ac) rfl (by kernel_rfl) (by kernel_rfl) (by kernel_rfl) (by kernel_rfl) rfl (fun _ _ _ h => h) (fun _ _ => by kernel_rfl) (by exact hS) ?_
    simp only [Act.put, List.setIfInBounds_toArray, List.set_cons_succ, List.set_cons_zero]
    refine wpAnyH_take_d 2 (some 21) (.int .i64 (k + 1 : Nat)) rfl (by kernel_rfl) (by kernel_rfl) (by kernel_rfl) (by kernel_rfl) rfl (fun _ _ _ h => h) (fun _ _ => ex_len rfl rfl Try.underlying23) (by exact hS) ?_
    simp only [Act.put, List.setIfInBounds_toArray, List.set_cons_succ, List.set_cons_zero]
    refine wpAnyH_take_d 3 (some 22) (.int .i64 (k : Nat)) rfl (by kernel_rfl) (by kernel_rfl) (by kernel_rfl) (by kernel_rfl) rfl (fun _ _ _ h => h) (fun _ _ => ex_sub rfl rfl rfl hwm) (by exact hS) ?_
    simp only [Act.put, List.setIfInBounds_toArray, List.set_cons_succ, List.set_cons_zero]
    refine wpAnyH_take_d 4 (some 23) (.slice (some ⟨b, off, none⟩) k ac) rfl (by kernel_rfl) (by kernel_rfl) (by kernel_rfl) (by kernel_rfl) rfl (fun _ _ _ h => h) (fun w' _ => ex_slice rfl rfl rfl rfl (R1.out w')) (by exact hS) ?_
    simp only [Act.put, List.setIfInBounds_toArray, List.set_cons_succ, List.set_cons_zero]
    refine wpAnyH_take_d 6 (some 25) (.slice (some ⟨b, off, none⟩) (k + 1) ac) rfl (by kernel_rfl) (by kernel_rfl) (by kernel_rfl) (by kernel_rfl) rfl (fun _ _ _ h => h) (fun _ _ => by kernel_rfl) (by exact hS) ?_
    simp only [Act.put, List.setIfInBounds_toArray, List.set_cons_succ, List.set_cons_zero]
    refine wpAnyH_take_d 7 (some 26) (.slice (some ⟨b, off, none⟩) (k + 1) ac) rfl (by kernel_rfl) (by kernel_rfl) (by kernel_rfl) (by kernel_rfl) rfl (fun _ _ _ h => h) (fun _ _ => by kernel_rfl) (by exact hS) ?_
    simp only [Act.put, List.setIfInBounds_toArray, List.set_cons_succ, List.set_cons_zero]
    refine wpAnyH_take_d 8 (some 27) (.int .i64 (k + 1 : Nat)) rfl (by kernel_rfl) (by kernel_rfl) (by kernel_rfl) (by kernel_rfl) rfl (fun _ _ _ h => h) (fun _ _ => ex_len rfl rfl Try.underlying23) (by exact hS) ?_
    simp only [Act.put, List.setIfInBounds_toArray, List.set_cons_succ, List.set_cons_zero]
    refine wpAnyH_take_d 9 (some 28) (.int .i64 (k : Nat)) rfl (by kernel_rfl) (by kernel_rfl) (by kernel_rfl) (by kernel_rfl) rfl (fun _ _ _ h => h) (fun _ _ => ex_sub rfl rfl rfl hwm) (by exact hS) ?_
    simp only [Act.put, List.setIfInBounds_toArray, List.set_cons_succ, List.set_cons_zero]
    refine wpAnyH_take_d 10 (some 29) (.pointer (some ⟨b, off + k, none⟩)) rfl (by kernel_rfl) (by kernel_rfl) (by kernel_rfl) (by kernel_rfl) rfl (fun _ _ _ h => h) (fun _ _ => ex_index1 rfl rfl rfl (Nat.lt_succ_self k) Try.underlying23 (by kernel_rfl)) (by exact hS) ?_
    simp only [Act.put, List.setIfInBounds_toArray, List.set_cons_succ, List.set_cons_zero]
    refine wpAnyH_take_d 11 (some 30) (.string x) rfl (by kernel_rfl) (by kernel_rfl) (by kernel_rfl) (by kernel_rfl) rfl (fun _ _ _ h => h) (fun w' h => exec_load_cell rfl rfl (D1.out _ h) Try.underlying9 rfl) (by exact hS) ?_
    simp only [Act.put, List.setIfInBounds_toArray, List.set_cons_succ, List.set_cons_zero]
    refine wpAnyH_call 5 (some 24) 25 #[.slice (some ⟨b, off, none⟩) k ac] rfl (by kernel_rfl) (by kernel_rfl) rfl (by kernel_rfl) (JO.out _ hS) ?_
    rintro e w2 ⟨rfl, b2⟩
    have hS := Below.then hS b2 (Nat.le_refl _)
    refine ⟨_, rfl, hS, ?_⟩
    simp only [Act.put, List.setIfInBounds_toArray, List.set_cons_succ, List.set_cons_zero]
    refine wpAnyH_take_d 12 (some 2) (.string U) rfl (by kernel_rfl) (by kernel_rfl) (by kernel_rfl) (by kernel_rfl) rfl (fun _ _ _ h => h) (fun _ _ => by kernel_rfl) (by exact hS) ?_
    simp only [Act.put, List.setIfInBounds_toArray, List.set_cons_succ, List.set_cons_zero]
    -- left: [(13, ('3', 'Op.assign t30', None)), (14, ('4', 'Op.assign (const (0:i64))', None))]
    refine wpAnyH_take_d 13 (some 3) (.string x) rfl (by kernel_rfl) (by kernel_rfl) (by kernel_rfl) (by kernel_rfl) rfl (fun _ _ _ h => h) (fun _ _ => by kernel_rfl) (by exact hS) ?_
    simp only [Act.put, List.setIfInBounds_toArray, List.set_cons_succ, List.set_cons_zero]
    refine wpAnyH_take_d 14 (some 4) (.int .i64 0) rfl (by kernel_rfl) (by kernel_rfl) (by kernel_rfl) (by kernel_rfl) rfl (fun _ _ _ h => h) (fun _ _ => by kernel_rfl) (by exact hS) ?_
    simp only [Act.put, List.setIfInBounds_toArray, List.set_cons_succ, List.set_cons_zero]
    refine wpAnyH_done (by kernel_rfl) ?_ _
    have hb := Below.then b1 hS (Nat.le_refl _)
    clear hS D1 JO
    go_wp2
    exact bodyPost_ret (v := .tuple #[.string U, .string x, .int .i64 0]) (by simp [results, Try.results13, go_sem]) rfl ⟨rfl, hb⟩
end Go.Proofs.Ytclkgbelmacmfaa
