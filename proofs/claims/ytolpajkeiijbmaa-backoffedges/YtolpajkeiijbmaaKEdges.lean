/- A cap that is no number counts for nothing; a base of nought never waits, but where its product is no number; nor does a cap below nought: the law cisternlaw06.BackoffEdges returns true at every input. No condition. -/
import Derived.Test.YtolpajkeiijbmaaKArgs
namespace Go.Proofs.Ytolpajkeiijbmaa.backoffEdges
open Go.RowKit Go.ChangeShapes Go.WideShapes Go.ChangeAt G Ieee

theorem own : ownKnob Try.prog.godebug = none := by kernel_rfl
theorem quo_none {a : Nat} (h : nan a = true ∨ a = 0) : floatBits .quo .f64 a a = none := by
  rcases h with h | rfl
  · obtain ⟨t, e⟩ := read_nan h
    simp only [floatBits, FloatKind.format, Format.div]
    rw [show Ieee.double.read a = D.read a from rfl, e]; rfl
  · decide +kernel
theorem run_quo {a : Nat} (h : nan a = true ∨ a = 0) (w : World) : ∃ r w', (binOp .quo 22 (.float .f64 a) (.float .f64 a)).run Try.prog w = .ok (.float .f64 r) w' ∧ r < 18446744073709551616 ∧ nan r = true ∧ Below w.heap.size w w' ∧ w'.heap.size = w.heap.size := by
  have hb := quo_none h
  obtain ⟨n1, n2⟩ := nan_cut a a (w.tape w.drawn (.nanBits .f64 a a))
  refine ⟨Question.cut (.nanBits .f64 a a) (w.tape w.drawn (.nanBits .f64 a a)), w.drew, ?_, n2, n1, (Below.refl _ _).drew, rfl⟩
  simp only [floatBits] at hb
  simp [binOp, Op.floatArith, hb, Question.forced]
theorem sub_same (a : Nat) {r : Nat} (h : val r = fo .sub (val a) (val a)) : nan r = true ∨ r = 0 := by
  rw [← fo_val .sub] at h
  cases hn : nan a
  · by_cases hr : rung a < 9218868437227405312
    · rw [sub_self hn hr] at h
      unfold val at h; split at h
      · left; assumption
      · right; simpa using h
    · rw [sub_inf hn hr] at h
      unfold val at h; split at h
      · left; assumption
      · cases h
  · rw [fo_val .sub] at h
    have : val a = none := by simp [val, hn]
    rw [this] at h
    unfold val at h; split at h
    · left; assumption
    · cases h
theorem dly_free {b f c p : Nat} {n : Int} (hn : 0 < n) (hc : nan c = true) (hp : val p = fo .mul (val b) (powV (times (n - 1)) (val f))) : dly b f c n = ticks p := by
  unfold dly dlyN
  rw [if_neg (by omega), ← hp, ← least_rep]
  unfold leastB
  split
  · rfl
  · rename_i h
    rw [key_nan hc] at h
    have hpn : nan p = true := by
      cases hq : nan p
      · have := (key_le hq).1; omega
      · rfl
    rw [ticks_nan hc, ticks_nan hpn]
theorem ticks_low {p c : Nat} (hc : nan c = false) (h0 : ticks c = 0) (h : key p ≤ key c) : ticks p = 0 := by
  have hpn : nan p = false := by
    cases hq : nan p
    · rfl
    · have := (key_le hc).1; rw [key_nan hq] at h; omega
  have h1 := ticks_mono hpn hc h
  have h2 := (ticks_bounds p).1
  omega
theorem dly_below (b f : Nat) (n : Int) : dly b f 13830554455654793216 n = 0 := by
  unfold dly; split
  · rfl
  · unfold dlyN leastB
    have h1 : ticks 13830554455654793216 = 0 := by decide +kernel
    split
    · rename_i h; exact ticks_low (c := 13830554455654793216) (by decide +kernel) h1 (Int.le_of_lt h)
    · exact h1
theorem pow_two : ∀ k : Fin 61, fo .mul (val 0) (powV k.val (val 4611686018427387904)) = some 0 := by decide +kernel
theorem dly_zero (c : Nat) (n : Int) : dly 0 4611686018427387904 c n = 0 := by
  unfold dly; split
  · rfl
  · unfold dlyN
    rw [pow_two ⟨times (n - 1), by have := times_le (n - 1); omega⟩]
    show ticks (leastB c 0) = 0
    unfold leastB
    have h1 : ticks 0 = 0 := by decide +kernel
    split
    · exact h1
    · rename_i h; exact ticks_low (c := 0) (by decide +kernel) h1 (by omega)
theorem modN (n : Int) : ∃ A : Nat, wrap64 (1 + wrap64 ((IntKind.u64.wrap n).tmod 80)) = (A : Int) ∧ 1 ≤ A ∧ A ≤ 80 := by
  have h : 0 ≤ IntKind.u64.wrap n := by rw [IntKind.wrap_u64]; omega
  rw [Int.tmod_eq_emod_of_nonneg h]
  exact ⟨(1 + IntKind.u64.wrap n % 80).toNat, by unfold wrap64; omega, by omega, by omega⟩
set_option maxRecDepth 20000 in
set_option maxHeartbeats 3200000 in
theorem walk (b f c : Nat) (_hb : b < 18446744073709551616) (_hf : f < 18446744073709551616) (hc : c < 18446744073709551616) (n : Int) (_wf : (Lit.int .i64 n).wf = true) (W : World) :
    Calls Try.prog 6 #[setting b f c, .int .i64 n] W fun e w' => e = .returned (.bool true) ∧ Below W.heap.size W w' := by
  clear _wf _hb _hf
  obtain ⟨A, eA, hA1, hA2⟩ := modN n
  have hw1 : IntKind.i64.wrap ((A : Int) - 1) = A - 1 := by rw [IntKind.wrap_i64]; omega
  have kn := delay_any b f 13830554455654793216 A (by decide) (by omega)
  have kz := delay_any 0 4611686018427387904 c A hc (by omega)
  rw [dly_below] at kn
  rw [dly_zero] at kz
  go_enter Try.func6, Try.ntmps6
  go_wp2_with fail
  refine (known_any _).mono ?_
  rintro e w1 ⟨rfl, hS⟩
  have hS : Below (W.heap.size + 1) (W.alloc (setBox b f c)) w1 := hS.mono (by simp)
  obtain ⟨r1, w2, e2, l2, v2, b2, s2⟩ := run_step .sub c c w1
  have hr1 := sub_same c v2
  obtain ⟨r, w3, e3, l3, hr, b3, s3⟩ := run_quo hr1 w2
  have c0 := box_cell hS 0 rfl
  have c1 := box_cell hS 1 rfl
  have c2 := box_cell hS 2 rfl
  have hS := hS.trans (b2.mono (szS hS))
  have hS := hS.trans (b3.mono (szS hS))
  have hS : Below (W.heap.size + 1) (W.alloc (setBox b f c)) w3 := hS
  have d0 := box_cell hS 0 rfl
  have d1 := box_cell hS 1 rfl
  clear v2 hr1 b2 b3 s2 s3
  go_wp2_with fail
  refine (delay_any b f r A l3 (by omega) _).mono ?_
  rintro e w4 ⟨rfl, b4⟩
  have hS := hS.trans (b4.mono (szS hS))
  have hS : Below (W.heap.size + 1) (W.alloc (setBox b f c)) w4 := hS
  clear c0 c1 c2 d0 d1 b4 e2 e3
  go_wp2_with fail
  have hS := hS.drew
  have hS : Below (W.heap.size + 1) (W.alloc (setBox b f c)) w4.drew := hS
  refine wp_region_held_drew (S := fun w' => Below (W.heap.size + 1) (W.alloc (setBox b f c)) w') mixed hS (fun _ => ?_)
  show wpAnyH _ _ _ _ _ 9 (Array.replicate 9 false) _ _
  refine wpAnyH_take_d 0 (some 33) (.pointer (some ⟨W.heap.size, 0, none⟩)) rfl (by kernel_rfl) (by kernel_rfl) (by kernel_rfl) (by kernel_rfl) rfl (fun _ _ _ h => h) (fun _ _ => by kernel_rfl) (by exact hS) ?_
  simp only [Act.put, List.setIfInBounds_toArray, List.set_cons_succ, List.set_cons_zero]
  refine wpAnyH_take_d 1 (some 34) (.float .f64 b) rfl (by kernel_rfl) (by kernel_rfl) (by kernel_rfl) (by kernel_rfl) rfl (fun _ _ _ h => h) (fun w' h => exec_load_cell rfl rfl (box_cell h 0 rfl) Try.underlying22 rfl) (by exact hS) ?_
  simp only [Act.put, List.setIfInBounds_toArray, List.set_cons_succ, List.set_cons_zero]
  refine wpAnyH_take_d 2 (some 35) (.pointer (some ⟨W.heap.size, 1, none⟩)) rfl (by kernel_rfl) (by kernel_rfl) (by kernel_rfl) (by kernel_rfl) rfl (fun _ _ _ h => h) (fun _ _ => by kernel_rfl) (by exact hS) ?_
  simp only [Act.put, List.setIfInBounds_toArray, List.set_cons_succ, List.set_cons_zero]
  refine wpAnyH_take_d 3 (some 36) (.float .f64 f) rfl (by kernel_rfl) (by kernel_rfl) (by kernel_rfl) (by kernel_rfl) rfl (fun _ _ _ h => h) (fun w' h => exec_load_cell rfl rfl (box_cell h 1 rfl) Try.underlying22 rfl) (by exact hS) ?_
  simp only [Act.put, List.setIfInBounds_toArray, List.set_cons_succ, List.set_cons_zero]
  refine wpAnyH_take_d 4 (some 37) (.int .i64 (A : Int)) rfl (by kernel_rfl) (by kernel_rfl) (by kernel_rfl) (by kernel_rfl) rfl (fun _ _ _ h => h) (fun _ _ => by kernel_rfl) (by exact hS) ?_
  simp only [Act.put, List.setIfInBounds_toArray, List.set_cons_succ, List.set_cons_zero]
  refine wpAnyH_take_d 5 (some 38) (.int .i64 ((A : Int) - 1)) rfl (by kernel_rfl) (by kernel_rfl) (by kernel_rfl) (by kernel_rfl) rfl (fun _ _ _ h => h) (fun w' h => by go_simp) (by exact hS) ?_
  simp only [Act.put, List.setIfInBounds_toArray, List.set_cons_succ, List.set_cons_zero]
  refine wpAnyH_call 6 (some 39) 15 #[.float .f64 f, .int .i64 ((A : Int) - 1)] rfl (by kernel_rfl) (by kernel_rfl) rfl (by kernel_rfl) (rPower_any f ((A : Int) - 1) _) ?_
  rintro e w5 ⟨q, rfl, lq, vq, bq, sq⟩
  have hS := hS.trans (bq.mono (szS hS))
  have hS : Below (W.heap.size + 1) (W.alloc (setBox b f c)) w5 := hS
  clear bq sq lq
  refine ⟨_, rfl, hS, ?_⟩
  simp only [Act.put, List.setIfInBounds_toArray, List.set_cons_succ, List.set_cons_zero]
  obtain ⟨p, w6, ep, lp, vp, bp, sp⟩ := run_step .mul b q w5
  have hS := hS.trans (bp.mono (szS hS))
  have hS : Below (W.heap.size + 1) (W.alloc (setBox b f c)) w6 := hS
  clear bp sp
  refine wpAnyH_one 7 (some 40) (.float .f64 p) rfl (by kernel_rfl) (by kernel_rfl) rfl (exec_step rfl .mul rfl rfl ep) (by exact hS) ?_
  simp only [Act.put, List.setIfInBounds_toArray, List.set_cons_succ, List.set_cons_zero]
  refine wpAnyH_take_d 8 (some 7) (.float .f64 p) rfl (by kernel_rfl) (by kernel_rfl) (by kernel_rfl) (by kernel_rfl) rfl (fun _ _ _ h => h) (fun _ _ => by kernel_rfl) (by exact hS) ?_
  simp only [Act.put, List.setIfInBounds_toArray, List.set_cons_succ, List.set_cons_zero]
  refine wpAnyH_done (by kernel_rfl) ?_ _
  rw [vq] at vp
  have HD := Lib.hid (dly_free (n := A) (by omega) hr vp)
  clear vp vq ep hw1
  rw [HD.out]
  clear HD
  go_wp2_with fail
  refine (rTicks_any p _).mono ?_
  rintro e _ ⟨rfl, rfl⟩
  generalize ticks p = tp
  have c0 := box_cell hS 0 rfl
  have c1 := box_cell hS 1 rfl
  go_wp2_with fail
  refine (kn _).mono ?_
  rintro e w7 ⟨rfl, b7⟩
  have hS := hS.trans (b7.mono (szS hS))
  have hS : Below (W.heap.size + 1) (W.alloc (setBox b f c)) w7 := hS
  clear c0 c1 b7 kn
  have c2 := box_cell hS 2 rfl
  go_wp2_with fail
  refine (kz _).mono ?_
  rintro e w8 ⟨rfl, b8⟩
  have hS := hS.trans (b8.mono (szS hS))
  clear c2 b8 kz
  go_wp2
  go_ret
  exact ⟨rfl, ((Below.refl _ _).alloc (Nat.le_refl _) _).trans (hS.mono (Nat.le_succ _))⟩

/-! ### the row -/
theorem laidOut : laidOutB Try.prog = true := by kernel_rfl
theorem bytesInt : Try.prog.bytesOf 3 = 8 := by kernel_rfl
set_option maxRecDepth 100000 in
theorem lifted (os : Os) (started : os.Started) (H : Type) (enc : TypeId × Value → H) :
    ReturnsInHanded {} Try.checked os 6 .any (Rows.backoffEdgesSpec.pre6 enc Try.prog Try.f6 Rows.backoffEdgesRow.domain false) (Rows.backoffEdgesSpec.post enc Try.prog Try.f6 false true false false) := by
  refine returnsInHanded_of_change_sized (C := Try.checked) own started (by kernel_rfl) Try.func6
    (ChangeSpec.witness6 (enc := enc) (C := Try.checked) false ⟨#[], #[.agg #[.float .f64 0, .float .f64 0, .float .f64 0], .int .i64 0], []⟩ 8 (by kernel_rfl) (by kernel_rfl) (by kernel_rfl) (by kernel_rfl)) ?_
  intro W base args ds gs before hval0 hW hcnd hsz0 _
  have hval : ∀ (j : Nat) t v, Try.f6.params[j]? = some t → args[j]? = some v → Value.okWide Try.prog W .any base t v := hval0
  have hW' := hW
  obtain ⟨p, q, hA0, hV, rfl, hfz, hnd⟩ := hW
  have hA : DataW.TrodAll enc Try.prog W 0 (fun _ => true) true Try.f6.params.toList args.toList ds p := hA0
  have hsz : (DataW.weightsEach Try.prog (Try.f6.params.toList ++ Rows.backoffEdgesSpec.plain.varTypes Try.prog) (ds ++ gs)).all (· ≤ reachBytes) = true := hsz0
  rw [Try.params6] at hA hval hsz
  obtain ⟨v0, vs0, d0, ds0, p0, q0, hargs, rfl, rfl, h0, r0⟩ := trodAll_cons hA
  obtain ⟨v1, vs1, d1, ds1, p1, q1, rfl, rfl, rfl, h1, r1⟩ := trodAll_cons r0
  obtain ⟨rfl, rfl, rfl⟩ := trodAll_nil r1
  obtain rfl : args = #[v0, v1] := by cases args; simp_all
  obtain ⟨rfl, rfl⟩ := trodVars_none hV
  have k0 := h0
  have lt0 := args_lt k0
  obtain ⟨a0, b0, c0, rfl, x0, y0, z0⟩ := set_arg (hval 0 24 v0 rfl rfl) h0
  obtain ⟨a1, rfl, rfl, rfl, w1⟩ := open_int Try.underlying3 (hval 1 3 v1 rfl rfl) h1
  clear hA0 hval0 hsz0
  refine (walk a0 b0 c0 x0 y0 z0 a1 w1 W ).mono fun e W' ⟨he, bel⟩ => ?_
  subst he
  exact ⟨_, rfl, _, _, _, [], _, [], hW', trodAll_mk1 (shut_bool Try.underlying4 _), (trodAll_cons_mk (Below.trod laidOut (by kernel_rfl) (of_decide_eq_true (by kernel_rfl)) k0 bel lt0) (trodAll_cons_mk (shut_int Try.underlying3 w1) trodAll_mk0)), rfl, bel.frame _, fun h => by cases h⟩

theorem over : Rows.backoffEdgesRow.holds Try.pinned (OpenSpec.ofChange Rows.backoffEdgesSpec) :=
  OpenClaim.holds_of_wide 6 Try.f6 rfl rfl rfl rfl rfl rfl rfl ⟨rfl, rfl, rfl, rfl, rfl⟩ rfl rfl rfl rfl rfl (by kernel_rfl) Try.func6 (by kernel_rfl)
    (of_decide_eq_true (by kernel_rfl)) (by unfold Func.isWrapper; first | (rw [if_pos (by decide +kernel)]; kernel_rfl) | (rw [if_neg (by decide +kernel)]; exact ⟨rfl, rfl⟩))
    (fun os started H enc _ => lifted os started H enc)
end Go.Proofs.Ytolpajkeiijbmaa.backoffEdges

namespace Go.Proofs.Ytolpajkeiijbmaa
/-- The law returns true at every input. -/
theorem backoffEdges_holds : Rows.BackoffEdgesSaid := backoffEdges.over
end Go.Proofs.Ytolpajkeiijbmaa

