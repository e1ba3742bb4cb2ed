/- A plan that begins later is the same plan, later: the law cisternlaw06.BackoffShifts returns true at every input. No condition. -/
import Derived.Test.YtolpajkeiijbmaaKPlan
import Derived.BigQuiet
namespace Go.Proofs.Ytolpajkeiijbmaa.backoffShifts
open Go.RowKit Go.ChangeShapes Go.WideShapes Go.ChangeAt G

theorem own : ownKnob Try.prog.godebug = none := by kernel_rfl
theorem below_drewN (B : Nat) (w : World) (n : Nat) : Below B w (w.drewN n) := ⟨rfl, rfl, rfl, Nat.le_refl _, fun _ _ => rfl⟩
theorem tb_shift (b f c : Nat) (now later : Int) (n : Nat) : tb b f c (now + later) n = tb b f c now n + later := by
  induction n with
  | zero => rfl
  | succ n ih => simp only [tb, ih]; omega
theorem plan_twenty (b f c : Nat) (A : Nat) (hA : A < 200000) : planL b f c A 20 = tl b f c A 20 ∧ planE A 20 = 0 := by
  have h : planOk (A : Int) 20 := by omega
  exact ⟨if_pos h, if_pos h⟩
theorem modN (n : Int) : ∃ A : Nat, wrap64 ((IntKind.u64.wrap n).tmod 100000) = (A : Int) ∧ A < 100000 := by
  have h : 0 ≤ IntKind.u64.wrap n := by rw [IntKind.wrap_u64]; omega
  rw [Int.tmod_eq_emod_of_nonneg h]
  exact ⟨(IntKind.u64.wrap n % 100000).toNat, by unfold wrap64; omega, by omega⟩
set_option maxRecDepth 20000 in
set_option maxHeartbeats 3200000 in
theorem walk (b f c : Nat) (_hb : b < 18446744073709551616) (_hf : f < 18446744073709551616) (hc : c < 18446744073709551616) (now : Int) (_wn : (Lit.int .i64 now).wf = true) (n : Int) (_wf : (Lit.int .i64 n).wf = true) (W : World) :
    Calls Try.prog 7 #[setting b f c, .int .i64 now, .int .i64 n] W fun e w' => e = .returned (.bool true) ∧ Below W.heap.size W w' := by
  clear _wn _wf _hb _hf
  obtain ⟨A, eA, hA⟩ := modN now
  obtain ⟨B, eB, hB⟩ := modN n
  have k1 := plan_any b f c A 20 hc
  have k2 := plan_any b f c ((A : Int) + B) 20 hc
  rw [(plan_twenty b f c A (by omega)).1, (plan_twenty b f c A (by omega)).2] at k1
  rw [show (A : Int) + B = ((A + B : Nat) : Int) by omega, (plan_twenty b f c (A + B) (by omega)).1, (plan_twenty b f c (A + B) (by omega)).2, show ((A + B : Nat) : Int) = (A : Int) + B by omega] at k2
  have l1 := tl_length b f c A 20
  have l2 := tl_length b f c ((A : Int) + B) 20
  have g1 := tl_get b f c A 20
  have g2 := tl_get b f c ((A : Int) + B) 20
  have gb := tb_bounds b f c A
  generalize tl b f c A 20 = la at k1 l1 g1
  generalize tl b f c ((A : Int) + B) 20 = lb at k2 l2 g2
  go_enter Try.func7, Try.ntmps7
  go_wp2_with fail
  refine (known_any _).mono ?_
  rintro e w1 ⟨rfl, hS⟩
  have hS : Below (W.heap.size + 1) (W.alloc (setBox b f c)) w1 := hS.mono (by simp)
  have c0 := box_cell hS 0 rfl
  have c1 := box_cell hS 1 rfl
  have c2 := box_cell hS 2 rfl
  go_wp2_with fail
  refine (k1 _).mono ?_
  rintro e w2 ⟨v1, rfl, o1, b2⟩
  have hS := hS.trans (b2.mono (szS hS))
  have hS : Below (W.heap.size + 1) (W.alloc (setBox b f c)) w2 := hS
  clear c0 c1 c2 b2
  have c0 := box_cell hS 0 rfl
  have c1 := box_cell hS 1 rfl
  have c2 := box_cell hS 2 rfl
  obtain ⟨ao1, m1, cap1, rfl, hm1⟩ := o1.form'
  obtain rfl : m1 = 20 := hm1.out.trans l1
  have hw1 : IntKind.i64.wrap ((A : Int) + B) = A + B := by rw [IntKind.wrap_i64]; omega
  go_wp2_with fail
  refine (k2 _).mono ?_
  rintro e w3 ⟨v2, rfl, o2, b3⟩
  have o1 := ownsRow_below o1 b3
  have hS := hS.trans (b3.mono (szS hS))
  have hS : Below (W.heap.size + 1) (W.alloc (setBox b f c)) w3 := hS
  clear c0 c1 c2 b3 k1 k2 hw1
  obtain ⟨ao2, m2, cap2, rfl, hm2⟩ := o2.form'
  obtain rfl : m2 = 20 := hm2.out.trans l2
  go_wp2
  go_loopw [11] (fun iv wr => ∃ k q : Nat, k ≤ 20 ∧ iv = .int .i64 k ∧ wr = w3.drewN q) (fun iv _ => 20 - (intOf iv).toNat)
  case atStart => exact ⟨0, 0, Nat.zero_le _, rfl, rfl⟩
  case round =>
    obtain ⟨k, q, hk, rfl, rfl⟩ := hrel
    by_cases hlt : k < 20
    · have hx := g1 k hlt
      have hy := g2 k hlt
      have hq := gb (k + 1)
      rw [tb_shift] at hy
      generalize tb b f c A (k + 1) = x at hx hy hq
      have hw1 : IntKind.i64.wrap (x + B) = x + B := by rw [IntKind.wrap_i64]; omega
      obtain ⟨g1, rfl, -, c1⟩ := ownsRow_cell o1 hx
      obtain ⟨g2, rfl, -, c2⟩ := ownsRow_cell o2 hy
      clear hx hy hq
      go_wp2_with fail
      go_quiet (fail)
      go_wp2
      go_roundw
      case rel => exact ⟨k + 1, _, by omega, by go_num, rfl⟩
      case measure => simp [intOf]; omega
    · go_wp2
      go_ret
      exact ⟨rfl, (((Below.refl _ _).alloc (Nat.le_refl _) _).trans (hS.mono (Nat.le_succ _))).trans (below_drewN _ _ _)⟩

/-! ### the row -/
theorem laidOut : laidOutB Try.prog = true := by kernel_rfl
theorem bytesInt : Try.prog.bytesOf 3 = 8 := by kernel_rfl
set_option maxRecDepth 100000 in
theorem lifted (os : Os) (started : os.Started) (H : Type) (enc : TypeId × Value → H) :
    ReturnsInHanded {} Try.checked os 7 .any (Rows.backoffShiftsSpec.pre6 enc Try.prog Try.f7 Rows.backoffShiftsRow.domain false) (Rows.backoffShiftsSpec.post enc Try.prog Try.f7 false true false false) := by
  refine returnsInHanded_of_change_sized (C := Try.checked) own started (by kernel_rfl) Try.func7
    (ChangeSpec.witness6 (enc := enc) (C := Try.checked) false ⟨#[], #[.agg #[.float .f64 0, .float .f64 0, .float .f64 0], .int .i64 0, .int .i64 0], []⟩ 8 (by kernel_rfl) (by kernel_rfl) (by kernel_rfl) (by kernel_rfl)) ?_
  intro W base args ds gs before hval0 hW hcnd hsz0 _
  have hval : ∀ (j : Nat) t v, Try.f7.params[j]? = some t → args[j]? = some v → Value.okWide Try.prog W .any base t v := hval0
  have hW' := hW
  obtain ⟨p, q, hA0, hV, rfl, hfz, hnd⟩ := hW
  have hA : DataW.TrodAll enc Try.prog W 0 (fun _ => true) true Try.f7.params.toList args.toList ds p := hA0
  have hsz : (DataW.weightsEach Try.prog (Try.f7.params.toList ++ Rows.backoffShiftsSpec.plain.varTypes Try.prog) (ds ++ gs)).all (· ≤ reachBytes) = true := hsz0
  rw [Try.params7] at hA hval hsz
  obtain ⟨v0, vs0, d0, ds0, p0, q0, hargs, rfl, rfl, h0, r0⟩ := trodAll_cons hA
  obtain ⟨v1, vs1, d1, ds1, p1, q1, rfl, rfl, rfl, h1, r1⟩ := trodAll_cons r0
  obtain ⟨v2, vs2, d2, ds2, p2, q2, rfl, rfl, rfl, h2, r2⟩ := trodAll_cons r1
  obtain ⟨rfl, rfl, rfl⟩ := trodAll_nil r2
  obtain rfl : args = #[v0, v1, v2] := by cases args; simp_all
  obtain ⟨rfl, rfl⟩ := trodVars_none hV
  have k0 := h0
  have lt0 := args_lt k0
  obtain ⟨a0, b0, c0, rfl, x0, y0, z0⟩ := set_arg (hval 0 24 v0 rfl rfl) h0
  obtain ⟨a1, rfl, rfl, rfl, w1⟩ := open_int Try.underlying3 (hval 1 3 v1 rfl rfl) h1
  obtain ⟨a2, rfl, rfl, rfl, w2⟩ := open_int Try.underlying3 (hval 2 3 v2 rfl rfl) h2
  clear hA0 hval0 hsz0
  refine (walk a0 b0 c0 x0 y0 z0 a1 w1 a2 w2 W ).mono fun e W' ⟨he, bel⟩ => ?_
  subst he
  exact ⟨_, rfl, _, _, _, [], _, [], hW', trodAll_mk1 (shut_bool Try.underlying4 _), (trodAll_cons_mk (Below.trod laidOut (by kernel_rfl) (of_decide_eq_true (by kernel_rfl)) k0 bel lt0) (trodAll_cons_mk (shut_int Try.underlying3 w1) (trodAll_cons_mk (shut_int Try.underlying3 w2) trodAll_mk0))), rfl, bel.frame _, fun h => by cases h⟩

theorem over : Rows.backoffShiftsRow.holds Try.pinned (OpenSpec.ofChange Rows.backoffShiftsSpec) :=
  OpenClaim.holds_of_wide 7 Try.f7 rfl rfl rfl rfl rfl rfl rfl ⟨rfl, rfl, rfl, rfl, rfl⟩ rfl rfl rfl rfl rfl (by kernel_rfl) Try.func7 (by kernel_rfl)
    (of_decide_eq_true (by kernel_rfl)) (by unfold Func.isWrapper; first | (rw [if_pos (by decide +kernel)]; kernel_rfl) | (rw [if_neg (by decide +kernel)]; exact ⟨rfl, rfl⟩))
    (fun os started H enc _ => lifted os started H enc)
end Go.Proofs.Ytolpajkeiijbmaa.backoffShifts

namespace Go.Proofs.Ytolpajkeiijbmaa
/-- The law returns true at every input. -/
theorem backoffShifts_holds : Rows.BackoffShiftsSaid := backoffShifts.over
end Go.Proofs.Ytolpajkeiijbmaa

