/- The order of all is the same the other way round with all signs turned, but for NaN: the law cisternlaw04.GaugeMirrors returns true at every input. No condition. -/
import Derived.Test.YtpnihbicncioaaaGMath2
namespace Go.Proofs.Ytpnihbicncioaaa.gaugeMirrors
open Go.RowKit Go.ChangeShapes Go.WideShapes Go.ChangeAt G

theorem own : ownKnob Try.prog.godebug = none := by kernel_rfl
theorem neg_run (b : Nat) : Op.unary .neg (.float .f64 b) = pure (.float .f64 (negB b)) := by
  have : negB b = Op.negFloat .f64 b := by unfold negB Op.negFloat; rw [show (2 : Nat) ^ (FloatKind.f64.format.exponentBits + FloatKind.f64.format.fractionBits) = 9223372036854775808 by decide +kernel]
  rw [this]; rfl
theorem cmp_self (a : Nat) : cmpB a a = 0 := by simp [cmpB, cmpI]
theorem key_bounds (b : Nat) : -9223372036854775808 ≤ key b ∧ key b ≤ 9223372036854775807 := by
  cases hn : nan b
  · have := key_le hn; omega
  · rw [key_nan hn]; omega
theorem mirror_cmp {a b : Nat} (ha : a < 18446744073709551616) (hb : b < 18446744073709551616) (na : nan a = false) (nb : nan b = false) : (cmpB (negB a) (negB b) == cmpB b a) = true := by
  unfold cmpB; rw [neg_key ha na, neg_key hb nb]; unfold cmpI
  rw [beq_iff_eq]
  split <;> split <;> (try split) <;> (try split) <;> omega
theorem mirror_least {a b : Nat} (ha : a < 18446744073709551616) (hb : b < 18446744073709551616) (na : nan a = false) (nb : nan b = false) : sameB (negB (leastB (negB a) (negB b))) (mostB a b) = true := by
  have : negB (leastB (negB a) (negB b)) = mostB a b := by
    unfold leastB mostB; rw [neg_key ha na, neg_key hb nb]
    by_cases h : key a < key b
    · rw [if_pos (by omega), if_pos h, neg_neg]
    · rw [if_neg (by omega), if_neg h, neg_neg]
  rw [this]; exact same_refl _
set_option maxRecDepth 20000 in
set_option maxHeartbeats 800000 in
theorem walk (a : Nat) (wa : (Lit.float .f64 a).wf = true) (b : Nat) (wb : (Lit.float .f64 b).wf = true) (W : World) :
    Calls Try.prog 8 #[.float .f64 a, .float .f64 b] W fun e w' => e = .returned (.bool true) ∧ Below W.heap.size W w' := by
  have ha := float_lt wa
  have hb := float_lt wb
  have ca := cmp_self a
  have cb := cmp_self b
  clear wa wb
  cases na : nan a
  · cases nb : nan b
    · have hn := neg_run
      have hk := neg_key ha na
      have h1 : (key (negB a) == -key a - 1) = true := by rw [hk]; simp; omega
      have h2 := mirror_cmp ha hb na nb
      have h3 := mirror_least ha hb na nb
      have la := (neg_parts ha).2.2
      have lb := (neg_parts hb).2.2
      obtain ⟨k0, k1⟩ := key_le na
      clear hk ca cb
      go_enter Try.func8, Try.ntmps8
      go_wp2_with fail
      refine (known_any _).mono ?_
      rintro e _ ⟨rfl, rfl⟩
      go_wp2_with fail
      refine (rNaN_any _ _).mono ?_
      rintro e _ ⟨rfl, rfl⟩
      go_wp2_with fail
      refine (rNaN_any _ _).mono ?_
      rintro e _ ⟨rfl, rfl⟩
      go_wp2_with fail
      refine (key_any _ _ la).mono ?_
      rintro e _ ⟨rfl, rfl⟩
      go_wp2_with fail
      refine (key_any _ _ ha).mono ?_
      rintro e _ ⟨rfl, rfl⟩
      go_wp2_with fail
      refine (cmp_any _ _ _ la lb).mono ?_
      rintro e _ ⟨rfl, rfl⟩
      go_wp2_with fail
      refine (cmp_any _ _ _ hb ha).mono ?_
      rintro e _ ⟨rfl, rfl⟩
      go_wp2_with fail
      refine (least_any _ _ _ la lb).mono ?_
      rintro e _ ⟨rfl, rfl⟩
      go_wp2_with fail
      refine (most_any _ _ _ ha hb).mono ?_
      rintro e _ ⟨rfl, rfl⟩
      go_wp2_with fail
      refine (same_any _ _ _).mono ?_
      rintro e _ ⟨rfl, rfl⟩
      go_wp2
      go_ret
      exact ⟨rfl, Below.refl _ _⟩
    · go_enter Try.func8, Try.ntmps8
      go_wp2_with fail
      refine (known_any _).mono ?_
      rintro e _ ⟨rfl, rfl⟩
      go_wp2_with fail
      refine (rNaN_any _ _).mono ?_
      rintro e _ ⟨rfl, rfl⟩
      go_wp2_with fail
      refine (rNaN_any _ _).mono ?_
      rintro e _ ⟨rfl, rfl⟩
      go_wp2_with fail
      refine (cmp_any _ _ _ ha ha).mono ?_
      rintro e _ ⟨rfl, rfl⟩
      go_wp2_with fail
      refine (cmp_any _ _ _ hb hb).mono ?_
      rintro e _ ⟨rfl, rfl⟩
      go_wp2
      go_ret
      exact ⟨rfl, Below.refl _ _⟩
  · go_enter Try.func8, Try.ntmps8
    go_wp2_with fail
    refine (known_any _).mono ?_
    rintro e _ ⟨rfl, rfl⟩
    go_wp2_with fail
    refine (rNaN_any _ _).mono ?_
    rintro e _ ⟨rfl, rfl⟩
    go_wp2_with fail
    refine (cmp_any _ _ _ ha ha).mono ?_
    rintro e _ ⟨rfl, rfl⟩
    go_wp2_with fail
    refine (cmp_any _ _ _ hb hb).mono ?_
    rintro e _ ⟨rfl, rfl⟩
    go_wp2
    go_ret
    exact ⟨rfl, Below.refl _ _⟩

/-! ### the row -/
theorem laidOut : laidOutB Try.prog = true := by kernel_rfl
theorem bytesInt : Try.prog.bytesOf 3 = 8 := by kernel_rfl
set_option maxRecDepth 100000 in
theorem lifted (os : Os) (started : os.Started) (H : Type) (enc : TypeId × Value → H) :
    ReturnsInHanded {} Try.checked os 8 .any (Rows.gaugeMirrorsSpec.pre6 enc Try.prog Try.f8 Rows.gaugeMirrorsRow.domain false) (Rows.gaugeMirrorsSpec.post enc Try.prog Try.f8 false true false false) := by
  refine returnsInHanded_of_change_sized (C := Try.checked) own started (by kernel_rfl) Try.func8
    (ChangeSpec.witness6 (enc := enc) (C := Try.checked) false ⟨#[], #[.float .f64 0, .float .f64 0], []⟩ 8 (by kernel_rfl) (by kernel_rfl) (by kernel_rfl) (by kernel_rfl)) ?_
  intro W base args ds gs before hval0 hW hcnd hsz0 _
  have hval : ∀ (j : Nat) t v, Try.f8.params[j]? = some t → args[j]? = some v → Value.okWide Try.prog W .any base t v := hval0
  have hW' := hW
  obtain ⟨p, q, hA0, hV, rfl, hfz, hnd⟩ := hW
  have hA : DataW.TrodAll enc Try.prog W 0 (fun _ => true) true Try.f8.params.toList args.toList ds p := hA0
  have hsz : (DataW.weightsEach Try.prog (Try.f8.params.toList ++ Rows.gaugeMirrorsSpec.plain.varTypes Try.prog) (ds ++ gs)).all (· ≤ reachBytes) = true := hsz0
  rw [Try.params8] at hA hval hsz
  obtain ⟨v0, vs0, d0, ds0, p0, q0, hargs, rfl, rfl, h0, r0⟩ := trodAll_cons hA
  obtain ⟨v1, vs1, d1, ds1, p1, q1, rfl, rfl, rfl, h1, r1⟩ := trodAll_cons r0
  obtain ⟨rfl, rfl, rfl⟩ := trodAll_nil r1
  obtain rfl : args = #[v0, v1] := by cases args; simp_all
  obtain ⟨rfl, rfl⟩ := trodVars_none hV
  obtain ⟨a0, rfl, rfl, rfl, w0⟩ := open_float Try.underlying22 (hval 0 22 v0 rfl rfl) h0
  obtain ⟨a1, rfl, rfl, rfl, w1⟩ := open_float Try.underlying22 (hval 1 22 v1 rfl rfl) h1
  clear hA0 hval0 hsz0
  refine (walk a0 w0 a1 w1 W ).mono fun e W' ⟨he, bel⟩ => ?_
  subst he
  exact ⟨_, rfl, _, _, _, [], _, [], hW', trodAll_mk1 (shut_bool Try.underlying4 _), (trodAll_cons_mk (shut_float Try.underlying22 w0) (trodAll_cons_mk (shut_float Try.underlying22 w1) trodAll_mk0)), rfl, bel.frame _, fun h => by cases h⟩

theorem over : Rows.gaugeMirrorsRow.holds Try.pinned (OpenSpec.ofChange Rows.gaugeMirrorsSpec) :=
  OpenClaim.holds_of_wide 8 Try.f8 rfl rfl rfl rfl rfl rfl rfl ⟨rfl, rfl, rfl, rfl, rfl⟩ rfl rfl rfl rfl rfl (by kernel_rfl) Try.func8 (by kernel_rfl)
    (of_decide_eq_true (by kernel_rfl)) (by unfold Func.isWrapper; first | (rw [if_pos (by decide +kernel)]; kernel_rfl) | (rw [if_neg (by decide +kernel)]; exact ⟨rfl, rfl⟩))
    (fun os started H enc _ => lifted os started H enc)
end Go.Proofs.Ytpnihbicncioaaa.gaugeMirrors

namespace Go.Proofs.Ytpnihbicncioaaa
/-- The law returns true at every input. -/
theorem gaugeMirrors_holds : Rows.GaugeMirrorsSaid := gaugeMirrors.over
end Go.Proofs.Ytpnihbicncioaaa

