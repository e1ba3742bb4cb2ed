/- What stands ahead has no more ticks than what stands behind, NaN aside; a whole number up to the bound has as many ticks as it is: the law cisternlaw04.GaugeTicks returns true at every input. No condition. -/
import Derived.Test.YtpnihbicncioaaaGMath2
namespace Go.Proofs.Ytpnihbicncioaaa.gaugeTicks
open Go.RowKit Go.ChangeShapes Go.WideShapes Go.ChangeAt G Ieee

theorem own : ownKnob Try.prog.godebug = none := by kernel_rfl
theorem nearest_up (n : Nat) (h0 : n ≠ 0) (h1 : n < 4503599627370496) : D.nearest false n 0 = D.word false ((n.log2 + 1022) * 4503599627370496 + n * 2 ^ (52 - n.log2)) ∧ 4503599627370496 ≤ n * 2 ^ (52 - n.log2) ∧ n * 2 ^ (52 - n.log2) < 9007199254740992 ∧ n.log2 < 52 := by
  have hl : n.log2 < 52 := (Nat.log2_lt h0).2 (by rw [show (2 : Nat) ^ 52 = 4503599627370496 by decide +kernel]; exact h1)
  have hb := (Nat.log2_eq_iff h0).1 rfl
  have e1 : 2 ^ n.log2 * 2 ^ (52 - n.log2) = 4503599627370496 := by rw [← Nat.pow_add, show n.log2 + (52 - n.log2) = 52 by omega]
  have e2 : 2 ^ (n.log2 + 1) * 2 ^ (52 - n.log2) = 9007199254740992 := by rw [← Nat.pow_add, show n.log2 + 1 + (52 - n.log2) = 53 by omega]
  have g1 : 4503599627370496 ≤ n * 2 ^ (52 - n.log2) := by rw [← e1]; exact Nat.mul_le_mul_right _ hb.1
  have g2 : n * 2 ^ (52 - n.log2) < 9007199254740992 := by rw [← e2]; exact Nat.mul_lt_mul_of_pos_right hb.2 (Nat.two_pow_pos _)
  refine ⟨?_, g1, g2, hl⟩
  unfold Format.nearest
  rw [if_neg h0]
  dsimp only
  rw [least_eq, binade_eq, inf_eq, show D.fractionBits = 52 from rfl]
  have hlast : max (0 + (n.log2 : Int) - (52 : Nat)) (-1074) = (n.log2 : Int) - 52 := by omega
  rw [hlast, show (0 - ((n.log2 : Int) - 52)).toNat = 52 - n.log2 by omega, show ((n.log2 : Int) - 52 - 0).toNat = 0 by omega, show ((n.log2 : Int) - 52 - -1074).toNat = n.log2 + 1022 by omega]
  have hcut : Toward.even.cut false (n <<< (52 - n.log2)) 0 = n * 2 ^ (52 - n.log2) := by
    unfold Toward.cut
    simp only [Nat.zero_min, Nat.shiftLeft_eq, Nat.pow_zero, Nat.mul_one, Nat.div_one, Nat.mod_one, Nat.mul_zero]
    simp
  rw [hcut, Nat.min_eq_left (by omega)]
theorem mag_of {r q m : Nat} (h1 : 4503599627370496 ≤ m) (h2 : m < 9007199254740992) (hr : r = q * 4503599627370496 + m) : mag r = m * 2 ^ q := by
  unfold mag
  rw [if_neg (by omega), show r % 4503599627370496 = m - 4503599627370496 by omega, show r / 4503599627370496 - 1 = q by omega, show 4503599627370496 + (m - 4503599627370496) = m by omega]
theorem mul_back (n k K : Nat) (hK : 52 - k + (k + 1022) = K) : n * 2 ^ (52 - k) * 2 ^ (k + 1022) = n * 2 ^ K := by
  rw [Nat.mul_assoc, ← Nat.pow_add, hK]
def top (K : Nat) : Nat := 100000 * 2 ^ K
theorem mag_top : mag 4681608360884174848 = top 1074 := by decide +kernel
theorem top_le {n : Nat} (K : Nat) (h : n ≤ 100000) : n * 2 ^ K ≤ top K := Nat.mul_le_mul_right _ h
theorem le_top {r N K : Nat} (hK : mag 4681608360884174848 = top K) (hm : mag r = N * 2 ^ K) (h : N ≤ 100000) : r ≤ 4681608360884174848 := by
  refine Decidable.byContradiction fun hh => ?_
  have := mag_lt (show 4681608360884174848 < r by omega)
  rw [hK, hm] at this
  exact absurd this (Nat.not_lt.2 (top_le K h))
theorem div_top {x n K : Nat} (h : x = n * 2 ^ K) : x / 2 ^ K = n := by rw [h]; exact Nat.mul_div_cancel _ (Nat.two_pow_pos K)
def wholeK (K b : Nat) : Nat := mag (rung b) / 2 ^ K
theorem wholeK_eq {K b N : Nat} (h : mag (rung b) = N * 2 ^ K) : wholeK K b = N := div_top h
theorem whole_is (b : Nat) : whole b = wholeK 1074 b := rfl
theorem whole_eq {b N : Nat} (h : mag (rung b) = N * 2 ^ 1074) : whole b = N := (whole_is b).trans (wholeK_eq h)
theorem ticks_whole (n : Int) (h0 : 0 ≤ n) (h1 : n ≤ 100000) : ticks (floatOfInt .f64 n) = n := by
  obtain ⟨N, rfl⟩ := Int.eq_ofNat_of_zero_le h0
  have e : floatOfInt .f64 (N : Int) = D.nearest false N 0 := by
    show D.nearest (decide ((N : Int) < 0)) (N : Int).natAbs 0 = _
    rw [show decide ((N : Int) < 0) = false by simp, Int.natAbs_natCast]
  rw [e]
  by_cases hN : N = 0
  · subst hN; decide +kernel
  · obtain ⟨g, g1, g2, g3⟩ := nearest_up N hN (by omega)
    rw [g]
    have hr : (N.log2 + 1022) * 4503599627370496 + N * 2 ^ (52 - N.log2) < 9218868437227405312 := by omega
    have hm := mag_of g1 g2 rfl (r := (N.log2 + 1022) * 4503599627370496 + N * 2 ^ (52 - N.log2))
    rw [mul_back N N.log2 1074 (by omega)] at hm
    generalize (N.log2 + 1022) * 4503599627370496 + N * 2 ^ (52 - N.log2) = r at hr hm
    have r1 : rung (D.word false r) = r := rung_word _ (by omega)
    have r2 : sgn (D.word false r) = false := sgn_word _ (by omega)
    have r3 : nan (D.word false r) = false := nan_word _ (by omega)
    have r4 : sv (D.word false r) = r := by unfold sv; rw [r1, r2]; rfl
    have r5 : r ≤ 4681608360884174848 := le_top mag_top hm (by omega)
    unfold ticks
    rw [r3, r4, if_neg (by decide), if_neg (by omega), if_neg (by omega)]
    exact congrArg Int.ofNat (whole_eq (by rw [r1]; exact hm))
set_option maxRecDepth 20000 in
set_option maxHeartbeats 800000 in
theorem walk (a : Nat) (wa : (Lit.float .f64 a).wf = true) (b : Nat) (wb : (Lit.float .f64 b).wf = true) (n : Int) (wn : (Lit.int .i64 n).wf = true) (W : World) :
    Calls Try.prog 9 #[.float .f64 a, .float .f64 b, .int .i64 n] W fun e w' => e = .returned (.bool true) ∧ Below W.heap.size W w' := by
  have ha := float_lt wa
  have hb := float_lt wb
  obtain ⟨k0, k1⟩ := bounds_i64 wn
  clear wa wb wn
  go_enter Try.func9, Try.ntmps9
  go_wp2_with fail
  refine (known_any _).mono ?_
  rintro e _ ⟨rfl, rfl⟩
  go_wp2_with fail
  have hm : 0 ≤ wrap64 ((IntKind.u64.wrap n).tmod 100001) ∧ wrap64 ((IntKind.u64.wrap n).tmod 100001) ≤ 100000 := by
    have h : 0 ≤ IntKind.u64.wrap n := by rw [IntKind.wrap_u64]; omega
    rw [Int.tmod_eq_emod_of_nonneg h]; unfold wrap64; omega
  generalize wrap64 ((IntKind.u64.wrap n).tmod 100001) = N at hm ⊢
  have ht := ticks_whole N hm.1 hm.2
  refine (ticks_any _ _).mono ?_
  rintro e _ ⟨rfl, rfl⟩
  rw [ht]
  clear ht
  cases na : nan a
  · cases nb : nan b
    · by_cases hc : key a ≤ key b
      · have c1 : ¬ 0 < cmpB a b := by have := @cmpB_le a b; omega
        have c2 := ticks_mono na nb hc
        go_wp2_with fail
        refine (rNaN_any _ _).mono ?_
        rintro e _ ⟨rfl, rfl⟩
        go_wp2_with fail
        refine (rNaN_any _ _).mono ?_
        rintro e _ ⟨rfl, rfl⟩
        go_wp2_with fail
        refine (cmp_any _ _ _ ha hb).mono ?_
        rintro e _ ⟨rfl, rfl⟩
        go_wp2_with fail
        refine (ticks_any _ _).mono ?_
        rintro e _ ⟨rfl, rfl⟩
        go_wp2_with fail
        refine (ticks_any _ _).mono ?_
        rintro e _ ⟨rfl, rfl⟩
        go_wp2
        go_ret
        exact ⟨rfl, Below.refl _ _⟩
      · have c1 : 0 < cmpB a b := by have := @cmpB_le a b; omega
        go_wp2_with fail
        refine (rNaN_any _ _).mono ?_
        rintro e _ ⟨rfl, rfl⟩
        go_wp2_with fail
        refine (rNaN_any _ _).mono ?_
        rintro e _ ⟨rfl, rfl⟩
        go_wp2_with fail
        refine (cmp_any _ _ _ ha hb).mono ?_
        rintro e _ ⟨rfl, rfl⟩
        go_wp2
        go_ret
        exact ⟨rfl, Below.refl _ _⟩
    · skip
      go_wp2_with fail
      refine (rNaN_any _ _).mono ?_
      rintro e _ ⟨rfl, rfl⟩
      go_wp2_with fail
      refine (rNaN_any _ _).mono ?_
      rintro e _ ⟨rfl, rfl⟩
      go_wp2
      go_ret
      exact ⟨rfl, Below.refl _ _⟩
  · skip
    go_wp2_with fail
    refine (rNaN_any _ _).mono ?_
    rintro e _ ⟨rfl, rfl⟩
    go_wp2
    go_ret
    exact ⟨rfl, Below.refl _ _⟩

/-! ### the row -/
theorem laidOut : laidOutB Try.prog = true := by kernel_rfl
theorem bytesInt : Try.prog.bytesOf 3 = 8 := by kernel_rfl
set_option maxRecDepth 100000 in
theorem lifted (os : Os) (started : os.Started) (H : Type) (enc : TypeId × Value → H) :
    ReturnsInHanded {} Try.checked os 9 .any (Rows.gaugeTicksSpec.pre6 enc Try.prog Try.f9 Rows.gaugeTicksRow.domain false) (Rows.gaugeTicksSpec.post enc Try.prog Try.f9 false true false false) := by
  refine returnsInHanded_of_change_sized (C := Try.checked) own started (by kernel_rfl) Try.func9
    (ChangeSpec.witness6 (enc := enc) (C := Try.checked) false ⟨#[], #[.float .f64 0, .float .f64 0, .int .i64 0], []⟩ 8 (by kernel_rfl) (by kernel_rfl) (by kernel_rfl) (by kernel_rfl)) ?_
  intro W base args ds gs before hval0 hW hcnd hsz0 _
  have hval : ∀ (j : Nat) t v, Try.f9.params[j]? = some t → args[j]? = some v → Value.okWide Try.prog W .any base t v := hval0
  have hW' := hW
  obtain ⟨p, q, hA0, hV, rfl, hfz, hnd⟩ := hW
  have hA : DataW.TrodAll enc Try.prog W 0 (fun _ => true) true Try.f9.params.toList args.toList ds p := hA0
  have hsz : (DataW.weightsEach Try.prog (Try.f9.params.toList ++ Rows.gaugeTicksSpec.plain.varTypes Try.prog) (ds ++ gs)).all (· ≤ reachBytes) = true := hsz0
  rw [Try.params9] at hA hval hsz
  obtain ⟨v0, vs0, d0, ds0, p0, q0, hargs, rfl, rfl, h0, r0⟩ := trodAll_cons hA
  obtain ⟨v1, vs1, d1, ds1, p1, q1, rfl, rfl, rfl, h1, r1⟩ := trodAll_cons r0
  obtain ⟨v2, vs2, d2, ds2, p2, q2, rfl, rfl, rfl, h2, r2⟩ := trodAll_cons r1
  obtain ⟨rfl, rfl, rfl⟩ := trodAll_nil r2
  obtain rfl : args = #[v0, v1, v2] := by cases args; simp_all
  obtain ⟨rfl, rfl⟩ := trodVars_none hV
  obtain ⟨a0, rfl, rfl, rfl, w0⟩ := open_float Try.underlying22 (hval 0 22 v0 rfl rfl) h0
  obtain ⟨a1, rfl, rfl, rfl, w1⟩ := open_float Try.underlying22 (hval 1 22 v1 rfl rfl) h1
  obtain ⟨a2, rfl, rfl, rfl, w2⟩ := open_int Try.underlying3 (hval 2 3 v2 rfl rfl) h2
  clear hA0 hval0 hsz0
  refine (walk a0 w0 a1 w1 a2 w2 W ).mono fun e W' ⟨he, bel⟩ => ?_
  subst he
  exact ⟨_, rfl, _, _, _, [], _, [], hW', trodAll_mk1 (shut_bool Try.underlying4 _), (trodAll_cons_mk (shut_float Try.underlying22 w0) (trodAll_cons_mk (shut_float Try.underlying22 w1) (trodAll_cons_mk (shut_int Try.underlying3 w2) trodAll_mk0))), rfl, bel.frame _, fun h => by cases h⟩

theorem over : Rows.gaugeTicksRow.holds Try.pinned (OpenSpec.ofChange Rows.gaugeTicksSpec) :=
  OpenClaim.holds_of_wide 9 Try.f9 rfl rfl rfl rfl rfl rfl rfl ⟨rfl, rfl, rfl, rfl, rfl⟩ rfl rfl rfl rfl rfl (by kernel_rfl) Try.func9 (by kernel_rfl)
    (of_decide_eq_true (by kernel_rfl)) (by unfold Func.isWrapper; first | (rw [if_pos (by decide +kernel)]; kernel_rfl) | (rw [if_neg (by decide +kernel)]; exact ⟨rfl, rfl⟩))
    (fun os started H enc _ => lifted os started H enc)
end Go.Proofs.Ytpnihbicncioaaa.gaugeTicks

namespace Go.Proofs.Ytpnihbicncioaaa
/-- The law returns true at every input. -/
theorem gaugeTicks_holds : Rows.GaugeTicksSaid := gaugeTicks.over
end Go.Proofs.Ytpnihbicncioaaa

