/- A mix with the weight 1 towards the same number is that number, if it is one; with the weight 0 the old one, where the way between is a number: the law cisternlaw04.GaugeMixes returns true at every input. No condition. -/
import Derived.Test.YtpnihbicncioaaaGMath2
namespace Go.Proofs.Ytpnihbicncioaaa.gaugeMixes
open Go.RowKit Go.ChangeShapes Go.WideShapes Go.ChangeAt G

theorem own : ownKnob Try.prog.godebug = none := by kernel_rfl
theorem below_step {w w1 w2 : World} (b : Below w.heap.size w w1) (hs : w.heap.size ≤ w1.heap.size) (b2 : Below w1.heap.size w1 w2) : Below w.heap.size w w2 := b.trans (b2.mono hs)
theorem val_some {r x : Nat} (h : val r = some x) : r = x ∧ nan r = false := by
  unfold val at h; cases hn : nan r <;> simp [hn] at h
  exact ⟨h, rfl⟩
theorem val_none {r : Nat} (h : val r = none) : nan r = true := by
  unfold val at h; cases hn : nan r <;> simp [hn] at h; rfl
theorem val_num {r : Nat} (h : nan r = false) : val r = some r := by simp [val, h]
/-- towards itself by one -/
theorem mix_same {b : Nat} (hb : b < 18446744073709551616) (hn : nan b = false) (hr : rung b < 9218868437227405312) {r : Nat} (h : val r = mixV (val b) (val b) (val 4607182418800017408)) : nan r = false ∧ sv r = sv b := by
  unfold mixV at h
  rw [← fo_val .sub, sub_self hn hr, val_one, show fo .mul (some 4607182418800017408) (some 0) = some 0 by decide +kernel, val_num hn] at h
  obtain ⟨q, h1, h2⟩ := add_nought hb hn hr 0 (by decide +kernel)
  rw [show fo .add (some b) (some 0) = floatBits .add .f64 b 0 from rfl, h1] at h
  obtain ⟨rfl, h3⟩ := val_some h
  exact ⟨h3, h2⟩
/-- by nought -/
theorem mix_zero {b c d : Nat} (hb : b < 18446744073709551616) (hn : nan b = false) (hr : rung b < 9218868437227405312) (hd : fo .sub (val c) (val b) = some d) (dn : nan d = false) (dr : rung d < 9218868437227405312) {r : Nat} (h : val r = mixV (val b) (val c) (val 0)) : nan r = false ∧ sv r = sv b := by
  unfold mixV at h
  obtain ⟨z, z1, z2⟩ := zero_mul dn dr
  rw [hd, show val 0 = some 0 by decide +kernel, show fo .mul (some 0) (some d) = floatBits .mul .f64 0 d from rfl, z1, val_num hn] at h
  obtain ⟨q, h1, h2⟩ := add_nought hb hn hr z z2
  rw [show fo .add (some b) (some z) = floatBits .add .f64 b z from rfl, h1] at h
  obtain ⟨rfl, h3⟩ := val_some h
  exact ⟨h3, h2⟩
theorem nought_eq : (FloatKind.f64.format.order 0 0 != some .eq) = false := by decide +kernel
set_option maxRecDepth 20000 in
set_option maxHeartbeats 1600000 in
theorem walk (old : Nat) (wo : (Lit.float .f64 old).wf = true) (now : Nat) (_ : (Lit.float .f64 now).wf = true) (W : World) :
    Calls Try.prog 11 #[.float .f64 old, .float .f64 now] W fun e w' => e = .returned (.bool true) ∧ Below W.heap.size W w' := by
  have ho := float_lt wo
  clear wo
  obtain ⟨d, w1, e1, l1, v1, b1, s1⟩ := run_step .sub now old W
  have V1 := Lib.hid v1; clear v1
  replace s1 := Nat.le_of_eq s1.symm
  cases nd : nan d
  · obtain ⟨r, w2, e2, l2, v2, b2, s2⟩ := run_step .sub d d w1
    have b3 := below_step b1 s1 b2; clear b1 b2
    replace s2 := Nat.le_trans s1 (Nat.le_of_eq s2.symm); clear s1
    by_cases dr : rung d < 9218868437227405312
    · have hd : floatBits .sub .f64 now old = some d := by rw [fo_val .sub, ← V1.out, val_num nd]
      obtain ⟨_, on, oo⟩ := sub_finite hd dr
      have hr : r = 0 := by
        rw [← fo_val .sub, sub_self nd dr] at v2
        exact (val_some v2).1
      subst hr
      have HD := Lib.hid hd
      clear v2 hd
      have hq := nought_eq
      go_enter Try.func11, Try.ntmps11
      go_wp2_with fail
      refine (known_any _).mono ?_
      rintro e _ ⟨rfl, rfl⟩
      go_wp2_with fail
      refine (rNaN_any _ _).mono ?_
      rintro e _ ⟨rfl, rfl⟩
      go_wp2_with fail
      clear e1 e2
      refine (mix_any _ _ _ _).mono ?_
      rintro e w3 ⟨x, rfl, lx, vx, b4, s3⟩
      obtain ⟨xn, xs⟩ := mix_same ho on oo vx
      have b5 := below_step b3 s2 b4; clear b3 b4 vx
      replace s3 := Nat.le_trans s2 (Nat.le_of_eq s3.symm); clear s2
      have hx : (FloatKind.f64.format.order x old == some .eq) = true := by
        rw [show FloatKind.f64.format = D from rfl, order_eq xn on]; simpa using xs
      clear xn xs
      go_wp2_with fail
      refine (mix_any _ _ _ _).mono ?_
      rintro e w4 ⟨y, rfl, ly, vy, b6, s4⟩
      obtain ⟨yn, ys⟩ := mix_zero ho on oo (d := d) (by rw [← V1.out, val_num nd]) nd dr vy
      have b7 := below_step b5 s3 b6; clear b5 b6 vy s3 s4
      have hy : (FloatKind.f64.format.order y old == some .eq) = true := by
        rw [show FloatKind.f64.format = D from rfl, order_eq yn on]; simpa using ys
      clear yn ys
      go_wp2
      go_ret
      exact ⟨rfl, b7⟩
    · have rn : nan r = true := by
        rw [← fo_val .sub, sub_inf nd dr] at v2
        exact val_none v2
      have hq : (FloatKind.f64.format.order r 0 != some .eq) = true := by
        rw [show FloatKind.f64.format = D from rfl, order_nan_left rn]; rfl
      clear v2 rn
      go_enter Try.func11, Try.ntmps11
      go_wp2_with fail
      refine (known_any _).mono ?_
      rintro e _ ⟨rfl, rfl⟩
      go_wp2_with fail
      refine (rNaN_any _ _).mono ?_
      rintro e _ ⟨rfl, rfl⟩
      go_wp2
      go_ret
      exact ⟨rfl, b3⟩
  · go_enter Try.func11, Try.ntmps11
    go_wp2_with fail
    refine (known_any _).mono ?_
    rintro e _ ⟨rfl, rfl⟩
    go_wp2_with fail
    refine (rNaN_any _ _).mono ?_
    rintro e _ ⟨rfl, rfl⟩
    go_wp2
    go_ret
    exact ⟨rfl, b1⟩

/-! ### the row -/
theorem laidOut : laidOutB Try.prog = true := by kernel_rfl
theorem bytesInt : Try.prog.bytesOf 3 = 8 := by kernel_rfl
set_option maxRecDepth 100000 in
theorem lifted (os : Os) (started : os.Started) (H : Type) (enc : TypeId × Value → H) :
    ReturnsInHanded {} Try.checked os 11 .any (Rows.gaugeMixesSpec.pre6 enc Try.prog Try.f11 Rows.gaugeMixesRow.domain false) (Rows.gaugeMixesSpec.post enc Try.prog Try.f11 false true false false) := by
  refine returnsInHanded_of_change_sized (C := Try.checked) own started (by kernel_rfl) Try.func11
    (ChangeSpec.witness6 (enc := enc) (C := Try.checked) false ⟨#[], #[.float .f64 0, .float .f64 0], []⟩ 8 (by kernel_rfl) (by kernel_rfl) (by kernel_rfl) (by kernel_rfl)) ?_
  intro W base args ds gs before hval0 hW hcnd hsz0 _
  have hval : ∀ (j : Nat) t v, Try.f11.params[j]? = some t → args[j]? = some v → Value.okWide Try.prog W .any base t v := hval0
  have hW' := hW
  obtain ⟨p, q, hA0, hV, rfl, hfz, hnd⟩ := hW
  have hA : DataW.TrodAll enc Try.prog W 0 (fun _ => true) true Try.f11.params.toList args.toList ds p := hA0
  have hsz : (DataW.weightsEach Try.prog (Try.f11.params.toList ++ Rows.gaugeMixesSpec.plain.varTypes Try.prog) (ds ++ gs)).all (· ≤ reachBytes) = true := hsz0
  rw [Try.params11] at hA hval hsz
  obtain ⟨v0, vs0, d0, ds0, p0, q0, hargs, rfl, rfl, h0, r0⟩ := trodAll_cons hA
  obtain ⟨v1, vs1, d1, ds1, p1, q1, rfl, rfl, rfl, h1, r1⟩ := trodAll_cons r0
  obtain ⟨rfl, rfl, rfl⟩ := trodAll_nil r1
  obtain rfl : args = #[v0, v1] := by cases args; simp_all
  obtain ⟨rfl, rfl⟩ := trodVars_none hV
  obtain ⟨a0, rfl, rfl, rfl, w0⟩ := open_float Try.underlying22 (hval 0 22 v0 rfl rfl) h0
  obtain ⟨a1, rfl, rfl, rfl, w1⟩ := open_float Try.underlying22 (hval 1 22 v1 rfl rfl) h1
  clear hA0 hval0 hsz0
  refine (walk a0 w0 a1 w1 W ).mono fun e W' ⟨he, bel⟩ => ?_
  subst he
  exact ⟨_, rfl, _, _, _, [], _, [], hW', trodAll_mk1 (shut_bool Try.underlying4 _), (trodAll_cons_mk (shut_float Try.underlying22 w0) (trodAll_cons_mk (shut_float Try.underlying22 w1) trodAll_mk0)), rfl, bel.frame _, fun h => by cases h⟩

theorem over : Rows.gaugeMixesRow.holds Try.pinned (OpenSpec.ofChange Rows.gaugeMixesSpec) :=
  OpenClaim.holds_of_wide 11 Try.f11 rfl rfl rfl rfl rfl rfl rfl ⟨rfl, rfl, rfl, rfl, rfl⟩ rfl rfl rfl rfl rfl (by kernel_rfl) Try.func11 (by kernel_rfl)
    (of_decide_eq_true (by kernel_rfl)) (by unfold Func.isWrapper; first | (rw [if_pos (by decide +kernel)]; kernel_rfl) | (rw [if_neg (by decide +kernel)]; exact ⟨rfl, rfl⟩))
    (fun os started H enc _ => lifted os started H enc)
end Go.Proofs.Ytpnihbicncioaaa.gaugeMixes

namespace Go.Proofs.Ytpnihbicncioaaa
/-- The law returns true at every input. -/
theorem gaugeMixes_holds : Rows.GaugeMixesSaid := gaugeMixes.over
end Go.Proofs.Ytpnihbicncioaaa

