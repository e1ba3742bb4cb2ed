/- What is clamped lies between, and twice is as once; ticks rise with the number, and are within their bounds; a power by 0 is one, by 1 the number: the law cisternlaw04.GaugeKeeps returns true at every input. No condition. -/
import Derived.Test.YtpnihbicncioaaaGMath2
namespace Go.Proofs.Ytpnihbicncioaaa.gaugeKeeps
open Go.RowKit Go.ChangeShapes Go.WideShapes Go.ChangeAt G

theorem own : ownKnob Try.prog.godebug = none := by kernel_rfl
theorem below_step {w w1 w2 : World} (b : Below w.heap.size w w1) (hs : w.heap.size ≤ w1.heap.size) (b2 : Below w1.heap.size w1 w2) : Below w.heap.size w w2 := b.trans (b2.mono hs)
theorem key_clamp {x lo hi : Nat} (h : ¬ key hi < key lo) : key (clampB x lo hi) = min (max (key x) (key lo)) (key hi) := by
  unfold clampB; rw [if_neg h, key_least, key_most]
theorem clamp_twice {x lo hi : Nat} (hx : x < 18446744073709551616) (hl : lo < 18446744073709551616) (hh : hi < 18446744073709551616) (h : ¬ key hi < key lo) : sameB (clampB x lo hi) (clampB (clampB x lo hi) lo hi) = true := by
  refine same_key (clampB_lt hx hl hh) (clampB_lt (clampB_lt hx hl hh) hl hh) ?_
  rw [key_clamp h, key_clamp h, key_clamp h]; omega
theorem clamp_lo {x lo hi : Nat} (h : ¬ key hi < key lo) : ¬ cmpB (clampB x lo hi) lo < 0 := by
  intro h2; have := cmpI_lt.1 h2; rw [key_clamp h] at this; omega
theorem clamp_hi {x lo hi : Nat} (h : ¬ key hi < key lo) : ¬ 0 < cmpB (clampB x lo hi) hi := by
  intro h2; have := cmpI_gt.1 h2; rw [key_clamp h] at this; omega
theorem least_most (a b : Nat) : cmpB (leastB a b) (mostB a b) ≤ 0 := by rw [cmpB_le, key_least, key_most]; omega
theorem pow0 {r x : Nat} (h : val r = powV (times 0) (val x)) : sameB r 4607182418800017408 = true := same_val (by rw [h, val_one]; rfl)
theorem pow1 {r x : Nat} (hx : x < 18446744073709551616) (h : val r = powV (times 1) (val x)) : sameB r x = true := same_val (by rw [h, show times 1 = 1 by decide]; show fo .mul (some 4607182418800017408) (val x) = val x; exact fo_one x hx)
theorem eq_self (a : Nat) : (FloatKind.f64.format.order a a == some .eq) = !nan a := order_self a
set_option maxRecDepth 20000 in
set_option maxHeartbeats 1600000 in
theorem walk (x : Nat) (wx : (Lit.float .f64 x).wf = true) (lo : Nat) (wl : (Lit.float .f64 lo).wf = true) (hi : Nat) (wh : (Lit.float .f64 hi).wf = true) (W : World) :
    Calls Try.prog 7 #[.float .f64 x, .float .f64 lo, .float .f64 hi] W fun e w' => e = .returned (.bool true) ∧ Below W.heap.size W w' := by
  have hx := float_lt wx
  have hl := float_lt wl
  have hh := float_lt wh
  clear wx wl wh
  by_cases h : key hi < key lo
  · have h1 : 0 < cmpB lo hi := cmpI_gt.2 h
    have h2 : clampE lo hi = 1 := by simp [clampE, h]
    have h3 : clampB x lo hi = 0 := by simp [clampB, h]
    have h4 := same_refl 0
    clear h
    go_enter Try.func7, Try.ntmps7
    go_wp2_with fail
    refine (known_any _).mono ?_
    rintro e _ ⟨rfl, rfl⟩
    go_wp2_with fail
    refine (clamp_any _ _ _ _ hx hl hh).mono ?_
    rintro e _ ⟨rfl, rfl⟩
    go_wp2_with fail
    refine (cmp_any _ _ _ hl hh).mono ?_
    rintro e _ ⟨rfl, rfl⟩
    go_wp2_with fail
    refine (same_any _ _ _).mono ?_
    rintro e _ ⟨rfl, rfl⟩
    go_wp2
    go_ret
    exact ⟨rfl, Below.refl _ _⟩
  · have h1 : ¬ 0 < cmpB lo hi := fun z => h (cmpI_gt.1 z)
    have h2 : clampE lo hi = 0 := by simp [clampE, h]
    have h3 := clamp_twice hx hl hh h
    have h4 := clamp_lo (x := x) h
    have h5 := clamp_hi (x := x) h
    have hc := clampB_lt hx hl hh
    have hw := least_most x lo
    have lm := leastB_lt hx hl
    have mm := mostB_lt hx hl
    have tl := ticks_bounds lo
    have th := ticks_bounds hi
    obtain ⟨t1, t2⟩ := tl
    obtain ⟨t3, t4⟩ := th
    have he := eq_self hi
    have hcase : (ticks lo ≤ ticks hi) ∨ (ticks hi < ticks lo ∧ nan hi = true) := by
      by_cases hn : nan hi = true
      · by_cases ht : ticks lo ≤ ticks hi
        · exact .inl ht
        · exact .inr ⟨by omega, hn⟩
      · have hn' : nan hi = false := by simpa using hn
        have ln : nan lo = false := by
          cases hq : nan lo
          · rfl
          · have := key_nan hq; have := key_le hn'; omega
        exact .inl (ticks_mono ln hn' (by omega))
    clear h
    rcases hcase with ht | ⟨ht, hn⟩
    · clear he
      go_enter Try.func7, Try.ntmps7
      go_wp2_with fail
      refine (known_any _).mono ?_
      rintro e _ ⟨rfl, rfl⟩
      go_wp2_with fail
      refine (clamp_any _ _ _ _ hx hl hh).mono ?_
      rintro e _ ⟨rfl, rfl⟩
      go_wp2_with fail
      refine (cmp_any _ _ _ hl hh).mono ?_
      rintro e _ ⟨rfl, rfl⟩
      go_wp2_with fail
      refine (clamp_any _ _ _ _ hc hl hh).mono ?_
      rintro e _ ⟨rfl, rfl⟩
      go_wp2_with fail
      refine (same_any _ _ _).mono ?_
      rintro e _ ⟨rfl, rfl⟩
      go_wp2_with fail
      refine (cmp_any _ _ _ hc hl).mono ?_
      rintro e _ ⟨rfl, rfl⟩
      go_wp2_with fail
      refine (cmp_any _ _ _ hc hh).mono ?_
      rintro e _ ⟨rfl, rfl⟩
      go_wp2_with fail
      refine (ticks_any _ _).mono ?_
      rintro e _ ⟨rfl, rfl⟩
      go_wp2_with fail
      refine (ticks_any _ _).mono ?_
      rintro e _ ⟨rfl, rfl⟩
      go_wp2_with fail
      refine (least_any _ _ _ hx hl).mono ?_
      rintro e _ ⟨rfl, rfl⟩
      go_wp2_with fail
      refine (most_any _ _ _ hx hl).mono ?_
      rintro e _ ⟨rfl, rfl⟩
      go_wp2_with fail
      refine (cmp_any _ _ _ lm mm).mono ?_
      rintro e _ ⟨rfl, rfl⟩
      go_wp2_with fail
      refine (power_any _ _ _).mono ?_
      rintro e w1 ⟨p, rfl, lp, vp, b1, s1⟩
      have h6 := pow0 vp
      replace s1 := Nat.le_of_eq s1.symm
      clear vp
      go_wp2_with fail
      refine (same_any _ _ _).mono ?_
      rintro e _ ⟨rfl, rfl⟩
      go_wp2_with fail
      refine (power_any _ _ _).mono ?_
      rintro e w2 ⟨q, rfl, lq, vq, b2, s2⟩
      have h7 := pow1 hx vq
      have b3 := below_step b1 s1 b2
      clear vq b1 b2 s1 s2
      go_wp2_with fail
      refine (same_any _ _ _).mono ?_
      rintro e _ ⟨rfl, rfl⟩
      go_wp2
      go_ret
      exact ⟨rfl, b3⟩
    · rw [hn] at he
      go_enter Try.func7, Try.ntmps7
      go_wp2_with fail
      refine (known_any _).mono ?_
      rintro e _ ⟨rfl, rfl⟩
      go_wp2_with fail
      refine (clamp_any _ _ _ _ hx hl hh).mono ?_
      rintro e _ ⟨rfl, rfl⟩
      go_wp2_with fail
      refine (cmp_any _ _ _ hl hh).mono ?_
      rintro e _ ⟨rfl, rfl⟩
      go_wp2_with fail
      refine (clamp_any _ _ _ _ hc hl hh).mono ?_
      rintro e _ ⟨rfl, rfl⟩
      go_wp2_with fail
      refine (same_any _ _ _).mono ?_
      rintro e _ ⟨rfl, rfl⟩
      go_wp2_with fail
      refine (cmp_any _ _ _ hc hl).mono ?_
      rintro e _ ⟨rfl, rfl⟩
      go_wp2_with fail
      refine (cmp_any _ _ _ hc hh).mono ?_
      rintro e _ ⟨rfl, rfl⟩
      go_wp2_with fail
      refine (ticks_any _ _).mono ?_
      rintro e _ ⟨rfl, rfl⟩
      go_wp2_with fail
      refine (ticks_any _ _).mono ?_
      rintro e _ ⟨rfl, rfl⟩
      go_wp2_with fail
      refine (least_any _ _ _ hx hl).mono ?_
      rintro e _ ⟨rfl, rfl⟩
      go_wp2_with fail
      refine (most_any _ _ _ hx hl).mono ?_
      rintro e _ ⟨rfl, rfl⟩
      go_wp2_with fail
      refine (cmp_any _ _ _ lm mm).mono ?_
      rintro e _ ⟨rfl, rfl⟩
      go_wp2_with fail
      refine (power_any _ _ _).mono ?_
      rintro e w1 ⟨p, rfl, lp, vp, b1, s1⟩
      have h6 := pow0 vp
      replace s1 := Nat.le_of_eq s1.symm
      clear vp
      go_wp2_with fail
      refine (same_any _ _ _).mono ?_
      rintro e _ ⟨rfl, rfl⟩
      go_wp2_with fail
      refine (power_any _ _ _).mono ?_
      rintro e w2 ⟨q, rfl, lq, vq, b2, s2⟩
      have h7 := pow1 hx vq
      have b3 := below_step b1 s1 b2
      clear vq b1 b2 s1 s2
      go_wp2_with fail
      refine (same_any _ _ _).mono ?_
      rintro e _ ⟨rfl, rfl⟩
      go_wp2
      go_ret
      exact ⟨rfl, b3⟩

/-! ### the row -/
theorem laidOut : laidOutB Try.prog = true := by kernel_rfl
theorem bytesInt : Try.prog.bytesOf 3 = 8 := by kernel_rfl
set_option maxRecDepth 100000 in
theorem lifted (os : Os) (started : os.Started) (H : Type) (enc : TypeId × Value → H) :
    ReturnsInHanded {} Try.checked os 7 .any (Rows.gaugeKeepsSpec.pre6 enc Try.prog Try.f7 Rows.gaugeKeepsRow.domain false) (Rows.gaugeKeepsSpec.post enc Try.prog Try.f7 false true false false) := by
  refine returnsInHanded_of_change_sized (C := Try.checked) own started (by kernel_rfl) Try.func7
    (ChangeSpec.witness6 (enc := enc) (C := Try.checked) false ⟨#[], #[.float .f64 0, .float .f64 0, .float .f64 0], []⟩ 8 (by kernel_rfl) (by kernel_rfl) (by kernel_rfl) (by kernel_rfl)) ?_
  intro W base args ds gs before hval0 hW hcnd hsz0 _
  have hval : ∀ (j : Nat) t v, Try.f7.params[j]? = some t → args[j]? = some v → Value.okWide Try.prog W .any base t v := hval0
  have hW' := hW
  obtain ⟨p, q, hA0, hV, rfl, hfz, hnd⟩ := hW
  have hA : DataW.TrodAll enc Try.prog W 0 (fun _ => true) true Try.f7.params.toList args.toList ds p := hA0
  have hsz : (DataW.weightsEach Try.prog (Try.f7.params.toList ++ Rows.gaugeKeepsSpec.plain.varTypes Try.prog) (ds ++ gs)).all (· ≤ reachBytes) = true := hsz0
  rw [Try.params7] at hA hval hsz
  obtain ⟨v0, vs0, d0, ds0, p0, q0, hargs, rfl, rfl, h0, r0⟩ := trodAll_cons hA
  obtain ⟨v1, vs1, d1, ds1, p1, q1, rfl, rfl, rfl, h1, r1⟩ := trodAll_cons r0
  obtain ⟨v2, vs2, d2, ds2, p2, q2, rfl, rfl, rfl, h2, r2⟩ := trodAll_cons r1
  obtain ⟨rfl, rfl, rfl⟩ := trodAll_nil r2
  obtain rfl : args = #[v0, v1, v2] := by cases args; simp_all
  obtain ⟨rfl, rfl⟩ := trodVars_none hV
  obtain ⟨a0, rfl, rfl, rfl, w0⟩ := open_float Try.underlying22 (hval 0 22 v0 rfl rfl) h0
  obtain ⟨a1, rfl, rfl, rfl, w1⟩ := open_float Try.underlying22 (hval 1 22 v1 rfl rfl) h1
  obtain ⟨a2, rfl, rfl, rfl, w2⟩ := open_float Try.underlying22 (hval 2 22 v2 rfl rfl) h2
  clear hA0 hval0 hsz0
  refine (walk a0 w0 a1 w1 a2 w2 W ).mono fun e W' ⟨he, bel⟩ => ?_
  subst he
  exact ⟨_, rfl, _, _, _, [], _, [], hW', trodAll_mk1 (shut_bool Try.underlying4 _), (trodAll_cons_mk (shut_float Try.underlying22 w0) (trodAll_cons_mk (shut_float Try.underlying22 w1) (trodAll_cons_mk (shut_float Try.underlying22 w2) trodAll_mk0))), rfl, bel.frame _, fun h => by cases h⟩

theorem over : Rows.gaugeKeepsRow.holds Try.pinned (OpenSpec.ofChange Rows.gaugeKeepsSpec) :=
  OpenClaim.holds_of_wide 7 Try.f7 rfl rfl rfl rfl rfl rfl rfl ⟨rfl, rfl, rfl, rfl, rfl⟩ rfl rfl rfl rfl rfl (by kernel_rfl) Try.func7 (by kernel_rfl)
    (of_decide_eq_true (by kernel_rfl)) (by unfold Func.isWrapper; first | (rw [if_pos (by decide +kernel)]; kernel_rfl) | (rw [if_neg (by decide +kernel)]; exact ⟨rfl, rfl⟩))
    (fun os started H enc _ => lifted os started H enc)
end Go.Proofs.Ytpnihbicncioaaa.gaugeKeeps

namespace Go.Proofs.Ytpnihbicncioaaa
/-- The law returns true at every input. -/
theorem gaugeKeeps_holds : Rows.GaugeKeepsSaid := gaugeKeeps.over
end Go.Proofs.Ytpnihbicncioaaa

