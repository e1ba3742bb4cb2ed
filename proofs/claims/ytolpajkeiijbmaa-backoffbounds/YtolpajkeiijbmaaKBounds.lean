/- No delay is below 0 or above MaxTicks, nor above the cap; delays don't shrink; the tries of a plan stand in their order, as far apart as the delays: the law cisternlaw06.BackoffBounds returns true at every input. No condition. -/
import Derived.Test.YtolpajkeiijbmaaKPlan
import Derived.Test.YtolpajkeiijbmaaKMono
import Derived.BigQuiet
import Derived.Deep.CutRange
namespace Go.Proofs.Ytolpajkeiijbmaa.backoffBounds
open Go.RowKit Go.ChangeShapes Go.WideShapes Go.ChangeAt G Ieee

theorem own : ownKnob Try.prog.godebug = none := by kernel_rfl
theorem below_drewN (B : Nat) (w : World) (n : Nat) : Below B w (w.drewN n) := ⟨rfl, rfl, rfl, Nat.le_refl _, fun _ _ => rfl⟩
theorem order_none {a b : Nat} (h : nan a = true ∨ nan b = true) : D.order a b = none := by
  rcases h with h | h
  · exact order_nan_left h
  · exact order_nan_right h
theorem ord_ge (a b : Nat) : (FloatKind.f64.format.order a b == some .gt || FloatKind.f64.format.order a b == some .eq) = geB a b := by
  have h : (D.order a b == some .gt || D.order a b == some .eq) = geB a b := by
    unfold geB
    cases ha : nan a
    · cases hb : nan b
      · rw [order_gt ha hb, order_eq ha hb, Bool.eq_iff_iff]; simp; omega
      · rw [order_none (.inr hb)]; simp
    · rw [order_none (.inl ha)]; simp
  exact h
theorem ord_le (a b : Nat) : (FloatKind.f64.format.order a b == some .lt || FloatKind.f64.format.order a b == some .eq) = geB b a := by
  have h : (D.order a b == some .lt || D.order a b == some .eq) = geB b a := by
    unfold geB
    cases ha : nan a
    · cases hb : nan b
      · rw [order_lt ha hb, order_eq ha hb, Bool.eq_iff_iff]; simp; omega
      · rw [order_none (.inr hb)]; simp
    · rw [order_none (.inl ha)]; simp
  exact h
theorem ord_gt (a b : Nat) : (FloatKind.f64.format.order a b == some .gt) = gtB a b := by
  have h : (D.order a b == some .gt) = gtB a b := by
    unfold gtB
    cases ha : nan a
    · cases hb : nan b
      · rw [order_gt ha hb]; simp
      · rw [order_none (.inr hb)]; simp
    · rw [order_none (.inl ha)]; simp
  exact h
theorem run_conv (n : Int) (w : World) : (convert 3 22 (.int .i64 n)).run Try.prog w = .ok (.float .f64 (floatOfInt .f64 n)) w := by
  simp only [convert, run_underlying Try.underlying3, run_underlying Try.underlying22, Sem.run_bind, Result.andThen_ok]
  rfl
theorem sv_one : sv 4607182418800017408 = 4607182418800017408 := by decide +kernel
theorem cap_no {b f c : Nat} (n : Int) (h0 : geB c 0 = true) (h1 : geB 4681608360884174848 c = true) : gtB (floatOfInt .f64 (dly b f c n)) c = false := by
  unfold geB at h0 h1
  simp only [Bool.and_eq_true, Bool.not_eq_true', decide_eq_true_eq] at h0 h1
  rw [sv0] at h0
  rw [sv_top] at h1
  have := (dly_cap (b := b) (f := f) n h0.1.1 h0.2 h1.2).1
  unfold gtB
  rw [show decide (sv c < sv (floatOfInt .f64 (dly b f c n))) = false by simp; omega]
  simp
theorem mono_yes {b f c : Nat} (hb : b < 18446744073709551616) (hf : f < 18446744073709551616) (h0 : geB b 0 = true) (h1 : geB f 4607182418800017408 = true) (k : Nat) : dly b f c ((k : Int) - 1) ≤ dly b f c k := by
  unfold geB at h0 h1
  simp only [Bool.and_eq_true, Bool.not_eq_true', decide_eq_true_eq] at h0 h1
  rw [sv0] at h0
  rw [sv_one] at h1
  have hrb := rung_sv (b := b) (by omega)
  have hrf := rung_sv (b := f) (by omega)
  have hsf : sgn f = false := by
    cases h : sgn f
    · rfl
    · have h2 := h1.2; unfold sv at h2; rw [h] at h2; simp only [if_true] at h2; omega
  have hs : rung b = 0 ∨ (Pos b ∧ 0 < rung b) := by
    by_cases hz : rung b = 0
    · exact .inl hz
    · right
      refine ⟨⟨hb, h0.1.1, ?_⟩, by omega⟩
      cases h : sgn b
      · rfl
      · have h2 := h0.2; unfold sv at h2; rw [h] at h2; simp only [if_true] at h2; omega
  cases k with
  | zero => simp [dly]
  | succ j =>
    have := dly_step (c := c) h0.1.1 hs ⟨hf, h1.1.1, hsf⟩ (by omega) j
    rw [show ((j + 1 : Nat) : Int) - 1 = j by omega, show ((j + 1 : Nat) : Int) = (j : Int) + 1 by omega]
    exact this
theorem modN (n : Int) : ∃ A : Nat, wrap64 ((IntKind.u64.wrap n).tmod 70) = (A : Int) ∧ A < 70 := by
  have h : 0 ≤ IntKind.u64.wrap n := by rw [IntKind.wrap_u64]; omega
  rw [Int.tmod_eq_emod_of_nonneg h]
  exact ⟨(IntKind.u64.wrap n % 70).toNat, by unfold wrap64; omega, by omega⟩
theorem tb_one (b f c : Nat) (now : Int) : tb b f c now 1 = now := by simp [tb, dly]
set_option maxRecDepth 20000 in
set_option maxHeartbeats 12800000 in
theorem walk (b f c : Nat) (hb : b < 18446744073709551616) (hf : f < 18446744073709551616) (hc : c < 18446744073709551616) (now : Int) (_wn : (Lit.int .i64 now).wf = true) (n : Int) (_wf : (Lit.int .i64 n).wf = true) (W : World) :
    Calls Try.prog 5 #[setting b f c, .int .i64 now, .int .i64 n] W fun e w' => e = .returned (.bool true) ∧ Below W.heap.size W w' := by
  clear _wn _wf
  obtain ⟨A, eA, hA⟩ := modN n
  have k1 := plan_any b f c now A hc
  by_cases hin : 0 ≤ now ∧ now ≤ 1099511627776
  · have hok : planOk now (A : Int) := ⟨hin, by omega⟩
    rw [show planL b f c now A = tl b f c now A from (if_pos hok).trans (by rw [Int.toNat_natCast]), show planE now A = 0 from if_pos hok] at k1
    have l1 := tl_length b f c now A
    have g1 := tl_get b f c now A
    have gb := tb_bounds b f c now
    have h0' : ¬ now < 0 := by omega
    have h1' : ¬ 1099511627776 < now := by omega
    generalize tl b f c now A = la at k1 l1 g1
    clear hok
    go_enter Try.func5, Try.ntmps5
    go_wp2_with fail
    refine (known_any _).mono ?_
    rintro e w1 ⟨rfl, hS⟩
    have hS : Below (W.heap.size + 1) (W.alloc (setBox b f c)) w1 := hS.mono (by simp)
    have c0 := box_cell hS 0 rfl
    have c1 := box_cell hS 1 rfl
    have c2 := box_cell hS 2 rfl
    go_wp2_with fail
    refine (k1 _).mono ?_
    rintro e w2 ⟨v1, rfl, o1, b2⟩
    have hS := hS.trans (b2.mono (szS hS))
    have hS : Below (W.heap.size + 1) (W.alloc (setBox b f c)) w2 := hS
    clear c0 c1 c2 b2
    obtain ⟨ao1, m1, cap1, rfl, hm1⟩ := o1.form'
    obtain rfl : m1 = A := hm1.out.trans l1
    go_wp2
    go_loopw [9, 10] (fun lv iv wr => ∃ k : Nat, k ≤ m1 ∧ iv = .int .i64 k ∧ lv = .int .i64 (dly b f c ((k : Int) - 1)) ∧ Below w2.heap.size w2 wr) (fun _ iv _ => m1 - (intOf iv).toNat)
    case atStart => exact ⟨0, Nat.zero_le _, rfl, by simp [dly], Below.refl _ _⟩
    case round =>
      obtain ⟨k, hk, rfl, rfl, hbel⟩ := hrel
      by_cases hlt : k < m1
      · have hSr := hS.trans (hbel.mono (szS hS))
        have c0 := box_cell hSr 0 rfl
        have c1 := box_cell hSr 1 rfl
        have c2 := box_cell hSr 2 rfl
        go_wp2_with fail
        refine (delay_any b f c k hc (by omega) _).mono ?_
        rintro e w4 ⟨rfl, b4⟩
        have hSr := hSr.trans (b4.mono (szS hSr))
        clear c0 c1 c2
        have c0 := box_cell hSr 0 rfl
        have c1 := box_cell hSr 1 rfl
        have c2 := box_cell hSr 2 rfl
        have hb4 := hbel.trans (b4.mono hbel.size)
        have o4 := ownsRow_below o1 hb4
        have hd := dly_bounds b f c k
        have hcv := run_conv (dly b f c k) w4
        have q1 := ord_ge c 0
        have q2 := ord_le c 4681608360884174848
        have q3 := ord_gt (floatOfInt .f64 (dly b f c k)) c
        have r1 := ord_ge b 0
        have r2 := ord_le b 9094988921128908188
        have r3 := ord_ge f 4607182418800017408
        have r4 := ord_le f 9094988921128908188
        have hcap := cap_no (b := b) (f := f) (c := c) (k : Int)
        have hmono := fun x y => mono_yes (c := c) hb hf x y k
        have htb : tb b f c now (k + 1) = tb b f c now k + dly b f c k := rfl
        have hg := g1 k hlt
        have htl := gb k
        have hp := dly_bounds b f c ((k : Int) - 1)
        have hk0 : k = 0 → tb b f c now (k + 1) = now := fun h => by subst h; exact tb_one _ _ _ _
        have hgp : 0 < k → (cellsZ la)[k - 1]? = some (.int .i64 (tb b f c now k)) := fun h => by
          have := g1 (k - 1) (by omega)
          rwa [show k - 1 + 1 = k by omega] at this
        clear gb
        have HD0 := (rfl : dly b f c (k : Int) = dly b f c (k : Int))
        generalize hdd : dly b f c (k : Int) = d at *
        have HD := Lib.hid hdd
        clear hdd HD0
        generalize dly b f c ((k : Int) - 1) = p at *
        generalize floatOfInt .f64 d = fd at *
        generalize tb b f c now (k + 1) = t1 at *
        generalize tb b f c now k = t0 at *
        generalize geB c 0 = B1 at *
        generalize geB 4681608360884174848 c = B2 at *
        generalize gtB fd c = B3 at *
        generalize geB b 0 = C1 at *
        generalize geB 9094988921128908188 b = C2 at *
        generalize geB f 4607182418800017408 = C3 at *
        generalize geB 9094988921128908188 f = C4 at *
        have hCap : B1 = false ∨ (B1 = true ∧ B2 = false) ∨ (B1 = true ∧ B2 = true ∧ B3 = false) := by
          cases B1
          · exact .inl rfl
          · cases B2
            · exact .inr (.inl ⟨rfl, rfl⟩)
            · exact .inr (.inr ⟨rfl, rfl, hcap rfl rfl⟩)
        have hMon : C1 = false ∨ (C1 = true ∧ C2 = false) ∨ (C1 = true ∧ C2 = true ∧ C3 = false) ∨ (C1 = true ∧ C2 = true ∧ C3 = true ∧ C4 = false) ∨ (C1 = true ∧ C2 = true ∧ C3 = true ∧ C4 = true ∧ ¬ d < p) := by
          cases C1
          · exact .inl rfl
          · cases C2
            · exact .inr (.inl ⟨rfl, rfl⟩)
            · cases C3
              · exact .inr (.inr (.inl ⟨rfl, rfl, rfl⟩))
              · cases C4
                · exact .inr (.inr (.inr (.inl ⟨rfl, rfl, rfl, rfl⟩)))
                · exact .inr (.inr (.inr (.inr ⟨rfl, rfl, rfl, rfl, by have := hmono rfl rfl; omega⟩)))
        clear hcap hmono
        have hd0 : ¬ d < 0 := by omega
        have hd1 : ¬ 100000 < d := by omega
        have hK : (k = 0 ∧ t1 = now ∧ ∃ g, ao1 = some ⟨g, 0, none⟩ ∧ w4.cell? ⟨g, 0, none⟩ = some (.int .i64 now)) ∨ (0 < k ∧ IntKind.i64.wrap ((k : Int) - 1) = ((k - 1 : Nat) : Int) ∧ IntKind.i64.wrap (t1 - t0) = d ∧ ∃ g, ao1 = some ⟨g, 0, none⟩ ∧ w4.cell? ⟨g, k, none⟩ = some (.int .i64 t1) ∧ w4.cell? ⟨g, k - 1, none⟩ = some (.int .i64 t0)) := by
          by_cases hz : k = 0
          · left
            refine ⟨hz, hk0 hz, ?_⟩
            obtain ⟨g, e, -, hcell⟩ := ownsRow_cell o4 hg
            rw [hk0 hz] at hcell
            subst hz
            exact ⟨g, e, hcell⟩
          · right
            refine ⟨by omega, by rw [IntKind.wrap_i64]; omega, by rw [IntKind.wrap_i64]; omega, ?_⟩
            obtain ⟨g, e, -, hcell⟩ := ownsRow_cell o4 hg
            obtain ⟨g', e', -, hcell'⟩ := ownsRow_cell o4 (hgp (by omega))
            rw [e] at e'
            cases e'
            exact ⟨g, e, hcell, hcell'⟩
        clear hg hgp hk0 htb htl hd hp g1 o4
        have hbz : Hid (Below w2.heap.size w2 w4) := Lib.hid hb4
        clear hb4 b4 hSr hbel
        go_upto_region 14 with fail
        go_cut [76] from 46 to 127 (fun s wx => s = .bool false ∧ wx = w4)
        case first =>
          rcases hCap with rfl | ⟨rfl, rfl⟩ | ⟨rfl, rfl, rfl⟩
          all_goals
            go_wp2
            go_meet
            exact ⟨by first | rfl | (simp; omega), rfl⟩
        case rest =>
          obtain ⟨rfl, rfl⟩ := hcut
          clear hCap q1 q2 q3 hcv
          go_upto_region 16 with fail
          go_cut [99] from 46 to 127 (fun s wx => s = .bool false ∧ wx = wc)
          case first =>
            rcases hMon with rfl | ⟨rfl, rfl⟩ | ⟨rfl, rfl, rfl⟩ | ⟨rfl, rfl, rfl, rfl⟩ | ⟨rfl, rfl, rfl, rfl, hdp⟩
            all_goals
              go_wp2
              go_meet
              exact ⟨by first | rfl | (simp; omega), rfl⟩
          case rest =>
            obtain ⟨rfl, rfl⟩ := hcut
            clear hMon r1 r2 r3 r4
            go_wp2_with fail
            rcases hK with ⟨rfl, rfl, g, rfl, cg⟩ | ⟨hk0, hk1, hk2, g, rfl, cg, cg'⟩
            · go_quiet (fail)
              go_wp2
              go_roundw
              case rel => exact ⟨1, by omega, by go_num, by rw [show ((1 : Nat) : Int) - 1 = ((0 : Nat) : Int) by omega, HD.out], hbz.out.trans (below_drewN _ _ _)⟩
              case measure => simp [intOf]; omega
            · have hz1 : ((k : Int) == 0) = false := by simp; omega
              have hz2 : ¬ (k : Int) = 0 := by omega
              have hz3 : (0 : Int) < k := by omega
              go_quiet (fail)
              go_wp2
              go_roundw
              case rel => exact ⟨k + 1, by omega, by go_num, by rw [show ((k + 1 : Nat) : Int) - 1 = k by omega, HD.out], hbz.out.trans (below_drewN _ _ _)⟩
              case measure => simp [intOf]; omega
      · go_wp2
        go_ret
        exact ⟨rfl, (((Below.refl _ _).alloc (Nat.le_refl _) _).trans (hS.mono (Nat.le_succ _))).trans (hbel.mono (by have := szS hS; omega))⟩
  · have hok : ¬ planOk now (A : Int) := fun h => hin h.1
    rw [show planL b f c now A = [] from if_neg hok, show planE now A = 1 from if_neg hok] at k1
    have hcase : now < 0 ∨ (¬ now < 0 ∧ 1099511627776 < now) := by omega
    clear hok hin
    go_enter Try.func5, Try.ntmps5
    go_wp2_with fail
    refine (known_any _).mono ?_
    rintro e w1 ⟨rfl, hS⟩
    have hS : Below (W.heap.size + 1) (W.alloc (setBox b f c)) w1 := hS.mono (by simp)
    have c0 := box_cell hS 0 rfl
    have c1 := box_cell hS 1 rfl
    have c2 := box_cell hS 2 rfl
    go_wp2_with fail
    refine (k1 _).mono ?_
    rintro e w2 ⟨v1, rfl, o1, b2⟩
    have hS := hS.trans (b2.mono (szS hS))
    have hS : Below (W.heap.size + 1) (W.alloc (setBox b f c)) w2 := hS
    clear c0 c1 c2 b2
    obtain ⟨ao1, m1, cap1, rfl, hm1⟩ := o1.form'
    obtain rfl : m1 = 0 := hm1.out
    rcases hcase with h1 | ⟨h1, h2⟩
    · go_wp2
      go_ret
      exact ⟨rfl, ((Below.refl _ _).alloc (Nat.le_refl _) _).trans (hS.mono (Nat.le_succ _))⟩
    · go_wp2
      go_ret
      exact ⟨rfl, ((Below.refl _ _).alloc (Nat.le_refl _) _).trans (hS.mono (Nat.le_succ _))⟩

/-! ### the row -/
theorem laidOut : laidOutB Try.prog = true := by kernel_rfl
theorem bytesInt : Try.prog.bytesOf 3 = 8 := by kernel_rfl
set_option maxRecDepth 100000 in
theorem lifted (os : Os) (started : os.Started) (H : Type) (enc : TypeId × Value → H) :
    ReturnsInHanded {} Try.checked os 5 .any (Rows.backoffBoundsSpec.pre6 enc Try.prog Try.f5 Rows.backoffBoundsRow.domain false) (Rows.backoffBoundsSpec.post enc Try.prog Try.f5 false true false false) := by
  refine returnsInHanded_of_change_sized (C := Try.checked) own started (by kernel_rfl) Try.func5
    (ChangeSpec.witness6 (enc := enc) (C := Try.checked) false ⟨#[], #[.agg #[.float .f64 0, .float .f64 0, .float .f64 0], .int .i64 0, .int .i64 0], []⟩ 8 (by kernel_rfl) (by kernel_rfl) (by kernel_rfl) (by kernel_rfl)) ?_
  intro W base args ds gs before hval0 hW hcnd hsz0 _
  have hval : ∀ (j : Nat) t v, Try.f5.params[j]? = some t → args[j]? = some v → Value.okWide Try.prog W .any base t v := hval0
  have hW' := hW
  obtain ⟨p, q, hA0, hV, rfl, hfz, hnd⟩ := hW
  have hA : DataW.TrodAll enc Try.prog W 0 (fun _ => true) true Try.f5.params.toList args.toList ds p := hA0
  have hsz : (DataW.weightsEach Try.prog (Try.f5.params.toList ++ Rows.backoffBoundsSpec.plain.varTypes Try.prog) (ds ++ gs)).all (· ≤ reachBytes) = true := hsz0
  rw [Try.params5] at hA hval hsz
  obtain ⟨v0, vs0, d0, ds0, p0, q0, hargs, rfl, rfl, h0, r0⟩ := trodAll_cons hA
  obtain ⟨v1, vs1, d1, ds1, p1, q1, rfl, rfl, rfl, h1, r1⟩ := trodAll_cons r0
  obtain ⟨v2, vs2, d2, ds2, p2, q2, rfl, rfl, rfl, h2, r2⟩ := trodAll_cons r1
  obtain ⟨rfl, rfl, rfl⟩ := trodAll_nil r2
  obtain rfl : args = #[v0, v1, v2] := by cases args; simp_all
  obtain ⟨rfl, rfl⟩ := trodVars_none hV
  have k0 := h0
  have lt0 := args_lt k0
  obtain ⟨a0, b0, c0, rfl, x0, y0, z0⟩ := set_arg (hval 0 24 v0 rfl rfl) h0
  obtain ⟨a1, rfl, rfl, rfl, w1⟩ := open_int Try.underlying3 (hval 1 3 v1 rfl rfl) h1
  obtain ⟨a2, rfl, rfl, rfl, w2⟩ := open_int Try.underlying3 (hval 2 3 v2 rfl rfl) h2
  clear hA0 hval0 hsz0
  refine (walk a0 b0 c0 x0 y0 z0 a1 w1 a2 w2 W ).mono fun e W' ⟨he, bel⟩ => ?_
  subst he
  exact ⟨_, rfl, _, _, _, [], _, [], hW', trodAll_mk1 (shut_bool Try.underlying4 _), (trodAll_cons_mk (Below.trod laidOut (by kernel_rfl) (of_decide_eq_true (by kernel_rfl)) k0 bel lt0) (trodAll_cons_mk (shut_int Try.underlying3 w1) (trodAll_cons_mk (shut_int Try.underlying3 w2) trodAll_mk0))), rfl, bel.frame _, fun h => by cases h⟩

theorem over : Rows.backoffBoundsRow.holds Try.pinned (OpenSpec.ofChange Rows.backoffBoundsSpec) :=
  OpenClaim.holds_of_wide 5 Try.f5 rfl rfl rfl rfl rfl rfl rfl ⟨rfl, rfl, rfl, rfl, rfl⟩ rfl rfl rfl rfl rfl (by kernel_rfl) Try.func5 (by kernel_rfl)
    (of_decide_eq_true (by kernel_rfl)) (by unfold Func.isWrapper; first | (rw [if_pos (by decide +kernel)]; kernel_rfl) | (rw [if_neg (by decide +kernel)]; exact ⟨rfl, rfl⟩))
    (fun os started H enc _ => lifted os started H enc)
end Go.Proofs.Ytolpajkeiijbmaa.backoffBounds

namespace Go.Proofs.Ytolpajkeiijbmaa
/-- The law returns true at every input. -/
theorem backoffBounds_holds : Rows.BackoffBoundsSaid := backoffBounds.over
end Go.Proofs.Ytolpajkeiijbmaa

