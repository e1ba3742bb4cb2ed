/- One more time is one product more; a power of one is one, of nought nought: the law cisternlaw04.GaugePowers returns true at every input. No condition. -/
import Derived.Test.YtpnihbicncioaaaGMath2
namespace Go.Proofs.Ytpnihbicncioaaa.gaugePowers
open Go.RowKit Go.ChangeShapes Go.WideShapes Go.ChangeAt G

theorem own : ownKnob Try.prog.godebug = none := by kernel_rfl
theorem val_zero : val 0 = some 0 := by decide +kernel
theorem below_step {w w1 w2 : World} (b : Below w.heap.size w w1) (hs : w.heap.size ≤ w1.heap.size) (b2 : Below w1.heap.size w1 w2) : Below w.heap.size w w2 := b.trans (b2.mono hs)
set_option maxRecDepth 20000 in
set_option maxHeartbeats 1600000 in
theorem walk (x : Nat) (wx : (Lit.float .f64 x).wf = true) (n : Int) (wn : (Lit.int .i64 n).wf = true) (W : World) :
    Calls Try.prog 10 #[.float .f64 x, .int .i64 n] W fun e w' => e = .returned (.bool true) ∧ Below W.heap.size W w' := by
  have _ := wx
  have _ := wn
  clear wx wn
  go_enter Try.func10, Try.ntmps10
  go_wp2_with fail
  refine (known_any _).mono ?_
  rintro e _ ⟨rfl, rfl⟩
  go_wp2_with fail
  have hm : 0 ≤ wrap64 ((IntKind.u64.wrap n).tmod 60) ∧ wrap64 ((IntKind.u64.wrap n).tmod 60) < 60 := by
    have h : 0 ≤ IntKind.u64.wrap n := by rw [IntKind.wrap_u64]; omega
    rw [Int.tmod_eq_emod_of_nonneg h]; unfold wrap64; omega
  generalize wrap64 ((IntKind.u64.wrap n).tmod 60) = N at hm ⊢
  obtain ⟨m0, m1⟩ := hm
  obtain ⟨K, rfl⟩ := Int.eq_ofNat_of_zero_le m0
  have hK : K < 60 := by omega
  clear m0 m1
  have t1 : times (K : Int) = K := by unfold times; omega
  have t2 : times ((K : Int) + 1) = K + 1 := by unfold times; omega
  have t3 : times (-(K : Int)) = 0 := by unfold times; omega
  have T1 := Lib.hid t1
  have T2 := Lib.hid t2
  have T3 := Lib.hid t3
  clear t1 t2 t3
  refine (power_any _ _ _).mono ?_
  rintro e w1 ⟨p, rfl, lp, vp, b1, s1⟩
  have VP := Lib.hid (vp.trans (by rw [T1.out])); clear vp
  replace s1 := Nat.le_of_eq s1.symm
  go_wp2_with fail
  refine (power_any _ _ _).mono ?_
  rintro e w2 ⟨q, rfl, lq, vq, b2, s2⟩
  have VQ := Lib.hid (vq.trans (by rw [T2.out])); clear vq
  have b3 := below_step b1 s1 b2; clear b1 b2
  replace s2 := Nat.le_trans s1 (Nat.le_of_eq s2.symm); clear s1
  obtain ⟨r, w3, e3, lr, vr, b4, s3⟩ := run_step .mul p x w2
  have h1 : sameB q r = true := same_val (by rw [VQ.out, vr, VP.out]; rfl)
  have b5 := below_step b3 s2 b4; clear b3 b4 VP VQ vr
  replace s3 := Nat.le_trans s2 (Nat.le_of_eq s3.symm); clear s2
  go_wp2_with fail
  refine (same_any _ _ _).mono ?_
  rintro e _ ⟨rfl, rfl⟩
  clear e3
  go_wp2_with fail
  refine (power_any _ _ _).mono ?_
  rintro e w4 ⟨u, rfl, lu, vu, b6, s4⟩
  have h2 : sameB u 4607182418800017408 = true := same_val (by rw [vu, T1.out, val_one, powV_one])
  have b7 := below_step b5 s3 b6; clear b5 b6 vu
  replace s4 := Nat.le_trans s3 (Nat.le_of_eq s4.symm); clear s3
  go_wp2_with fail
  refine (same_any _ _ _).mono ?_
  rintro e _ ⟨rfl, rfl⟩
  go_wp2_with fail
  refine (power_any _ _ _).mono ?_
  rintro e w5 ⟨z, rfl, lz, vz, b8, s5⟩
  have h3 : sameB z 0 = true := same_val (by rw [vz, T2.out, val_zero, powV_zero])
  have b9 := below_step b7 s4 b8; clear b7 b8 vz
  replace s5 := Nat.le_trans s4 (Nat.le_of_eq s5.symm); clear s4
  go_wp2_with fail
  refine (same_any _ _ _).mono ?_
  rintro e _ ⟨rfl, rfl⟩
  go_wp2_with fail
  refine (power_any _ _ _).mono ?_
  rintro e w6 ⟨y, rfl, ly, vy, b10, s6⟩
  have h4 : sameB y 4607182418800017408 = true := same_val (by rw [vy, T3.out, val_one]; rfl)
  have b11 := below_step b9 s5 b10; clear b9 b10 vy
  replace s6 := Nat.le_trans s5 (Nat.le_of_eq s6.symm); clear s5
  go_wp2_with fail
  refine (same_any _ _ _).mono ?_
  rintro e _ ⟨rfl, rfl⟩
  go_wp2_with fail
  refine (power_any _ _ _).mono ?_
  rintro e w7 ⟨c, rfl, lc, vc, b12, s7⟩
  have VC := Lib.hid vc; clear vc
  have b13 := below_step b11 s6 b12; clear b11 b12
  replace s7 := Nat.le_trans s6 (Nat.le_of_eq s7.symm); clear s6
  go_wp2_with fail
  refine (power_any _ _ _).mono ?_
  rintro e w8 ⟨d, rfl, ld, vd, b14, s8⟩
  have h5 : sameB c d = true := same_val (by rw [VC.out, vd]; rfl)
  have b15 := below_step b13 s7 b14; clear b13 b14 vd s8 s7 VC
  go_wp2_with fail
  refine (same_any _ _ _).mono ?_
  rintro e _ ⟨rfl, rfl⟩
  go_wp2
  go_ret
  exact ⟨rfl, b15⟩

/-! ### the row -/
theorem laidOut : laidOutB Try.prog = true := by kernel_rfl
theorem bytesInt : Try.prog.bytesOf 3 = 8 := by kernel_rfl
set_option maxRecDepth 100000 in
theorem lifted (os : Os) (started : os.Started) (H : Type) (enc : TypeId × Value → H) :
    ReturnsInHanded {} Try.checked os 10 .any (Rows.gaugePowersSpec.pre6 enc Try.prog Try.f10 Rows.gaugePowersRow.domain false) (Rows.gaugePowersSpec.post enc Try.prog Try.f10 false true false false) := by
  refine returnsInHanded_of_change_sized (C := Try.checked) own started (by kernel_rfl) Try.func10
    (ChangeSpec.witness6 (enc := enc) (C := Try.checked) false ⟨#[], #[.float .f64 0, .int .i64 0], []⟩ 8 (by kernel_rfl) (by kernel_rfl) (by kernel_rfl) (by kernel_rfl)) ?_
  intro W base args ds gs before hval0 hW hcnd hsz0 _
  have hval : ∀ (j : Nat) t v, Try.f10.params[j]? = some t → args[j]? = some v → Value.okWide Try.prog W .any base t v := hval0
  have hW' := hW
  obtain ⟨p, q, hA0, hV, rfl, hfz, hnd⟩ := hW
  have hA : DataW.TrodAll enc Try.prog W 0 (fun _ => true) true Try.f10.params.toList args.toList ds p := hA0
  have hsz : (DataW.weightsEach Try.prog (Try.f10.params.toList ++ Rows.gaugePowersSpec.plain.varTypes Try.prog) (ds ++ gs)).all (· ≤ reachBytes) = true := hsz0
  rw [Try.params10] at hA hval hsz
  obtain ⟨v0, vs0, d0, ds0, p0, q0, hargs, rfl, rfl, h0, r0⟩ := trodAll_cons hA
  obtain ⟨v1, vs1, d1, ds1, p1, q1, rfl, rfl, rfl, h1, r1⟩ := trodAll_cons r0
  obtain ⟨rfl, rfl, rfl⟩ := trodAll_nil r1
  obtain rfl : args = #[v0, v1] := by cases args; simp_all
  obtain ⟨rfl, rfl⟩ := trodVars_none hV
  obtain ⟨a0, rfl, rfl, rfl, w0⟩ := open_float Try.underlying22 (hval 0 22 v0 rfl rfl) h0
  obtain ⟨a1, rfl, rfl, rfl, w1⟩ := open_int Try.underlying3 (hval 1 3 v1 rfl rfl) h1
  clear hA0 hval0 hsz0
  refine (walk a0 w0 a1 w1 W ).mono fun e W' ⟨he, bel⟩ => ?_
  subst he
  exact ⟨_, rfl, _, _, _, [], _, [], hW', trodAll_mk1 (shut_bool Try.underlying4 _), (trodAll_cons_mk (shut_float Try.underlying22 w0) (trodAll_cons_mk (shut_int Try.underlying3 w1) trodAll_mk0)), rfl, bel.frame _, fun h => by cases h⟩

theorem over : Rows.gaugePowersRow.holds Try.pinned (OpenSpec.ofChange Rows.gaugePowersSpec) :=
  OpenClaim.holds_of_wide 10 Try.f10 rfl rfl rfl rfl rfl rfl rfl ⟨rfl, rfl, rfl, rfl, rfl⟩ rfl rfl rfl rfl rfl (by kernel_rfl) Try.func10 (by kernel_rfl)
    (of_decide_eq_true (by kernel_rfl)) (by unfold Func.isWrapper; first | (rw [if_pos (by decide +kernel)]; kernel_rfl) | (rw [if_neg (by decide +kernel)]; exact ⟨rfl, rfl⟩))
    (fun os started H enc _ => lifted os started H enc)
end Go.Proofs.Ytpnihbicncioaaa.gaugePowers

namespace Go.Proofs.Ytpnihbicncioaaa
/-- The law returns true at every input. -/
theorem gaugePowers_holds : Rows.GaugePowersSaid := gaugePowers.over
end Go.Proofs.Ytpnihbicncioaaa

