/- An erased device is a new one, whatever was done to it: the law cisternlaw01.FlashErases returns true at every input. No condition. -/
import Derived.Test.YtfdabkcbefhdaaaRStepW
import Derived.Test.YtfdabkcbefhdaaaFNewest
namespace Go.Proofs.Ytfdabkcbefhdaaa
set_option maxRecDepth 20000
open Go.RowKit

/-- a step of the script, whatever its kind -/
theorem step_any {W : World} {B : Nat} {w : World} {db rb : Nat} {d : Dev} {N : Nat} (h : Two B w db rb d N) (hB : B ≤ w.heap.size) (hWB : W.heap.size ≤ B) (hbW : Below W.heap.size W w) (hlen : d.waits.length < 1000) (hN : N < 1000000) (hsz : 1 ≤ d.size) {y : OpF} (hy : y.ok W) :
    Calls Try.prog 20 #[.pointer (some ⟨db, 0, none⟩), .pointer (some ⟨rb, 0, none⟩), .agg #[.int .i64 y.k, .int .i64 y.at', .int .i64 y.fill, .int .i64 y.n, y.pv]] w fun e w' => StepTo B w db rb d N e w' := by
  by_cases e1 : y.k = 1
  · rw [e1]; exact step1 h hB hlen _ _ _ _
  by_cases e2 : y.k = 2
  · rw [e2]; exact step2 h hB hlen _ _ _ hy.fill _
  by_cases e3 : y.k = 3
  · rw [e3]; exact step3 h hB hlen hN _ _ _ _
  by_cases e4 : y.k = 4
  · rw [e4]; exact step4 h hB _ _ _ hy.n.2 _
  by_cases e5 : y.k = 5
  · rw [e5]; exact step5 h hB hWB hbW hlen hN _ _ _ hy.picks
  by_cases e6 : y.k = 6
  · rw [e6]; exact step6 h hB hsz _ _ _ _
  exact stepN h hB _ _ _ _ ⟨e1, e2, e3, e4, e5, e6⟩ _
theorem fresh_flush (n : Nat) : (Dev.fresh n).flush = (0, Dev.fresh n) := rfl
theorem fresh_read (n : Nat) {i : Nat} (h : i < n) : (Dev.fresh n).read i = (zeros, 0) := by
  have hh : (Dev.fresh n).has i = true := by simp [Dev.has, Dev.fresh]; omega
  unfold Dev.read
  rw [if_neg (by simp [hh])]
  rfl
end Go.Proofs.Ytfdabkcbefhdaaa
namespace Go.Proofs.Ytfdabkcbefhdaaa.flashErases
open Go.RowKit
open Go.ChangeShapes Go.WideShapes Go.ChangeAt
open Go.Proofs.Ytfdabkcbefhdaaa.flashNewest (own ownB_made)

set_option maxHeartbeats 6400000 in
set_option maxRecDepth 20000 in
theorem walk (v0 : Value) (z0 : List OpF) (x : Int) (_hx : (Lit.int .i64 x).wf = true) (W : World) (w0 : OpsArg W v0 z0) :
    Calls Try.prog 8 #[v0, .int .i64 x] W fun e w' => e = .returned (.bool true) ∧ Below W.heap.size W w' := by
  obtain ⟨ao, cap, rfl, hlen⟩ := w0.form
  obtain ⟨a, ha, ea⟩ := mod_form x 20 (by decide) (by decide)
  have HEA := Lib.hid ea
  obtain ⟨n, hn⟩ : ∃ n : Nat, n = a + 1 := ⟨_, rfl⟩
  have hnI : Hid ((1 : Int) + (a : Int) = (n : Int)) := Lib.hid (by omega)
  go_enter Try.func8, Try.ntmps8
  go_wp2_with fail
  refine (known_any W).mono ?_
  rintro e wa ⟨rfl, ba⟩
  go_wp2_with fail
  rw [hnI.out]
  have hn1 : 1 ≤ n := by omega
  have hn2 : n ≤ 20 := by omega
  clear hnI hn ha HEA ea
  refine (new_any W.heap.size wa n hn1 (by omega) ba.size).mono ?_
  rintro e wb ⟨rfl, da, bb, -⟩
  obtain ⟨db, hdb⟩ : ∃ db, wa.heap.size = db := ⟨_, rfl⟩
  rw [hdb] at da
  rw [hdb]
  have bc : Below W.heap.size W wb := ba.trans (bb.mono ba.size)
  go_wp2_with fail
  refine (rnew_any W.heap.size wb n hn1 (by omega) bc.size).mono ?_
  rintro e wc ⟨rb, rfl, dr, fr⟩
  have h2 : Two W.heap.size wc db rb (Dev.fresh n) 0 := ⟨da.fr fr RK_FK, dr⟩
  have bd : Below W.heap.size W wc := bc.trans (fr.below bc.size)
  clear bb bc da fr dr ba hdb
  go_wp2
  go_loopw [9] (fun iv wr => ∃ (k N : Nat) (d : Dev), k ≤ 40 ∧ k ≤ z0.length ∧ iv = .int .i64 k ∧ Two W.heap.size wr db rb d N ∧ Below W.heap.size W wr ∧ d.size = n ∧ d.waits.length ≤ k ∧ N ≤ 40 * k) (fun iv _ => z0.length - (intOf iv).toNat)
  case atStart => exact ⟨0, 0, _, Nat.zero_le _, Nat.zero_le _, rfl, h2, bd, rfl, Nat.le_refl _, Nat.le_refl _⟩
  case round =>
    clear h2 bd
    obtain ⟨k, N, d, hk40, hkl, rfl, ht, bk, hdn, hdw, hN⟩ := hrel
    by_cases hlt : k < z0.length ∧ k < 40
    · obtain ⟨hlt1, hlt2⟩ := hlt
      obtain ⟨ob, off, rfl, hok, c0, c1, c2, c3, c4⟩ := w0.get bk hlt1
      have hst := step_any ht bk.size (Nat.le_refl _) bk (by omega) (by omega) (by omega) hok
      generalize opAt z0 k = y at hst c0 c1 c2 c3 c4
      go_wp2_with fail
      refine hst.mono ?_
      rintro e we ⟨rfl, d', N', t', b', s1, s2, s3⟩
      have bk' : Below W.heap.size W we := bk.trans b'
      have FIN : Hid (Two W.heap.size we db rb d' N' ∧ Below W.heap.size W we ∧ d'.size = n ∧ d'.waits.length ≤ k + 1 ∧ N' ≤ 40 * (k + 1)) := Lib.hid ⟨t', bk', s1.trans hdn, by omega, by omega⟩
      clear hst ht bk t' b' bk' s1 s2 s3 hdn hdw hN c0 c1 c2 c3 c4 hok
      go_wp2
      go_roundw
      case rel => exact ⟨k + 1, N', d', by omega, by omega, by go_num, FIN.out.1, FIN.out.2.1, FIN.out.2.2.1, FIN.out.2.2.2.1, FIN.out.2.2.2.2⟩
      case measure => simp [intOf]; omega
    · have her := erase_any ht.a
      have ef : d.erase = Dev.fresh n := by unfold Dev.erase; rw [hdn]
      rw [ef] at her
      rcases (show ¬ k < z0.length ∨ (k < z0.length ∧ ¬ k < 40) by omega) with hl | ⟨hl, hl2⟩
      all_goals
        clear hlt ef ht
        go_wp2_with fail
        refine her.mono ?_
        rintro e we ⟨rfl, de, fe⟩
        have be := bk.trans (fe.below bk.size)
        clear her bk fe
        have hsz : Calls Try.prog 18 #[.pointer (some ⟨db, 0, none⟩)] we fun e w' => e = .returned (.int .i64 n) ∧ we = w' := size_any de
        have hpe : Calls Try.prog 19 #[.pointer (some ⟨db, 0, none⟩)] we fun e w' => e = .returned (.int .i64 0) ∧ we = w' := pending_any de
        have hfl := flush_any de (by simp [Dev.fresh, maxLen]) (by simp [Dev.fresh])
        rw [fresh_flush] at hfl
        go_wp2_with fail
        refine hsz.mono ?_
        rintro e _ ⟨rfl, rfl⟩
        go_wp2_with fail
        refine hpe.mono ?_
        rintro e _ ⟨rfl, rfl⟩
        go_wp2_with fail
        refine hfl.mono ?_
        rintro e wf ⟨rfl, df, ff⟩
        have bf := be.trans (ff.below be.size)
        clear hfl hsz hpe de be ff
        go_wp2
        go_loopw [10] (fun iv wr => ∃ m : Nat, m ≤ n ∧ iv = .int .i64 m ∧ DevAt W.heap.size wr db (Dev.fresh n) 0 ∧ Below W.heap.size W wr) (fun iv _ => n - (intOf iv).toNat)
        case atStart => exact ⟨0, Nat.zero_le _, rfl, df, bf⟩
        case round =>
          clear df bf
          obtain ⟨m, hm, rfl, dm, bm⟩ := hrel
          by_cases hlt : m < n
          · have hrd := read_any dm (m : Int) (by simp [Dev.fresh])
            rw [fresh_read n hlt] at hrd
            go_wp2_with fail
            refine hrd.mono ?_
            rintro e wg ⟨vg, rfl, og, bg⟩
            have bW := bm.trans (bg.mono bm.size)
            have dg := dm.below bg
            have hcv : ∀ w', Below wg.heap.size wg w' → (convert 31 9 vg).run Try.prog w' = .ok (.string (strOf zeros)) w' := fun w' hb => run_string (row_keep (K := fun _ => false) (B' := 0) og (Fr.of_below hb) (fun _ => rfl))
            clear hrd og bg dm bm
            go_wp2_with fail
            have hS : Below wg.heap.size wg wg.drew := (Below.refl _ _).drew
            refine wp_region_held_drew (S := fun w' => Below wg.heap.size wg w') mixed hS (fun _ => ?_)
            show wpAnyH _ _ _ _ _ 9 (Array.replicate 9 false) _ _
            refine wpAnyH_take_d 0 (some 81) (.int .i64 0) rfl (by kernel_rfl) (by kernel_rfl) (by kernel_rfl) (by kernel_rfl) rfl (fun _ _ _ h => h) (fun _ _ => by kernel_rfl) (by exact hS) ?_
            simp only [Act.put, List.setIfInBounds_toArray, List.set_cons_succ, List.set_cons_zero]
            refine wpAnyH_take_d 1 (some 82) (.bool false) rfl (by kernel_rfl) (by kernel_rfl) (by kernel_rfl) (by kernel_rfl) rfl (fun _ _ _ h => h) (fun _ _ => by kernel_rfl) (by exact hS) ?_
            simp only [Act.put, List.setIfInBounds_toArray, List.set_cons_succ, List.set_cons_zero]
            refine wpAnyH_take_d 2 (some 83) (.bool false) rfl (by kernel_rfl) (by kernel_rfl) (by kernel_rfl) (by kernel_rfl) rfl (fun _ _ _ h => h) (fun _ _ => by kernel_rfl) (by exact hS) ?_
            simp only [Act.put, List.setIfInBounds_toArray, List.set_cons_succ, List.set_cons_zero]
            refine wpAnyH_take_d 3 (some 84) (vg) rfl (by kernel_rfl) (by kernel_rfl) (by kernel_rfl) (by kernel_rfl) rfl (fun _ _ _ h => h) (fun _ _ => by kernel_rfl) (by exact hS) ?_
            simp only [Act.put, List.setIfInBounds_toArray, List.set_cons_succ, List.set_cons_zero]
            refine wpAnyH_take_d 4 (some 85) (.string (strOf zeros)) rfl (by kernel_rfl) (by kernel_rfl) (by kernel_rfl) (by kernel_rfl) rfl (fun _ _ _ h => h) (fun w' hb => exec_convert rfl rfl (hcv w' hb)) (by exact hS) ?_
            simp only [Act.put, List.setIfInBounds_toArray, List.set_cons_succ, List.set_cons_zero]
            obtain ⟨i0, hi0, hz0, hz1, hz2⟩ := info_parts info5
            obtain ⟨wj, hmk, oj, gj⟩ := exec_make (P := Try.prog) (w := wg.drew) (ρ := fun x => match x with | .const v => v | _ => undef) (o := ⟨some 86, .makeSlice 31 (.const (.int .i64 256)) (.const (.int .i64 256)), 31, "", #[], none⟩) 256 rfl rfl rfl 0 Try.underlying31 hi0 hz0 hz1 (by rw [hz2]; decide) (by unfold maxLen; decide) (Nat.zero_le _)
            have hS : Below wg.heap.size wg wj := hS.grown gj hS.size (fun k e => by cases e)
            refine wpAnyH_one 5 (some 86) (.slice (some ⟨wg.drew.heap.size, 0, none⟩) 256 256) rfl (by kernel_rfl) (by kernel_rfl) rfl hmk (by exact hS) ?_
            simp only [Act.put, List.setIfInBounds_toArray, List.set_cons_succ, List.set_cons_zero]
            refine wpAnyH_one 6 (some 87) (.string (strOf zeros)) rfl (by kernel_rfl) (by kernel_rfl) rfl (exec_convert rfl rfl (run_string (ownB_made oj))) (by exact hS) ?_
            simp only [Act.put, List.setIfInBounds_toArray, List.set_cons_succ, List.set_cons_zero]
            refine wpAnyH_one 7 (some 88) (.bool false) rfl (by kernel_rfl) (by kernel_rfl) rfl (exec_strneq rfl rfl rfl (by simp)) (by exact hS) ?_
            simp only [Act.put, List.setIfInBounds_toArray, List.set_cons_succ, List.set_cons_zero]
            refine wpAnyH_one 8 (some 89) (.bool false) rfl (by kernel_rfl) (by kernel_rfl) rfl (by kernel_rfl) (by exact hS) ?_
            simp only [Act.put, List.setIfInBounds_toArray, List.set_cons_succ, List.set_cons_zero]
            refine wpAnyH_done (by kernel_rfl) ?_ _
            have FIN := Lib.hid (And.intro (dg.below hS) (bW.trans (hS.mono bW.size)))
            clear hcv hmk oj gj hS dg bW hi0 hz0 hz1 hz2
            go_wp2
            go_roundw
            case rel => exact ⟨m + 1, by omega, by go_num, FIN.out.1, FIN.out.2⟩
            case measure => simp [intOf]; omega
          · clear dm
            go_wp2
            go_ret
            exact ⟨rfl, bm⟩

/-! ### the row -/
theorem laidOut : laidOutB Try.prog = true := by kernel_rfl
theorem bytesInt : Try.prog.bytesOf 3 = 8 := by kernel_rfl
set_option maxRecDepth 100000 in
theorem lifted (os : Os) (started : os.Started) (H : Type) (enc : TypeId × Value → H) :
    ReturnsInHanded {} Try.checked os 8 .any (Rows.flashErasesSpec.pre6 enc Try.prog Try.f8 Rows.flashErasesRow.domain false) (Rows.flashErasesSpec.post enc Try.prog Try.f8 false true false false) := by
  refine returnsInHanded_of_change_sized (C := Try.checked) own started (by kernel_rfl) Try.func8
    (ChangeSpec.witness6 (enc := enc) (C := Try.checked) false ⟨#[], #[.slice none 0 0, .int .i64 0], []⟩ 8 (by kernel_rfl) (by kernel_rfl) (by kernel_rfl) (by kernel_rfl)) ?_
  intro W base args ds gs before hval0 hW hcnd hsz0 _
  have hval : ∀ (j : Nat) t v, Try.f8.params[j]? = some t → args[j]? = some v → Value.okWide Try.prog W .any base t v := hval0
  have hW' := hW
  obtain ⟨p, q, hA0, hV, rfl, hfz, hnd⟩ := hW
  have hA : DataW.TrodAll enc Try.prog W 0 (fun _ => true) true Try.f8.params.toList args.toList ds p := hA0
  have hsz : (DataW.weightsEach Try.prog (Try.f8.params.toList ++ Rows.flashErasesSpec.plain.varTypes Try.prog) (ds ++ gs)).all (· ≤ reachBytes) = true := hsz0
  rw [Try.params8] at hA hval hsz
  obtain ⟨v0, vs0, d0, ds0, p0, q0, hargs, rfl, rfl, h0, r0⟩ := trodAll_cons hA
  obtain ⟨v1, vs1, d1, ds1, p1, q1, rfl, rfl, rfl, h1, r1⟩ := trodAll_cons r0
  obtain ⟨rfl, rfl, rfl⟩ := trodAll_nil r1
  obtain rfl : args = #[v0, v1] := by cases args; simp_all
  obtain ⟨rfl, rfl⟩ := trodVars_none hV
  have k0 := h0
  have lt0 := args_lt k0
  obtain ⟨z0, w0⟩ := ops_arg (hval 0 22 v0 rfl rfl) (fun k hk => of_decide_eq_true (List.all_eq_true.1 hsz _ (DataW.weights_mem_each (j := 0) (t := 22) (d := d0) rfl rfl k hk))) h0
  obtain ⟨a1, rfl, rfl, rfl, w1⟩ := open_int Try.underlying3 (hval 1 3 v1 rfl rfl) h1
  clear hA0 hval0 hsz0
  refine (walk v0 z0 a1 w1 W w0).mono fun e W' ⟨he, bel⟩ => ?_
  subst he
  exact ⟨_, rfl, _, _, _, [], _, [], hW', trodAll_mk1 (shut_bool Try.underlying4 _), (trodAll_cons_mk (Below.trod laidOut (by kernel_rfl) (of_decide_eq_true (by kernel_rfl)) k0 bel lt0) (trodAll_cons_mk (shut_int Try.underlying3 w1) trodAll_mk0)), rfl, bel.frame _, fun h => by cases h⟩

theorem over : Rows.flashErasesRow.holds Try.pinned (OpenSpec.ofChange Rows.flashErasesSpec) :=
  OpenClaim.holds_of_wide 8 Try.f8 rfl rfl rfl rfl rfl rfl rfl ⟨rfl, rfl, rfl, rfl, rfl⟩ rfl rfl rfl rfl rfl (by kernel_rfl) Try.func8 (by kernel_rfl)
    (of_decide_eq_true (by kernel_rfl)) (by unfold Func.isWrapper; first | (rw [if_pos (by decide +kernel)]; kernel_rfl) | (rw [if_neg (by decide +kernel)]; exact ⟨rfl, rfl⟩))
    (fun os started H enc _ => lifted os started H enc)
end Go.Proofs.Ytfdabkcbefhdaaa.flashErases

namespace Go.Proofs.Ytfdabkcbefhdaaa
/-- The law returns true at every input. -/
theorem flashErases_holds : Rows.FlashErasesSaid := flashErases.over
end Go.Proofs.Ytfdabkcbefhdaaa

