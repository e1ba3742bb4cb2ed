/- What is kept back is there when it is released, however much was taken in between: the law cisternlaw09.AllocReserves returns true at every input. Condition: the table of math/bits is as the program's text lays it (tied). -/
import Derived.Test.YtfmhlkhalahoaaaDoorALift
import Derived.Test.YtfmhlkhalahoaaaDoorTie
import Derived.Test.YtfmhlkhalahoaaaDoorCards
import Derived.SevenTiedAt
namespace Go.Proofs.YtfmhlkhalahoaaaDoor.allocReserves
set_option maxRecDepth 20000
open Go.RowKit Go.ChangeShapes Go.WideShapes Go.ChangeAt

theorem own : ownKnob Tryd.prog.godebug = none := by kernel_rfl
theorem new0 {n : Nat} (h1 : 1 ≤ n) (h2 : n ≤ 4096) : (newA n [] 0).Ok ∧ (newA n [] 0).free = n ∧ (newA n [] 0).k = 0 :=
  ⟨(newA_ok h1 h2 (zs := []) (k := 0) (fun i hi => by omega)).1, by
    show n - cnt (fun _ => false) 4096 - cnt (fun _ => false) 4096 - 0 = n
    rw [cnt_void]; omega, rfl⟩
set_option maxHeartbeats 6400000 in
set_option maxRecDepth 400000 in
theorem walk (a0 : Int) (_ : (Lit.int .i64 a0).wf = true) (a1 : Int) (_ : (Lit.int .i64 a1).wf = true) (a2 : Int) (_ : (Lit.int .i64 a2).wf = true) (W : World) (hT : tabG W) :
    Calls Tryd.prog 7 #[.int .i64 a0, .int .i64 a1, .int .i64 a2] W fun e w' => e = .returned (.bool true) ∧ Below W.heap.size W w' := by
  obtain ⟨a, ha, ea⟩ := mod_form a0 60 (by decide) (by decide)
  obtain ⟨b, hb, eb⟩ := mod_form a1 (1 + (a : Int) + 1) (by omega) (by omega)
  obtain ⟨t, ht, et⟩ := mod_form a2 80 (by decide) (by decide)
  have hw : IntKind.u64.wrap (1 + (a : Int) + 1) = 1 + (a : Int) + 1 := by rw [IntKind.wrap_u64]; omega
  go_enter Tryd.func7, Tryd.ntmps7
  go_wp2_with fail
  refine (aknown_any hT).mono ?_
  rintro e wa ⟨rfl, ba⟩
  go_wp2_with fail
  obtain ⟨n, hn⟩ : ∃ n : Nat, (1 : Int) + (a : Int) = n := ⟨1 + a, by omega⟩
  rw [hn] at eb hb
  rw [hn, eb]
  have hn1 : 1 ≤ n := by omega
  have hn60 : n ≤ 60 := by omega
  have hbn : b ≤ n := by omega
  clear hn ha hb ea eb hw
  have hnew := new_any (ReadZ.nil wa) hn1 (by omega : n ≤ 4096)
  refine Calls.mono hnew ?_
  rintro e w1 h1
  rcases h1 with ⟨-, ⟨i, hi, -⟩, -⟩ | ⟨-, b1, ⟨-, hlt⟩ | ⟨ab, rfl, hab, x1, -⟩⟩
  · exact absurd hi (by simp)
  · exact absurd hlt (by simp)
  obtain ⟨ok1, fr1, kk1⟩ := new0 hn1 (by omega : n ≤ 4096)
  replace x1 : AlAt w1 ab (newA n [] 0) := x1
  have hab' : W.heap.size ≤ ab := Nat.le_trans ba.size hab
  have bw := ba.trans (b1.mono ba.size)
  generalize newA n [] 0 = A1 at x1 ok1 fr1 kk1
  have hr1 := reserve_ok x1 ok1 b (by omega)
  obtain ⟨ok2, fr2⟩ := ok1.keep (k := A1.k + b) (by omega)
  rw [kk1] at hr1 ok2 fr2
  rw [fr1] at fr2
  clear hnew b1 ba
  go_wp2_with fail
  refine Calls.mono hr1 ?_
  rintro e w2 ⟨rfl, x2, o2⟩
  have bw := bw.trans (o2.below hab' x1.lt)
  generalize hA2 : ({ A1 with k := 0 + b } : Al) = A2 at x2 ok2 fr2
  have hk2 : A2.k = b := by rw [← hA2]; simp
  clear hr1 o2 x1 ok1 fr1 kk1 hA2
  have hr2 := reserve_full x2 ok2 ((n : Int) - (b : Int) + 1) (by omega) (by omega)
  go_wp2_with fail
  refine Calls.mono hr2 ?_
  rintro e w3 ⟨rfl, b3⟩
  have x3 := x2.below b3
  have bw := bw.trans (b3.mono bw.size)
  have hr3 := reserve_bad (w := w3) (ab := ab) (-1) (by decide)
  clear hr2 b3 x2
  go_wp2_with fail
  refine Calls.mono hr3 ?_
  rintro e _ ⟨rfl, rfl⟩
  have hr4 := release_bad x3 ((b : Int) + 1) (.inr (by omega))
  clear hr3
  go_wp2_with fail
  refine Calls.mono hr4 ?_
  rintro e _ ⟨rfl, rfl⟩
  clear hr4
  have hfr0 : A2.free + 0 + b = n := by omega
  clear fr2
  go_wp2
  go_loopw [9, 10] (fun gv iv wr => ∃ (i g : Nat) (A : Al), i ≤ t ∧ g ≤ i ∧ iv = .int .i64 i ∧ gv = .int .i64 g ∧ AlAt wr ab A ∧ A.Ok ∧ A.free + g + b = n ∧ A.k = b ∧ Below W.heap.size W wr) (fun _ iv _ => t - (intOf iv).toNat)
  case atStart => exact ⟨0, 0, A2, Nat.zero_le _, Nat.le_refl _, rfl, rfl, x3, ok2, hfr0, hk2, bw⟩
  case round =>
    clear x3 ok2 hfr0 hk2 bw
    obtain ⟨i, g, A, hi, hg, rfl, rfl, xr, okr, hfr, hkr, bw⟩ := hrel
    by_cases hlt : i < t
    · have htk := take_any xr okr (hT.mono bw)
      go_wp2_with fail
      refine Calls.mono htk ?_
      rintro e w4 h4
      rcases h4 with ⟨hf, rfl, b4⟩ | ⟨c, hf, hc, hl, rfl, x4, o4⟩
      · have x4 := xr.below b4
        have bw4 := bw.trans (b4.mono bw.size)
        clear htk b4 xr bw
        go_wp2
        go_roundw
        case rel => exact ⟨i + 1, g, A, by omega, by omega, by go_num, rfl, x4, okr, hfr, hkr, bw4⟩
        case measure => simp [intOf]; omega
      · obtain ⟨ok4, fr4⟩ := okr.take hc hl hf
        have bw4 := bw.trans (o4.below hab' xr.lt)
        have hk4 : (A.take c).k = b := hkr
        have hf4 : (A.take c).free + (g + 1) + b = n := by omega
        clear htk o4 xr bw hl fr4 hc hf
        go_wp2
        go_roundw
        case rel => exact ⟨i + 1, g + 1, A.take c, by omega, by omega, by go_num, by go_num, x4, ok4, hf4, hk4, bw4⟩
        case measure => simp [intOf]; omega
    · have hfe : A.free = n - b - g := by omega
      have hgn : g ≤ n - b := by omega
      have hgi : ¬ ((n : Int) - (b : Int) < (g : Int)) := by omega
      have hfa := free_any xr okr
      rw [hfe] at hfa
      have hq1 : (((n - b - g : Nat) : Int) != (n : Int) - (b : Int) - (g : Int)) = false := by simp; omega
      obtain ⟨x, hx⟩ : ∃ x, n - b - g = x := ⟨_, rfl⟩
      rw [hx] at hfa hq1
      clear hx
      go_wp2_with fail
      refine Calls.mono hfa ?_
      rintro e w5 ⟨rfl, b5⟩
      have x5 := xr.below b5
      have bw5 := bw.trans (b5.mono bw.size)
      have hre := release_ok x5 okr b (by omega)
      obtain ⟨ok6, fr6⟩ := okr.keep (k := A.k - b) (by omega)
      clear hfa b5 xr bw
      go_wp2_with fail
      refine Calls.mono hre ?_
      rintro e w6 ⟨rfl, x6, o6⟩
      have bw6 := bw5.trans (o6.below hab' x5.lt)
      have fr6' : Al.free { A with k := A.k - b } = n - g := by omega
      generalize ({ A with k := A.k - b } : Al) = A6 at x6 ok6 fr6'
      have hfa := free_any x6 ok6
      rw [fr6'] at hfa
      have hq2 : (((n - g : Nat) : Int) != (n : Int) - (g : Int)) = false := by simp; omega
      obtain ⟨y, hy⟩ : ∃ y, n - g = y := ⟨_, rfl⟩
      rw [hy] at hfa hq2
      have HY := Lib.hid hy
      have HF6 := Lib.hid fr6'
      clear hy hre o6 x5 bw5 fr6 fr6' hfe
      go_wp2_with fail
      refine Calls.mono hfa ?_
      rintro e w7 ⟨rfl, b7⟩
      have x7 := x6.below b7
      have bw7 := bw6.trans (b7.mono bw6.size)
      have hf7 : A6.free + 0 = n - g := HF6.out
      have hgb : b ≤ n - g := by omega
      clear hfa b7 x6 bw6
      go_wp2
      go_loopw [13] (fun iv wr => ∃ (j : Nat) (A : Al), j ≤ b ∧ iv = .int .i64 j ∧ AlAt wr ab A ∧ A.Ok ∧ A.free + j = n - g ∧ Below W.heap.size W wr) (fun iv _ => b - (intOf iv).toNat)
      case atStart => exact ⟨0, A6, Nat.zero_le _, rfl, x7, ok6, hf7, bw7⟩
      case round =>
        clear x7 ok6 hf7 bw7
        obtain ⟨j, A', hj, rfl, xj, okj, hfj, bj⟩ := hrel
        by_cases hjb : j < b
        · have htk := take_any xj okj (hT.mono bj)
          go_wp2_with fail
          refine Calls.mono htk ?_
          rintro e w8 h8
          rcases h8 with ⟨hf, -⟩ | ⟨c, hf, hc, hl, rfl, x8, o8⟩
          · omega
          · obtain ⟨ok8, fr8⟩ := okj.take hc hl hf
            have bw8 := bj.trans (o8.below hab' xj.lt)
            have hf8 : (A'.take c).free + (j + 1) = n - g := by omega
            clear htk o8 xj bj hl fr8 hc hf
            go_wp2
            go_roundw
            case rel => exact ⟨j + 1, A'.take c, by omega, by go_num, x8, ok8, hf8, bw8⟩
            case measure => simp [intOf]; omega
        · clear xj
          go_wp2
          go_ret
          exact ⟨rfl, bj⟩

/-! ### the row -/
theorem laidOut : laidOutB Tryd.prog = true := by kernel_rfl
theorem bytesInt : Tryd.prog.bytesOf 3 = 8 := by kernel_rfl
set_option maxRecDepth 100000 in
theorem lifted (os : Os) (started : os.Started) (H : Type) (enc : TypeId × Value → H) :
    ReturnsInHanded {} Tryd.checked os 7 .any (fun w args => (Rows.allocReservesSpec.pre enc Tryd.prog Tryd.f7 [] false w args ∧ laidMetH Tryd.prog laidL w) ∧ sizedMet enc Tryd.prog Tryd.f7 (OpenSpec.ofChange Rows.allocReservesSpec) false w args) (Rows.allocReservesSpec.post enc Tryd.prog Tryd.f7 false true false false) := by
  refine returnsInHanded_of_change_and (C := Tryd.checked) (X := fun w _ => laidMetH Tryd.prog laidL w) (fun _ _ _ hh h => h.of_heap hh) own started (by kernel_rfl) Tryd.func7
    (ChangeSpec.witness_shaped (enc := enc) (C := Tryd.checked) (os := os) (X := fun w _ => laidMetH Tryd.prog laidL w) false (World.doorLaid Tryd.prog 14 os) #[.int .i64 0, .int .i64 0, .int .i64 0] 8 rfl (World.shaped_of_RefB (by kernel_rfl) (by kernel_rfl)) (by kernel_rfl) (by kernel_rfl) (by kernel_rfl) (door_met os _)) ?_
  intro W base args ds gs before hval0 hW hcnd hsz0 hL _
  have hval : ∀ (j : Nat) t v, Tryd.f7.params[j]? = some t → args[j]? = some v → Value.okWide Tryd.prog W .any base t v := hval0
  have hW' := hW
  obtain ⟨p, q, hA0, hV, rfl, hfz, hnd⟩ := hW
  have hA : DataW.TrodAll enc Tryd.prog W 0 (fun _ => true) true Tryd.f7.params.toList args.toList ds p := hA0
  have hsz : (DataW.weightsEach Tryd.prog (Tryd.f7.params.toList ++ Rows.allocReservesSpec.plain.varTypes Tryd.prog) (ds ++ gs)).all (· ≤ reachBytes) = true := hsz0
  rw [Tryd.params7] at hA hval hsz
  obtain ⟨v0, vs0, d0, ds0, p0, q0, hargs, rfl, rfl, h0, r0⟩ := trodAll_cons hA
  obtain ⟨v1, vs1, d1, ds1, p1, q1, rfl, rfl, rfl, h1, r1⟩ := trodAll_cons r0
  obtain ⟨v2, vs2, d2, ds2, p2, q2, rfl, rfl, rfl, h2, r2⟩ := trodAll_cons r1
  obtain ⟨rfl, rfl, rfl⟩ := trodAll_nil r2
  obtain rfl : args = #[v0, v1, v2] := by cases args; simp_all
  obtain ⟨rfl, rfl⟩ := trodVars_none hV
  obtain ⟨a0, rfl, rfl, rfl, w0⟩ := open_int Tryd.underlying3 (hval 0 3 v0 rfl rfl) h0
  obtain ⟨a1, rfl, rfl, rfl, w1⟩ := open_int Tryd.underlying3 (hval 1 3 v1 rfl rfl) h1
  obtain ⟨a2, rfl, rfl, rfl, w2⟩ := open_int Tryd.underlying3 (hval 2 3 v2 rfl rfl) h2
  clear hA0 hval0 hsz0
  refine (walk a0 w0 a1 w1 a2 w2 W  (tab_of_laid hL)).mono fun e W' ⟨he, bel⟩ => ?_
  subst he
  exact ⟨_, rfl, _, _, _, [], _, [], hW', trodAll_mk1 (shut_bool Tryd.underlying4 _), (trodAll_cons_mk (shut_int Tryd.underlying3 w0) (trodAll_cons_mk (shut_int Tryd.underlying3 w1) (trodAll_cons_mk (shut_int Tryd.underlying3 w2) trodAll_mk0))), rfl, bel.frame _, fun h => by cases h⟩

theorem over : Rows.allocReservesRow.holds Tryd.pinned (OpenSpec.ofChange Rows.allocReservesSpec) :=
  OpenClaim.holds_of_wide 7 Tryd.f7 rfl rfl rfl rfl rfl rfl rfl ⟨rfl, rfl, rfl, rfl, rfl⟩ rfl rfl rfl rfl rfl (by kernel_rfl) Tryd.func7 (by kernel_rfl)
    (of_decide_eq_true (by kernel_rfl)) (by unfold Func.isWrapper; first | (rw [if_pos (by decide +kernel)]; kernel_rfl) | (rw [if_neg (by decide +kernel)]; exact ⟨rfl, rfl⟩))
    (fun os started H enc _ => lifted os started H enc)
end Go.Proofs.YtfmhlkhalahoaaaDoor.allocReserves

namespace Go.Proofs.YtfmhlkhalahoaaaDoor
/-- The law returns true at every input at which the table of math/bits is as the program's text lays it; that tie is part of the card. -/
theorem allocReserves_holds : Rows.AllocReservesCardSaid :=
  Claim7.holds_tied_plain_at .later [] [.data] true Rows.allocReservesCard.stood.harness false
    allocReserves.over (fun _ h => by cases h) (by kernel_rfl) (fun _ h => by cases h) allocReserves_row_tie rfl ⟨rfl, rfl⟩ (by kernel_rfl) rfl
    (fun f fn hf hfn => by
      obtain rfl : f = 7 := Option.some.inj ((show Tryd.prog.funcNamed "cistern/cisternlaw09.AllocReserves" = some 7 by kernel_rfl).symm.trans hf) |>.symm
      obtain rfl : fn = Tryd.f7 := (Option.some.inj (Tryd.func7.symm.trans hfn)).symm
      exact ⟨by kernel_rfl, fun j t ht => by
        rw [Tryd.params7] at ht
        have hm : t ∈ [3, 3, 3] := by simpa using Array.mem_of_getElem? ht
        have hall : ([3, 3, 3].all fun u => !Tryd.prog.wantsStandIn u) = true := by kernel_rfl
        exact (show Tryd.prog.wantsStandIn t = false by simpa using List.all_eq_true.1 hall t hm)⟩)
    (by kernel_rfl)
end Go.Proofs.YtfmhlkhalahoaaaDoor

