/- Each call that isn't refused ahead takes one outcome; what fails is told by ErrRemote, and as many as were scripted to fail do: the law cisternlaw02.BlobOutcomes returns true at every input. No condition. -/
import Derived.Test.YtmoinigkpcfjcaaBKnown
import Derived.Test.YtmoinigkpcfjcaaBList
import Derived.Test.YtmoinigkpcfjcaaArgs
namespace Go.Proofs.Ytmoinigkpcfjcaa.blobOutcomes
open Go.RowKit Go.ChangeShapes Go.WideShapes Go.ChangeAt

theorem own : ownKnob Try.prog.godebug = none := by kernel_rfl
theorem now_of {X : Nat → Prop} {w : World} {v : Value} {zs : List Int} (h : OutsIs X w v zs) (hr : ∀ z ∈ zs, -9223372036854775808 ≤ z ∧ z ≤ 9223372036854775807) : IntsNow w v zs := by
  obtain ⟨ao, cap, hv, h1, h2, h3⟩ := h
  refine ⟨ao, cap, hv, hr, fun h0 => ?_⟩
  rcases h3 with ⟨_, rfl⟩ | ⟨b, off, cs, rfl, _, hh, _, hat⟩
  · omega
  · exact ⟨b, off, rfl, fun i hi => cell_row hh _ (hat i hi)⟩
theorem ints_copy (w : World) {v : Value} {zs : List Int} (hz : IntsNow w v zs) (hl : zs.length ≤ 60) (ty : TypeId) : ∃ v' w', (Builtin.append_ #[28, 28] ty #[.slice (some ⟨w.heap.size, 0, none⟩) 0 0, v]).run Try.prog (w.alloc (.cells #[] 3)) = .ok v' w' ∧ IntsNow w' v' zs ∧ Below w.heap.size w w' := by
  have h0 : OutsIs (fun k => k < w.heap.size) (w.alloc (.cells #[] 3)) (.slice (some ⟨w.heap.size, 0, none⟩) 0 0) [] := ⟨_, 0, rfl, Nat.le_refl _, by simp [maxLen], Or.inr ⟨w.heap.size, 0, _, rfl, by simp, heap_alloc_new w _, by simp, fun i hi => by simp at hi⟩⟩
  have hz' : IntsNow (w.alloc (.cells #[] 3)) v zs := by
    obtain ⟨ao, cap, hv, hr, hc⟩ := hz
    refine ⟨ao, cap, hv, hr, fun h => ?_⟩
    obtain ⟨b, off, e, hat⟩ := hc h
    exact ⟨b, off, e, fun i hi => box_old _ (hat i hi)⟩
  obtain ⟨v', w', hrun, ho, hk, -, -⟩ := outs_append h0 (fun k hk => by simp; omega) hz' (by simp; omega) ty
  obtain ⟨_, _, _, hr, _⟩ := hz
  exact ⟨v', w', hrun, now_of (by simpa using ho) hr, ((below_alloc w _)).trans (hk.below (by simp) (fun k hk => hk))⟩
theorem rest_iff (z : Int) : rest3 z = 0 ↔ z.tmod 3 = 0 := by
  have h1 := Int.tmod_lt_of_pos z (b := 3) (by decide)
  have h2 := Int.lt_tmod_of_pos z (b := 3) (by decide)
  unfold rest3
  rw [Int.tmod_eq_emod_of_nonneg (show 0 ≤ z.tmod 3 + 3 by omega)]
  omega
section
variable {bl : List UInt8 → Option (List UInt8)} {os : List Int} {c : Nat}
theorem putA : (⟨bl, 0, ByteArray.empty, os, c⟩ : Sto).putE (ByteArray.mk #[65]) [] = 6 ∧ (⟨bl, 0, ByteArray.empty, os, c⟩ : Sto).put (ByteArray.mk #[65]) [] = ⟨bl, 0, ByteArray.empty, os, c⟩ := ⟨rfl, rfl⟩
theorem delA : (⟨bl, 0, ByteArray.empty, os, c⟩ : Sto).delE (ByteArray.mk #[]) = 6 ∧ (⟨bl, 0, ByteArray.empty, os, c⟩ : Sto).del (ByteArray.mk #[]) = ⟨bl, 0, ByteArray.empty, os, c⟩ := ⟨rfl, rfl⟩
end

set_option maxRecDepth 20000 in
set_option maxHeartbeats 1600000 in
theorem walk (v0 : Value) (z0 : List Int) (W : World) (w0 : IntsArg W v0 z0) :
    Calls Try.prog 8 #[v0] W fun e w' => e = .returned (.bool true) ∧ Below W.heap.size W w' := by
  obtain ⟨ao, cap, rfl, hlen, hao⟩ := w0.1.form
  obtain ⟨n, hn, hnl⟩ : ∃ n : Nat, n ≤ 60 ∧ n = min z0.length 60 := ⟨min z0.length 60, Nat.min_le_right _ _, rfl⟩
  have hnz : n ≤ z0.length := by omega
  have hcapl : z0.length ≤ cap := w0.2.2.2 _ _ _ rfl
  have hncap : (n : Int) ≤ (cap : Int) := by omega
  have hmin : min (z0.length : Int) 60 = (n : Int) := by omega
  have hargs : ∀ w', Below W.heap.size W w' → IntsNow w' (.slice ao n cap) (z0.take n) := fun w' hb => by
    have hl : (z0.take n).length = n := by rw [List.length_take]; omega
    refine ⟨ao, cap, by rw [hl], fun z hz => w0.2.1 z (List.mem_of_mem_take hz), fun h0 => ?_⟩
    rw [hl] at h0 ⊢
    obtain ⟨b, off, e, -⟩ := w0.1.at hb (show 0 < z0.length by omega)
    subst e
    refine ⟨b, off, rfl, fun i hi => ?_⟩
    obtain ⟨b', off', e', h⟩ := w0.1.at hb (show i < z0.length by omega)
    cases e'
    rw [h]
    simp [List.getD_eq_getElem?_getD, List.getElem?_take, hi]
  obtain ⟨zs, hzs⟩ : ∃ zs, z0.take n = zs := ⟨_, rfl⟩
  have hzl : zs.length = n := by rw [← hzs, List.length_take]; omega
  rw [hzs] at hargs
  have hzr : ∀ z ∈ zs, -9223372036854775808 ≤ z ∧ z ≤ 9223372036854775807 := fun z hz => w0.2.1 z (List.mem_of_mem_take (by rw [hzs]; exact hz))
  have HARGS := Lib.hid hargs
  clear hargs hzs w0 hnl
  go_enter Try.func8, Try.ntmps8
  go_wp2_with fail
  refine (known_any W).mono ?_
  rintro e wa ⟨rfl, ba⟩
  go_wp2_with fail
  refine (new_any wa).mono ?_
  rintro e wb ⟨rfl, hb, bb⟩
  have bc : Below W.heap.size W wb := ba.trans (bb.mono ba.size)
  replace hb := hb.less (X' := fun k => k < W.heap.size) (fun k hk => Nat.lt_of_lt_of_le hk ba.size)
  obtain ⟨v2, w2, hrun2, hi2, bl2⟩ := ints_copy wb (HARGS.out wb bc) (by omega) 28
  have RUN2 := Lib.hid hrun2
  clear hrun2 ba bb
  go_wp2_with (with_reducible refine wpList_append_eq rfl (.tmp 18) (.tmp 19) 28 rfl (.slice (some ⟨wb.heap.size, 0, none⟩) 0 0) (.slice ao n cap) v2 rfl rfl RUN2.out ?_)
  all_goals
    have bd : Below W.heap.size W w2 := bc.trans (bl2.mono bc.size)
    refine (script_any (hb.below bl2) hi2 (by show (0 + zs.length) * 8 ≤ _; omega)).mono ?_
    rintro e w3 ⟨rfl, h3, kp3⟩
    replace h3 : StoAt (fun k => k < W.heap.size) w3 wa.heap.size ⟨fun _ => none, 0, ByteArray.empty, zs, 0⟩ 0 := h3
    have b3 := below_step bd (Below.refl _ _) kp3 bd.size (fun k hk => hk)
    clear hb bl2 hi2 kp3 bd bc RUN2
    have hp := put_any h3 (by show (0 : Nat) < _; decide) (by decide) (ByteArray.mk #[65]) (by decide) (bytesIn_nil _ _)
    rw [putA.1, putA.2] at hp
    go_wp2_with fail
    refine hp.mono ?_
    rintro e w4 ⟨rfl, h4, kp4⟩
    have b4 := below_step b3 (Below.refl _ _) kp4 b3.size (fun k hk => hk)
    clear hp h3 kp4 b3
    have hp := delete_any h4 (by show (0 : Nat) < _; decide) (ByteArray.mk #[]) (by decide)
    rw [delA.1, delA.2] at hp
    go_wp2_with fail
    refine hp.mono ?_
    rintro e w5 ⟨rfl, h5, kp5⟩
    have b5 := below_step b4 (Below.refl _ _) kp5 b4.size (fun k hk => hk)
    clear hp h4 kp5 b4
    go_wp2_with fail
    refine (calls_any h5).mono ?_
    rintro e w6 ⟨rfl, rfl⟩
    go_wp2
    go_loopw [4] (fun iv wr => ∃ k : Nat, k ≤ n ∧ iv = .int .i64 k ∧ StoAt (fun k => k < W.heap.size) wr wa.heap.size ⟨fun _ => none, 0, ByteArray.empty, zs.drop k, k⟩ (0 + 1) ∧ Below W.heap.size W wr) (fun iv _ => n - (intOf iv).toNat)
    case atStart => exact ⟨0, Nat.zero_le _, rfl, h5, b5⟩
    case round =>
      clear h5 b5
      obtain ⟨k, hk, rfl, hs, bk⟩ := hrel
      by_cases hlt : k < n
      · obtain ⟨z, hz⟩ : ∃ z, zs[k]? = some z := ⟨_, List.getElem?_eq_getElem (by omega)⟩
        have hdr : zs.drop k = z :: zs.drop (k + 1) := by
          obtain ⟨h1, h2⟩ := List.getElem?_eq_some_iff.1 hz
          rw [List.drop_eq_getElem_cons h1, h2]
        have hzg : zs.getD k 0 = z := by rw [List.getD_eq_getElem?_getD, hz]; rfl
        rw [hdr] at hs
        have hrg := hzr z (List.mem_of_getElem? hz)
        clear hdr hz
        have hli := list_any hs (by show k < _; omega) (by decide)
        go_wp2_with fail
        refine hli.mono ?_
        rintro e w7 ⟨v7, rfl, h7, kp7⟩
        replace h7 : StoAt (fun k => k < W.heap.size) w7 wa.heap.size ⟨fun _ => none, 0, ByteArray.empty, zs.drop (k + 1), k + 1⟩ (0 + 1) := h7
        have b7 := below_step bk (Below.refl _ _) kp7 bk.size (fun k hk => hk)
        clear hli hs kp7 bk
        obtain ⟨ao', cap', ev, -, hcl⟩ := HARGS.out w7 b7
        obtain ⟨b, off, rfl, hat⟩ := hcl (by omega)
        cases ev
        have hcell := hat k (by omega)
        rw [hzg] at hcell
        clear hat hcl hzg
        by_cases hq : z.tmod 3 = 0
        · have hE : (⟨fun _ => none, 0, ByteArray.empty, z :: zs.drop (k + 1), k⟩ : Sto).listE = 0 := if_pos ((rest_iff z).2 hq)
          rw [hE]
          clear hE
          go_wp2_with fail
          refine (calls_any h7).mono ?_
          rintro e w8 ⟨rfl, rfl⟩
          go_wp2
          go_roundw
          case rel => exact ⟨k + 1, by omega, by go_num, h7, b7⟩
          case measure => simp [intOf]; omega
        · have hE : (⟨fun _ => none, 0, ByteArray.empty, z :: zs.drop (k + 1), k⟩ : Sto).listE = 15 := if_neg (fun e => hq ((rest_iff z).1 e))
          have hb : (z.tmod 3 != 0) = true := by simp [hq]
          rw [hE]
          clear hE hq
          go_wp2_with fail
          refine (calls_any h7).mono ?_
          rintro e w8 ⟨rfl, rfl⟩
          go_wp2
          go_roundw
          case rel => exact ⟨k + 1, by omega, by go_num, h7, b7⟩
          case measure => simp [intOf]; omega
      · obtain rfl : k = n := by omega
        rw [List.drop_of_length_le (by omega)] at hs
        have hli := list_any hs (by show k < _; omega) (by decide)
        go_wp2_with fail
        refine hli.mono ?_
        rintro e w7 ⟨v7, rfl, h7, kp7⟩
        have b7 := below_step bk (Below.refl _ _) kp7 bk.size (fun k hk => hk)
        rw [show (⟨fun _ => none, 0, ByteArray.empty, [], k⟩ : Sto).listE = 0 from rfl]
        clear hli hs h7 kp7 bk
        go_wp2
        go_ret
        exact ⟨rfl, b7⟩

/-! ### the row -/
theorem laidOut : laidOutB Try.prog = true := by kernel_rfl
theorem bytesInt : Try.prog.bytesOf 3 = 8 := by kernel_rfl
set_option maxRecDepth 100000 in
theorem lifted (os : Os) (started : os.Started) (H : Type) (enc : TypeId × Value → H) :
    ReturnsInHanded {} Try.checked os 8 .any (Rows.blobOutcomesSpec.pre6 enc Try.prog Try.f8 Rows.blobOutcomesRow.domain false) (Rows.blobOutcomesSpec.post enc Try.prog Try.f8 false true false false) := by
  refine returnsInHanded_of_change_sized (C := Try.checked) own started (by kernel_rfl) Try.func8
    (ChangeSpec.witness6 (enc := enc) (C := Try.checked) false ⟨#[], #[.slice none 0 0], []⟩ 8 (by kernel_rfl) (by kernel_rfl) (by kernel_rfl) (by kernel_rfl)) ?_
  intro W base args ds gs before hval0 hW hcnd hsz0 _
  have hval : ∀ (j : Nat) t v, Try.f8.params[j]? = some t → args[j]? = some v → Value.okWide Try.prog W .any base t v := hval0
  have hW' := hW
  obtain ⟨p, q, hA0, hV, rfl, hfz, hnd⟩ := hW
  have hA : DataW.TrodAll enc Try.prog W 0 (fun _ => true) true Try.f8.params.toList args.toList ds p := hA0
  have hsz : (DataW.weightsEach Try.prog (Try.f8.params.toList ++ Rows.blobOutcomesSpec.plain.varTypes Try.prog) (ds ++ gs)).all (· ≤ reachBytes) = true := hsz0
  rw [Try.params8] at hA hval hsz
  obtain ⟨v0, vs0, d0, ds0, p0, q0, hargs, rfl, rfl, h0, r0⟩ := trodAll_cons hA
  obtain ⟨rfl, rfl, rfl⟩ := trodAll_nil r0
  obtain rfl : args = #[v0] := by cases args; simp_all
  obtain ⟨rfl, rfl⟩ := trodVars_none hV
  have k0 := h0
  have lt0 := args_lt k0
  obtain ⟨z0, w0⟩ := ints_arg Try.underlying28 Try.underlying3 (by kernel_rfl) (hval 0 28 v0 rfl rfl) (fun el sp e => by subst e; have := sized_slice hsz (j := 0) (t := 28) (e := 3) rfl rfl Try.underlying28; rwa [bytesInt] at this) h0
  clear hA0 hval0 hsz0
  refine (walk v0 z0 W w0).mono fun e W' ⟨he, bel⟩ => ?_
  subst he
  exact ⟨_, rfl, _, _, _, [], _, [], hW', trodAll_mk1 (shut_bool Try.underlying4 _), (trodAll_cons_mk (Below.trod laidOut (by kernel_rfl) (of_decide_eq_true (by kernel_rfl)) k0 bel lt0) trodAll_mk0), rfl, bel.frame _, fun h => by cases h⟩

theorem over : Rows.blobOutcomesRow.holds Try.pinned (OpenSpec.ofChange Rows.blobOutcomesSpec) :=
  OpenClaim.holds_of_wide 8 Try.f8 rfl rfl rfl rfl rfl rfl rfl ⟨rfl, rfl, rfl, rfl, rfl⟩ rfl rfl rfl rfl rfl (by kernel_rfl) Try.func8 (by kernel_rfl)
    (of_decide_eq_true (by kernel_rfl)) (by unfold Func.isWrapper; first | (rw [if_pos (by decide +kernel)]; kernel_rfl) | (rw [if_neg (by decide +kernel)]; exact ⟨rfl, rfl⟩))
    (fun os started H enc _ => lifted os started H enc)
end Go.Proofs.Ytmoinigkpcfjcaa.blobOutcomes

namespace Go.Proofs.Ytmoinigkpcfjcaa
/-- The law returns true at every input. -/
theorem blobOutcomes_holds : Rows.BlobOutcomesSaid := blobOutcomes.over
end Go.Proofs.Ytmoinigkpcfjcaa

