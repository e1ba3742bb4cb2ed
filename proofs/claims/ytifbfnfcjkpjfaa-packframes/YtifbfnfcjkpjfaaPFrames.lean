/- For all arguments pack's Frame and Unframe answer what the document says; what is framed is unframed: the law cisternlaw03.PackFrames returns true at every input. No condition. -/
import Derived.Test.YtifbfnfcjkpjfaaPRef2
namespace Go.Proofs.Ytifbfnfcjkpjfaa.packFrames
open Go.RowKit Go.ChangeShapes Go.WideShapes Go.ChangeAt

theorem own : ownKnob Try.prog.godebug = none := by kernel_rfl
theorem frame_zero {bs : List UInt8} {size : Int} (h : frameE bs.length size = 0) : unE (frameR bs size) = 0 ∧ unR (frameR bs size) = bs := by
  have hr : frameR bs size = frameB bs size := by unfold frameR; rw [if_pos h]
  unfold frameE at h
  split at h
  · cases h
  · split at h
    · cases h
    · obtain ⟨S, rfl⟩ := Int.eq_ofNat_of_zero_le (show 0 ≤ size by omega)
      rw [hr]; exact unframe_frame bs S (by omega) (by omega)
set_option maxRecDepth 20000 in
set_option maxHeartbeats 3200000 in
theorem walk (v : Value) (bs : List UInt8) (size : Int) (wn : (Lit.int .i64 size).wf = true) (W : World) (hv : BytesArg W v bs) :
    Calls Try.prog 7 #[v, .int .i64 size] W fun e w' => e = .returned (.bool true) ∧ Below W.heap.size W w' := by
  obtain ⟨hb, hcap, hlen⟩ := hv
  have _ := wn
  clear wn
  obtain ⟨ao, m, cap, hvf, hm⟩ : ∃ ao m cap, v = .slice ao m cap ∧ Hid (m = bs.length) := by
    obtain ⟨ao, cap, hv, _⟩ := hb
    exact ⟨ao, _, cap, hv, Lib.hid rfl⟩
  subst hvf
  go_enter Try.func7, Try.ntmps7
  go_wp2_with fail
  refine (known_any _).mono ?_
  rintro e w1 ⟨rfl, b1⟩
  have s1 := run_string_c (hb.below b1)
  have hf := docFrame_any bs (by omega) size w1
  go_wp2_with fail
  refine hf.mono ?_
  rintro e w2 ⟨rfl, b2⟩
  have bb2 := b1.trans (b2.mono b1.size)
  have hg := frame_any (hb.below bb2) size
  clear hf s1
  go_wp2_with fail
  refine hg.mono ?_
  rintro e w3 ⟨yv, rfl, h3, b3⟩
  have bb3 := bb2.trans (b3.mono bb2.size)
  have s3 := run_string_c (hb.below bb3)
  have hu := docUnframe_any bs (by omega) w3
  obtain ⟨ao3, m3, cap3, hv3, hm3⟩ := h3.form'
  subst hv3
  clear hg
  go_wp2_with fail
  refine hu.mono ?_
  rintro e _ ⟨rfl, rfl⟩
  have hw := unframe_any (hb.below bb3) hcap
  clear hu s3
  go_wp2_with fail
  refine hw.mono ?_
  rintro e w4 ⟨wv, rfl, h4, b4⟩
  have bb4 := bb3.trans (b4.mono bb3.size)
  have A3 := h3.at.below b4
  have c3 := run_string_c A3
  have c4 := run_string h4
  have hcap3 := h3.cap
  obtain ⟨ao4, m4, cap4, hv4, hm4⟩ := h4.form'
  subst hv4
  clear hw h3 h4 b1 b2 b3 b4
  by_cases hz : frameE bs.length size = 0
  · have hfz := frame_zero hz
    have hx := unframe_any A3 hcap3
    rw [hfz.1, hfz.2] at hx
    rw [hz]
    clear hz hfz
    go_wp2_with fail
    refine hx.mono ?_
    rintro e w5 ⟨kv, rfl, h5, b5⟩
    have bb5 := bb4.trans (b5.mono bb4.size)
    have c5 := run_string h5
    have cb := run_string_c (hb.below bb5)
    obtain ⟨ao5, m5, cap5, hv5, hm5⟩ := h5.form'
    subst hv5
    clear hx h5 b5 c3 c4 A3
    go_wp2
    go_ret
    exact ⟨rfl, bb5⟩
  · have hz' : (frameE bs.length size != 0) = true := by simpa using hz
    clear hz
    go_wp2
    go_ret
    exact ⟨rfl, bb4⟩

/-! ### the row -/
theorem laidOut : laidOutB Try.prog = true := by kernel_rfl
theorem bytesInt : Try.prog.bytesOf 3 = 8 := by kernel_rfl
set_option maxRecDepth 100000 in
theorem lifted (os : Os) (started : os.Started) (H : Type) (enc : TypeId × Value → H) :
    ReturnsInHanded {} Try.checked os 7 .any (Rows.packFramesSpec.pre6 enc Try.prog Try.f7 Rows.packFramesRow.domain false) (Rows.packFramesSpec.post enc Try.prog Try.f7 false true false false) := by
  refine returnsInHanded_of_change_sized (C := Try.checked) own started (by kernel_rfl) Try.func7
    (ChangeSpec.witness6 (enc := enc) (C := Try.checked) false ⟨#[], #[.slice none 0 0, .int .i64 0], []⟩ 8 (by kernel_rfl) (by kernel_rfl) (by kernel_rfl) (by kernel_rfl)) ?_
  intro W base args ds gs before hval0 hW hcnd hsz0 _
  have hval : ∀ (j : Nat) t v, Try.f7.params[j]? = some t → args[j]? = some v → Value.okWide Try.prog W .any base t v := hval0
  have hW' := hW
  obtain ⟨p, q, hA0, hV, rfl, hfz, hnd⟩ := hW
  have hA : DataW.TrodAll enc Try.prog W 0 (fun _ => true) true Try.f7.params.toList args.toList ds p := hA0
  have hsz : (DataW.weightsEach Try.prog (Try.f7.params.toList ++ Rows.packFramesSpec.plain.varTypes Try.prog) (ds ++ gs)).all (· ≤ reachBytes) = true := hsz0
  rw [Try.params7] at hA hval hsz
  obtain ⟨v0, vs0, d0, ds0, p0, q0, hargs, rfl, rfl, h0, r0⟩ := trodAll_cons hA
  obtain ⟨v1, vs1, d1, ds1, p1, q1, rfl, rfl, rfl, h1, r1⟩ := trodAll_cons r0
  obtain ⟨rfl, rfl, rfl⟩ := trodAll_nil r1
  obtain rfl : args = #[v0, v1] := by cases args; simp_all
  obtain ⟨rfl, rfl⟩ := trodVars_none hV
  have k0 := h0
  have lt0 := args_lt k0
  obtain ⟨z0, w0⟩ := bytes_arg Try.underlying23 Try.underlying5 (by kernel_rfl) (hval 0 23 v0 rfl rfl) (fun el sp e => by subst e; have := sized_slice hsz (j := 0) (t := 23) (e := 5) rfl rfl Try.underlying23; rwa [bytesU8] at this) h0
  obtain ⟨a1, rfl, rfl, rfl, w1⟩ := open_int Try.underlying3 (hval 1 3 v1 rfl rfl) h1
  clear hA0 hval0 hsz0
  refine (walk v0 z0 a1 w1 W w0).mono fun e W' ⟨he, bel⟩ => ?_
  subst he
  exact ⟨_, rfl, _, _, _, [], _, [], hW', trodAll_mk1 (shut_bool Try.underlying4 _), (trodAll_cons_mk (Below.trod laidOut (by kernel_rfl) (of_decide_eq_true (by kernel_rfl)) k0 bel lt0) (trodAll_cons_mk (shut_int Try.underlying3 w1) trodAll_mk0)), rfl, bel.frame _, fun h => by cases h⟩

theorem over : Rows.packFramesRow.holds Try.pinned (OpenSpec.ofChange Rows.packFramesSpec) :=
  OpenClaim.holds_of_wide 7 Try.f7 rfl rfl rfl rfl rfl rfl rfl ⟨rfl, rfl, rfl, rfl, rfl⟩ rfl rfl rfl rfl rfl (by kernel_rfl) Try.func7 (by kernel_rfl)
    (of_decide_eq_true (by kernel_rfl)) (by unfold Func.isWrapper; first | (rw [if_pos (by decide +kernel)]; kernel_rfl) | (rw [if_neg (by decide +kernel)]; exact ⟨rfl, rfl⟩))
    (fun os started H enc _ => lifted os started H enc)
end Go.Proofs.Ytifbfnfcjkpjfaa.packFrames

namespace Go.Proofs.Ytifbfnfcjkpjfaa
/-- The law returns true at every input. -/
theorem packFrames_holds : Rows.PackFramesSaid := packFrames.over
end Go.Proofs.Ytifbfnfcjkpjfaa

