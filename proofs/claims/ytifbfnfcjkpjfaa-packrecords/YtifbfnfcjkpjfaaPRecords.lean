/- For all arguments pack's Encode and Decode answer what the document says: the law cisternlaw03.PackRecords returns true at every input. No condition. -/
import Derived.Test.YtifbfnfcjkpjfaaPRefDec
import Derived.Test.YtifbfnfcjkpjfaaPIArgs
import Derived.Test.YtifbfnfcjkpjfaaPSteps
namespace Go.Proofs.Ytifbfnfcjkpjfaa.packRecords
open Go.RowKit Go.ChangeShapes Go.WideShapes Go.ChangeAt

theorem own : ownKnob Try.prog.godebug = none := by kernel_rfl
theorem decR_ok (bs : List UInt8) : ∀ x ∈ decR bs, x.ok := by
  unfold decR
  cases h : decO bs with
  | none => simp
  | some l => exact (encode_decode h).2.2
set_option maxRecDepth 20000 in
set_option maxHeartbeats 3200000 in
theorem walk (v : Value) (l : List It) (b : Value) (bs : List UInt8) (W : World) (hl : ItemsArg W v l) (hbs : BytesArg W b bs) :
    Calls Try.prog 3 #[v, b] W fun e w' => e = .returned (.bool true) ∧ Below W.heap.size W w' := by
  obtain ⟨il, -⟩ := hl
  obtain ⟨hb, hcap, hlen⟩ := hbs
  obtain ⟨ao, lm, cap, hv, hlm⟩ : ∃ ao n cap, v = .slice ao n cap ∧ Hid (n = l.length) := by
    obtain ⟨ao, cap, hv, _⟩ := il
    exact ⟨ao, _, cap, hv, Lib.hid rfl⟩
  obtain ⟨co, cm, cap3, hcv, hcm⟩ : ∃ ao n cap, b = .slice ao n cap ∧ Hid (n = bs.length) := by
    obtain ⟨ao, cap, hv, _⟩ := hb
    exact ⟨ao, _, cap, hv, Lib.hid rfl⟩
  subst hv
  subst hcv
  go_enter Try.func3, Try.ntmps3
  go_wp2_with fail
  refine (known_any _).mono ?_
  rintro e w1 ⟨rfl, b1⟩
  have hx := docEncode_any ((il.below b1).more b1.size)
  go_wp2_with fail
  refine hx.mono ?_
  rintro e w2 ⟨rfl, b2⟩
  have bb2 := b1.trans (b2.mono b1.size)
  have hy := encode_any ((il.below bb2).more bb2.size)
  clear hx
  go_wp2_with fail
  refine hy.mono ?_
  rintro e w3 ⟨yv, rfl, h3, b3⟩
  have bb3 := bb2.trans (b3.mono bb2.size)
  obtain ⟨ao3, m3, cap3', hv3, hm3⟩ := h3.form'
  subst hv3
  have s3 := run_string_c (hb.below bb3)
  have hz := docDecode_any bs (by omega) w3
  clear hy
  go_wp2_with fail
  refine hz.mono ?_
  rintro e w4 ⟨zv, rfl, h4, b4⟩
  have bb4 := bb3.trans (b4.mono bb3.size)
  obtain ⟨ao4, m4, cap4, hv4, hm4⟩ := h4.form'
  subst hv4
  have hd := decode_any (hb.below bb4) hcap
  clear hz s3
  go_wp2_with fail
  refine hd.mono ?_
  rintro e w5 ⟨dv, rfl, h5, b5⟩
  have bb5 := bb4.trans (b5.mono bb4.size)
  obtain ⟨ao5, m5, cap5, hv5, hm5⟩ := h5.form'
  subst hv5
  have c3 := run_string_c (h3.at.below (b4.trans (b5.mono b4.size)))
  have hs := same_any ((h4.below b5).items (decR_ok bs)) (h5.items (decR_ok bs))
  rw [(sameL_iff _ _).2 rfl] at hs
  generalize strOf (encR l) = X at *
  generalize encE l = E at *
  generalize decE bs = D at *
  clear hd h3 h4 h5 b1 b2 b3 b4 b5
  go_wp2_with fail
  refine hs.mono ?_
  rintro e w6 ⟨rfl, b6⟩
  clear hs
  go_wp2
  go_ret
  exact ⟨rfl, bb5.trans (b6.mono bb5.size)⟩

/-! ### the row -/
theorem laidOut : laidOutB Try.prog = true := by kernel_rfl
theorem bytesInt : Try.prog.bytesOf 3 = 8 := by kernel_rfl
set_option maxRecDepth 100000 in
theorem lifted (os : Os) (started : os.Started) (H : Type) (enc : TypeId × Value → H) :
    ReturnsInHanded {} Try.checked os 3 .any (Rows.packRecordsSpec.pre6 enc Try.prog Try.f3 Rows.packRecordsRow.domain false) (Rows.packRecordsSpec.post enc Try.prog Try.f3 false true false false) := by
  refine returnsInHanded_of_change_sized (C := Try.checked) own started (by kernel_rfl) Try.func3
    (ChangeSpec.witness6 (enc := enc) (C := Try.checked) false ⟨#[], #[.slice none 0 0, .slice none 0 0], []⟩ 8 (by kernel_rfl) (by kernel_rfl) (by kernel_rfl) (by kernel_rfl)) ?_
  intro W base args ds gs before hval0 hW hcnd hsz0 _
  have hval : ∀ (j : Nat) t v, Try.f3.params[j]? = some t → args[j]? = some v → Value.okWide Try.prog W .any base t v := hval0
  have hW' := hW
  obtain ⟨p, q, hA0, hV, rfl, hfz, hnd⟩ := hW
  have hA : DataW.TrodAll enc Try.prog W 0 (fun _ => true) true Try.f3.params.toList args.toList ds p := hA0
  have hsz : (DataW.weightsEach Try.prog (Try.f3.params.toList ++ Rows.packRecordsSpec.plain.varTypes Try.prog) (ds ++ gs)).all (· ≤ reachBytes) = true := hsz0
  rw [Try.params3] at hA hval hsz
  obtain ⟨v0, vs0, d0, ds0, p0, q0, hargs, rfl, rfl, h0, r0⟩ := trodAll_cons hA
  obtain ⟨v1, vs1, d1, ds1, p1, q1, rfl, rfl, rfl, h1, r1⟩ := trodAll_cons r0
  obtain ⟨rfl, rfl, rfl⟩ := trodAll_nil r1
  obtain rfl : args = #[v0, v1] := by cases args; simp_all
  obtain ⟨rfl, rfl⟩ := trodVars_none hV
  have k0 := h0
  have lt0 := args_lt k0
  obtain ⟨z0, w0⟩ := items_arg (hval 0 22 v0 rfl rfl) (fun el sp e => by subst e; have := sized_slice hsz (j := 0) (t := 22) (e := 50) rfl rfl Try.underlying22; rwa [bytesItem] at this) h0
  have k1 := h1
  have lt1 := args_lt k1
  obtain ⟨z1, w1⟩ := bytes_arg Try.underlying23 Try.underlying5 (by kernel_rfl) (hval 1 23 v1 rfl rfl) (fun el sp e => by subst e; have := sized_slice hsz (j := 1) (t := 23) (e := 5) rfl rfl Try.underlying23; rwa [bytesU8] at this) h1
  clear hA0 hval0 hsz0
  refine (walk v0 z0 v1 z1 W w0 w1).mono fun e W' ⟨he, bel⟩ => ?_
  subst he
  exact ⟨_, rfl, _, _, _, [], _, [], hW', trodAll_mk1 (shut_bool Try.underlying4 _), (trodAll_cons_mk (Below.trod laidOut (by kernel_rfl) (of_decide_eq_true (by kernel_rfl)) k0 bel lt0) (trodAll_cons_mk (Below.trod laidOut (by kernel_rfl) (of_decide_eq_true (by kernel_rfl)) k1 bel lt1) trodAll_mk0)), rfl, bel.frame _, fun h => by cases h⟩

theorem over : Rows.packRecordsRow.holds Try.pinned (OpenSpec.ofChange Rows.packRecordsSpec) :=
  OpenClaim.holds_of_wide 3 Try.f3 rfl rfl rfl rfl rfl rfl rfl ⟨rfl, rfl, rfl, rfl, rfl⟩ rfl rfl rfl rfl rfl (by kernel_rfl) Try.func3 (by kernel_rfl)
    (of_decide_eq_true (by kernel_rfl)) (by unfold Func.isWrapper; first | (rw [if_pos (by decide +kernel)]; kernel_rfl) | (rw [if_neg (by decide +kernel)]; exact ⟨rfl, rfl⟩))
    (fun os started H enc _ => lifted os started H enc)
end Go.Proofs.Ytifbfnfcjkpjfaa.packRecords

namespace Go.Proofs.Ytifbfnfcjkpjfaa
/-- The law returns true at every input. -/
theorem packRecords_holds : Rows.PackRecordsSaid := packRecords.over
end Go.Proofs.Ytifbfnfcjkpjfaa

