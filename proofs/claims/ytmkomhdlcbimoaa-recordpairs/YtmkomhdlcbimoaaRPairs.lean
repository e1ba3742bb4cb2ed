/- cisternlaw07.RecordPairs returns true at every input: for all arguments EncodePairs and DecodePairs answer what the document says. -/
import Derived.Test.YtmkomhdlcbimoaaRPDoc2
namespace Go.Proofs.Ytmkomhdlcbimoaa.recordPairs
set_option maxRecDepth 20000
open Go.RowKit Go.ChangeShapes Go.WideShapes Go.ChangeAt

theorem own : ownKnob Try.prog.godebug = none := by kernel_rfl
theorem pdecL_ok (bs : List UInt8) : ∀ x ∈ pdecL bs, x.ok := by
  unfold pdecL
  split
  · rename_i h
    exact prsOf_ok (encE_short (unsE_zero (pdecE_zero h).1).1).2
  · intro x hx; cases hx
set_option maxRecDepth 20000 in
set_option maxHeartbeats 1600000 in
theorem walk (n : Int) (wn : (Lit.int .i64 n).wf = true) (pv : Value) (pl : List Pr) (v : Value) (bs : List UInt8) (W : World) (hpa : PairsArg W pv pl) (hv : BytesArg W v bs) : Calls Try.prog 5 #[.int .i64 n, pv, v] W fun x w' => x = .returned (.bool true) ∧ Below W.heap.size W w' := by
  have hn : inI n := bounds_i64 wn
  obtain ⟨hP, -⟩ := hpa
  obtain ⟨hb, hcap, hlen⟩ := hv
  obtain ⟨pao, pm, pcap, hpv, hpm⟩ := hP.form'
  obtain ⟨ao, m, cap, hvf, hm⟩ : ∃ ao m cap, v = .slice ao m cap ∧ Hid (m = bs.length) := by
    obtain ⟨ao, cap, hv, _⟩ := hb
    exact ⟨ao, _, cap, hv, Lib.hid rfl⟩
  subst hpv
  subst hvf
  have HOK := Lib.hid (pdecL_ok bs)
  go_enter Try.func5, Try.ntmps5
  go_wp2_with fail
  refine (known_any _).mono ?_
  rintro e w1 ⟨rfl, B1⟩
  have h1 := docEncPairs_any ((hP.below B1).more B1.size) n hn
  go_wp2_with fail
  refine Calls.mono h1 ?_
  rintro e w2 ⟨rfl, b2⟩
  have B2 := B1.trans (b2.mono B1.size)
  have h2 := encodePairs_any ((hP.below B2).more B2.size) n hn
  clear h1 b2 B1
  go_wp2_with fail
  refine Calls.mono h2 ?_
  rintro e w3 ⟨v3, rfl, o3, b3⟩
  have B3 := B2.trans (b3.mono B2.size)
  obtain ⟨ao3, m3, cap3, hv3, hm3⟩ := o3.form'
  subst hv3
  have hst := run_string_c (hb.below B3)
  have h3 := docDecPairs_any bs (by omega) w3
  clear h2 b3 B2
  go_wp2_with fail
  refine Calls.mono h3 ?_
  rintro e w4 ⟨v4, rfl, p4, b4⟩
  have B4 := B3.trans (b4.mono B3.size)
  have o4 := o3.below b4
  obtain ⟨ao4, m4, cap4, hv4, hm4⟩ := p4.form'
  subst hv4
  have h4 := decodePairs_any (hb.below B4) hcap (by omega)
  clear h3 b4 B3 o3 hst
  go_wp2_with fail
  refine Calls.mono h4 ?_
  rintro e w5 ⟨v5, rfl, p5, b5⟩
  have B5 := B4.trans (b5.mono B4.size)
  have hst := run_string (o4.below b5)
  have hsm := samePairs_eq ((p4.below b5).pairs HOK.out) (p5.pairs HOK.out)
  obtain ⟨ao5, m5, cap5, hv5, hm5⟩ := p5.form'
  subst hv5
  generalize strOf (epR n pl) = sx at hst ⊢
  generalize epE n pl = ee
  generalize pdecN bs = nn
  generalize pdecE bs = ff
  clear h4 b5 B4 o4 p4 p5
  go_wp2_with fail
  refine Calls.mono hsm ?_
  rintro e w6 ⟨rfl, b6⟩
  have B6 := B5.trans (b6.mono B5.size)
  clear hsm hst
  go_wp2
  go_ret
  exact ⟨rfl, B6⟩

/-! ### the row -/
theorem laidOut : laidOutB Try.prog = true := by kernel_rfl
theorem bytesInt : Try.prog.bytesOf 3 = 8 := by kernel_rfl
set_option maxRecDepth 100000 in
theorem lifted (os : Os) (started : os.Started) (H : Type) (enc : TypeId × Value → H) :
    ReturnsInHanded {} Try.checked os 5 .any (Rows.recordPairsSpec.pre6 enc Try.prog Try.f5 Rows.recordPairsRow.domain false) (Rows.recordPairsSpec.post enc Try.prog Try.f5 false true false false) := by
  refine returnsInHanded_of_change_sized (C := Try.checked) own started (by kernel_rfl) Try.func5
    (ChangeSpec.witness6 (enc := enc) (C := Try.checked) false ⟨#[], #[.int .i64 0, .slice none 0 0, .slice none 0 0], []⟩ 8 (by kernel_rfl) (by kernel_rfl) (by kernel_rfl) (by kernel_rfl)) ?_
  intro W base args ds gs before hval0 hW hcnd hsz0 _
  have hval : ∀ (j : Nat) t v, Try.f5.params[j]? = some t → args[j]? = some v → Value.okWide Try.prog W .any base t v := hval0
  have hW' := hW
  obtain ⟨p, q, hA0, hV, rfl, hfz, hnd⟩ := hW
  have hA : DataW.TrodAll enc Try.prog W 0 (fun _ => true) true Try.f5.params.toList args.toList ds p := hA0
  have hsz : (DataW.weightsEach Try.prog (Try.f5.params.toList ++ Rows.recordPairsSpec.plain.varTypes Try.prog) (ds ++ gs)).all (· ≤ reachBytes) = true := hsz0
  rw [Try.params5] at hA hval hsz
  obtain ⟨v0, vs0, d0, ds0, p0, q0, hargs, rfl, rfl, h0, r0⟩ := trodAll_cons hA
  obtain ⟨v1, vs1, d1, ds1, p1, q1, rfl, rfl, rfl, h1, r1⟩ := trodAll_cons r0
  obtain ⟨v2, vs2, d2, ds2, p2, q2, rfl, rfl, rfl, h2, r2⟩ := trodAll_cons r1
  obtain ⟨rfl, rfl, rfl⟩ := trodAll_nil r2
  obtain rfl : args = #[v0, v1, v2] := by cases args; simp_all
  obtain ⟨rfl, rfl⟩ := trodVars_none hV
  obtain ⟨a0, rfl, rfl, rfl, w0⟩ := open_int Try.underlying3 (hval 0 3 v0 rfl rfl) h0
  have k1 := h1
  have lt1 := args_lt k1
  obtain ⟨z1, w1⟩ := pairs_arg (hval 1 54 v1 rfl rfl) (fun k hk => of_decide_eq_true (List.all_eq_true.1 hsz _ (DataW.weights_mem_each (j := 1) (t := 54) (d := d1) rfl rfl k hk))) h1
  have k2 := h2
  have lt2 := args_lt k2
  obtain ⟨z2, w2⟩ := bytes_arg Try.underlying36 Try.underlying5 (by kernel_rfl) (hval 2 36 v2 rfl rfl) (fun el sp e => by subst e; have := sized_slice hsz (j := 2) (t := 36) (e := 5) rfl rfl Try.underlying36; rwa [bytesU8] at this) h2
  clear hA0 hval0 hsz0
  refine (walk a0 w0 v1 z1 v2 z2 W w1 w2).mono fun e W' ⟨he, bel⟩ => ?_
  subst he
  exact ⟨_, rfl, _, _, _, [], _, [], hW', trodAll_mk1 (shut_bool Try.underlying4 _), (trodAll_cons_mk (shut_int Try.underlying3 w0) (trodAll_cons_mk (Below.trod laidOut (by kernel_rfl) (of_decide_eq_true (by kernel_rfl)) k1 bel lt1) (trodAll_cons_mk (Below.trod laidOut (by kernel_rfl) (of_decide_eq_true (by kernel_rfl)) k2 bel lt2) trodAll_mk0))), rfl, bel.frame _, fun h => by cases h⟩

theorem over : Rows.recordPairsRow.holds Try.pinned (OpenSpec.ofChange Rows.recordPairsSpec) :=
  OpenClaim.holds_of_wide 5 Try.f5 rfl rfl rfl rfl rfl rfl rfl ⟨rfl, rfl, rfl, rfl, rfl⟩ rfl rfl rfl rfl rfl (by kernel_rfl) Try.func5 (by kernel_rfl)
    (of_decide_eq_true (by kernel_rfl)) (by unfold Func.isWrapper; first | (rw [if_pos (by decide +kernel)]; kernel_rfl) | (rw [if_neg (by decide +kernel)]; exact ⟨rfl, rfl⟩))
    (fun os started H enc _ => lifted os started H enc)
end Go.Proofs.Ytmkomhdlcbimoaa.recordPairs

namespace Go.Proofs.Ytmkomhdlcbimoaa
/-- The law returns true at every input. -/
theorem recordPairs_holds : Rows.RecordPairsSaid := recordPairs.over
end Go.Proofs.Ytmkomhdlcbimoaa

