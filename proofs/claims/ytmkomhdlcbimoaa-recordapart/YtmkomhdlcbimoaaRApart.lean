/- cisternlaw07.RecordApart returns true at every input: what is handed in stays as it is, spare room too; answers are memory of their own. -/
import Derived.Test.YtmkomhdlcbimoaaRApart0
namespace Go.Proofs.Ytmkomhdlcbimoaa.recordApart
set_option maxRecDepth 20000
open Go.RowKit Go.ChangeShapes Go.WideShapes Go.ChangeAt

theorem own : ownKnob Try.prog.godebug = none := by kernel_rfl
set_option maxRecDepth 20000 in
set_option maxHeartbeats 3200000 in
theorem walk (b : Value) (bs : List UInt8) (n : Int) (wn : (Lit.int .i64 n).wf = true) (pv : Value) (pl : List Pr) (W : World) (hbs : BytesArg W b bs) (hpa : PairsArg W pv pl) : Calls Try.prog 7 #[b, .int .i64 n, pv] W fun e w' => e = .returned (.bool true) ∧ Below W.heap.size W w' := by
  have hn : inI n := bounds_i64 wn
  obtain ⟨hP, sl⟩ := hpa
  obtain ⟨hb, hcap, hlen⟩ := hbs
  have hok : ∀ x ∈ pl, x.ok := by obtain ⟨_, _, _, _, _, hok, _⟩ := hP; exact hok
  have HOK := Lib.hid hok
  obtain ⟨pao, pm, pcap, hpv, hpm⟩ := hP.form'
  obtain ⟨co, m, cap3, hcv, hcm⟩ : ∃ ao n cap, b = .slice ao n cap ∧ Hid (n = bs.length) := by
    obtain ⟨ao, cap, hv, _⟩ := hb
    exact ⟨ao, _, cap, hv, Lib.hid rfl⟩
  subst hpv
  subst hcv
  have hm9 : m ≤ 140737488351232 := by rw [hcm.out]; exact hlen
  have hl9 : pm * 32 ≤ 140737488351232 := by rw [hpm.out]; exact sl
  have hl8 : pm ≤ 4398046510976 := by omega
  clear hok
  go_enter Try.func7, Try.ntmps7
  go_wp2_with fail
  refine (known_any _).mono ?_
  rintro e w1 ⟨rfl, b1⟩
  obtain ⟨wm, w2, rm, ra, hfull, b2⟩ := in_full (hb.below b1) (by omega)
  have bb2 := b1.trans (b2.mono b1.size)
  have hin := hfull.cut
  rw [← hcm.out] at rm ra hfull hin
  generalize hg0 : w1.heap.size = g0 at rm ra hfull hin
  have HG0 := Lib.hid hg0
  have hg2 : Hid (g0 < w2.heap.size) := Lib.hid (by
    rcases hin.2 with ⟨hv, _⟩ | ⟨g, c', cur, hv, _, hg, _⟩
    · cases hv
    · cases hv; exact (Array.getElem?_eq_some_iff.1 hg).1)
  have RA := Lib.hid ra
  have rm' : ∀ z : Int, z = ((m + 5 : Nat) : Int) → (Instr.makeSlice 36 (.int .i64 0) (.int .i64 z)).run Try.prog w1 = .ok (.slice (some ⟨g0, 0, none⟩) 0 (m + 5)) wm := fun z hz => by rw [hz]; exact rm
  have rm2 := rm' ((m : Int) + 5) (by omega)
  have hic : capOk (.slice (some ⟨g0, 0, none⟩) m (m + 5)) := by show m ≤ m + 5; omega
  have hds := decodeSuper_any hin.at hic
  clear hg0 ra rm rm'
  go_wp2_with (with_reducible refine wpList_append_eq rfl (.tmp 27) (.tmp 28) 36 36 rfl (.slice (some ⟨g0, 0, none⟩) 0 (m + 5)) (.slice co m cap3) (.slice (some ⟨g0, 0, none⟩) m (m + 5)) rfl rfl RA.out ?_)
  refine Calls.mono hds ?_
  rintro e w3 ⟨rfl, b3⟩
  have in3 := hin.at.below b3
  have hdl := decodeLog_any in3 hic
  clear hds rm2
  go_wp2_with fail
  refine Calls.mono hdl ?_
  rintro e w4 ⟨rfl, b4⟩
  have bb4 := b3.trans (b4.mono b3.size)
  have in4 := in3.below b4
  have hdh := decodeHome_any in4 hic
  clear hdl in3 b3 b4
  go_wp2_with fail
  refine Calls.mono hdh ?_
  rintro e w5 ⟨rfl, b5⟩
  have bb5 := bb4.trans (b5.mono bb4.size)
  have in5 := in4.below b5
  have hdp := decodePairs_any in5 hic (by rw [← hcm.out]; omega)
  clear hdh in4 b5 bb4
  go_wp2_with fail
  refine Calls.mono hdp ?_
  rintro e w6 ⟨qv, rfl, p6, b6⟩
  have aq : AnyP w5.heap.size w6 qv := ⟨_, _, p6⟩
  obtain ⟨qao, qm, qcap, hqv, hqm⟩ := aq.form
  subst hqv
  have c56 := b6
  clear hdp in5 p6
  have hb0 : ∀ w, (Instr.build 66 #[]).run Try.prog w = .ok (.agg #[.string ⟨#[]⟩, .string ⟨#[]⟩]) w := fun w => run_build w 66 _ _ (by kernel_rfl)
  go_wp2
  go_loopw [11] (fun iv wr => ∃ k : Nat, k ≤ qm ∧ iv = .int .i64 k ∧ AnyP w5.heap.size wr (.slice qao qm qcap) ∧ Below w5.heap.size w5 wr) (fun iv _ => qm - (intOf iv).toNat)
  case atStart => exact ⟨0, Nat.zero_le _, rfl, aq, c56⟩
  case round =>
  obtain ⟨k, hk, rfl, qa, hbel⟩ := hrel
  by_cases hlt : k < qm
  · obtain ⟨g, u, u', rfl, hgb, hcell, hfree, hst⟩ := qa.cell hlt
    obtain ⟨hcell2, hfree2, hst2⟩ := hst (.string ⟨#[]⟩)
    have pq := hst2 (.string ⟨#[]⟩)
    have hb3 := below_store (q := k * 2 + 1) (below_store (q := k * 2) hbel hgb (.string ⟨#[]⟩)) hgb (.string ⟨#[]⟩)
    clear hst hst2 aq qa
    go_wp2
    go_roundw
    case rel => exact ⟨k + 1, by omega, by go_num, pq, hb3⟩
    case measure => simp [intOf]; omega
  have hbel := bb5.trans (hbel.mono bb5.size)
  have cw := bb2.trans (hbel.mono bb2.size)
  have fullR := hfull.below hbel
  have inR := hin.below hbel
  have hsl := full_run g0 m (m + 5) (by omega)
  have hsl2 : ∀ w' : World, (Instr.sliceAt 36 (.slice (some ⟨g0, 0, none⟩) m (m + 5)) none (some (.int .i64 ((m : Int) + 5))) none).run Try.prog w' = .ok (.slice (some ⟨g0, 0, none⟩) (m + 5) (m + 5)) w' := fun w' => by have := hsl w'; rwa [show ((m + 5 : Nat) : Int) = (m : Int) + 5 by omega] at this
  have hzero : ∀ i, m ≤ i → i < m + 5 → wr.cell? ⟨g0, i, none⟩ = some (.int .u8 0) := fun i h1 h2 => by
    obtain ⟨b', off', e, hc⟩ := fullR.at.get (k := i) (by rw [List.length_append, List.length_replicate, ← hcm.out]; exact h2)
    cases e
    rw [Nat.zero_add] at hc
    rw [hc, show byteAt (bs ++ List.replicate 5 0) i = 0 from (byteAt_zero _ i).2 (by
      rw [List.getD_eq_getElem?_getD, List.getElem?_append_right (by rw [← hcm.out]; exact h1)]
      rw [List.getElem?_replicate]; split <;> rfl)]
    rfl
  have HZERO := Lib.hid hzero
  have HLT := Lib.hid hlt
  clear hzero qa hbel fullR hfull hin aq c56 bb5 b6 hb0
  go_wp2
  go_loop [13] (fun iv => ∃ i : Nat, m ≤ i ∧ i ≤ m + 5 ∧ iv = .int .i64 i) (fun iv => m + 5 - (intOf iv).toNat)
  case atStart => exact ⟨m, Nat.le_refl _, by omega, rfl⟩
  case round =>
  obtain ⟨i, hi1, hi2, rfl⟩ := hrel
  by_cases hlt2 : i < m + 5
  · have hcell := HZERO.out i hi1 hlt2
    go_wp2
    go_round
    case rel => exact ⟨i + 1, by omega, by omega, by go_num⟩
    case measure => simp [intOf]; omega
  have ilR := (hP.below cw).more cw.size
  obtain ⟨inf, hf, hf0, hf1, hf2⟩ := infoPair'
  obtain ⟨wx, rn, on, gn⟩ := run_make_own (P := Try.prog) wr wr.heap.size 54 66 inf _ 2 Try.underlying54 hf hf0 hf1 .i64 .i64 (pm + 2) (by rw [hf2]; omega) (by unfold maxLen; omega) (Nat.le_refl _)
  have bn : Below wr.heap.size wr wx := (Below.refl _ _).grown gn (Nat.le_refl _) (by simp)
  have onI : OwnP wr.heap.size wx (.slice (some ⟨wr.heap.size, 0, none⟩) 0 (pm + 2)) [] := on
  obtain ⟨vt, wt, rt, ot, bt, st⟩ := own_append_pairs onI (ilR.below bn) (by simp; rw [← hpm.out]; omega) bn.size 54
  obtain ⟨aot, mt, capt, hvt, hmt⟩ := ot.form'
  subst hvt
  have RT := Lib.hid rt
  have rn2 : (Instr.makeSlice 54 (.int .i64 0) (.int .i64 ((pm : Int) + 2))).run Try.prog wr = .ok (.slice (some ⟨wr.heap.size, 0, none⟩) 0 (pm + 2)) wx := by rw [show (pm : Int) + 2 = ((pm + 2 : Nat) : Int) by omega]; exact rn
  have bt2 := bn.trans bt
  have ot2 : OwnP wr.heap.size wt (.slice aot mt capt) pl := ot
  have hen := encodePairs_any (ot2.pairs HOK.out) n hn
  clear rt rn onI on gn ot HZERO hsl hsl2 bn bt st
  go_wp2_with (with_reducible refine wpList_append_eq rfl (.tmp 72) (.tmp 73) 54 54 rfl (.slice (some ⟨wr.heap.size, 0, none⟩) 0 (pm + 2)) (.slice pao pm pcap) (.slice aot mt capt) rfl rfl RT.out ?_)
  refine Calls.mono hen ?_
  rintro e wp ⟨cv, rfl, oc, bc⟩
  have ac : AnyB wt.heap.size wp cv := ⟨_, oc⟩
  obtain ⟨aoc, mc, capc, hvc, hmc, tc⟩ := ac.form
  subst hvc
  have op := ot2.below bc
  have hen2 := encodePairs_any (op.pairs HOK.out) n hn
  clear hen rn2 oc
  go_wp2_with fail
  refine Calls.mono hen2 ?_
  rintro e wq ⟨dv, rfl, od, bd⟩
  obtain ⟨aod, md, capd, hvd, hmd⟩ := od.form'
  subst hvd
  have acq := ac.below bd
  have bcd := bc.trans (bd.mono bc.size)
  have zc := bc.size
  clear hen2 ac op
  go_wp2
  go_loopw [19] (fun iv wr2 => ∃ k : Nat, k ≤ mc ∧ iv = .int .i64 k ∧ AnyB wt.heap.size wr2 (.slice aoc mc capc) ∧ OwnB wp.heap.size wr2 (.slice aod md capd) (epR n pl) ∧ Below wt.heap.size wt wr2) (fun iv _ => mc - (intOf iv).toNat)
  case atStart => exact ⟨0, Nat.zero_le _, rfl, acq, od, bcd⟩
  case round =>
  obtain ⟨k2, hk2, rfl, qc, qd, hbel⟩ := hrel
  by_cases hlt3 : k2 < mc
  · obtain ⟨g, c, rfl, hgb, hcell, hfree, hst⟩ := qc.cell hlt3
    have hgt := tc.out g rfl
    have pd := qd.keep (w' := wr.setCell ⟨g, k2, none⟩ (.int .u8 170)) fun k hk => Below.heap_setCell _ _ _ k (by simp; omega)
    have pc : AnyB wt.heap.size (wr.setCell ⟨g, k2, none⟩ (.int .u8 170)) (.slice (some ⟨g, 0, none⟩) mc capc) := hst 170
    have hb3 := below_store (q := k2) hbel hgb (.int .u8 170)
    clear hst acq qc qd
    go_wp2
    go_roundw
    case rel => exact ⟨k2 + 1, by omega, by go_num, pc, pd, hb3⟩
    case measure => simp [intOf]; omega
  have oR := ot2.below hbel
  have c1 := bt2.trans (hbel.mono bt2.size)
  have cz := cw.trans (c1.mono cw.size)
  have hdo := docEncPairs_any ((hP.below cz).more cz.size) n hn
  have inZ := inR.at.below c1
  clear acq od bcd qc inR
  go_wp2_with fail
  refine Calls.mono hdo ?_
  rintro e w9 ⟨rfl, b9⟩
  have c9 := cz.trans (b9.mono cz.size)
  have s1 := run_string_c (inZ.below b9)
  have s2 := run_string_c (hb.below c9)
  have o9 := qd.below b9
  have hsm := samePairs_eq ((oR.below b9).pairs HOK.out) (hP.below c9)
  obtain ⟨sx, hsx⟩ : ∃ sx, sx = strOf (epR n pl) := ⟨_, rfl⟩
  rw [← hsx]
  have HSX := Lib.hid hsx
  generalize epE n pl = ee
  clear hdo qd inZ hsx
  go_wp2_with fail
  refine Calls.mono hsm ?_
  rintro e w10 ⟨rfl, b10⟩
  have s3 := run_string (o9.below b10)
  rw [← HSX.out] at s3
  clear hsm s1 s2
  go_wp2
  go_ret
  exact ⟨rfl, c9.trans (b10.mono c9.size)⟩

/-! ### the row -/
theorem laidOut : laidOutB Try.prog = true := by kernel_rfl
theorem bytesInt : Try.prog.bytesOf 3 = 8 := by kernel_rfl
set_option maxRecDepth 100000 in
theorem lifted (os : Os) (started : os.Started) (H : Type) (enc : TypeId × Value → H) :
    ReturnsInHanded {} Try.checked os 7 .any (Rows.recordApartSpec.pre6 enc Try.prog Try.f7 Rows.recordApartRow.domain false) (Rows.recordApartSpec.post enc Try.prog Try.f7 false true false false) := by
  refine returnsInHanded_of_change_sized (C := Try.checked) own started (by kernel_rfl) Try.func7
    (ChangeSpec.witness6 (enc := enc) (C := Try.checked) false ⟨#[], #[.slice none 0 0, .int .i64 0, .slice none 0 0], []⟩ 8 (by kernel_rfl) (by kernel_rfl) (by kernel_rfl) (by kernel_rfl)) ?_
  intro W base args ds gs before hval0 hW hcnd hsz0 _
  have hval : ∀ (j : Nat) t v, Try.f7.params[j]? = some t → args[j]? = some v → Value.okWide Try.prog W .any base t v := hval0
  have hW' := hW
  obtain ⟨p, q, hA0, hV, rfl, hfz, hnd⟩ := hW
  have hA : DataW.TrodAll enc Try.prog W 0 (fun _ => true) true Try.f7.params.toList args.toList ds p := hA0
  have hsz : (DataW.weightsEach Try.prog (Try.f7.params.toList ++ Rows.recordApartSpec.plain.varTypes Try.prog) (ds ++ gs)).all (· ≤ reachBytes) = true := hsz0
  rw [Try.params7] at hA hval hsz
  obtain ⟨v0, vs0, d0, ds0, p0, q0, hargs, rfl, rfl, h0, r0⟩ := trodAll_cons hA
  obtain ⟨v1, vs1, d1, ds1, p1, q1, rfl, rfl, rfl, h1, r1⟩ := trodAll_cons r0
  obtain ⟨v2, vs2, d2, ds2, p2, q2, rfl, rfl, rfl, h2, r2⟩ := trodAll_cons r1
  obtain ⟨rfl, rfl, rfl⟩ := trodAll_nil r2
  obtain rfl : args = #[v0, v1, v2] := by cases args; simp_all
  obtain ⟨rfl, rfl⟩ := trodVars_none hV
  have k0 := h0
  have lt0 := args_lt k0
  obtain ⟨z0, w0⟩ := bytes_arg Try.underlying36 Try.underlying5 (by kernel_rfl) (hval 0 36 v0 rfl rfl) (fun el sp e => by subst e; have := sized_slice hsz (j := 0) (t := 36) (e := 5) rfl rfl Try.underlying36; rwa [bytesU8] at this) h0
  obtain ⟨a1, rfl, rfl, rfl, w1⟩ := open_int Try.underlying3 (hval 1 3 v1 rfl rfl) h1
  have k2 := h2
  have lt2 := args_lt k2
  obtain ⟨z2, w2⟩ := pairs_arg (hval 2 54 v2 rfl rfl) (fun k hk => of_decide_eq_true (List.all_eq_true.1 hsz _ (DataW.weights_mem_each (j := 2) (t := 54) (d := d2) rfl rfl k hk))) h2
  clear hA0 hval0 hsz0
  refine (walk v0 z0 a1 w1 v2 z2 W w0 w2).mono fun e W' ⟨he, bel⟩ => ?_
  subst he
  exact ⟨_, rfl, _, _, _, [], _, [], hW', trodAll_mk1 (shut_bool Try.underlying4 _), (trodAll_cons_mk (Below.trod laidOut (by kernel_rfl) (of_decide_eq_true (by kernel_rfl)) k0 bel lt0) (trodAll_cons_mk (shut_int Try.underlying3 w1) (trodAll_cons_mk (Below.trod laidOut (by kernel_rfl) (of_decide_eq_true (by kernel_rfl)) k2 bel lt2) trodAll_mk0))), rfl, bel.frame _, fun h => by cases h⟩

theorem over : Rows.recordApartRow.holds Try.pinned (OpenSpec.ofChange Rows.recordApartSpec) :=
  OpenClaim.holds_of_wide 7 Try.f7 rfl rfl rfl rfl rfl rfl rfl ⟨rfl, rfl, rfl, rfl, rfl⟩ rfl rfl rfl rfl rfl (by kernel_rfl) Try.func7 (by kernel_rfl)
    (of_decide_eq_true (by kernel_rfl)) (by unfold Func.isWrapper; first | (rw [if_pos (by decide +kernel)]; kernel_rfl) | (rw [if_neg (by decide +kernel)]; exact ⟨rfl, rfl⟩))
    (fun os started H enc _ => lifted os started H enc)
end Go.Proofs.Ytmkomhdlcbimoaa.recordApart

namespace Go.Proofs.Ytmkomhdlcbimoaa
/-- The law returns true at every input. -/
theorem recordApart_holds : Rows.RecordApartSaid := recordApart.over
end Go.Proofs.Ytmkomhdlcbimoaa

