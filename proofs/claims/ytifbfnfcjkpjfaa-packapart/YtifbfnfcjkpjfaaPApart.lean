/- What is handed in stays as it is, spare room too; answers are memory of their own: the law cisternlaw03.PackApart returns true at every input. No condition. -/
import Derived.Test.YtifbfnfcjkpjfaaPApart0
import Derived.Test.YtifbfnfcjkpjfaaPIArgs
import Derived.Test.YtifbfnfcjkpjfaaPSteps
namespace Go.Proofs.Ytifbfnfcjkpjfaa.packApart
open Go.RowKit Go.ChangeShapes Go.WideShapes Go.ChangeAt

theorem own : ownKnob Try.prog.godebug = none := by kernel_rfl
set_option maxRecDepth 20000 in
set_option maxHeartbeats 6400000 in
theorem walk (b : Value) (bs : List UInt8) (v : Value) (l : List It) (W : World) (hbs : BytesArg W b bs) (hl : ItemsArg W v l) :
    Calls Try.prog 8 #[b, v] W fun e w' => e = .returned (.bool true) ∧ Below W.heap.size W w' := by
  obtain ⟨il, sl⟩ := hl
  obtain ⟨hb, hcap, hlen⟩ := hbs
  obtain ⟨ao, lm, cap, hv, hlm⟩ : ∃ ao n cap, v = .slice ao n cap ∧ Hid (n = l.length) := by
    obtain ⟨ao, cap, hv, _⟩ := il
    exact ⟨ao, _, cap, hv, Lib.hid rfl⟩
  obtain ⟨co, m, cap3, hcv, hcm⟩ : ∃ ao n cap, b = .slice ao n cap ∧ Hid (n = bs.length) := by
    obtain ⟨ao, cap, hv, _⟩ := hb
    exact ⟨ao, _, cap, hv, Lib.hid rfl⟩
  subst hv
  subst hcv
  have hm9 : m ≤ 140737488351232 := by rw [hcm.out]; exact hlen
  have hl9 : lm * 32 ≤ 140737488351232 := by rw [hlm.out]; exact sl
  have hl8 : lm ≤ 4398046510976 := by omega
  go_enter Try.func8, Try.ntmps8
  go_wp2_with fail
  refine (known_any _).mono ?_
  rintro e w1 ⟨rfl, b1⟩
  obtain ⟨wm, w2, rm, ra, hfull, b2⟩ := in_full (hb.below b1) (by omega)
  have bb2 := b1.trans (b2.mono b1.size)
  have hin := hfull.cut
  rw [← hcm.out] at rm ra hfull hin
  generalize hg0 : w1.heap.size = g0 at rm ra hfull hin
  have HG0 := Lib.hid hg0
  have hg2 : Hid (g0 < w2.heap.size) := Lib.hid (by
    rcases hin.2 with ⟨hv, _⟩ | ⟨g, c', cur, hv, _, hg, _⟩
    · cases hv
    · cases hv; exact (Array.getElem?_eq_some_iff.1 hg).1)
  have RA := Lib.hid ra
  have rm' : ∀ z : Int, z = ((m + 9 : Nat) : Int) → (Instr.makeSlice 23 (.int .i64 0) (.int .i64 z)).run Try.prog w1 = .ok (.slice (some ⟨g0, 0, none⟩) 0 (m + 9)) wm := fun z hz => by rw [hz]; exact rm
  have rm2 := rm' ((m : Int) + 9) (by omega)
  have hse := seal_any hin.at (by omega)
  clear hg0 ra rm rm'
  go_wp2_with (with_reducible refine wpList_append_eq rfl (.tmp 25) (.tmp 26) 23 23 rfl (.slice (some ⟨g0, 0, none⟩) 0 (m + 9)) (.slice co m cap3) (.slice (some ⟨g0, 0, none⟩) m (m + 9)) rfl rfl RA.out ?_)
  refine hse.mono ?_
  rintro e w3 ⟨xv, rfl, hx, b3⟩
  have ax : AnyB w2.heap.size w3 xv := ⟨_, hx⟩
  obtain ⟨aox, mx, capx, hvx, hmx, tx⟩ := ax.form
  subst hvx
  have in3 := hin.at.below b3
  have hfr := frame_any in3 500
  clear hse rm2
  go_wp2_with fail
  refine hfr.mono ?_
  rintro e w4 ⟨yv, rfl, hy, b4⟩
  have ay : AnyB w3.heap.size w4 yv := ⟨_, hy⟩
  obtain ⟨aoy, my, capy, hvy, hmy, ty⟩ := ay.form
  subst hvy
  have in4 := in3.below b4
  have hop := open_any in4 (show capOk (.slice (some ⟨g0, 0, none⟩) m (m + 9)) from by show m ≤ m + 9; omega) (by omega)
  clear hfr
  go_wp2_with fail
  refine hop.mono ?_
  rintro e w5 ⟨zv, rfl, hz, b5⟩
  have az : AnyB w4.heap.size w5 zv := ⟨_, hz⟩
  obtain ⟨aoz, mz, capz, hvz, hmz, tz⟩ := az.form
  subst hvz
  have in5 := in4.below b5
  have hun := unframe_any in5 (show capOk (.slice (some ⟨g0, 0, none⟩) m (m + 9)) from by show m ≤ m + 9; omega)
  clear hop
  go_wp2_with fail
  refine hun.mono ?_
  rintro e w6 ⟨uv, rfl, hu, b6⟩
  have au : AnyB w5.heap.size w6 uv := ⟨_, hu⟩
  obtain ⟨aou, mu, capu, hvu, hmu, tu⟩ := au.form
  subst hvu
  have in6 := in5.below b6
  have hcr := crc_any in6
  clear hun
  go_wp2_with fail
  refine hcr.mono ?_
  rintro e _ ⟨rfl, rfl⟩
  have hde := decode_any in6 (show capOk (.slice (some ⟨g0, 0, none⟩) m (m + 9)) from by show m ≤ m + 9; omega)
  clear hcr
  go_wp2_with fail
  refine hde.mono ?_
  rintro e w7 ⟨dv, rfl, hd, b7⟩
  have c5 := b5.trans (b6.mono b5.size)
  have c6 := b6.trans (b7.mono b6.size)
  have c67 := c6
  have c57 := b5.trans (c6.mono b5.size)
  have c47 := b4.trans (c57.mono b4.size)
  have c37 := b3.trans (c47.mono b3.size)
  have ax7 := ax.below c47
  have ay7 := ay.below c57
  have az7 := az.below c67
  have au7 := au.below b7
  have z3 := b3.size
  have z4 := b4.size
  have z5 := b5.size
  obtain ⟨dao, dm, dcap, hdv, -⟩ := hd.form'
  subst hdv
  clear hde hx hy hz hu hd b3 b4 b5 b6 b7 c5 c6 c67 c57 c47 in3 in4 in5 in6 ax ay az au
  go_wp2
  go_loopw [13] (fun iv wr => ∃ k : Nat, k ≤ mx ∧ iv = .int .i64 k ∧ AnyB w2.heap.size wr (.slice aox mx capx) ∧ AnyB w3.heap.size wr (.slice aoy my capy) ∧ AnyB w4.heap.size wr (.slice aoz mz capz) ∧ AnyB w5.heap.size wr (.slice aou mu capu) ∧ Below w2.heap.size w2 wr) (fun iv _ => mx - (intOf iv).toNat)
  case atStart => exact ⟨0, Nat.zero_le _, rfl, ax7, ay7, az7, au7, c37⟩
  case round =>
  obtain ⟨k, hk, rfl, qx, qy, qz, qu, hbel⟩ := hrel
  by_cases hlt : k < mx
  · obtain ⟨g, c, rfl, hgb, hcell, hfree, hst⟩ := qx.cell hlt
    have hgt := tx.out g rfl
    have py := qy.other (g := g) (q := k) (by omega) (.int .u8 170)
    have pz := qz.other (g := g) (q := k) (by omega) (.int .u8 170)
    have pu := qu.other (g := g) (q := k) (by omega) (.int .u8 170)
    have px : AnyB w2.heap.size (wr.setCell ⟨g, k, none⟩ (.int .u8 170)) (.slice (some ⟨g, 0, none⟩) mx capx) := hst 170
    have hb3 := below_store (q := k) hbel (show w2.heap.size ≤ g by omega) (.int .u8 170)
    clear hst
    go_wp2
    go_roundw
    case rel => exact ⟨k + 1, by omega, by go_num, px, py, pz, pu, hb3⟩
    case measure => simp [intOf]; omega
  have HKx := Lib.hid hlt
  clear hk
  clear c37 ax7 ay7 az7 au7 qx
  have ay7 := qy
  have az7 := qz
  have au7 := qu
  have c37 := hbel
  clear hbel qy qz qu
  go_wp2
  go_loopw [14] (fun iv wr => ∃ k : Nat, k ≤ my ∧ iv = .int .i64 k ∧ AnyB w3.heap.size wr (.slice aoy my capy) ∧ AnyB w4.heap.size wr (.slice aoz mz capz) ∧ AnyB w5.heap.size wr (.slice aou mu capu) ∧ Below w2.heap.size w2 wr) (fun iv _ => my - (intOf iv).toNat)
  case atStart => exact ⟨0, Nat.zero_le _, rfl, ay7, az7, au7, c37⟩
  case round =>
  obtain ⟨k, hk, rfl, qy, qz, qu, hbel⟩ := hrel
  by_cases hlt : k < my
  · obtain ⟨g, c, rfl, hgb, hcell, hfree, hst⟩ := qy.cell hlt
    have hgt := ty.out g rfl
    have pz := qz.other (g := g) (q := k) (by omega) (.int .u8 171)
    have pu := qu.other (g := g) (q := k) (by omega) (.int .u8 171)
    have py : AnyB w3.heap.size (wr.setCell ⟨g, k, none⟩ (.int .u8 171)) (.slice (some ⟨g, 0, none⟩) my capy) := hst 171
    have hb3 := below_store (q := k) hbel (show w2.heap.size ≤ g by omega) (.int .u8 171)
    clear hst
    go_wp2
    go_roundw
    case rel => exact ⟨k + 1, by omega, by go_num, py, pz, pu, hb3⟩
    case measure => simp [intOf]; omega
  have HKy := Lib.hid hlt
  clear hk
  clear c37 ay7 az7 au7 qy
  have az7 := qz
  have au7 := qu
  have c37 := hbel
  clear hbel qz qu
  go_wp2
  go_loopw [15] (fun iv wr => ∃ k : Nat, k ≤ mz ∧ iv = .int .i64 k ∧ AnyB w4.heap.size wr (.slice aoz mz capz) ∧ AnyB w5.heap.size wr (.slice aou mu capu) ∧ Below w2.heap.size w2 wr) (fun iv _ => mz - (intOf iv).toNat)
  case atStart => exact ⟨0, Nat.zero_le _, rfl, az7, au7, c37⟩
  case round =>
  obtain ⟨k, hk, rfl, qz, qu, hbel⟩ := hrel
  by_cases hlt : k < mz
  · obtain ⟨g, c, rfl, hgb, hcell, hfree, hst⟩ := qz.cell hlt
    have hgt := tz.out g rfl
    have pu := qu.other (g := g) (q := k) (by omega) (.int .u8 172)
    have pz : AnyB w4.heap.size (wr.setCell ⟨g, k, none⟩ (.int .u8 172)) (.slice (some ⟨g, 0, none⟩) mz capz) := hst 172
    have hb3 := below_store (q := k) hbel (show w2.heap.size ≤ g by omega) (.int .u8 172)
    clear hst
    go_wp2
    go_roundw
    case rel => exact ⟨k + 1, by omega, by go_num, pz, pu, hb3⟩
    case measure => simp [intOf]; omega
  have HKz := Lib.hid hlt
  clear hk
  clear c37 az7 au7 qz
  have au7 := qu
  have c37 := hbel
  clear hbel qu
  go_wp2
  go_loopw [16] (fun iv wr => ∃ k : Nat, k ≤ mu ∧ iv = .int .i64 k ∧ AnyB w5.heap.size wr (.slice aou mu capu) ∧ Below w2.heap.size w2 wr) (fun iv _ => mu - (intOf iv).toNat)
  case atStart => exact ⟨0, Nat.zero_le _, rfl, au7, c37⟩
  case round =>
  obtain ⟨k, hk, rfl, qu, hbel⟩ := hrel
  by_cases hlt : k < mu
  · obtain ⟨g, c, rfl, hgb, hcell, hfree, hst⟩ := qu.cell hlt
    have pu : AnyB w5.heap.size (wr.setCell ⟨g, k, none⟩ (.int .u8 173)) (.slice (some ⟨g, 0, none⟩) mu capu) := hst 173
    have hb3 := below_store (q := k) hbel (show w2.heap.size ≤ g by omega) (.int .u8 173)
    clear hst
    go_wp2
    go_roundw
    case rel => exact ⟨k + 1, by omega, by go_num, pu, hb3⟩
    case measure => simp [intOf]; omega
  have HKu := Lib.hid hlt
  clear hk
  have cw := bb2.trans (hbel.mono bb2.size)
  have fullR := hfull.below hbel
  have inR := hin.below hbel
  have hsl := full_run g0 m (m + 9) (by omega)
  have hsl2 : ∀ w' : World, (Instr.sliceAt 23 (.slice (some ⟨g0, 0, none⟩) m (m + 9)) none (some (.int .i64 ((m : Int) + 9))) none).run Try.prog w' = .ok (.slice (some ⟨g0, 0, none⟩) (m + 9) (m + 9)) w' := fun w' => by have := hsl w'; rwa [show ((m + 9 : Nat) : Int) = (m : Int) + 9 by omega] at this
  have hzero : ∀ i, m ≤ i → i < m + 9 → wr.cell? ⟨g0, i, none⟩ = some (.int .u8 0) := fun i h1 h2 => by
    obtain ⟨b', off', e, hc⟩ := fullR.at.get (k := i) (by rw [List.length_append, List.length_replicate, ← hcm.out]; exact h2)
    cases e
    rw [Nat.zero_add] at hc
    rw [hc, show byteAt (bs ++ List.replicate 9 0) i = 0 from (byteAt_zero _ i).2 (by
      rw [List.getD_eq_getElem?_getD, List.getElem?_append_right (by rw [← hcm.out]; exact h1)]
      rw [List.getElem?_replicate]; split <;> rfl)]
    rfl
  have HZERO := Lib.hid hzero
  clear hzero qu hbel fullR hfull hin c37 au7 hlt
  go_wp2
  go_loop [18] (fun iv => ∃ i : Nat, m ≤ i ∧ i ≤ m + 9 ∧ iv = .int .i64 i) (fun iv => m + 9 - (intOf iv).toNat)
  case atStart => exact ⟨m, Nat.le_refl _, by omega, rfl⟩
  case round =>
  obtain ⟨i, hi1, hi2, rfl⟩ := hrel
  by_cases hlt : i < m + 9
  · have hcell := HZERO.out i hi1 hlt
    go_wp2
    go_round
    case rel => exact ⟨i + 1, by omega, by omega, by go_num⟩
    case measure => simp [intOf]; omega
  have ilR := (il.below cw).more cw.size
  obtain ⟨inf, hf, hf0, hf1, hf2⟩ := info50'
  obtain ⟨wn, rn, on, gn⟩ := run_make_own (P := Try.prog) wr wr.heap.size 22 50 inf _ 3 Try.underlying22 hf hf0 hf1 .i64 .i64 (lm + 2) (by rw [hf2]; omega) (by unfold maxLen; omega) (Nat.le_refl _)
  have bn : Below wr.heap.size wr wn := (Below.refl _ _).grown gn (Nat.le_refl _) (by simp)
  have onI : OwnI wr.heap.size wn (.slice (some ⟨wr.heap.size, 0, none⟩) 0 (lm + 2)) [] := on
  obtain ⟨vt, wt, rt, ot, bt, st⟩ := own_append_items onI (ilR.below bn) (by simp; rw [← hlm.out]; omega) bn.size 22
  obtain ⟨aot, mt, capt, hvt, hmt⟩ := ot.form'
  subst hvt
  have RT := Lib.hid rt
  have okl : ∀ x ∈ l, x.ok := by obtain ⟨_, _, _, _, _, hok, _⟩ := il; exact hok
  have OKL := Lib.hid okl
  have rn2 : (Instr.makeSlice 22 (.int .i64 0) (.int .i64 ((lm : Int) + 2))).run Try.prog wr = .ok (.slice (some ⟨wr.heap.size, 0, none⟩) 0 (lm + 2)) wn := by rw [show (lm : Int) + 2 = ((lm + 2 : Nat) : Int) by omega]; exact rn
  have bt2 := bn.trans bt
  have ot2 : OwnI wr.heap.size wt (.slice aot mt capt) l := ot
  have hen := encode_any (ot2.items OKL.out)
  clear rt okl rn onI on gn ot HZERO hsl hsl2
  go_wp2_with (with_reducible refine wpList_append_eq rfl (.tmp 105) (.tmp 106) 22 22 rfl (.slice (some ⟨wr.heap.size, 0, none⟩) 0 (lm + 2)) (.slice ao lm cap) (.slice aot mt capt) rfl rfl RT.out ?_)
  refine hen.mono ?_
  rintro e wq ⟨eo, rfl, oe, be⟩
  have bq := bt2.trans (be.mono bt2.size)
  have cq := cw.trans (bq.mono cw.size)
  have s1 := run_string_c (inR.at.below bq)
  have s2 := run_string_c (hb.below cq)
  have ot3 := ot2.below be
  have hsm := same_any (ot3.items OKL.out) ((il.below cq).more cq.size)
  rw [(sameL_iff _ _).2 rfl] at hsm
  obtain ⟨eoo, em, ecap, hev, -⟩ := oe.form'
  subst hev
  clear hen oe ot2 ot3 bt bn rn2 inR
  go_wp2_with fail
  refine hsm.mono ?_
  rintro e wz ⟨rfl, bz⟩
  clear hsm
  go_wp2
  go_ret
  exact ⟨rfl, cq.trans (bz.mono cq.size)⟩

/-! ### the row -/
theorem laidOut : laidOutB Try.prog = true := by kernel_rfl
theorem bytesInt : Try.prog.bytesOf 3 = 8 := by kernel_rfl
set_option maxRecDepth 100000 in
theorem lifted (os : Os) (started : os.Started) (H : Type) (enc : TypeId × Value → H) :
    ReturnsInHanded {} Try.checked os 8 .any (Rows.packApartSpec.pre6 enc Try.prog Try.f8 Rows.packApartRow.domain false) (Rows.packApartSpec.post enc Try.prog Try.f8 false true false false) := by
  refine returnsInHanded_of_change_sized (C := Try.checked) own started (by kernel_rfl) Try.func8
    (ChangeSpec.witness6 (enc := enc) (C := Try.checked) false ⟨#[], #[.slice none 0 0, .slice none 0 0], []⟩ 8 (by kernel_rfl) (by kernel_rfl) (by kernel_rfl) (by kernel_rfl)) ?_
  intro W base args ds gs before hval0 hW hcnd hsz0 _
  have hval : ∀ (j : Nat) t v, Try.f8.params[j]? = some t → args[j]? = some v → Value.okWide Try.prog W .any base t v := hval0
  have hW' := hW
  obtain ⟨p, q, hA0, hV, rfl, hfz, hnd⟩ := hW
  have hA : DataW.TrodAll enc Try.prog W 0 (fun _ => true) true Try.f8.params.toList args.toList ds p := hA0
  have hsz : (DataW.weightsEach Try.prog (Try.f8.params.toList ++ Rows.packApartSpec.plain.varTypes Try.prog) (ds ++ gs)).all (· ≤ reachBytes) = true := hsz0
  rw [Try.params8] at hA hval hsz
  obtain ⟨v0, vs0, d0, ds0, p0, q0, hargs, rfl, rfl, h0, r0⟩ := trodAll_cons hA
  obtain ⟨v1, vs1, d1, ds1, p1, q1, rfl, rfl, rfl, h1, r1⟩ := trodAll_cons r0
  obtain ⟨rfl, rfl, rfl⟩ := trodAll_nil r1
  obtain rfl : args = #[v0, v1] := by cases args; simp_all
  obtain ⟨rfl, rfl⟩ := trodVars_none hV
  have k0 := h0
  have lt0 := args_lt k0
  obtain ⟨z0, w0⟩ := bytes_arg Try.underlying23 Try.underlying5 (by kernel_rfl) (hval 0 23 v0 rfl rfl) (fun el sp e => by subst e; have := sized_slice hsz (j := 0) (t := 23) (e := 5) rfl rfl Try.underlying23; rwa [bytesU8] at this) h0
  have k1 := h1
  have lt1 := args_lt k1
  obtain ⟨z1, w1⟩ := items_arg (hval 1 22 v1 rfl rfl) (fun el sp e => by subst e; have := sized_slice hsz (j := 1) (t := 22) (e := 50) rfl rfl Try.underlying22; rwa [bytesItem] at this) h1
  clear hA0 hval0 hsz0
  refine (walk v0 z0 v1 z1 W w0 w1).mono fun e W' ⟨he, bel⟩ => ?_
  subst he
  exact ⟨_, rfl, _, _, _, [], _, [], hW', trodAll_mk1 (shut_bool Try.underlying4 _), (trodAll_cons_mk (Below.trod laidOut (by kernel_rfl) (of_decide_eq_true (by kernel_rfl)) k0 bel lt0) (trodAll_cons_mk (Below.trod laidOut (by kernel_rfl) (of_decide_eq_true (by kernel_rfl)) k1 bel lt1) trodAll_mk0)), rfl, bel.frame _, fun h => by cases h⟩

theorem over : Rows.packApartRow.holds Try.pinned (OpenSpec.ofChange Rows.packApartSpec) :=
  OpenClaim.holds_of_wide 8 Try.f8 rfl rfl rfl rfl rfl rfl rfl ⟨rfl, rfl, rfl, rfl, rfl⟩ rfl rfl rfl rfl rfl (by kernel_rfl) Try.func8 (by kernel_rfl)
    (of_decide_eq_true (by kernel_rfl)) (by unfold Func.isWrapper; first | (rw [if_pos (by decide +kernel)]; kernel_rfl) | (rw [if_neg (by decide +kernel)]; exact ⟨rfl, rfl⟩))
    (fun os started H enc _ => lifted os started H enc)
end Go.Proofs.Ytifbfnfcjkpjfaa.packApart

namespace Go.Proofs.Ytifbfnfcjkpjfaa
/-- The law returns true at every input. -/
theorem packApart_holds : Rows.PackApartSaid := packApart.over
end Go.Proofs.Ytifbfnfcjkpjfaa

