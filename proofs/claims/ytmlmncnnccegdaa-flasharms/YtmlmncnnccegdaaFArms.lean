/- Behind Arm(n) just n writes and flushes are carried out; then the power is off until a crash: the law cisternlaw01.FlashArms returns true at every input. No condition. -/
import Derived.Test.YtmlmncnnccegdaaFSizes
import Derived.Test.YtmlmncnnccegdaaArgs
namespace Go.Proofs.Ytmlmncnnccegdaa.flashArms
open Go.ChangeShapes Go.WideShapes Go.ChangeAt Go.RowKit
open Go.Proofs.Ytmlmncnnccegdaa.flashSizes (own has_true has_false)

/-- The device behind i calls, armed with n. -/
structure St (n i : Nat) (d : Dev) : Prop where
  size : d.size = 4
  len : d.waits.length ≤ i
  last : ∀ k, (d.last k).2 = false
  how : (i ≤ n ∧ d.off = false ∧ d.armed = true ∧ d.left = n - i) ∨ (n < i ∧ d.off = true)

theorem spend_yes {n i : Nat} {d : Dev} (h : St n i d) (hi : i < n) : d.spend = (true, { d with left := n - (i + 1) }) := by
  rcases h.how with ⟨_, h1, h2, h3⟩ | ⟨h1, _⟩
  · unfold Dev.spend
    rw [if_neg (by simp [h1]), if_neg (by simp [h2]), if_neg (by omega), h3]
    congr 2
  · omega
theorem spend_no {n i : Nat} {d : Dev} (h : St n i d) (hi : n ≤ i) : ∃ d', d.spend = (false, d') ∧ St n (i + 1) d' := by
  rcases h.how with ⟨h0, h1, h2, h3⟩ | ⟨h1, h2⟩
  · refine ⟨{ d with off := true }, ?_, ⟨h.size, Nat.le_succ_of_le h.len, h.last, Or.inr ⟨by omega, rfl⟩⟩⟩
    unfold Dev.spend
    rw [if_neg (by simp [h1]), if_neg (by simp [h2]), if_pos (by omega)]
  · refine ⟨d, ?_, ⟨h.size, Nat.le_succ_of_le h.len, h.last, Or.inr ⟨by omega, h2⟩⟩⟩
    unfold Dev.spend
    rw [if_pos h2]
theorem apply_last {d : Dev} (h : ∀ k, (d.last k).2 = false) : ∀ m k, ((d.apply flushF m).last k).2 = false
  | 0, k => h k
  | m + 1, k => by
    unfold Dev.apply
    split
    · rename_i p _
      show (upd (d.apply flushF m).last p.1 (p.2, false) k).2 = false
      unfold upd
      split
      · rfl
      · exact apply_last h m k
    · exact apply_last h m k
theorem flush_yes {n i : Nat} {d : Dev} (h : St n i d) (hi : i < n) : d.flush.1 = 0 ∧ St n (i + 1) d.flush.2 := by
  have hs := spend_yes h hi
  unfold Dev.flush
  rw [hs, if_neg (by simp)]
  refine ⟨rfl, ?_⟩
  rcases h.how with ⟨_, h1, h2, h3⟩ | ⟨h1, _⟩
  · have ha := apply_same { d with left := n - (i + 1) } flushF d.waits.length
    refine ⟨ha.2.1.trans h.size, by simp [Dev.flushed], apply_last (d := { d with left := n - (i + 1) }) h.last _, Or.inl ⟨by omega, ha.2.2.1.trans h1, ha.2.2.2.1.trans h2, ha.2.2.2.2⟩⟩
  · omega
theorem flush_no {n i : Nat} {d : Dev} (h : St n i d) (hi : n ≤ i) : d.flush.1 = 4 ∧ St n (i + 1) d.flush.2 := by
  obtain ⟨d', hs, h'⟩ := spend_no h hi
  unfold Dev.flush
  rw [hs, if_pos rfl]
  exact ⟨rfl, h'⟩
theorem write_yes {n i : Nat} {d : Dev} (h : St n i d) (hi : i < n) (j : Int) (hj : 0 ≤ j ∧ j < 4) {bs : List UInt8} (hb : bs.length = 256) : (d.write j bs).1 = 0 ∧ St n (i + 1) (d.write j bs).2 := by
  have hs := spend_yes h hi
  have hh : d.has j = true := has_true (by rw [h.size]; omega)
  unfold Dev.write
  rw [if_neg (by rw [hh]; simp [hb]), hs, if_neg (by simp)]
  rcases h.how with ⟨_, h1, h2, h3⟩ | ⟨h1, _⟩
  · exact ⟨rfl, h.size, by simpa using h.len, h.last, Or.inl ⟨by omega, h1, h2, rfl⟩⟩
  · omega
theorem write_no {n i : Nat} {d : Dev} (h : St n i d) (hi : n ≤ i) (j : Int) (hj : 0 ≤ j ∧ j < 4) {bs : List UInt8} (hb : bs.length = 256) : (d.write j bs).1 = 4 ∧ St n (i + 1) (d.write j bs).2 := by
  obtain ⟨d', hs, h'⟩ := spend_no h hi
  have hh : d.has j = true := has_true (by rw [h.size]; omega)
  unfold Dev.write
  rw [if_neg (by rw [hh]; simp [hb]), hs, if_pos rfl]
  exact ⟨rfl, h'⟩
theorem read_st {n i : Nat} {d : Dev} (h : St n i d) : (d.read 0).2 = if n < i then 4 else 0 := by
  have hh : d.has 0 = true := has_true (by rw [h.size]; omega)
  unfold Dev.read
  rw [if_neg (by simp [hh])]
  rcases h.how with ⟨h0, h1, h2, h3⟩ | ⟨h1, h2⟩
  · rw [if_neg (by simp [h1]), if_neg (show ¬ n < i by omega)]
    split
    · rfl
    · rw [if_neg (by simp [h.last])]
  · rw [if_pos h2, if_pos h1]
theorem crash_off (d : Dev) (zs : List Int) : (d.crash zs).off = false ∧ (d.crash zs).armed = false ∧ (d.crash zs).waits = [] ∧ (d.crash zs).size = d.size :=
  ⟨rfl, rfl, rfl, (apply_same d (crashF zs) d.waits.length).2.1⟩

theorem crash_write (d : Dev) (zs : List Int) (hs : d.size = 4) {bs : List UInt8} (hb : bs.length = 256) : ∃ d', (d.crash zs).write 0 bs = (0, d') ∧ d'.flush.1 = 0 ∧ d'.waits.length = 1 := by
  obtain ⟨c1, c2, c3, c4⟩ := crash_off d zs
  have hh : (d.crash zs).has 0 = true := has_true (by rw [c4, hs]; omega)
  have hsp : (d.crash zs).spend = (true, d.crash zs) := by unfold Dev.spend; rw [if_neg (by simp [c1]), if_pos (by simp [c2])]
  refine ⟨{ d.crash zs with waits := (d.crash zs).waits ++ [(0, bs)] }, ?_, ?_, by simp [c3]⟩
  · unfold Dev.write
    rw [if_neg (by rw [hh]; simp [hb]), hsp, if_neg (by simp)]
  · have hsp' : ({ d.crash zs with waits := (d.crash zs).waits ++ [(0, bs)] } : Dev).spend = (true, { d.crash zs with waits := (d.crash zs).waits ++ [(0, bs)] }) := by
      unfold Dev.spend
      rw [if_neg (by simp [c1]), if_pos (by simp [c2])]
    unfold Dev.flush
    rw [hsp', if_neg (by simp)]
set_option maxHeartbeats 800000 in
theorem walk (a0 : Int) (_w0 : (Lit.int .i64 a0).wf = true) (v1 : Value) (z1 : List Bool) (W : World) (w1 : BoolsArg W v1 z1) :
    Calls Try.prog 5 #[.int .i64 a0, v1] W fun e w' => e = .returned (.bool true) ∧ Below W.heap.size W w' := by
  obtain ⟨ao, cap, rfl, hlen, -⟩ := ArgRow.form w1
  go_enter Try.func5, Try.ntmps5
  go_wp2_with fail
  refine (known_any W).mono ?_
  rintro e wa ⟨rfl, ba⟩
  go_wp2_with fail
  refine (new_any W.heap.size wa 4 (by decide) (by decide) ba.size).mono ?_
  rintro e wb ⟨rfl, db, bb, -⟩
  go_wp2_with fail
  obtain ⟨n, hn, en⟩ := mod_form a0 40 (by decide) (by decide)
  rw [en]
  clear en _w0
  refine (arm_any db n (by omega)).mono ?_
  rintro e wc ⟨rfl, dc, fc⟩
  have bc : Below W.heap.size W wc := (ba.trans (bb.mono ba.size)).trans (fc.below (Nat.le_trans ba.size bb.size))
  have st : St n 0 ((Dev.fresh 4).arm n) := ⟨rfl, Nat.le_refl _, fun _ => rfl, Or.inl ⟨Nat.zero_le _, rfl, by simp [Dev.arm], by simp [Dev.arm]⟩⟩
  clear db fc bb
  go_wp2
  go_loopw [7, 8] (fun iv _ wr => ∃ k : Nat, k ≤ z1.length ∧ k ≤ 60 ∧ iv = .int .i64 k ∧ ∃ d N, DevAt W.heap.size wr wa.heap.size d N ∧ St n k d ∧ N ≤ 60 * k ∧ Below W.heap.size W wr) (fun iv _ _ => 60 - (intOf iv).toNat)
  case atStart => exact ⟨0, Nat.zero_le _, Nat.zero_le _, rfl, _, _, dc, st, Nat.le_refl _, bc⟩
  case round =>
    clear dc st bc ba
    obtain ⟨k, hk1, hk2, rfl, d, N, dk, sk, hN, bk⟩ := hrel
    by_cases hlt : k < z1.length
    · by_cases h60 : k < 60
      · obtain ⟨b, off, rfl, hcell⟩ := ArgRow.at w1 bk hlt
        have hl := sk.len
        cases hz : z1.getD k false
        · rw [hz] at hcell
          by_cases hkn : k < n
          · go_wp2_with fail
            refine (bytes0_any wr k (by omega)).mono ?_
            rintro e wd ⟨vd, rfl, od, bd⟩
            have hbl : (bytesL (k : Int) 256).length = 256 := bytesL_length _ _
            obtain ⟨e1, s1⟩ := write_yes sk (by omega) ((k : Int) % 4) (by omega) hbl
            have hwr := write_any (dk.below bd) ((k : Int) % 4) (od.bytes (by rw [hbl]; unfold maxLen; omega)) (by omega) (Nat.le_trans bk.size bd.size)
            rw [e1] at hwr
            go_wp2_with fail
            refine hwr.mono ?_
            rintro e we ⟨rfl, de, fe⟩
            have be := (bk.trans (bd.mono bk.size)).trans (fe.below (Nat.le_trans bk.size bd.size))
            clear hwr dk fe sk bk e1 hz od bd hbl
            go_wp2
            go_roundw
            case rel => exact ⟨k + 1, by omega, by omega, by go_num, _, _, de, s1, by omega, be⟩
            case measure => simp [intOf]; omega
          · go_wp2_with fail
            refine (bytes0_any wr k (by omega)).mono ?_
            rintro e wd ⟨vd, rfl, od, bd⟩
            have hbl : (bytesL (k : Int) 256).length = 256 := bytesL_length _ _
            obtain ⟨e1, s1⟩ := write_no sk (by omega) ((k : Int) % 4) (by omega) hbl
            have hwr := write_any (dk.below bd) ((k : Int) % 4) (od.bytes (by rw [hbl]; unfold maxLen; omega)) (by omega) (Nat.le_trans bk.size bd.size)
            rw [e1] at hwr
            go_wp2_with fail
            refine hwr.mono ?_
            rintro e we ⟨rfl, de, fe⟩
            have be := (bk.trans (bd.mono bk.size)).trans (fe.below (Nat.le_trans bk.size bd.size))
            clear hwr dk fe sk bk e1 hz od bd hbl
            go_wp2
            go_roundw
            case rel => exact ⟨k + 1, by omega, by omega, by go_num, _, _, de, s1, by omega, be⟩
            case measure => simp [intOf]; omega
        · rw [hz] at hcell
          have hfl := flush_any dk (by unfold maxLen; omega) (by omega)
          by_cases hkn : k < n
          · obtain ⟨e1, s1⟩ := flush_yes sk hkn
            rw [e1] at hfl
            go_wp2_with fail
            refine hfl.mono ?_
            rintro e wd ⟨rfl, dd, fd⟩
            have bd := bk.trans (fd.below bk.size)
            clear hfl dk fd sk bk e1 hz
            go_wp2
            go_roundw
            case rel => exact ⟨k + 1, by omega, by omega, by go_num, _, _, dd, s1, by omega, bd⟩
            case measure => simp [intOf]; omega
          · obtain ⟨e1, s1⟩ := flush_no sk (by omega)
            rw [e1] at hfl
            go_wp2_with fail
            refine hfl.mono ?_
            rintro e wd ⟨rfl, dd, fd⟩
            have bd := bk.trans (fd.below bk.size)
            clear hfl dk fd sk bk e1 hz
            go_wp2
            go_roundw
            case rel => exact ⟨k + 1, by omega, by omega, by go_num, _, _, dd, s1, by omega, bd⟩
            case measure => simp [intOf]; omega
      · obtain rfl : k = 60 := by omega
        have hl := sk.len
        have hrd := read_any dk 0 (by omega)
        rw [read_st sk, if_pos (by omega)] at hrd
        have hdn : decide ((n : Int) < 60) = true := by simp; omega
        go_wp2_with fail
        refine hrd.mono ?_
        rintro e wd ⟨vd, rfl, -, bd⟩
        have dd := dk.below bd
        go_wp2_with fail
        refine (crash_any dd (by unfold maxLen; omega) (by omega) (Ints.nil FK _ wd)).mono ?_
        rintro e we ⟨rfl, de, fe⟩
        have hbl : (bytesL 5 256).length = 256 := bytesL_length _ _
        obtain ⟨d', cw1, cw2, cw3⟩ := crash_write d [] sk.size hbl
        have s1 : W.heap.size ≤ wd.heap.size := Nat.le_trans bk.size bd.size
        have s2 := Nat.le_trans s1 fe.size
        have be := (bk.trans (bd.mono bk.size)).trans (fe.below s1)
        clear hrd fe bd dd dk
        go_wp2_with fail
        refine (bytes0_any we 5 (by decide)).mono ?_
        rintro e wf ⟨vf, rfl, of, bf⟩
        have hwr := write_any (de.below bf) 0 (of.bytes (by rw [hbl]; unfold maxLen; omega)) (by rw [(crash_off d []).2.2.1]; simp) (Nat.le_trans s2 bf.size)
        rw [cw1] at hwr
        go_wp2_with fail
        refine hwr.mono ?_
        rintro e wg ⟨rfl, dg, fg⟩
        have bg := (be.trans (bf.mono be.size)).trans (fg.below (Nat.le_trans s2 bf.size))
        have hfl := flush_any dg (by rw [cw3]; unfold maxLen; omega) (by rw [cw3]; omega)
        rw [cw2] at hfl
        clear hwr fg bf of de be
        go_wp2_with fail
        refine hfl.mono ?_
        rintro e wh ⟨rfl, dh, fh⟩
        have bh := bg.trans (fh.below bg.size)
        clear hfl fh dg dh cw1 cw2 cw3 bg
        go_wp2
        go_ret
        exact ⟨rfl, bh⟩
    · obtain rfl : k = z1.length := by omega
      have hl := sk.len
      have hrd := read_any dk 0 (by omega)
      by_cases hkn : n < z1.length
      · rw [read_st sk, if_pos hkn] at hrd
        have hdn : decide (n < z1.length) = true := by simpa using hkn
        go_wp2_with fail
        refine hrd.mono ?_
        rintro e wd ⟨vd, rfl, -, bd⟩
        have dd := dk.below bd
        go_wp2_with fail
        refine (crash_any dd (by unfold maxLen; omega) (by omega) (Ints.nil FK _ wd)).mono ?_
        rintro e we ⟨rfl, de, fe⟩
        have hbl : (bytesL 5 256).length = 256 := bytesL_length _ _
        obtain ⟨d', cw1, cw2, cw3⟩ := crash_write d [] sk.size hbl
        have s1 : W.heap.size ≤ wd.heap.size := Nat.le_trans bk.size bd.size
        have s2 := Nat.le_trans s1 fe.size
        have be := (bk.trans (bd.mono bk.size)).trans (fe.below s1)
        clear hrd fe bd dd dk
        go_wp2_with fail
        refine (bytes0_any we 5 (by decide)).mono ?_
        rintro e wf ⟨vf, rfl, of, bf⟩
        have hwr := write_any (de.below bf) 0 (of.bytes (by rw [hbl]; unfold maxLen; omega)) (by rw [(crash_off d []).2.2.1]; simp) (Nat.le_trans s2 bf.size)
        rw [cw1] at hwr
        go_wp2_with fail
        refine hwr.mono ?_
        rintro e wg ⟨rfl, dg, fg⟩
        have bg := (be.trans (bf.mono be.size)).trans (fg.below (Nat.le_trans s2 bf.size))
        have hfl := flush_any dg (by rw [cw3]; unfold maxLen; omega) (by rw [cw3]; omega)
        rw [cw2] at hfl
        clear hwr fg bf of de be
        go_wp2_with fail
        refine hfl.mono ?_
        rintro e wh ⟨rfl, dh, fh⟩
        have bh := bg.trans (fh.below bg.size)
        clear hfl fh dg dh cw1 cw2 cw3 bg
        go_wp2
        go_ret
        exact ⟨rfl, bh⟩
      · rw [read_st sk, if_neg hkn] at hrd
        have hdn : decide (n < z1.length) = false := by simpa using hkn
        go_wp2_with fail
        refine hrd.mono ?_
        rintro e wd ⟨vd, rfl, -, bd⟩
        have dd := dk.below bd
        go_wp2_with fail
        refine (crash_any dd (by unfold maxLen; omega) (by omega) (Ints.nil FK _ wd)).mono ?_
        rintro e we ⟨rfl, de, fe⟩
        have hbl : (bytesL 5 256).length = 256 := bytesL_length _ _
        obtain ⟨d', cw1, cw2, cw3⟩ := crash_write d [] sk.size hbl
        have s1 : W.heap.size ≤ wd.heap.size := Nat.le_trans bk.size bd.size
        have s2 := Nat.le_trans s1 fe.size
        have be := (bk.trans (bd.mono bk.size)).trans (fe.below s1)
        clear hrd fe bd dd dk
        go_wp2_with fail
        refine (bytes0_any we 5 (by decide)).mono ?_
        rintro e wf ⟨vf, rfl, of, bf⟩
        have hwr := write_any (de.below bf) 0 (of.bytes (by rw [hbl]; unfold maxLen; omega)) (by rw [(crash_off d []).2.2.1]; simp) (Nat.le_trans s2 bf.size)
        rw [cw1] at hwr
        go_wp2_with fail
        refine hwr.mono ?_
        rintro e wg ⟨rfl, dg, fg⟩
        have bg := (be.trans (bf.mono be.size)).trans (fg.below (Nat.le_trans s2 bf.size))
        have hfl := flush_any dg (by rw [cw3]; unfold maxLen; omega) (by rw [cw3]; omega)
        rw [cw2] at hfl
        clear hwr fg bf of de be
        go_wp2_with fail
        refine hfl.mono ?_
        rintro e wh ⟨rfl, dh, fh⟩
        have bh := bg.trans (fh.below bg.size)
        clear hfl fh dg dh cw1 cw2 cw3 bg
        go_wp2
        go_ret
        exact ⟨rfl, bh⟩

/-! ### the row -/
theorem laidOut : laidOutB Try.prog = true := by kernel_rfl
theorem bytesInt : Try.prog.bytesOf 3 = 8 := by kernel_rfl
set_option maxRecDepth 100000 in
theorem lifted (os : Os) (started : os.Started) (H : Type) (enc : TypeId × Value → H) :
    ReturnsInHanded {} Try.checked os 5 .any (Rows.flashArmsSpec.pre6 enc Try.prog Try.f5 Rows.flashArmsRow.domain false) (Rows.flashArmsSpec.post enc Try.prog Try.f5 false true false false) := by
  refine returnsInHanded_of_change_sized (C := Try.checked) own started (by kernel_rfl) Try.func5
    (ChangeSpec.witness6 (enc := enc) (C := Try.checked) false ⟨#[], #[.int .i64 0, .slice none 0 0], []⟩ 8 (by kernel_rfl) (by kernel_rfl) (by kernel_rfl) (by kernel_rfl)) ?_
  intro W base args ds gs before hval0 hW hcnd hsz0 _
  have hval : ∀ (j : Nat) t v, Try.f5.params[j]? = some t → args[j]? = some v → Value.okWide Try.prog W .any base t v := hval0
  have hW' := hW
  obtain ⟨p, q, hA0, hV, rfl, hfz, hnd⟩ := hW
  have hA : DataW.TrodAll enc Try.prog W 0 (fun _ => true) true Try.f5.params.toList args.toList ds p := hA0
  have hsz : (DataW.weightsEach Try.prog (Try.f5.params.toList ++ Rows.flashArmsSpec.plain.varTypes Try.prog) (ds ++ gs)).all (· ≤ reachBytes) = true := hsz0
  rw [Try.params5] at hA hval hsz
  obtain ⟨v0, vs0, d0, ds0, p0, q0, hargs, rfl, rfl, h0, r0⟩ := trodAll_cons hA
  obtain ⟨v1, vs1, d1, ds1, p1, q1, rfl, rfl, rfl, h1, r1⟩ := trodAll_cons r0
  obtain ⟨rfl, rfl, rfl⟩ := trodAll_nil r1
  obtain rfl : args = #[v0, v1] := by cases args; simp_all
  obtain ⟨rfl, rfl⟩ := trodVars_none hV
  obtain ⟨a0, rfl, rfl, rfl, w0⟩ := open_int Try.underlying3 (hval 0 3 v0 rfl rfl) h0
  have k1 := h1
  have lt1 := args_lt k1
  obtain ⟨z1, w1⟩ := bools_arg Try.underlying44 Try.underlying4 (by kernel_rfl) (hval 1 44 v1 rfl rfl) h1
  clear hA0 hval0 hsz0
  refine (walk a0 w0 v1 z1 W w1).mono fun e W' ⟨he, bel⟩ => ?_
  subst he
  exact ⟨_, rfl, _, _, _, [], _, [], hW', trodAll_mk1 (shut_bool Try.underlying4 _), (trodAll_cons_mk (shut_int Try.underlying3 w0) (trodAll_cons_mk (Below.trod laidOut (by kernel_rfl) (of_decide_eq_true (by kernel_rfl)) k1 bel lt1) trodAll_mk0)), rfl, bel.frame _, fun h => by cases h⟩

theorem over : Rows.flashArmsRow.holds Try.pinned (OpenSpec.ofChange Rows.flashArmsSpec) :=
  OpenClaim.holds_of_wide 5 Try.f5 rfl rfl rfl rfl rfl rfl rfl ⟨rfl, rfl, rfl, rfl, rfl⟩ rfl rfl rfl rfl rfl (by kernel_rfl) Try.func5 (by kernel_rfl)
    (of_decide_eq_true (by kernel_rfl)) (by unfold Func.isWrapper; first | (rw [if_pos (by decide +kernel)]; kernel_rfl) | (rw [if_neg (by decide +kernel)]; exact ⟨rfl, rfl⟩))
    (fun os started H enc _ => lifted os started H enc)
end Go.Proofs.Ytmlmncnnccegdaa.flashArms

namespace Go.Proofs.Ytmlmncnnccegdaa
/-- The law returns true at every input. -/
theorem flashArms_holds : Rows.FlashArmsSaid := flashArms.over
end Go.Proofs.Ytmlmncnnccegdaa

