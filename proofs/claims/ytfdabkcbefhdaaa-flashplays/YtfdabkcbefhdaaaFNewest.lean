/- A sector that is written several times is read as it was written last, flushed or not: the law cisternlaw01.FlashNewest returns true at every input. No condition. -/
import Derived.Test.YtfdabkcbefhdaaaFKnown
import Derived.Test.YtfdabkcbefhdaaaFPlain
import Derived.Test.YtfdabkcbefhdaaaArgs
namespace Go.Proofs.Ytfdabkcbefhdaaa.flashNewest
set_option maxRecDepth 20000
open Go.ChangeShapes Go.WideShapes Go.ChangeAt Go.RowKit

theorem own : ownKnob Try.prog.godebug = none := by kernel_rfl

/-- The device behind i rounds. -/
structure St (i : Nat) (d : Dev) : Prop where
  size : d.size = 3
  off : d.off = false
  armed : d.armed = false
  len : d.waits.length ≤ i
  at_ : ∀ p ∈ d.waits, p.1 = 1
  last : d.last 0 = (zeros, false)
theorem St.write {i : Nat} {d : Dev} (h : St i d) {bs : List UInt8} (hb : bs.length = 256) : ∃ d', d.write 1 bs = (0, d') ∧ St (i + 1) d' ∧ d'.read 1 = (bs, 0) ∧ d'.read 0 = (zeros, 0) := by
  have hs : (1 : Int) < d.size := by rw [h.size]; decide
  have h1 := write_free h.off h.armed (i := 1) ⟨by decide, hs⟩ hb
  have hat : ∀ p ∈ d.waits ++ [(1, bs)], p.1 = 1 := fun p hp => by
    rcases List.mem_append.1 hp with hp | hp
    · exact h.at_ p hp
    · rw [List.mem_singleton.1 hp]
  refine ⟨_, h1, ⟨h.size, h.off, h.armed, by simpa using h.len, hat, h.last⟩, ?_, ?_⟩
  · rw [read_free (d := { d with waits := d.waits ++ [(1, bs)] }) h.off ⟨by decide, hs⟩, newest_append, if_pos rfl]
  · rw [read_free (d := { d with waits := d.waits ++ [(1, bs)] }) h.off ⟨by decide, by show (0 : Int) < d.size; omega⟩, newest_none (fun p hp => by rw [hat p hp]; decide)]
    show (if (d.last 0).2 = true then _ else _) = _
    rw [h.last]; rfl
theorem St.flush {i : Nat} {d : Dev} (h : St i d) : d.flush = (0, d.flushed) ∧ St i d.flushed := by
  obtain ⟨h1, h2, h3, h4, h5⟩ := flushed_same d
  refine ⟨flush_free h.off h.armed, h2.trans h.size, h3.trans h.off, h4.trans h.armed, by rw [h1]; simp, by rw [h1]; simp, ?_⟩
  rw [flushed_last, newest_none (fun p hp => by rw [h.at_ p hp]; decide)]
  exact h.last
theorem szInt : (Try.prog.info? 3).map (·.size) = some 1 := by kernel_rfl
theorem ownB_made {base : Nat} {w : World} {v : Value} (h : w.ownsRow base 5 1 v 256 (madeCells (Value.cells (.int .u8 0)) (256 * 1)).toList) : OwnB base w v zeros := by
  have e : (madeCells (Value.cells (.int .u8 0)) (256 * 1)).toList = cellsB zeros := by
    rw [show Value.cells (.int .u8 0) = #[.int .u8 0] from rfl, toList_madeCells_one]
    unfold cellsB zeros
    rw [List.map_replicate]
    rfl
  rw [e] at h
  unfold OwnB
  rw [zeros_length]
  exact h

theorem int_range {zs : List Int} (h : ∀ z ∈ zs, -9223372036854775808 ≤ z ∧ z ≤ 9223372036854775807) (k : Nat) (hk : k < zs.length) : -9223372036854775808 ≤ zs.getD k 0 ∧ zs.getD k 0 ≤ 9223372036854775807 := by
  rw [List.getD_eq_getElem?_getD, List.getElem?_eq_getElem hk]
  exact h _ (List.getElem_mem hk)

set_option maxHeartbeats 1600000 in
set_option maxRecDepth 20000 in
theorem walk (v0 : Value) (z0 : List Int) (v1 : Value) (z1 : List Bool) (W : World) (w0 : IntsArg W v0 z0) (w1 : BoolsArg W v1 z1) :
    Calls Try.prog 7 #[v0, v1] W fun e w' => e = .returned (.bool true) ∧ Below W.heap.size W w' := by
  obtain ⟨ao, cap, rfl, hlen, -⟩ := w0.1.form
  obtain ⟨ao1, cap1, rfl, hlen1, -⟩ := ArgRow.form w1
  go_enter Try.func7, Try.ntmps7
  go_wp2_with fail
  refine (known_any W).mono ?_
  rintro e wa ⟨rfl, ba⟩
  go_wp2_with fail
  refine (new_any W.heap.size wa 3 (by decide) (by decide) ba.size).mono ?_
  rintro e wb ⟨rfl, db, bb, -⟩
  have bc : Below W.heap.size W wb := ba.trans (bb.mono ba.size)
  have st : St 0 (Dev.fresh 3) := ⟨rfl, rfl, rfl, Nat.le_refl _, by simp [Dev.fresh], rfl⟩
  go_wp2
  go_loopw [7] (fun iv wr => ∃ k : Nat, k ≤ z0.length ∧ k ≤ 40 ∧ iv = .int .i64 k ∧ ∃ d N, DevAt W.heap.size wr wa.heap.size d N ∧ St k d ∧ N ≤ 60 * k ∧ Below W.heap.size W wr) (fun iv _ => 40 - (intOf iv).toNat)
  case atStart => exact ⟨0, Nat.zero_le _, Nat.zero_le _, rfl, _, _, db, st, Nat.le_refl _, bc⟩
  case round =>
    clear db st bc ba bb
    obtain ⟨k, hk1, hk2, rfl, d, N, dk, sk, hN, bk⟩ := hrel
    by_cases hlt : k < z0.length
    · by_cases h40 : k < 40
      · obtain ⟨b, off, rfl, hcell⟩ := w0.1.at bk hlt
        have hrg := int_range w0.2.1 k hlt
        obtain ⟨fill, hfill⟩ : ∃ f, z0.getD k 0 = f := ⟨_, rfl⟩
        rw [hfill] at hcell hrg
        have HF := Lib.hid hfill
        clear hfill
        have hl := sk.len
        go_wp2_with fail
        refine (bytes0_any wr fill hrg).mono ?_
        rintro e wd ⟨vd, rfl, od, bd⟩
        have hbl : (bytesL fill 256).length = 256 := bytesL_length _ _
        obtain ⟨d1, e1, s1, r1, r0⟩ := sk.write hbl
        have hwr := write_any (dk.below bd) 1 (od.bytes (by rw [hbl]; unfold maxLen; omega)) (by omega) (Nat.le_trans bk.size bd.size)
        rw [e1] at hwr
        go_wp2_with fail
        refine hwr.mono ?_
        rintro e we ⟨rfl, de, fe⟩
        have be := (bk.trans (bd.mono bk.size)).trans (fe.below (Nat.le_trans bk.size bd.size))
        clear hwr dk fe sk bk e1 od bd hbl hcell
        have hl1 := s1.len
        by_cases hk1' : k < z1.length
        · obtain ⟨b1, off1, rfl, hcell1⟩ := ArgRow.at w1 be hk1'
          cases hz : z1.getD k false
          · rw [hz] at hcell1
            obtain ⟨wf, rfl⟩ : ∃ wf, wf = we := ⟨_, rfl⟩
            have df := de
            have s2 := s1
            have bf := be
            clear de s1 be hz
            have hrd1 := read_any df 1 (by omega)
            rw [r1] at hrd1
            go_wp2_with fail
            refine hrd1.mono ?_
            rintro e wg ⟨vg, rfl, og, bg⟩
            have dg := df.below bg
            have hrd0 := read_any dg 0 (by omega)
            rw [r0] at hrd0
            go_wp2_with fail
            refine hrd0.mono ?_
            rintro e wh ⟨vh, rfl, oh, bh⟩
            have dh := dg.below bh
            have bW := (bf.trans (bg.mono bf.size)).trans (bh.mono (Nat.le_trans bf.size bg.size))
            have og' : OwnB wf.heap.size wh vg (bytesL fill 256) := row_keep (K := fun _ => false) (B' := 0) og (Fr.of_below bh) (fun _ => rfl)
            have hcvg : ∀ w', Below wh.heap.size wh w' → (convert 31 9 vg).run Try.prog w' = .ok (.string (strOf (bytesL fill 256))) w' := fun w' hb => run_string (row_keep (K := fun _ => false) (B' := 0) og' (Fr.of_below hb) (fun _ => rfl))
            have hcvh : ∀ w', Below wh.heap.size wh w' → (convert 31 9 vh).run Try.prog w' = .ok (.string (strOf zeros)) w' := fun w' hb => run_string (row_keep (K := fun _ => false) (B' := 0) oh (Fr.of_below hb) (fun _ => rfl))
            obtain ⟨b', off', hao, hcell'⟩ := w0.1.at bW hlt
            simp only [Option.some.injEq, Addr.mk.injEq, and_true] at hao
            obtain ⟨rfl, rfl⟩ := hao
            rw [HF.out] at hcell'
            have hltb : b < wh.heap.size := World.block_lt_of_cell? wh ⟨b, off + k, none⟩ hcell'
            have hcl : ∀ w', Below wh.heap.size wh w' → w'.cell? ⟨b, off + k, none⟩ = some (.int .i64 fill) := fun w' hb => (hb.cell (p := ⟨b, off + k, none⟩) hltb).trans hcell'
            obtain ⟨i0, hi0, hz0, hz1, hz2⟩ := info_parts info5
            clear hrd1 hrd0 df dg og oh og' bg bh bf hcell'
            go_wp2_with fail
            have hS : Below wh.heap.size wh wh.drew := (Below.refl _ _).drew
            refine wp_region_held_drew (S := fun w' => Below wh.heap.size wh w') mixed hS (fun _ => ?_)
            show wpAnyH _ _ _ _ _ 24 (Array.replicate 24 false) _ _
            refine wpAnyH_take_d 0 (some 63) (.int .i64 0) rfl (by kernel_rfl) (by kernel_rfl) (by kernel_rfl) (by kernel_rfl) rfl (fun _ _ _ h => h) (fun _ _ => by kernel_rfl) (by exact hS) ?_
            simp only [Act.put, List.setIfInBounds_toArray, List.set_cons_succ, List.set_cons_zero]
            refine wpAnyH_take_d 1 (some 64) (.bool false) rfl (by kernel_rfl) (by kernel_rfl) (by kernel_rfl) (by kernel_rfl) rfl (fun _ _ _ h => h) (fun _ _ => by kernel_rfl) (by exact hS) ?_
            simp only [Act.put, List.setIfInBounds_toArray, List.set_cons_succ, List.set_cons_zero]
            refine wpAnyH_take_d 2 (some 65) (.bool false) rfl (by kernel_rfl) (by kernel_rfl) (by kernel_rfl) (by kernel_rfl) rfl (fun _ _ _ h => h) (fun _ _ => by kernel_rfl) (by exact hS) ?_
            simp only [Act.put, List.setIfInBounds_toArray, List.set_cons_succ, List.set_cons_zero]
            refine wpAnyH_take_d 3 (some 66) (.int .i64 0) rfl (by kernel_rfl) (by kernel_rfl) (by kernel_rfl) (by kernel_rfl) rfl (fun _ _ _ h => h) (fun _ _ => by kernel_rfl) (by exact hS) ?_
            simp only [Act.put, List.setIfInBounds_toArray, List.set_cons_succ, List.set_cons_zero]
            refine wpAnyH_take_d 4 (some 67) (.bool false) rfl (by kernel_rfl) (by kernel_rfl) (by kernel_rfl) (by kernel_rfl) rfl (fun _ _ _ h => h) (fun _ _ => by kernel_rfl) (by exact hS) ?_
            simp only [Act.put, List.setIfInBounds_toArray, List.set_cons_succ, List.set_cons_zero]
            refine wpAnyH_take_d 5 (some 68) (.bool false) rfl (by kernel_rfl) (by kernel_rfl) (by kernel_rfl) (by kernel_rfl) rfl (fun _ _ _ h => h) (fun _ _ => by kernel_rfl) (by exact hS) ?_
            simp only [Act.put, List.setIfInBounds_toArray, List.set_cons_succ, List.set_cons_zero]
            refine wpAnyH_take_d 6 (some 69) (.bool false) rfl (by kernel_rfl) (by kernel_rfl) (by kernel_rfl) (by kernel_rfl) rfl (fun _ _ _ h => h) (fun _ _ => by kernel_rfl) (by exact hS) ?_
            simp only [Act.put, List.setIfInBounds_toArray, List.set_cons_succ, List.set_cons_zero]
            refine wpAnyH_take_d 7 (some 70) (vg) rfl (by kernel_rfl) (by kernel_rfl) (by kernel_rfl) (by kernel_rfl) rfl (fun _ _ _ h => h) (fun _ _ => by kernel_rfl) (by exact hS) ?_
            simp only [Act.put, List.setIfInBounds_toArray, List.set_cons_succ, List.set_cons_zero]
            refine wpAnyH_take_d 8 (some 71) (.string (strOf (bytesL fill 256))) rfl (by kernel_rfl) (by kernel_rfl) (by kernel_rfl) (by kernel_rfl) rfl (fun _ _ _ h => h) (fun w' hb => exec_convert rfl rfl (hcvg w' hb)) (by exact hS) ?_
            simp only [Act.put, List.setIfInBounds_toArray, List.set_cons_succ, List.set_cons_zero]
            refine wpAnyH_take_d 9 (some 72) (.slice (some ⟨b, off, none⟩) z0.length cap) rfl (by kernel_rfl) (by kernel_rfl) (by kernel_rfl) (by kernel_rfl) rfl (fun _ _ _ h => h) (fun _ _ => by kernel_rfl) (by exact hS) ?_
            simp only [Act.put, List.setIfInBounds_toArray, List.set_cons_succ, List.set_cons_zero]
            refine wpAnyH_take_d 10 (some 73) (.int .i64 k) rfl (by kernel_rfl) (by kernel_rfl) (by kernel_rfl) (by kernel_rfl) rfl (fun _ _ _ h => h) (fun _ _ => by kernel_rfl) (by exact hS) ?_
            simp only [Act.put, List.setIfInBounds_toArray, List.set_cons_succ, List.set_cons_zero]
            refine wpAnyH_take_d 11 (some 74) (.pointer (some ⟨b, off + k, none⟩)) rfl (by kernel_rfl) (by kernel_rfl) (by kernel_rfl) (by kernel_rfl) rfl (fun _ _ _ h => h) (fun w' _ => exec_indexAddr rfl rfl rfl hlt Try.underlying40 szInt) (by exact hS) ?_
            simp only [Act.put, List.setIfInBounds_toArray, List.set_cons_succ, List.set_cons_zero]
            refine wpAnyH_take_d 12 (some 75) (.int .i64 fill) rfl (by kernel_rfl) (by kernel_rfl) (by kernel_rfl) (by kernel_rfl) rfl (fun _ _ _ h => h) (fun w' hb => exec_load_cell rfl rfl (hcl w' hb) Try.underlying3 rfl) (by exact hS) ?_
            simp only [Act.put, List.setIfInBounds_toArray, List.set_cons_succ, List.set_cons_zero]
            refine wpAnyH_call 13 (some 76) 16 #[.int .i64 fill, .int .i64 0] rfl (by kernel_rfl) (by kernel_rfl) rfl (by kernel_rfl) (bytes0_any wh.drew fill hrg) ?_
            rintro e wi ⟨vi, rfl, oi, bi⟩
            have hS : Below wh.heap.size wh wi := (Below.refl wh.heap.size wh).drew.trans bi
            refine ⟨vi, rfl, hS, ?_⟩
            simp only [Act.put, List.setIfInBounds_toArray, List.set_cons_succ, List.set_cons_zero]
            refine wpAnyH_one 14 (some 77) (.string (strOf (bytesL fill 256))) rfl (by kernel_rfl) (by kernel_rfl) rfl (exec_convert rfl rfl (run_string oi)) (by exact hS) ?_
            simp only [Act.put, List.setIfInBounds_toArray, List.set_cons_succ, List.set_cons_zero]
            refine wpAnyH_one 15 (some 78) (.bool false) rfl (by kernel_rfl) (by kernel_rfl) rfl (exec_strneq rfl rfl rfl (by simp)) (by exact hS) ?_
            simp only [Act.put, List.setIfInBounds_toArray, List.set_cons_succ, List.set_cons_zero]
            refine wpAnyH_one 16 (some 79) (.bool false) rfl (by kernel_rfl) (by kernel_rfl) rfl (by kernel_rfl) (by exact hS) ?_
            simp only [Act.put, List.setIfInBounds_toArray, List.set_cons_succ, List.set_cons_zero]
            refine wpAnyH_one 17 (some 80) (.bool false) rfl (by kernel_rfl) (by kernel_rfl) rfl (by kernel_rfl) (by exact hS) ?_
            simp only [Act.put, List.setIfInBounds_toArray, List.set_cons_succ, List.set_cons_zero]
            refine wpAnyH_take_d 18 (some 81) (vh) rfl (by kernel_rfl) (by kernel_rfl) (by kernel_rfl) (by kernel_rfl) rfl (fun _ _ _ h => h) (fun _ _ => by kernel_rfl) (by exact hS) ?_
            simp only [Act.put, List.setIfInBounds_toArray, List.set_cons_succ, List.set_cons_zero]
            refine wpAnyH_take_d 19 (some 82) (.string (strOf zeros)) rfl (by kernel_rfl) (by kernel_rfl) (by kernel_rfl) (by kernel_rfl) rfl (fun _ _ _ h => h) (fun w' hb => exec_convert rfl rfl (hcvh w' hb)) (by exact hS) ?_
            simp only [Act.put, List.setIfInBounds_toArray, List.set_cons_succ, List.set_cons_zero]
            obtain ⟨wj, hmk, oj, gj⟩ := exec_make (P := Try.prog) (w := wi) (ρ := fun x => match x with | .const v => v | _ => undef) (o := ⟨some 83, .makeSlice 31 (.const (.int .i64 256)) (.const (.int .i64 256)), 31, "", #[], none⟩) 256 rfl rfl rfl 0 Try.underlying31 hi0 hz0 hz1 (by rw [hz2]; decide) (by unfold maxLen; decide) (Nat.zero_le _)
            have hS : Below wh.heap.size wh wj := hS.grown gj hS.size (fun k e => by cases e)
            refine wpAnyH_one 20 (some 83) (.slice (some ⟨wi.heap.size, 0, none⟩) 256 256) rfl (by kernel_rfl) (by kernel_rfl) rfl hmk (by exact hS) ?_
            simp only [Act.put, List.setIfInBounds_toArray, List.set_cons_succ, List.set_cons_zero]
            refine wpAnyH_one 21 (some 84) (.string (strOf zeros)) rfl (by kernel_rfl) (by kernel_rfl) rfl (exec_convert rfl rfl (run_string (ownB_made oj))) (by exact hS) ?_
            simp only [Act.put, List.setIfInBounds_toArray, List.set_cons_succ, List.set_cons_zero]
            refine wpAnyH_one 22 (some 85) (.bool false) rfl (by kernel_rfl) (by kernel_rfl) rfl (exec_strneq rfl rfl rfl (by simp)) (by exact hS) ?_
            simp only [Act.put, List.setIfInBounds_toArray, List.set_cons_succ, List.set_cons_zero]
            refine wpAnyH_one 23 (some 86) (.bool false) rfl (by kernel_rfl) (by kernel_rfl) rfl (by kernel_rfl) (by exact hS) ?_
            simp only [Act.put, List.setIfInBounds_toArray, List.set_cons_succ, List.set_cons_zero]
            refine wpAnyH_done (by kernel_rfl) ?_ _
            have dj := dh.below hS
            have bj := bW.trans (hS.mono bW.size)
            clear hcvg hcvh hcl hmk oj gj oi bi hS dh bW
            go_wp2
            go_roundw
            case rel => exact ⟨k + 1, by omega, by omega, by go_num, _, _, dj, s2, by omega, bj⟩
            case measure => simp [intOf]; omega
          · rw [hz] at hcell1
            obtain ⟨ef, sf⟩ := s1.flush
            have hfl := flush_any de (by unfold maxLen; omega) (by omega)
            rw [ef] at hfl
            rw [← flushed_read] at r1 r0
            go_wp2_with fail
            refine hfl.mono ?_
            rintro e wf ⟨rfl, df, ff⟩
            have s2 := sf
            have hl2 := s2.len
            have bf := be.trans (ff.below be.size)
            clear hfl ff de sf ef be hz s1
            have hrd1 := read_any df 1 (by omega)
            rw [r1] at hrd1
            go_wp2_with fail
            refine hrd1.mono ?_
            rintro e wg ⟨vg, rfl, og, bg⟩
            have dg := df.below bg
            have hrd0 := read_any dg 0 (by omega)
            rw [r0] at hrd0
            go_wp2_with fail
            refine hrd0.mono ?_
            rintro e wh ⟨vh, rfl, oh, bh⟩
            have dh := dg.below bh
            have bW := (bf.trans (bg.mono bf.size)).trans (bh.mono (Nat.le_trans bf.size bg.size))
            have og' : OwnB wf.heap.size wh vg (bytesL fill 256) := row_keep (K := fun _ => false) (B' := 0) og (Fr.of_below bh) (fun _ => rfl)
            have hcvg : ∀ w', Below wh.heap.size wh w' → (convert 31 9 vg).run Try.prog w' = .ok (.string (strOf (bytesL fill 256))) w' := fun w' hb => run_string (row_keep (K := fun _ => false) (B' := 0) og' (Fr.of_below hb) (fun _ => rfl))
            have hcvh : ∀ w', Below wh.heap.size wh w' → (convert 31 9 vh).run Try.prog w' = .ok (.string (strOf zeros)) w' := fun w' hb => run_string (row_keep (K := fun _ => false) (B' := 0) oh (Fr.of_below hb) (fun _ => rfl))
            obtain ⟨b', off', hao, hcell'⟩ := w0.1.at bW hlt
            simp only [Option.some.injEq, Addr.mk.injEq, and_true] at hao
            obtain ⟨rfl, rfl⟩ := hao
            rw [HF.out] at hcell'
            have hltb : b < wh.heap.size := World.block_lt_of_cell? wh ⟨b, off + k, none⟩ hcell'
            have hcl : ∀ w', Below wh.heap.size wh w' → w'.cell? ⟨b, off + k, none⟩ = some (.int .i64 fill) := fun w' hb => (hb.cell (p := ⟨b, off + k, none⟩) hltb).trans hcell'
            obtain ⟨i0, hi0, hz0, hz1, hz2⟩ := info_parts info5
            clear hrd1 hrd0 df dg og oh og' bg bh bf hcell'
            go_wp2_with fail
            have hS : Below wh.heap.size wh wh.drew := (Below.refl _ _).drew
            refine wp_region_held_drew (S := fun w' => Below wh.heap.size wh w') mixed hS (fun _ => ?_)
            show wpAnyH _ _ _ _ _ 24 (Array.replicate 24 false) _ _
            refine wpAnyH_take_d 0 (some 63) (.int .i64 0) rfl (by kernel_rfl) (by kernel_rfl) (by kernel_rfl) (by kernel_rfl) rfl (fun _ _ _ h => h) (fun _ _ => by kernel_rfl) (by exact hS) ?_
            simp only [Act.put, List.setIfInBounds_toArray, List.set_cons_succ, List.set_cons_zero]
            refine wpAnyH_take_d 1 (some 64) (.bool false) rfl (by kernel_rfl) (by kernel_rfl) (by kernel_rfl) (by kernel_rfl) rfl (fun _ _ _ h => h) (fun _ _ => by kernel_rfl) (by exact hS) ?_
            simp only [Act.put, List.setIfInBounds_toArray, List.set_cons_succ, List.set_cons_zero]
            refine wpAnyH_take_d 2 (some 65) (.bool false) rfl (by kernel_rfl) (by kernel_rfl) (by kernel_rfl) (by kernel_rfl) rfl (fun _ _ _ h => h) (fun _ _ => by kernel_rfl) (by exact hS) ?_
            simp only [Act.put, List.setIfInBounds_toArray, List.set_cons_succ, List.set_cons_zero]
            refine wpAnyH_take_d 3 (some 66) (.int .i64 0) rfl (by kernel_rfl) (by kernel_rfl) (by kernel_rfl) (by kernel_rfl) rfl (fun _ _ _ h => h) (fun _ _ => by kernel_rfl) (by exact hS) ?_
            simp only [Act.put, List.setIfInBounds_toArray, List.set_cons_succ, List.set_cons_zero]
            refine wpAnyH_take_d 4 (some 67) (.bool false) rfl (by kernel_rfl) (by kernel_rfl) (by kernel_rfl) (by kernel_rfl) rfl (fun _ _ _ h => h) (fun _ _ => by kernel_rfl) (by exact hS) ?_
            simp only [Act.put, List.setIfInBounds_toArray, List.set_cons_succ, List.set_cons_zero]
            refine wpAnyH_take_d 5 (some 68) (.bool false) rfl (by kernel_rfl) (by kernel_rfl) (by kernel_rfl) (by kernel_rfl) rfl (fun _ _ _ h => h) (fun _ _ => by kernel_rfl) (by exact hS) ?_
            simp only [Act.put, List.setIfInBounds_toArray, List.set_cons_succ, List.set_cons_zero]
            refine wpAnyH_take_d 6 (some 69) (.bool false) rfl (by kernel_rfl) (by kernel_rfl) (by kernel_rfl) (by kernel_rfl) rfl (fun _ _ _ h => h) (fun _ _ => by kernel_rfl) (by exact hS) ?_
            simp only [Act.put, List.setIfInBounds_toArray, List.set_cons_succ, List.set_cons_zero]
            refine wpAnyH_take_d 7 (some 70) (vg) rfl (by kernel_rfl) (by kernel_rfl) (by kernel_rfl) (by kernel_rfl) rfl (fun _ _ _ h => h) (fun _ _ => by kernel_rfl) (by exact hS) ?_
            simp only [Act.put, List.setIfInBounds_toArray, List.set_cons_succ, List.set_cons_zero]
            refine wpAnyH_take_d 8 (some 71) (.string (strOf (bytesL fill 256))) rfl (by kernel_rfl) (by kernel_rfl) (by kernel_rfl) (by kernel_rfl) rfl (fun _ _ _ h => h) (fun w' hb => exec_convert rfl rfl (hcvg w' hb)) (by exact hS) ?_
            simp only [Act.put, List.setIfInBounds_toArray, List.set_cons_succ, List.set_cons_zero]
            refine wpAnyH_take_d 9 (some 72) (.slice (some ⟨b, off, none⟩) z0.length cap) rfl (by kernel_rfl) (by kernel_rfl) (by kernel_rfl) (by kernel_rfl) rfl (fun _ _ _ h => h) (fun _ _ => by kernel_rfl) (by exact hS) ?_
            simp only [Act.put, List.setIfInBounds_toArray, List.set_cons_succ, List.set_cons_zero]
            refine wpAnyH_take_d 10 (some 73) (.int .i64 k) rfl (by kernel_rfl) (by kernel_rfl) (by kernel_rfl) (by kernel_rfl) rfl (fun _ _ _ h => h) (fun _ _ => by kernel_rfl) (by exact hS) ?_
            simp only [Act.put, List.setIfInBounds_toArray, List.set_cons_succ, List.set_cons_zero]
            refine wpAnyH_take_d 11 (some 74) (.pointer (some ⟨b, off + k, none⟩)) rfl (by kernel_rfl) (by kernel_rfl) (by kernel_rfl) (by kernel_rfl) rfl (fun _ _ _ h => h) (fun w' _ => exec_indexAddr rfl rfl rfl hlt Try.underlying40 szInt) (by exact hS) ?_
            simp only [Act.put, List.setIfInBounds_toArray, List.set_cons_succ, List.set_cons_zero]
            refine wpAnyH_take_d 12 (some 75) (.int .i64 fill) rfl (by kernel_rfl) (by kernel_rfl) (by kernel_rfl) (by kernel_rfl) rfl (fun _ _ _ h => h) (fun w' hb => exec_load_cell rfl rfl (hcl w' hb) Try.underlying3 rfl) (by exact hS) ?_
            simp only [Act.put, List.setIfInBounds_toArray, List.set_cons_succ, List.set_cons_zero]
            refine wpAnyH_call 13 (some 76) 16 #[.int .i64 fill, .int .i64 0] rfl (by kernel_rfl) (by kernel_rfl) rfl (by kernel_rfl) (bytes0_any wh.drew fill hrg) ?_
            rintro e wi ⟨vi, rfl, oi, bi⟩
            have hS : Below wh.heap.size wh wi := (Below.refl wh.heap.size wh).drew.trans bi
            refine ⟨vi, rfl, hS, ?_⟩
            simp only [Act.put, List.setIfInBounds_toArray, List.set_cons_succ, List.set_cons_zero]
            refine wpAnyH_one 14 (some 77) (.string (strOf (bytesL fill 256))) rfl (by kernel_rfl) (by kernel_rfl) rfl (exec_convert rfl rfl (run_string oi)) (by exact hS) ?_
            simp only [Act.put, List.setIfInBounds_toArray, List.set_cons_succ, List.set_cons_zero]
            refine wpAnyH_one 15 (some 78) (.bool false) rfl (by kernel_rfl) (by kernel_rfl) rfl (exec_strneq rfl rfl rfl (by simp)) (by exact hS) ?_
            simp only [Act.put, List.setIfInBounds_toArray, List.set_cons_succ, List.set_cons_zero]
            refine wpAnyH_one 16 (some 79) (.bool false) rfl (by kernel_rfl) (by kernel_rfl) rfl (by kernel_rfl) (by exact hS) ?_
            simp only [Act.put, List.setIfInBounds_toArray, List.set_cons_succ, List.set_cons_zero]
            refine wpAnyH_one 17 (some 80) (.bool false) rfl (by kernel_rfl) (by kernel_rfl) rfl (by kernel_rfl) (by exact hS) ?_
            simp only [Act.put, List.setIfInBounds_toArray, List.set_cons_succ, List.set_cons_zero]
            refine wpAnyH_take_d 18 (some 81) (vh) rfl (by kernel_rfl) (by kernel_rfl) (by kernel_rfl) (by kernel_rfl) rfl (fun _ _ _ h => h) (fun _ _ => by kernel_rfl) (by exact hS) ?_
            simp only [Act.put, List.setIfInBounds_toArray, List.set_cons_succ, List.set_cons_zero]
            refine wpAnyH_take_d 19 (some 82) (.string (strOf zeros)) rfl (by kernel_rfl) (by kernel_rfl) (by kernel_rfl) (by kernel_rfl) rfl (fun _ _ _ h => h) (fun w' hb => exec_convert rfl rfl (hcvh w' hb)) (by exact hS) ?_
            simp only [Act.put, List.setIfInBounds_toArray, List.set_cons_succ, List.set_cons_zero]
            obtain ⟨wj, hmk, oj, gj⟩ := exec_make (P := Try.prog) (w := wi) (ρ := fun x => match x with | .const v => v | _ => undef) (o := ⟨some 83, .makeSlice 31 (.const (.int .i64 256)) (.const (.int .i64 256)), 31, "", #[], none⟩) 256 rfl rfl rfl 0 Try.underlying31 hi0 hz0 hz1 (by rw [hz2]; decide) (by unfold maxLen; decide) (Nat.zero_le _)
            have hS : Below wh.heap.size wh wj := hS.grown gj hS.size (fun k e => by cases e)
            refine wpAnyH_one 20 (some 83) (.slice (some ⟨wi.heap.size, 0, none⟩) 256 256) rfl (by kernel_rfl) (by kernel_rfl) rfl hmk (by exact hS) ?_
            simp only [Act.put, List.setIfInBounds_toArray, List.set_cons_succ, List.set_cons_zero]
            refine wpAnyH_one 21 (some 84) (.string (strOf zeros)) rfl (by kernel_rfl) (by kernel_rfl) rfl (exec_convert rfl rfl (run_string (ownB_made oj))) (by exact hS) ?_
            simp only [Act.put, List.setIfInBounds_toArray, List.set_cons_succ, List.set_cons_zero]
            refine wpAnyH_one 22 (some 85) (.bool false) rfl (by kernel_rfl) (by kernel_rfl) rfl (exec_strneq rfl rfl rfl (by simp)) (by exact hS) ?_
            simp only [Act.put, List.setIfInBounds_toArray, List.set_cons_succ, List.set_cons_zero]
            refine wpAnyH_one 23 (some 86) (.bool false) rfl (by kernel_rfl) (by kernel_rfl) rfl (by kernel_rfl) (by exact hS) ?_
            simp only [Act.put, List.setIfInBounds_toArray, List.set_cons_succ, List.set_cons_zero]
            refine wpAnyH_done (by kernel_rfl) ?_ _
            have dj := dh.below hS
            have bj := bW.trans (hS.mono bW.size)
            clear hcvg hcvh hcl hmk oj gj oi bi hS dh bW
            go_wp2
            go_roundw
            case rel => exact ⟨k + 1, by omega, by omega, by go_num, _, _, dj, s2, by omega, bj⟩
            case measure => simp [intOf]; omega
        · obtain ⟨wf, rfl⟩ : ∃ wf, wf = we := ⟨_, rfl⟩
          have df := de
          have s2 := s1
          have bf := be
          clear de s1 be
          have hrd1 := read_any df 1 (by omega)
          rw [r1] at hrd1
          go_wp2_with fail
          refine hrd1.mono ?_
          rintro e wg ⟨vg, rfl, og, bg⟩
          have dg := df.below bg
          have hrd0 := read_any dg 0 (by omega)
          rw [r0] at hrd0
          go_wp2_with fail
          refine hrd0.mono ?_
          rintro e wh ⟨vh, rfl, oh, bh⟩
          have dh := dg.below bh
          have bW := (bf.trans (bg.mono bf.size)).trans (bh.mono (Nat.le_trans bf.size bg.size))
          have og' : OwnB wf.heap.size wh vg (bytesL fill 256) := row_keep (K := fun _ => false) (B' := 0) og (Fr.of_below bh) (fun _ => rfl)
          have hcvg : ∀ w', Below wh.heap.size wh w' → (convert 31 9 vg).run Try.prog w' = .ok (.string (strOf (bytesL fill 256))) w' := fun w' hb => run_string (row_keep (K := fun _ => false) (B' := 0) og' (Fr.of_below hb) (fun _ => rfl))
          have hcvh : ∀ w', Below wh.heap.size wh w' → (convert 31 9 vh).run Try.prog w' = .ok (.string (strOf zeros)) w' := fun w' hb => run_string (row_keep (K := fun _ => false) (B' := 0) oh (Fr.of_below hb) (fun _ => rfl))
          obtain ⟨b', off', hao, hcell'⟩ := w0.1.at bW hlt
          simp only [Option.some.injEq, Addr.mk.injEq, and_true] at hao
          obtain ⟨rfl, rfl⟩ := hao
          rw [HF.out] at hcell'
          have hltb : b < wh.heap.size := World.block_lt_of_cell? wh ⟨b, off + k, none⟩ hcell'
          have hcl : ∀ w', Below wh.heap.size wh w' → w'.cell? ⟨b, off + k, none⟩ = some (.int .i64 fill) := fun w' hb => (hb.cell (p := ⟨b, off + k, none⟩) hltb).trans hcell'
          obtain ⟨i0, hi0, hz0, hz1, hz2⟩ := info_parts info5
          clear hrd1 hrd0 df dg og oh og' bg bh bf hcell'
          go_wp2_with fail
          have hS : Below wh.heap.size wh wh.drew := (Below.refl _ _).drew
          refine wp_region_held_drew (S := fun w' => Below wh.heap.size wh w') mixed hS (fun _ => ?_)
          show wpAnyH _ _ _ _ _ 24 (Array.replicate 24 false) _ _
          refine wpAnyH_take_d 0 (some 63) (.int .i64 0) rfl (by kernel_rfl) (by kernel_rfl) (by kernel_rfl) (by kernel_rfl) rfl (fun _ _ _ h => h) (fun _ _ => by kernel_rfl) (by exact hS) ?_
          simp only [Act.put, List.setIfInBounds_toArray, List.set_cons_succ, List.set_cons_zero]
          refine wpAnyH_take_d 1 (some 64) (.bool false) rfl (by kernel_rfl) (by kernel_rfl) (by kernel_rfl) (by kernel_rfl) rfl (fun _ _ _ h => h) (fun _ _ => by kernel_rfl) (by exact hS) ?_
          simp only [Act.put, List.setIfInBounds_toArray, List.set_cons_succ, List.set_cons_zero]
          refine wpAnyH_take_d 2 (some 65) (.bool false) rfl (by kernel_rfl) (by kernel_rfl) (by kernel_rfl) (by kernel_rfl) rfl (fun _ _ _ h => h) (fun _ _ => by kernel_rfl) (by exact hS) ?_
          simp only [Act.put, List.setIfInBounds_toArray, List.set_cons_succ, List.set_cons_zero]
          refine wpAnyH_take_d 3 (some 66) (.int .i64 0) rfl (by kernel_rfl) (by kernel_rfl) (by kernel_rfl) (by kernel_rfl) rfl (fun _ _ _ h => h) (fun _ _ => by kernel_rfl) (by exact hS) ?_
          simp only [Act.put, List.setIfInBounds_toArray, List.set_cons_succ, List.set_cons_zero]
          refine wpAnyH_take_d 4 (some 67) (.bool false) rfl (by kernel_rfl) (by kernel_rfl) (by kernel_rfl) (by kernel_rfl) rfl (fun _ _ _ h => h) (fun _ _ => by kernel_rfl) (by exact hS) ?_
          simp only [Act.put, List.setIfInBounds_toArray, List.set_cons_succ, List.set_cons_zero]
          refine wpAnyH_take_d 5 (some 68) (.bool false) rfl (by kernel_rfl) (by kernel_rfl) (by kernel_rfl) (by kernel_rfl) rfl (fun _ _ _ h => h) (fun _ _ => by kernel_rfl) (by exact hS) ?_
          simp only [Act.put, List.setIfInBounds_toArray, List.set_cons_succ, List.set_cons_zero]
          refine wpAnyH_take_d 6 (some 69) (.bool false) rfl (by kernel_rfl) (by kernel_rfl) (by kernel_rfl) (by kernel_rfl) rfl (fun _ _ _ h => h) (fun _ _ => by kernel_rfl) (by exact hS) ?_
          simp only [Act.put, List.setIfInBounds_toArray, List.set_cons_succ, List.set_cons_zero]
          refine wpAnyH_take_d 7 (some 70) (vg) rfl (by kernel_rfl) (by kernel_rfl) (by kernel_rfl) (by kernel_rfl) rfl (fun _ _ _ h => h) (fun _ _ => by kernel_rfl) (by exact hS) ?_
          simp only [Act.put, List.setIfInBounds_toArray, List.set_cons_succ, List.set_cons_zero]
          refine wpAnyH_take_d 8 (some 71) (.string (strOf (bytesL fill 256))) rfl (by kernel_rfl) (by kernel_rfl) (by kernel_rfl) (by kernel_rfl) rfl (fun _ _ _ h => h) (fun w' hb => exec_convert rfl rfl (hcvg w' hb)) (by exact hS) ?_
          simp only [Act.put, List.setIfInBounds_toArray, List.set_cons_succ, List.set_cons_zero]
          refine wpAnyH_take_d 9 (some 72) (.slice (some ⟨b, off, none⟩) z0.length cap) rfl (by kernel_rfl) (by kernel_rfl) (by kernel_rfl) (by kernel_rfl) rfl (fun _ _ _ h => h) (fun _ _ => by kernel_rfl) (by exact hS) ?_
          simp only [Act.put, List.setIfInBounds_toArray, List.set_cons_succ, List.set_cons_zero]
          refine wpAnyH_take_d 10 (some 73) (.int .i64 k) rfl (by kernel_rfl) (by kernel_rfl) (by kernel_rfl) (by kernel_rfl) rfl (fun _ _ _ h => h) (fun _ _ => by kernel_rfl) (by exact hS) ?_
          simp only [Act.put, List.setIfInBounds_toArray, List.set_cons_succ, List.set_cons_zero]
          refine wpAnyH_take_d 11 (some 74) (.pointer (some ⟨b, off + k, none⟩)) rfl (by kernel_rfl) (by kernel_rfl) (by kernel_rfl) (by kernel_rfl) rfl (fun _ _ _ h => h) (fun w' _ => exec_indexAddr rfl rfl rfl hlt Try.underlying40 szInt) (by exact hS) ?_
          simp only [Act.put, List.setIfInBounds_toArray, List.set_cons_succ, List.set_cons_zero]
          refine wpAnyH_take_d 12 (some 75) (.int .i64 fill) rfl (by kernel_rfl) (by kernel_rfl) (by kernel_rfl) (by kernel_rfl) rfl (fun _ _ _ h => h) (fun w' hb => exec_load_cell rfl rfl (hcl w' hb) Try.underlying3 rfl) (by exact hS) ?_
          simp only [Act.put, List.setIfInBounds_toArray, List.set_cons_succ, List.set_cons_zero]
          refine wpAnyH_call 13 (some 76) 16 #[.int .i64 fill, .int .i64 0] rfl (by kernel_rfl) (by kernel_rfl) rfl (by kernel_rfl) (bytes0_any wh.drew fill hrg) ?_
          rintro e wi ⟨vi, rfl, oi, bi⟩
          have hS : Below wh.heap.size wh wi := (Below.refl wh.heap.size wh).drew.trans bi
          refine ⟨vi, rfl, hS, ?_⟩
          simp only [Act.put, List.setIfInBounds_toArray, List.set_cons_succ, List.set_cons_zero]
          refine wpAnyH_one 14 (some 77) (.string (strOf (bytesL fill 256))) rfl (by kernel_rfl) (by kernel_rfl) rfl (exec_convert rfl rfl (run_string oi)) (by exact hS) ?_
          simp only [Act.put, List.setIfInBounds_toArray, List.set_cons_succ, List.set_cons_zero]
          refine wpAnyH_one 15 (some 78) (.bool false) rfl (by kernel_rfl) (by kernel_rfl) rfl (exec_strneq rfl rfl rfl (by simp)) (by exact hS) ?_
          simp only [Act.put, List.setIfInBounds_toArray, List.set_cons_succ, List.set_cons_zero]
          refine wpAnyH_one 16 (some 79) (.bool false) rfl (by kernel_rfl) (by kernel_rfl) rfl (by kernel_rfl) (by exact hS) ?_
          simp only [Act.put, List.setIfInBounds_toArray, List.set_cons_succ, List.set_cons_zero]
          refine wpAnyH_one 17 (some 80) (.bool false) rfl (by kernel_rfl) (by kernel_rfl) rfl (by kernel_rfl) (by exact hS) ?_
          simp only [Act.put, List.setIfInBounds_toArray, List.set_cons_succ, List.set_cons_zero]
          refine wpAnyH_take_d 18 (some 81) (vh) rfl (by kernel_rfl) (by kernel_rfl) (by kernel_rfl) (by kernel_rfl) rfl (fun _ _ _ h => h) (fun _ _ => by kernel_rfl) (by exact hS) ?_
          simp only [Act.put, List.setIfInBounds_toArray, List.set_cons_succ, List.set_cons_zero]
          refine wpAnyH_take_d 19 (some 82) (.string (strOf zeros)) rfl (by kernel_rfl) (by kernel_rfl) (by kernel_rfl) (by kernel_rfl) rfl (fun _ _ _ h => h) (fun w' hb => exec_convert rfl rfl (hcvh w' hb)) (by exact hS) ?_
          simp only [Act.put, List.setIfInBounds_toArray, List.set_cons_succ, List.set_cons_zero]
          obtain ⟨wj, hmk, oj, gj⟩ := exec_make (P := Try.prog) (w := wi) (ρ := fun x => match x with | .const v => v | _ => undef) (o := ⟨some 83, .makeSlice 31 (.const (.int .i64 256)) (.const (.int .i64 256)), 31, "", #[], none⟩) 256 rfl rfl rfl 0 Try.underlying31 hi0 hz0 hz1 (by rw [hz2]; decide) (by unfold maxLen; decide) (Nat.zero_le _)
          have hS : Below wh.heap.size wh wj := hS.grown gj hS.size (fun k e => by cases e)
          refine wpAnyH_one 20 (some 83) (.slice (some ⟨wi.heap.size, 0, none⟩) 256 256) rfl (by kernel_rfl) (by kernel_rfl) rfl hmk (by exact hS) ?_
          simp only [Act.put, List.setIfInBounds_toArray, List.set_cons_succ, List.set_cons_zero]
          refine wpAnyH_one 21 (some 84) (.string (strOf zeros)) rfl (by kernel_rfl) (by kernel_rfl) rfl (exec_convert rfl rfl (run_string (ownB_made oj))) (by exact hS) ?_
          simp only [Act.put, List.setIfInBounds_toArray, List.set_cons_succ, List.set_cons_zero]
          refine wpAnyH_one 22 (some 85) (.bool false) rfl (by kernel_rfl) (by kernel_rfl) rfl (exec_strneq rfl rfl rfl (by simp)) (by exact hS) ?_
          simp only [Act.put, List.setIfInBounds_toArray, List.set_cons_succ, List.set_cons_zero]
          refine wpAnyH_one 23 (some 86) (.bool false) rfl (by kernel_rfl) (by kernel_rfl) rfl (by kernel_rfl) (by exact hS) ?_
          simp only [Act.put, List.setIfInBounds_toArray, List.set_cons_succ, List.set_cons_zero]
          refine wpAnyH_done (by kernel_rfl) ?_ _
          have dj := dh.below hS
          have bj := bW.trans (hS.mono bW.size)
          clear hcvg hcvh hcl hmk oj gj oi bi hS dh bW
          go_wp2
          go_roundw
          case rel => exact ⟨k + 1, by omega, by omega, by go_num, _, _, dj, s2, by omega, bj⟩
          case measure => simp [intOf]; omega
      · obtain rfl : k = 40 := by omega
        go_wp2
        go_ret
        exact ⟨rfl, bk⟩
    · obtain rfl : k = z0.length := by omega
      go_wp2
      go_ret
      exact ⟨rfl, bk⟩

/-! ### the row -/
theorem laidOut : laidOutB Try.prog = true := by kernel_rfl
theorem bytesInt : Try.prog.bytesOf 3 = 8 := by kernel_rfl
set_option maxRecDepth 100000 in
theorem lifted (os : Os) (started : os.Started) (H : Type) (enc : TypeId × Value → H) :
    ReturnsInHanded {} Try.checked os 7 .any (Rows.flashNewestSpec.pre6 enc Try.prog Try.f7 Rows.flashNewestRow.domain false) (Rows.flashNewestSpec.post enc Try.prog Try.f7 false true false false) := by
  refine returnsInHanded_of_change_sized (C := Try.checked) own started (by kernel_rfl) Try.func7
    (ChangeSpec.witness6 (enc := enc) (C := Try.checked) false ⟨#[], #[.slice none 0 0, .slice none 0 0], []⟩ 8 (by kernel_rfl) (by kernel_rfl) (by kernel_rfl) (by kernel_rfl)) ?_
  intro W base args ds gs before hval0 hW hcnd hsz0 _
  have hval : ∀ (j : Nat) t v, Try.f7.params[j]? = some t → args[j]? = some v → Value.okWide Try.prog W .any base t v := hval0
  have hW' := hW
  obtain ⟨p, q, hA0, hV, rfl, hfz, hnd⟩ := hW
  have hA : DataW.TrodAll enc Try.prog W 0 (fun _ => true) true Try.f7.params.toList args.toList ds p := hA0
  have hsz : (DataW.weightsEach Try.prog (Try.f7.params.toList ++ Rows.flashNewestSpec.plain.varTypes Try.prog) (ds ++ gs)).all (· ≤ reachBytes) = true := hsz0
  rw [Try.params7] at hA hval hsz
  obtain ⟨v0, vs0, d0, ds0, p0, q0, hargs, rfl, rfl, h0, r0⟩ := trodAll_cons hA
  obtain ⟨v1, vs1, d1, ds1, p1, q1, rfl, rfl, rfl, h1, r1⟩ := trodAll_cons r0
  obtain ⟨rfl, rfl, rfl⟩ := trodAll_nil r1
  obtain rfl : args = #[v0, v1] := by cases args; simp_all
  obtain ⟨rfl, rfl⟩ := trodVars_none hV
  have k0 := h0
  have lt0 := args_lt k0
  obtain ⟨z0, w0⟩ := ints_arg Try.underlying40 Try.underlying3 (by kernel_rfl) (hval 0 40 v0 rfl rfl) (fun el sp e => by subst e; have := sized_slice hsz (j := 0) (t := 40) (e := 3) rfl rfl Try.underlying40; rwa [bytesInt] at this) h0
  have k1 := h1
  have lt1 := args_lt k1
  obtain ⟨z1, w1⟩ := bools_arg Try.underlying44 Try.underlying4 (by kernel_rfl) (hval 1 44 v1 rfl rfl) h1
  clear hA0 hval0 hsz0
  refine (walk v0 z0 v1 z1 W w0 w1).mono fun e W' ⟨he, bel⟩ => ?_
  subst he
  exact ⟨_, rfl, _, _, _, [], _, [], hW', trodAll_mk1 (shut_bool Try.underlying4 _), (trodAll_cons_mk (Below.trod laidOut (by kernel_rfl) (of_decide_eq_true (by kernel_rfl)) k0 bel lt0) (trodAll_cons_mk (Below.trod laidOut (by kernel_rfl) (of_decide_eq_true (by kernel_rfl)) k1 bel lt1) trodAll_mk0)), rfl, bel.frame _, fun h => by cases h⟩

theorem over : Rows.flashNewestRow.holds Try.pinned (OpenSpec.ofChange Rows.flashNewestSpec) :=
  OpenClaim.holds_of_wide 7 Try.f7 rfl rfl rfl rfl rfl rfl rfl ⟨rfl, rfl, rfl, rfl, rfl⟩ rfl rfl rfl rfl rfl (by kernel_rfl) Try.func7 (by kernel_rfl)
    (of_decide_eq_true (by kernel_rfl)) (by unfold Func.isWrapper; first | (rw [if_pos (by decide +kernel)]; kernel_rfl) | (rw [if_neg (by decide +kernel)]; exact ⟨rfl, rfl⟩))
    (fun os started H enc _ => lifted os started H enc)
end Go.Proofs.Ytfdabkcbefhdaaa.flashNewest

namespace Go.Proofs.Ytfdabkcbefhdaaa
/-- The law returns true at every input. -/
theorem flashNewest_holds : Rows.FlashNewestSaid := flashNewest.over
end Go.Proofs.Ytfdabkcbefhdaaa

