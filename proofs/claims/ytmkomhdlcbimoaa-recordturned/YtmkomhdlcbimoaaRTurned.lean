/- cisternlaw07.RecordTurned returns true at every input: a sector or a blob with one bit turned is refused, each time. -/
import Derived.Test.YtmkomhdlcbimoaaRTMath
namespace Go.Proofs.Ytmkomhdlcbimoaa.recordTurned
set_option maxRecDepth 20000
open Go.RowKit Go.ChangeShapes Go.WideShapes Go.ChangeAt

theorem own : ownKnob Try.prog.godebug = none := by kernel_rfl
theorem rem_at (n : Int) (m : Nat) (h0 : 0 < m) (h6 : m ≤ 60000) : ∃ A : Nat, wrap64 ((IntKind.u64.wrap n).tmod (8 * (m : Int))) = (A : Int) ∧ A < 8 * m := by
  have h : 0 ≤ IntKind.u64.wrap n := by rw [IntKind.wrap_u64]; omega
  rw [Int.tmod_eq_emod_of_nonneg h]
  have h1 := Int.emod_nonneg (IntKind.u64.wrap n) (show 8 * (m : Int) ≠ 0 by omega)
  have h2 := Int.emod_lt_of_pos (IntKind.u64.wrap n) (show 0 < 8 * (m : Int) by omega)
  exact ⟨(IntKind.u64.wrap n % (8 * (m : Int))).toNat, by unfold wrap64; omega, by omega⟩
theorem logV_none' {bs : List UInt8} (h : logE bs ≠ 0) : logV bs = lgNone := if_neg h
theorem log_len {l : Lg} (h : l.data.size ≤ 160) : (sectB (logI l)).length = 256 := (log_sect_form h).len
set_option maxRecDepth 20000 in
set_option maxHeartbeats 1600000 in
theorem walk (l : Lg) (hl : l.ok) (pv : Value) (pl : List Pr) (n : Int) (wn : (Lit.int .i64 n).wf = true) (W : World) (hpa : PairsArg W pv pl) : Calls Try.prog 8 #[logVal l, pv, .int .i64 n] W fun x w' => x = .returned (.bool true) ∧ Below W.heap.size W w' := by
  have _ := wn
  clear wn
  obtain ⟨hP, -⟩ := hpa
  obtain ⟨pao, pm, pcap, hpv, hpm⟩ := hP.form'
  subst hpv
  have B1 := below_new W (.cells #[.int .i64 l.kind, .int .i64 l.epoch, .int .i64 l.seq, .int .i64 l.tx, .int .i64 l.index, .int .i64 l.count, .int .i64 l.page, .string l.data] 25)
  have s0 := heap_alloc_new W (.cells #[.int .i64 l.kind, .int .i64 l.epoch, .int .i64 l.seq, .int .i64 l.tx, .int .i64 l.index, .int .i64 l.count, .int .i64 l.page, .string l.data] 25)
  have hkn := known_any (W.alloc (.cells #[.int .i64 l.kind, .int .i64 l.epoch, .int .i64 l.seq, .int .i64 l.tx, .int .i64 l.index, .int .i64 l.count, .int .i64 l.page, .string l.data] 25))
  have he := fun w => encodeLog_any l hl w
  unfold elogR elogE at he
  have hsz := fun h => logOk_size (l := l) h
  cases hlo : logOk l
  · simp only [hlo, reduceIte, Bool.false_eq_true] at he
    have HE := Lib.hid he
    clear he hsz hlo
    obtain ⟨a, b, c, d, e, f, g, s⟩ := l
    clear hl
    go_enter Try.func8, Try.ntmps8
    go_wp2_with fail
    refine Calls.mono hkn ?_
    rintro x w1 ⟨rfl, b1⟩
    have B2 := B1.trans (b1.mono B1.size)
    have s1 := (b1.block W.heap.size (by simp)).trans s0
    have x0 : w1.cell? ⟨W.heap.size, 0, none⟩ = some (.int .i64 a) := cell_row s1 0 rfl
    have x1 : w1.cell? ⟨W.heap.size, 1, none⟩ = some (.int .i64 b) := cell_row s1 1 rfl
    have x2 : w1.cell? ⟨W.heap.size, 2, none⟩ = some (.int .i64 c) := cell_row s1 2 rfl
    have x3 : w1.cell? ⟨W.heap.size, 3, none⟩ = some (.int .i64 d) := cell_row s1 3 rfl
    have x4 : w1.cell? ⟨W.heap.size, 4, none⟩ = some (.int .i64 e) := cell_row s1 4 rfl
    have x5 : w1.cell? ⟨W.heap.size, 5, none⟩ = some (.int .i64 f) := cell_row s1 5 rfl
    have x6 : w1.cell? ⟨W.heap.size, 6, none⟩ = some (.int .i64 g) := cell_row s1 6 rfl
    have x7 : w1.cell? ⟨W.heap.size, 7, none⟩ = some (.string s) := cell_row s1 7 rfl
    have he1 := HE.out w1
    clear hkn HE s1 s0 B1 b1
    go_wp2_with fail
    refine Calls.mono he1 ?_
    rintro x wc ⟨vc, rfl, hc1, bc⟩
    obtain ⟨aoc, capc, hvc, _, _⟩ := hc1.form
    subst hvc
    have BC := B2.trans (bc.mono B2.size)
    clear he1 hc1 bc x0 x1 x2 x3 x4 x5 x6 x7 B2
    go_wp2_with fail
    have hpc := (hP.below BC).more BC.size
    have he := encodePairs_any hpc 7 ⟨by decide, by decide⟩
    by_cases hz : epE 7 pl = 0
    · obtain ⟨hz1, hz2⟩ := epE_zero hz
      have er : epR 7 pl = blobB 7 pl := by unfold epR; rw [if_pos hz]
      have hsz : (blobB 7 pl).length = 22 + sizP pl := by unfold blobB; rw [sealed_length, packP_length]; omega
      have hs6 := (bigP_false hz1).2
      rw [hz, er] at he
      clear hz hz1 hz2 er
      refine Calls.mono he ?_
      rintro e wd ⟨vd, rfl, hv, bd⟩
      have BD := BC.trans (bd.mono BC.size)
      obtain ⟨g, cap2, hv2, hgb, hglt⟩ := World.ownsRow.form hv (by rw [hsz]; omega)
      obtain ⟨M, hM⟩ : ∃ M, (blobB 7 pl).length = M := ⟨_, rfl⟩
      rw [hM] at hv2 hsz
      subst hv2
      have hM0 : 0 < M := by omega
      have hM6 : M ≤ 60000 := by omega
      have HM := Lib.hid hM
      have hwg : W.heap.size ≤ g := Nat.le_trans BC.size hgb
      clear he bd BC hpc hsz hs6 hM
      go_wp2_with fail
      obtain ⟨A, hAe, hA8⟩ := rem_at n M hM0 hM6
      rw [hAe]
      clear hAe
      have hq : A / 8 < M := by omega
      have ho' : wd.ownsRow wc.heap.size 5 1 (.slice (some ⟨g, 0, none⟩) M cap2) M (cellsB (blobB 7 pl)) := by have h := hv; unfold OwnB at h; rwa [HM.out] at h
      have hcell : wd.cell? ⟨g, A / 8, none⟩ = some (.int .u8 (((blobB 7 pl).getD (A / 8) 0).toNat : Int)) := by
        have h0 := World.ownsRow.cellAt ho' (A / 8) (by omega)
        rw [h0]
        simp only [cellsB, List.getElem?_map, List.getElem?_eq_getElem (show A / 8 < (blobB 7 pl).length by rw [HM.out]; omega), Option.map_some, List.getD_eq_getElem?_getD, Option.getD_some]
        rfl
      have hfree := World.ownsRow.frozenAt ho' (A / 8)
      have hbs := (World.ownsRow.stored ho' (A / 8) (byteV ((blobB 7 pl).getD (A / 8) 0 ^^^ maskB (A % 8)))).2
      have hst := OwnB.store hv (A / 8) ((blobB 7 pl).getD (A / 8) 0 ^^^ maskB (A % 8))
      have HST : Hid (OwnB wc.heap.size (wd.setCell ⟨g, A / 8, none⟩ (byteV ((blobB 7 pl).getD (A / 8) 0 ^^^ maskB (A % 8)))) (.slice (some ⟨g, 0, none⟩) M cap2) (flipAt (blobB 7 pl) A)) := Lib.hid hst
      generalize hc : (blobB 7 pl).getD (A / 8) 0 = c at hcell HST hbs
      have hb3 : Below W.heap.size W (wd.setCell ⟨g, A / 8, none⟩ (byteV (c ^^^ maskB (A % 8)))) := BD.grown hbs BD.size (fun k hk => by cases hk; exact hwg)
      have hx : Hid (bits .xor .u8 (c.toNat : Int) ((2 : Int) ^ (A % 8) % 256) = ((c ^^^ maskB (A % 8)).toNat : Int)) := Lib.hid (by rw [mask_mod (A % 8) (by omega)]; exact xor8 c (maskB (A % 8)))
      clear hc hst hv ho' hbs
      go_region
      rw [hx.out]
      have HST3 : OwnB wc.heap.size (wd.setCell ⟨g, A / 8, none⟩ (byteV (c ^^^ maskB (A % 8)))).drew (.slice (some ⟨g, 0, none⟩) M cap2) (flipAt (blobB 7 pl) A) := HST.out
      have HB3 := hb3.drew
      have eb : Value.int .u8 (((c ^^^ maskB (A % 8)).toNat : Nat) : Int) = byteV (c ^^^ maskB (A % 8)) := rfl
      rw [eb]
      generalize (wd.setCell ⟨g, A / 8, none⟩ (byteV (c ^^^ maskB (A % 8)))).drew = w5 at HST3 HB3 ⊢
      clear hcell hfree hx HST hb3 eb
      have hbf := blob_flip (n := 7) (l := pl) A (by rw [HM.out]; exact hA8)
      have hdp := decodePairs_any HST3.at HST3.cap (by rw [flip_length, HM.out]; omega)
      rw [hbf.1, hbf.2.1, hbf.2.2] at hdp
      clear hbf HST3
      go_wp2_with fail
      refine Calls.mono hdp ?_
      rintro e w6 ⟨v6, rfl, h6, b6⟩
      have BE := HB3.trans (b6.mono HB3.size)
      obtain ⟨ao6, cap6, hv6, _, _⟩ := h6.form
      subst hv6
      clear hdp h6 b6
      go_wp2
      go_ret
      exact ⟨rfl, BE⟩
    · have hq : (epE 7 pl == 0) = false := by simpa using hz
      generalize epE 7 pl = E at he hq
      clear hz
      refine Calls.mono he ?_
      rintro e wd ⟨vd, rfl, hv, bd⟩
      obtain ⟨aod, capd, hvd, _, _⟩ := hv.form
      subst hvd
      have BD := BC.trans (bd.mono BC.size)
      clear he hv bd
      go_wp2
      go_ret
      exact ⟨rfl, BD⟩
  · simp only [hlo, if_true] at he
    have hsz := hsz hlo
    have HE := Lib.hid he
    have HM := Lib.hid (log_len hsz)
    have hfl := Lib.hid fun k hk => log_flip hsz k hk
    clear he hlo hsz
    generalize hSS : sectB (logI l) = SS at HE HM hfl
    clear hSS
    obtain ⟨a, b, c, d, e, f, g, s⟩ := l
    clear hl
    go_enter Try.func8, Try.ntmps8
    go_wp2_with fail
    refine Calls.mono hkn ?_
    rintro x w1 ⟨rfl, b1⟩
    have B2 := B1.trans (b1.mono B1.size)
    have s1 := (b1.block W.heap.size (by simp)).trans s0
    have x0 : w1.cell? ⟨W.heap.size, 0, none⟩ = some (.int .i64 a) := cell_row s1 0 rfl
    have x1 : w1.cell? ⟨W.heap.size, 1, none⟩ = some (.int .i64 b) := cell_row s1 1 rfl
    have x2 : w1.cell? ⟨W.heap.size, 2, none⟩ = some (.int .i64 c) := cell_row s1 2 rfl
    have x3 : w1.cell? ⟨W.heap.size, 3, none⟩ = some (.int .i64 d) := cell_row s1 3 rfl
    have x4 : w1.cell? ⟨W.heap.size, 4, none⟩ = some (.int .i64 e) := cell_row s1 4 rfl
    have x5 : w1.cell? ⟨W.heap.size, 5, none⟩ = some (.int .i64 f) := cell_row s1 5 rfl
    have x6 : w1.cell? ⟨W.heap.size, 6, none⟩ = some (.int .i64 g) := cell_row s1 6 rfl
    have x7 : w1.cell? ⟨W.heap.size, 7, none⟩ = some (.string s) := cell_row s1 7 rfl
    have he1 := HE.out w1
    clear hkn HE s1 s0 B1 b1
    go_wp2_with fail
    refine Calls.mono he1 ?_
    rintro x w2 ⟨v2, rfl, hv, b2⟩
    have B3 := B2.trans (b2.mono B2.size)
    obtain ⟨g, cap2, hv2, hgb, hglt⟩ := World.ownsRow.form hv (by rw [HM.out]; omega)
    rw [HM.out] at hv2
    subst hv2
    have hwg : W.heap.size ≤ g := Nat.le_trans B2.size hgb
    clear he1 b2 x0 x1 x2 x3 x4 x5 x6 x7 B2
    obtain ⟨M, hM⟩ : ∃ M, 256 = M := ⟨_, rfl⟩
    rw [hM] at HM hv
    have hM0 : 0 < M := by omega
    have hM6 : M ≤ 60000 := by omega
    have hM2 : 8 * M ≤ 2048 := by omega
    rw [hM]
    clear hM
    go_wp2_with fail
    obtain ⟨A, hAe, hA8⟩ := rem_at n M hM0 hM6
    rw [hAe]
    clear hAe
    have hq : A / 8 < M := by omega
    have ho' : w2.ownsRow w1.heap.size 5 1 (.slice (some ⟨g, 0, none⟩) M cap2) M (cellsB (SS)) := by have h := hv; unfold OwnB at h; rwa [HM.out] at h
    have hcell : w2.cell? ⟨g, A / 8, none⟩ = some (.int .u8 (((SS).getD (A / 8) 0).toNat : Int)) := by
      have h0 := World.ownsRow.cellAt ho' (A / 8) (by omega)
      rw [h0]
      simp only [cellsB, List.getElem?_map, List.getElem?_eq_getElem (show A / 8 < (SS).length by rw [HM.out]; omega), Option.map_some, List.getD_eq_getElem?_getD, Option.getD_some]
      rfl
    have hfree := World.ownsRow.frozenAt ho' (A / 8)
    have hbs := (World.ownsRow.stored ho' (A / 8) (byteV ((SS).getD (A / 8) 0 ^^^ maskB (A % 8)))).2
    have hst := OwnB.store hv (A / 8) ((SS).getD (A / 8) 0 ^^^ maskB (A % 8))
    have HST : Hid (OwnB w1.heap.size (w2.setCell ⟨g, A / 8, none⟩ (byteV ((SS).getD (A / 8) 0 ^^^ maskB (A % 8)))) (.slice (some ⟨g, 0, none⟩) M cap2) (flipAt (SS) A)) := Lib.hid hst
    generalize hc : (SS).getD (A / 8) 0 = c at hcell HST hbs
    have hb3 : Below W.heap.size W (w2.setCell ⟨g, A / 8, none⟩ (byteV (c ^^^ maskB (A % 8)))) := B3.grown hbs B3.size (fun k hk => by cases hk; exact hwg)
    have hx : Hid (bits .xor .u8 (c.toNat : Int) ((2 : Int) ^ (A % 8) % 256) = ((c ^^^ maskB (A % 8)).toNat : Int)) := Lib.hid (by rw [mask_mod (A % 8) (by omega)]; exact xor8 c (maskB (A % 8)))
    clear hc hst hv ho' hbs
    go_region
    rw [hx.out]
    have HST3 : OwnB w1.heap.size (w2.setCell ⟨g, A / 8, none⟩ (byteV (c ^^^ maskB (A % 8)))).drew (.slice (some ⟨g, 0, none⟩) M cap2) (flipAt (SS) A) := HST.out
    have HB3 := hb3.drew
    have eb : Value.int .u8 (((c ^^^ maskB (A % 8)).toNat : Nat) : Int) = byteV (c ^^^ maskB (A % 8)) := rfl
    rw [eb]
    generalize (w2.setCell ⟨g, A / 8, none⟩ (byteV (c ^^^ maskB (A % 8)))).drew = w5 at HST3 HB3 ⊢
    clear hcell hfree hx HST hb3 eb
    have hdl := decodeLog_any HST3.at HST3.cap
    have hne := hfl.out A (by omega)
    rw [logV_none' hne] at hdl
    have hq1 : (logE (flipAt SS A) == 0) = false := by simpa using hne
    generalize logE (flipAt SS A) = E at hdl hq1
    have hb0 : ∀ w, (Instr.build 25 #[]).run Try.prog w = .ok (.agg #[.int .i64 0, .int .i64 0, .int .i64 0, .int .i64 0, .int .i64 0, .int .i64 0, .int .i64 0, .string ⟨#[]⟩]) w := fun w => run_build w 25 _ _ (by kernel_rfl)
    clear HST3 hne hfl
    go_wp2_with fail
    refine Calls.mono hdl ?_
    rintro x w6 ⟨rfl, b6⟩
    unfold lgNone
    have BC := (HB3.trans (b6.mono HB3.size))
    have BC := BC.alloc BC.size (.cells #[.int .i64 0, .int .i64 0, .int .i64 0, .int .i64 0, .int .i64 0, .int .i64 0, .int .i64 0, .string ByteArray.empty] 25)
    clear hdl HB3 b6 HM hM0 hM6 hM2 hA8 hq hgb hglt hwg
    go_wp2_with fail
    generalize w6.alloc (.cells #[.int .i64 0, .int .i64 0, .int .i64 0, .int .i64 0, .int .i64 0, .int .i64 0, .int .i64 0, .string ByteArray.empty] 25) = wc at BC ⊢
    have hpc := (hP.below BC).more BC.size
    have he := encodePairs_any hpc 7 ⟨by decide, by decide⟩
    by_cases hz : epE 7 pl = 0
    · obtain ⟨hz1, hz2⟩ := epE_zero hz
      have er : epR 7 pl = blobB 7 pl := by unfold epR; rw [if_pos hz]
      have hsz : (blobB 7 pl).length = 22 + sizP pl := by unfold blobB; rw [sealed_length, packP_length]; omega
      have hs6 := (bigP_false hz1).2
      rw [hz, er] at he
      clear hz hz1 hz2 er
      refine Calls.mono he ?_
      rintro e wd ⟨vd, rfl, hv, bd⟩
      have BD := BC.trans (bd.mono BC.size)
      obtain ⟨g, cap2, hv2, hgb, hglt⟩ := World.ownsRow.form hv (by rw [hsz]; omega)
      obtain ⟨M, hM⟩ : ∃ M, (blobB 7 pl).length = M := ⟨_, rfl⟩
      rw [hM] at hv2 hsz
      subst hv2
      have hM0 : 0 < M := by omega
      have hM6 : M ≤ 60000 := by omega
      have HM := Lib.hid hM
      have hwg : W.heap.size ≤ g := Nat.le_trans BC.size hgb
      clear he bd BC hpc hsz hs6 hM
      go_wp2_with fail
      obtain ⟨A, hAe, hA8⟩ := rem_at n M hM0 hM6
      rw [hAe]
      clear hAe
      have hq : A / 8 < M := by omega
      have ho' : wd.ownsRow wc.heap.size 5 1 (.slice (some ⟨g, 0, none⟩) M cap2) M (cellsB (blobB 7 pl)) := by have h := hv; unfold OwnB at h; rwa [HM.out] at h
      have hcell : wd.cell? ⟨g, A / 8, none⟩ = some (.int .u8 (((blobB 7 pl).getD (A / 8) 0).toNat : Int)) := by
        have h0 := World.ownsRow.cellAt ho' (A / 8) (by omega)
        rw [h0]
        simp only [cellsB, List.getElem?_map, List.getElem?_eq_getElem (show A / 8 < (blobB 7 pl).length by rw [HM.out]; omega), Option.map_some, List.getD_eq_getElem?_getD, Option.getD_some]
        rfl
      have hfree := World.ownsRow.frozenAt ho' (A / 8)
      have hbs := (World.ownsRow.stored ho' (A / 8) (byteV ((blobB 7 pl).getD (A / 8) 0 ^^^ maskB (A % 8)))).2
      have hst := OwnB.store hv (A / 8) ((blobB 7 pl).getD (A / 8) 0 ^^^ maskB (A % 8))
      have HST : Hid (OwnB wc.heap.size (wd.setCell ⟨g, A / 8, none⟩ (byteV ((blobB 7 pl).getD (A / 8) 0 ^^^ maskB (A % 8)))) (.slice (some ⟨g, 0, none⟩) M cap2) (flipAt (blobB 7 pl) A)) := Lib.hid hst
      generalize hc : (blobB 7 pl).getD (A / 8) 0 = c at hcell HST hbs
      have hb3 : Below W.heap.size W (wd.setCell ⟨g, A / 8, none⟩ (byteV (c ^^^ maskB (A % 8)))) := BD.grown hbs BD.size (fun k hk => by cases hk; exact hwg)
      have hx : Hid (bits .xor .u8 (c.toNat : Int) ((2 : Int) ^ (A % 8) % 256) = ((c ^^^ maskB (A % 8)).toNat : Int)) := Lib.hid (by rw [mask_mod (A % 8) (by omega)]; exact xor8 c (maskB (A % 8)))
      clear hc hst hv ho' hbs
      go_region
      rw [hx.out]
      have HST3 : OwnB wc.heap.size (wd.setCell ⟨g, A / 8, none⟩ (byteV (c ^^^ maskB (A % 8)))).drew (.slice (some ⟨g, 0, none⟩) M cap2) (flipAt (blobB 7 pl) A) := HST.out
      have HB3 := hb3.drew
      have eb : Value.int .u8 (((c ^^^ maskB (A % 8)).toNat : Nat) : Int) = byteV (c ^^^ maskB (A % 8)) := rfl
      rw [eb]
      generalize (wd.setCell ⟨g, A / 8, none⟩ (byteV (c ^^^ maskB (A % 8)))).drew = w5 at HST3 HB3 ⊢
      clear hcell hfree hx HST hb3 eb
      have hbf := blob_flip (n := 7) (l := pl) A (by rw [HM.out]; exact hA8)
      have hdp := decodePairs_any HST3.at HST3.cap (by rw [flip_length, HM.out]; omega)
      rw [hbf.1, hbf.2.1, hbf.2.2] at hdp
      clear hbf HST3
      go_wp2_with fail
      refine Calls.mono hdp ?_
      rintro e w6 ⟨v6, rfl, h6, b6⟩
      have BE := HB3.trans (b6.mono HB3.size)
      obtain ⟨ao6, cap6, hv6, _, _⟩ := h6.form
      subst hv6
      clear hdp h6 b6
      go_wp2
      go_ret
      exact ⟨rfl, BE⟩
    · have hq : (epE 7 pl == 0) = false := by simpa using hz
      generalize epE 7 pl = E at he hq
      clear hz
      refine Calls.mono he ?_
      rintro e wd ⟨vd, rfl, hv, bd⟩
      obtain ⟨aod, capd, hvd, _, _⟩ := hv.form
      subst hvd
      have BD := BC.trans (bd.mono BC.size)
      clear he hv bd
      go_wp2
      go_ret
      exact ⟨rfl, BD⟩

/-! ### the row -/
theorem laidOut : laidOutB Try.prog = true := by kernel_rfl
theorem bytesInt : Try.prog.bytesOf 3 = 8 := by kernel_rfl
set_option maxRecDepth 100000 in
theorem lifted (os : Os) (started : os.Started) (H : Type) (enc : TypeId × Value → H) :
    ReturnsInHanded {} Try.checked os 8 .any (Rows.recordTurnedSpec.pre6 enc Try.prog Try.f8 Rows.recordTurnedRow.domain false) (Rows.recordTurnedSpec.post enc Try.prog Try.f8 false true false false) := by
  refine returnsInHanded_of_change_sized (C := Try.checked) own started (by kernel_rfl) Try.func8
    (ChangeSpec.witness6 (enc := enc) (C := Try.checked) false ⟨#[], #[.agg #[.int .i64 0, .int .i64 0, .int .i64 0, .int .i64 0, .int .i64 0, .int .i64 0, .int .i64 0, .string ByteArray.empty], .slice none 0 0, .int .i64 0], []⟩ 8 (by kernel_rfl) (by kernel_rfl) (by kernel_rfl) (by kernel_rfl)) ?_
  intro W base args ds gs before hval0 hW hcnd hsz0 _
  have hval : ∀ (j : Nat) t v, Try.f8.params[j]? = some t → args[j]? = some v → Value.okWide Try.prog W .any base t v := hval0
  have hW' := hW
  obtain ⟨p, q, hA0, hV, rfl, hfz, hnd⟩ := hW
  have hA : DataW.TrodAll enc Try.prog W 0 (fun _ => true) true Try.f8.params.toList args.toList ds p := hA0
  have hsz : (DataW.weightsEach Try.prog (Try.f8.params.toList ++ Rows.recordTurnedSpec.plain.varTypes Try.prog) (ds ++ gs)).all (· ≤ reachBytes) = true := hsz0
  rw [Try.params8] at hA hval hsz
  obtain ⟨v0, vs0, d0, ds0, p0, q0, hargs, rfl, rfl, h0, r0⟩ := trodAll_cons hA
  obtain ⟨v1, vs1, d1, ds1, p1, q1, rfl, rfl, rfl, h1, r1⟩ := trodAll_cons r0
  obtain ⟨v2, vs2, d2, ds2, p2, q2, rfl, rfl, rfl, h2, r2⟩ := trodAll_cons r1
  obtain ⟨rfl, rfl, rfl⟩ := trodAll_nil r2
  obtain rfl : args = #[v0, v1, v2] := by cases args; simp_all
  obtain ⟨rfl, rfl⟩ := trodVars_none hV
  have k0 := h0
  have lt0 := args_lt k0
  obtain ⟨a0, rfl, x0⟩ := log_arg (hval 0 25 v0 rfl rfl) h0
  have k1 := h1
  have lt1 := args_lt k1
  obtain ⟨z1, w1⟩ := pairs_arg (hval 1 54 v1 rfl rfl) (fun k hk => of_decide_eq_true (List.all_eq_true.1 hsz _ (DataW.weights_mem_each (j := 1) (t := 54) (d := d1) rfl rfl k hk))) h1
  obtain ⟨a2, rfl, rfl, rfl, w2⟩ := open_int Try.underlying3 (hval 2 3 v2 rfl rfl) h2
  clear hA0 hval0 hsz0
  refine (walk a0 x0 v1 z1 a2 w2 W w1).mono fun e W' ⟨he, bel⟩ => ?_
  subst he
  exact ⟨_, rfl, _, _, _, [], _, [], hW', trodAll_mk1 (shut_bool Try.underlying4 _), (trodAll_cons_mk (Below.trod laidOut (by kernel_rfl) (of_decide_eq_true (by kernel_rfl)) k0 bel lt0) (trodAll_cons_mk (Below.trod laidOut (by kernel_rfl) (of_decide_eq_true (by kernel_rfl)) k1 bel lt1) (trodAll_cons_mk (shut_int Try.underlying3 w2) trodAll_mk0))), rfl, bel.frame _, fun h => by cases h⟩

theorem over : Rows.recordTurnedRow.holds Try.pinned (OpenSpec.ofChange Rows.recordTurnedSpec) :=
  OpenClaim.holds_of_wide 8 Try.f8 rfl rfl rfl rfl rfl rfl rfl ⟨rfl, rfl, rfl, rfl, rfl⟩ rfl rfl rfl rfl rfl (by kernel_rfl) Try.func8 (by kernel_rfl)
    (of_decide_eq_true (by kernel_rfl)) (by unfold Func.isWrapper; first | (rw [if_pos (by decide +kernel)]; kernel_rfl) | (rw [if_neg (by decide +kernel)]; exact ⟨rfl, rfl⟩))
    (fun os started H enc _ => lifted os started H enc)
end Go.Proofs.Ytmkomhdlcbimoaa.recordTurned

namespace Go.Proofs.Ytmkomhdlcbimoaa
/-- The law returns true at every input. -/
theorem recordTurned_holds : Rows.RecordTurnedSaid := recordTurned.over
end Go.Proofs.Ytmkomhdlcbimoaa

