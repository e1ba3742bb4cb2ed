/- cisternlaw07.RecordBack returns true at every input: what is encoded is decoded to the same, by its own call alone; what is decoded is encoded to the same bytes. -/
import Derived.Test.YtmkomhdlcbimoaaRAll
import Derived.Deep.CutRange
namespace Go.Proofs.Ytmkomhdlcbimoaa.recordBack
set_option maxRecDepth 20000
open Go.RowKit Go.ChangeShapes Go.WideShapes Go.ChangeAt

theorem own : ownKnob Try.prog.godebug = none := by kernel_rfl
theorem log_len' {l : Lg} (h : logOk l = true) : (sectB (logI l)).length = 256 := (sect_un (by rw [logI_len]; have := logOk_size h; omega)).2.2
theorem logE_no {bs : List UInt8} (h : logE bs ≠ 0) : logV bs = lgNone := if_neg h
theorem pdecL_okb (bs : List UInt8) : ∀ x ∈ pdecL bs, x.ok := by
  unfold pdecL
  split
  · rename_i h
    exact prsOf_ok (encE_short (unsE_zero (pdecE_zero h).1).1).2
  · intro x hx; cases hx
set_option maxRecDepth 20000 in
set_option maxHeartbeats 1600000 in
theorem walk (v : Value) (x : Al) (W : World) (hx : AllArg W v x) : Calls Try.prog 6 #[v] W fun e w' => e = .returned (.bool true) ∧ Below W.heap.size W w' := by
  obtain ⟨rfl, hlo, hn, hpa, hba⟩ := hx
  obtain ⟨l, n, pl, bs, pv, bv⟩ := x
  obtain ⟨a, b, c, d, e, f, g, s⟩ := l
  simp only at hlo hn hpa hba
  obtain ⟨hP, -⟩ := hpa
  obtain ⟨hb, hcap, hlen⟩ := hba
  obtain ⟨pao, pm, pcap, hpv, hpm⟩ := hP.form'
  obtain ⟨ao, m, cap, hvf, hm⟩ : ∃ ao m cap, bv = .slice ao m cap ∧ Hid (m = bs.length) := by
    obtain ⟨ao, cap, hv, _⟩ := hb
    exact ⟨ao, _, cap, hv, Lib.hid rfl⟩
  subst hpv
  subst hvf
  have BA := below_new W (.cells #[.int .i64 a, .int .i64 b, .int .i64 c, .int .i64 d, .int .i64 e, .int .i64 f, .int .i64 g, .string s, .int .i64 n, .slice pao pm pcap, .slice ao m cap] 63)
  have gb := heap_alloc_new W (.cells #[.int .i64 a, .int .i64 b, .int .i64 c, .int .i64 d, .int .i64 e, .int .i64 f, .int .i64 g, .string s, .int .i64 n, .slice pao pm pcap, .slice ao m cap] 63)
  have hkn := known_any (W.alloc (.cells #[.int .i64 a, .int .i64 b, .int .i64 c, .int .i64 d, .int .i64 e, .int .i64 f, .int .i64 g, .string s, .int .i64 n, .slice pao pm pcap, .slice ao m cap] 63))
  have hlen2 : bs.length ≤ 140737488355328 := by omega
  go_enter Try.func6, Try.ntmps6
  go_wp2_with fail
  refine Calls.mono hkn ?_
  rintro x wa ⟨rfl, b1⟩
  have gb := (b1.block W.heap.size (by simp)).trans gb
  have BA := BA.trans (b1.mono BA.size)
  clear hkn b1
  have x0 : wa.cell? ⟨W.heap.size, 0, none⟩ = some (.int .i64 a) := cell_row gb 0 rfl
  have x1 : wa.cell? ⟨W.heap.size, 1, none⟩ = some (.int .i64 b) := cell_row gb 1 rfl
  have x2 : wa.cell? ⟨W.heap.size, 2, none⟩ = some (.int .i64 c) := cell_row gb 2 rfl
  have x3 : wa.cell? ⟨W.heap.size, 3, none⟩ = some (.int .i64 d) := cell_row gb 3 rfl
  have x4 : wa.cell? ⟨W.heap.size, 4, none⟩ = some (.int .i64 e) := cell_row gb 4 rfl
  have x5 : wa.cell? ⟨W.heap.size, 5, none⟩ = some (.int .i64 f) := cell_row gb 5 rfl
  have x6 : wa.cell? ⟨W.heap.size, 6, none⟩ = some (.int .i64 g) := cell_row gb 6 rfl
  have x7 : wa.cell? ⟨W.heap.size, 7, none⟩ = some (.string s) := cell_row gb 7 rfl
  have hen := encodeLog_any ⟨a, b, c, d, e, f, g, s⟩ hlo wa
  go_wp2_with fail
  refine Calls.mono hen ?_
  rintro x wb ⟨v1, rfl, o1, b1⟩
  obtain ⟨ao1, cap1, hv1, -, -⟩ := o1.form
  obtain ⟨m1, hm1⟩ : ∃ m1, m1 = (elogR ⟨a, b, c, d, e, f, g, s⟩).length := ⟨_, rfl⟩
  rw [← hm1] at hv1
  subst hv1
  clear hen x0 x1 x2 x3 x4 x5 x6 x7
  have gb := (b1.block W.heap.size (lt_of_heap gb)).trans gb
  have BA := BA.trans (b1.mono BA.size)
  clear b1
  obtain ⟨E, hE⟩ : ∃ E, E = elogE ⟨a, b, c, d, e, f, g, s⟩ := ⟨_, rfl⟩
  rw [← hE]
  have HEE := Lib.hid hE
  have HM1 := Lib.hid hm1
  clear hE hm1
  go_upto_if 34 with fail
  go_cut [] from 5 (fun wx => Below wb.heap.size wb wx)
  case first =>
    cases hok : logOk ⟨a, b, c, d, e, f, g, s⟩
    · have e1 : (E == 0) = false := by rw [HEE.out]; unfold elogE; rw [hok]; rfl
      clear hok o1 HM1 HEE
      go_wp2
      go_meet
      exact Below.refl _ _
    · obtain rfl : E = 0 := by rw [HEE.out]; unfold elogE; rw [hok]; rfl
      have e2 : elogR ⟨a, b, c, d, e, f, g, s⟩ = sectB (logI ⟨a, b, c, d, e, f, g, s⟩) := by unfold elogR; rw [hok]; rfl
      rw [e2] at o1
      have hs := log_sect hok hlo
      have hdl := decodeLog_any o1.at o1.cap
      rw [hs.1, hs.2.1] at hdl
      clear hok e2 HM1 HEE
      go_wp2_with fail
      refine Calls.mono hdl ?_
      rintro x w3 ⟨rfl, b3⟩
      have b3' := b3.alloc b3.size (.cells #[.int .i64 a, .int .i64 b, .int .i64 c, .int .i64 d, .int .i64 e, .int .i64 f, .int .i64 g, .string s] 25)
      have o3 := (o1.below b3).alloc (.cells #[.int .i64 a, .int .i64 b, .int .i64 c, .int .i64 d, .int .i64 e, .int .i64 f, .int .i64 g, .string s] 25)
      have g3 := heap_alloc_new w3 (.cells #[.int .i64 a, .int .i64 b, .int .i64 c, .int .i64 d, .int .i64 e, .int .i64 f, .int .i64 g, .string s] 25)
      have gb3 := (b3'.block W.heap.size (lt_of_heap gb)).trans gb
      have hdh := decodeHome_any o3.at o3.cap
      have p1 : homP (sectB (logI ⟨a, b, c, d, e, f, g, s⟩)) = 0 := by unfold homP; rw [hs.2.2.1]; rfl
      have p2 : homD (sectB (logI ⟨a, b, c, d, e, f, g, s⟩)) = ByteArray.empty := by unfold homD; rw [hs.2.2.1]; rfl
      rw [hs.2.2.1, p1, p2] at hdh
      clear hdl o1 b3 p1 p2
      go_wp2_with fail
      refine Calls.mono hdh ?_
      rintro x w4 ⟨rfl, b4⟩
      have b4' := b4.alloc b4.size (.cells #[.int .i64 0, .string ByteArray.empty] 27)
      have o4 := (o3.below b4).alloc (.cells #[.int .i64 0, .string ByteArray.empty] 27)
      have g4 := (b4'.block w3.heap.size (lt_of_heap g3)).trans g3
      have gb4 := (b4'.block W.heap.size (lt_of_heap gb3)).trans gb3
      have bb4 := b3'.trans (b4'.mono b3'.size)
      have hds := decodeSuper_any o4.at o4.cap
      have p0 : ∀ i, supG (sectB (logI ⟨a, b, c, d, e, f, g, s⟩)) i = 0 := fun i => by unfold supG; rw [hs.2.2.2]; rfl
      rw [hs.2.2.2, p0, p0, p0] at hds
      clear hdh o3 b4 b4' b3' gb3 g3 p0
      go_wp2_with fail
      refine Calls.mono hds ?_
      rintro x w5 ⟨rfl, b5⟩
      have b5' := b5.alloc b5.size (.cells #[.int .i64 0, .int .i64 0, .int .i64 0] 23)
      have g5 := (b5'.block w3.heap.size (lt_of_heap g4)).trans g4
      have gb5 := (b5'.block W.heap.size (lt_of_heap gb4)).trans gb4
      have bb5 := bb4.trans (b5'.mono bb4.size)
      have x0 : (w5.alloc (.cells #[.int .i64 0, .int .i64 0, .int .i64 0] 23)).cell? ⟨W.heap.size, 0, none⟩ = some (.int .i64 a) := cell_row gb5 0 rfl
      have x1 : (w5.alloc (.cells #[.int .i64 0, .int .i64 0, .int .i64 0] 23)).cell? ⟨W.heap.size, 1, none⟩ = some (.int .i64 b) := cell_row gb5 1 rfl
      have x2 : (w5.alloc (.cells #[.int .i64 0, .int .i64 0, .int .i64 0] 23)).cell? ⟨W.heap.size, 2, none⟩ = some (.int .i64 c) := cell_row gb5 2 rfl
      have x3 : (w5.alloc (.cells #[.int .i64 0, .int .i64 0, .int .i64 0] 23)).cell? ⟨W.heap.size, 3, none⟩ = some (.int .i64 d) := cell_row gb5 3 rfl
      have x4 : (w5.alloc (.cells #[.int .i64 0, .int .i64 0, .int .i64 0] 23)).cell? ⟨W.heap.size, 4, none⟩ = some (.int .i64 e) := cell_row gb5 4 rfl
      have x5 : (w5.alloc (.cells #[.int .i64 0, .int .i64 0, .int .i64 0] 23)).cell? ⟨W.heap.size, 5, none⟩ = some (.int .i64 f) := cell_row gb5 5 rfl
      have x6 : (w5.alloc (.cells #[.int .i64 0, .int .i64 0, .int .i64 0] 23)).cell? ⟨W.heap.size, 6, none⟩ = some (.int .i64 g) := cell_row gb5 6 rfl
      have x7 : (w5.alloc (.cells #[.int .i64 0, .int .i64 0, .int .i64 0] 23)).cell? ⟨W.heap.size, 7, none⟩ = some (.string s) := cell_row gb5 7 rfl
      have z0 : (w5.alloc (.cells #[.int .i64 0, .int .i64 0, .int .i64 0] 23)).cell? ⟨w3.heap.size, 0, none⟩ = some (.int .i64 a) := cell_row g5 0 rfl
      have z1 : (w5.alloc (.cells #[.int .i64 0, .int .i64 0, .int .i64 0] 23)).cell? ⟨w3.heap.size, 1, none⟩ = some (.int .i64 b) := cell_row g5 1 rfl
      have z2 : (w5.alloc (.cells #[.int .i64 0, .int .i64 0, .int .i64 0] 23)).cell? ⟨w3.heap.size, 2, none⟩ = some (.int .i64 c) := cell_row g5 2 rfl
      have z3 : (w5.alloc (.cells #[.int .i64 0, .int .i64 0, .int .i64 0] 23)).cell? ⟨w3.heap.size, 3, none⟩ = some (.int .i64 d) := cell_row g5 3 rfl
      have z4 : (w5.alloc (.cells #[.int .i64 0, .int .i64 0, .int .i64 0] 23)).cell? ⟨w3.heap.size, 4, none⟩ = some (.int .i64 e) := cell_row g5 4 rfl
      have z5 : (w5.alloc (.cells #[.int .i64 0, .int .i64 0, .int .i64 0] 23)).cell? ⟨w3.heap.size, 5, none⟩ = some (.int .i64 f) := cell_row g5 5 rfl
      have z6 : (w5.alloc (.cells #[.int .i64 0, .int .i64 0, .int .i64 0] 23)).cell? ⟨w3.heap.size, 6, none⟩ = some (.int .i64 g) := cell_row g5 6 rfl
      have z7 : (w5.alloc (.cells #[.int .i64 0, .int .i64 0, .int .i64 0] 23)).cell? ⟨w3.heap.size, 7, none⟩ = some (.string s) := cell_row g5 7 rfl
      clear hds o4 b5 b5' g4 gb4 bb4 hs
      go_wp2
      go_meet
      exact bb5
  case rest =>
    have BC := BA.trans (Below.mono hcut BA.size)
    have gb := (hcut.block W.heap.size (lt_of_heap gb)).trans gb
    have BA := BC
    clear o1 HM1 HEE hcut BC
    generalize wc = wa at BA gb ⊢
    have x8 : wa.cell? ⟨W.heap.size, 8, none⟩ = some (.int .i64 n) := cell_row gb 8 rfl
    have x9 : wa.cell? ⟨W.heap.size, 9, none⟩ = some (.slice pao pm pcap) := cell_row gb 9 rfl
    have hen := encodePairs_any ((hP.below BA).more BA.size) n hn
    go_wp2_with fail
    refine Calls.mono hen ?_
    rintro x wb ⟨v1, rfl, o1, b1⟩
    obtain ⟨ao1, cap1, hv1, -, -⟩ := o1.form
    obtain ⟨m1, hm1⟩ : ∃ m1, m1 = (epR n pl).length := ⟨_, rfl⟩
    rw [← hm1] at hv1
    subst hv1
    obtain ⟨E, hE⟩ : ∃ E, E = epE n pl := ⟨_, rfl⟩
    rw [← hE]
    have HEE := Lib.hid hE
    have HM1 := Lib.hid hm1
    clear hen x8 x9 hE hm1
    have gb := (b1.block W.heap.size (lt_of_heap gb)).trans gb
    have BA := BA.trans (b1.mono BA.size)
    clear b1
    go_upto_if 75 with fail
    go_cut [] from 12 (fun wx => Below wb.heap.size wb wx)
    case first =>
      by_cases e0 : E = 0
      · subst e0
        have e1 := HEE.out.symm
        obtain ⟨z1, z2⟩ := epE_zero e1
        have e2 : epR n pl = blobB n pl := by unfold epR; rw [if_pos e1]
        rw [e2] at o1
        obtain ⟨q1, q2, q3⟩ := pairs_seal z1 z2 hn
        have hsz : (blobB n pl).length ≤ 140737488355328 := by unfold blobB; rw [sealed_length, packP_length]; have := (bigP_false z1).2; omega
        have hdp := decodePairs_any o1.at o1.cap hsz
        rw [q1, q2, q3] at hdp
        have hpok : ∀ y ∈ pl, y.ok := sizes_ok z2
        have HPOK := Lib.hid hpok
        clear e1 e2 z1 z2 q1 q2 q3 hsz HM1 HEE hpok
        go_wp2_with fail
        refine Calls.mono hdp ?_
        rintro x w3 ⟨v3, rfl, p3, b3⟩
        have gb3 := (b3.block W.heap.size (lt_of_heap gb)).trans gb
        have x8 : w3.cell? ⟨W.heap.size, 8, none⟩ = some (.int .i64 n) := cell_row gb3 8 rfl
        have x9 : w3.cell? ⟨W.heap.size, 9, none⟩ = some (.slice pao pm pcap) := cell_row gb3 9 rfl
        have B3 := BA.trans (b3.mono BA.size)
        have hsm := samePairs_eq (p3.pairs HPOK.out) (hP.below B3)
        obtain ⟨ao3, m3, cap3, hv3, hm3⟩ := p3.form'
        subst hv3
        clear hdp o1 p3
        go_wp2_with fail
        refine Calls.mono hsm ?_
        rintro x w4 ⟨rfl, b4⟩
        have bb4 := b3.trans (b4.mono b3.size)
        clear hsm x8 x9
        go_wp2
        go_meet
        exact bb4
      · have e1 : (E == 0) = false := by simpa using e0
        clear e0 o1 HM1 HEE
        go_wp2
        go_meet
        exact Below.refl _ _
    case rest =>
      have BC := BA.trans (Below.mono hcut BA.size)
      have gb := (hcut.block W.heap.size (lt_of_heap gb)).trans gb
      have BA := BC
      clear o1 HM1 HEE hcut BC
      generalize wc = wa at BA gb ⊢
      have x10 : wa.cell? ⟨W.heap.size, 10, none⟩ = some (.slice ao m cap) := cell_row gb 10 rfl
      have hde := decodeSuper_any (hb.below BA) hcap
      go_wp2_with fail
      refine Calls.mono hde ?_
      rintro x wd ⟨rfl, b1⟩
      have b1 := b1.alloc b1.size (.cells #[.int .i64 (supG bs 1), .int .i64 (supG bs 2), .int .i64 (supG bs 3)] 23)
      have gs := heap_alloc_new wd (.cells #[.int .i64 (supG bs 1), .int .i64 (supG bs 2), .int .i64 (supG bs 3)] 23)
      clear hde x10
      have gb := (b1.block W.heap.size (lt_of_heap gb)).trans gb
      have BA := BA.trans (b1.mono BA.size)
      clear b1
      obtain ⟨E, hE⟩ : ∃ E, E = supE bs := ⟨_, rfl⟩
      rw [← hE]
      have HEE := Lib.hid hE
      clear hE
      go_upto_if 104 with fail
      generalize hsb : wd.heap.size = sb at gs ⊢
      clear hsb
      generalize wd.alloc (.cells #[.int .i64 (supG bs 1), .int .i64 (supG bs 2), .int .i64 (supG bs 3)] 23) = wb at gs BA gb ⊢
      go_cut [] from 16 (fun wx => Below wb.heap.size wb wx)
      case first =>
        by_cases e0 : E = 0
        · subst e0
          have hbk := super_back HEE.out.symm
          have hen := encodeSuper_any (supG bs 1) (supG bs 2) (supG bs 3) hbk.2.2.1 hbk.2.2.2.1 hbk.2.2.2.2 wb
          have e1 : esupE (supG bs 1) (supG bs 2) (supG bs 3) = 0 := by unfold esupE; rw [hbk.2.1]; rfl
          have e2 : esupR (supG bs 1) (supG bs 2) (supG bs 3) = bs := by unfold esupR; rw [hbk.2.1, if_pos rfl]; exact hbk.1.symm
          rw [e1, e2] at hen
          have y0 : wb.cell? ⟨sb, 0, none⟩ = some (.int .i64 (supG bs 1)) := cell_row gs 0 rfl
          have y1 : wb.cell? ⟨sb, 1, none⟩ = some (.int .i64 (supG bs 2)) := cell_row gs 1 rfl
          have y2 : wb.cell? ⟨sb, 2, none⟩ = some (.int .i64 (supG bs 3)) := cell_row gs 2 rfl
          clear e1 e2 hbk HEE
          go_wp2_with fail
          refine Calls.mono hen ?_
          rintro x w3 ⟨v3, rfl, o3, b3⟩
          have gb3 := (b3.block W.heap.size (lt_of_heap gb)).trans gb
          have x10 : w3.cell? ⟨W.heap.size, 10, none⟩ = some (.slice ao m cap) := cell_row gb3 10 rfl
          have B3 := BA.trans (b3.mono BA.size)
          have hst1 := run_string o3
          have hst2 := run_string_c (hb.below B3)
          obtain ⟨ao3, m3, cap3, hv3, hm3⟩ := o3.form'
          subst hv3
          clear hen o3 y0 y1 y2 hm3
          go_wp2
          go_meet
          exact b3
        · have e1 : (E == 0) = false := by simpa using e0
          clear e0 gs HEE
          go_wp2
          go_meet
          exact Below.refl _ _
      case rest =>
        have BC := BA.trans (Below.mono hcut BA.size)
        have gb := (hcut.block W.heap.size (lt_of_heap gb)).trans gb
        have BA := BC
        clear gs HEE hcut BC
        generalize wc = wa at BA gb ⊢
        have x10 : wa.cell? ⟨W.heap.size, 10, none⟩ = some (.slice ao m cap) := cell_row gb 10 rfl
        have hde := decodeHome_any (hb.below BA) hcap
        go_wp2_with fail
        refine Calls.mono hde ?_
        rintro x wd ⟨rfl, b1⟩
        have b1 := b1.alloc b1.size (.cells #[.int .i64 (homP bs), .string (homD bs)] 27)
        have gs := heap_alloc_new wd (.cells #[.int .i64 (homP bs), .string (homD bs)] 27)
        clear hde x10
        have gb := (b1.block W.heap.size (lt_of_heap gb)).trans gb
        have BA := BA.trans (b1.mono BA.size)
        clear b1
        obtain ⟨E, hE⟩ : ∃ E, E = homE bs := ⟨_, rfl⟩
        rw [← hE]
        have HEE := Lib.hid hE
        clear hE
        go_upto_if 127 with fail
        generalize hsb : wd.heap.size = sb at gs ⊢
        clear hsb
        generalize wd.alloc (.cells #[.int .i64 (homP bs), .string (homD bs)] 27) = wb at gs BA gb ⊢
        go_cut [] from 19 (fun wx => Below wb.heap.size wb wx)
        case first =>
          by_cases e0 : E = 0
          · subst e0
            have hbk := home_back HEE.out.symm
            have hen := encodeHome_any (homP bs) (homD bs) hbk.2.2.1 hbk.2.2.2 wb
            have e1 : ehomE (homP bs) (homD bs) = 0 := by unfold ehomE; rw [hbk.2.1]; rfl
            have e2 : ehomR (homP bs) (homD bs) = bs := by unfold ehomR; rw [hbk.2.1, if_pos rfl]; exact hbk.1.symm
            rw [e1, e2] at hen
            have y0 : wb.cell? ⟨sb, 0, none⟩ = some (.int .i64 (homP bs)) := cell_row gs 0 rfl
            have y1 : wb.cell? ⟨sb, 1, none⟩ = some (.string (homD bs)) := cell_row gs 1 rfl
            clear e1 e2 hbk HEE
            go_wp2_with fail
            refine Calls.mono hen ?_
            rintro x w3 ⟨v3, rfl, o3, b3⟩
            have gb3 := (b3.block W.heap.size (lt_of_heap gb)).trans gb
            have x10 : w3.cell? ⟨W.heap.size, 10, none⟩ = some (.slice ao m cap) := cell_row gb3 10 rfl
            have B3 := BA.trans (b3.mono BA.size)
            have hst1 := run_string o3
            have hst2 := run_string_c (hb.below B3)
            obtain ⟨ao3, m3, cap3, hv3, hm3⟩ := o3.form'
            subst hv3
            clear hen o3 y0 y1 hm3
            go_wp2
            go_meet
            exact b3
          · have e1 : (E == 0) = false := by simpa using e0
            clear e0 gs HEE
            go_wp2
            go_meet
            exact Below.refl _ _
        case rest =>
          have BC := BA.trans (Below.mono hcut BA.size)
          have gb := (hcut.block W.heap.size (lt_of_heap gb)).trans gb
          have BA := BC
          clear gs HEE hcut BC
          generalize wc = wa at BA gb ⊢
          have x10 : wa.cell? ⟨W.heap.size, 10, none⟩ = some (.slice ao m cap) := cell_row gb 10 rfl
          have hde := decodePairs_any (hb.below BA) hcap hlen2
          go_wp2_with fail
          refine Calls.mono hde ?_
          rintro x wb ⟨v1, rfl, p1, b1⟩
          have HPOK := Lib.hid (pdecL_okb bs)
          clear hde x10
          have gb := (b1.block W.heap.size (lt_of_heap gb)).trans gb
          have BA := BA.trans (b1.mono BA.size)
          clear b1
          by_cases e0 : pdecE bs = 0
          · obtain ⟨k1, k2, k3, k4⟩ := pairs_back e0
            have hen := encodePairs_any (p1.pairs HPOK.out) (pdecN bs) k4
            have e1 := epE_ok k2 k3
            have e2 : epR (pdecN bs) (pdecL bs) = bs := by unfold epR; rw [if_pos e1]; exact k1.symm
            rw [e1, e2] at hen
            rw [e0]
            obtain ⟨ao1, m1, cap1, hv1, hm1⟩ := p1.form'
            subst hv1
            clear k1 k2 k3 k4 e1 e2 e0 p1 hm1
            go_wp2_with fail
            refine Calls.mono hen ?_
            rintro x w3 ⟨v3, rfl, o3, b3⟩
            have gb3 := (b3.block W.heap.size (lt_of_heap gb)).trans gb
            have x10 : w3.cell? ⟨W.heap.size, 10, none⟩ = some (.slice ao m cap) := cell_row gb3 10 rfl
            have B3 := BA.trans (b3.mono BA.size)
            have hst1 := run_string o3
            have hst2 := run_string_c (hb.below B3)
            obtain ⟨ao3, m3, cap3, hv3, hm3⟩ := o3.form'
            subst hv3
            clear hen o3 hm3
            go_wp2
            go_ret
            exact ⟨rfl, B3⟩
          · have e1 : (pdecE bs == 0) = false := by simpa using e0
            generalize pdecE bs = E at e1
            obtain ⟨ao1, m1, cap1, hv1, hm1⟩ := p1.form'
            subst hv1
            clear e0 p1 hm1
            go_wp2
            go_ret
            exact ⟨rfl, BA⟩


/-! ### the row -/
theorem laidOut : laidOutB Try.prog = true := by kernel_rfl
theorem bytesInt : Try.prog.bytesOf 3 = 8 := by kernel_rfl
set_option maxRecDepth 100000 in
theorem lifted (os : Os) (started : os.Started) (H : Type) (enc : TypeId × Value → H) :
    ReturnsInHanded {} Try.checked os 6 .any (Rows.recordBackSpec.pre6 enc Try.prog Try.f6 Rows.recordBackRow.domain false) (Rows.recordBackSpec.post enc Try.prog Try.f6 false true false false) := by
  refine returnsInHanded_of_change_sized (C := Try.checked) own started (by kernel_rfl) Try.func6
    (ChangeSpec.witness6 (enc := enc) (C := Try.checked) false ⟨#[], #[.agg #[.int .i64 0, .int .i64 0, .int .i64 0, .int .i64 0, .int .i64 0, .int .i64 0, .int .i64 0, .string ByteArray.empty, .int .i64 0, .slice none 0 0, .slice none 0 0]], []⟩ 8 (by kernel_rfl) (by kernel_rfl) (by kernel_rfl) (by kernel_rfl)) ?_
  intro W base args ds gs before hval0 hW hcnd hsz0 _
  have hval : ∀ (j : Nat) t v, Try.f6.params[j]? = some t → args[j]? = some v → Value.okWide Try.prog W .any base t v := hval0
  have hW' := hW
  obtain ⟨p, q, hA0, hV, rfl, hfz, hnd⟩ := hW
  have hA : DataW.TrodAll enc Try.prog W 0 (fun _ => true) true Try.f6.params.toList args.toList ds p := hA0
  have hsz : (DataW.weightsEach Try.prog (Try.f6.params.toList ++ Rows.recordBackSpec.plain.varTypes Try.prog) (ds ++ gs)).all (· ≤ reachBytes) = true := hsz0
  rw [Try.params6] at hA hval hsz
  obtain ⟨v0, vs0, d0, ds0, p0, q0, hargs, rfl, rfl, h0, r0⟩ := trodAll_cons hA
  obtain ⟨rfl, rfl, rfl⟩ := trodAll_nil r0
  obtain rfl : args = #[v0] := by cases args; simp_all
  obtain ⟨rfl, rfl⟩ := trodVars_none hV
  have k0 := h0
  have lt0 := args_lt k0
  obtain ⟨z0, w0⟩ := all_arg (hval 0 63 v0 rfl rfl) (fun k hk => of_decide_eq_true (List.all_eq_true.1 hsz _ (DataW.weights_mem_each (j := 0) (t := 63) (d := d0) rfl rfl k hk))) h0
  clear hA0 hval0 hsz0
  refine (walk v0 z0 W w0).mono fun e W' ⟨he, bel⟩ => ?_
  subst he
  exact ⟨_, rfl, _, _, _, [], _, [], hW', trodAll_mk1 (shut_bool Try.underlying4 _), (trodAll_cons_mk (Below.trod laidOut (by kernel_rfl) (of_decide_eq_true (by kernel_rfl)) k0 bel lt0) trodAll_mk0), rfl, bel.frame _, fun h => by cases h⟩

theorem over : Rows.recordBackRow.holds Try.pinned (OpenSpec.ofChange Rows.recordBackSpec) :=
  OpenClaim.holds_of_wide 6 Try.f6 rfl rfl rfl rfl rfl rfl rfl ⟨rfl, rfl, rfl, rfl, rfl⟩ rfl rfl rfl rfl rfl (by kernel_rfl) Try.func6 (by kernel_rfl)
    (of_decide_eq_true (by kernel_rfl)) (by unfold Func.isWrapper; first | (rw [if_pos (by decide +kernel)]; kernel_rfl) | (rw [if_neg (by decide +kernel)]; exact ⟨rfl, rfl⟩))
    (fun os started H enc _ => lifted os started H enc)
end Go.Proofs.Ytmkomhdlcbimoaa.recordBack

namespace Go.Proofs.Ytmkomhdlcbimoaa
/-- The law returns true at every input. -/
theorem recordBack_holds : Rows.RecordBackSaid := recordBack.over
end Go.Proofs.Ytmkomhdlcbimoaa

