/- One sector of a log that is torn ends it there: the law cisternlaw08.WalTorn returns true at every input. No condition. -/
import Derived.Test.YtlddfgbjhmihnaaWTornM
namespace Go.Proofs.Ytlddfgbjhmihnaa.walTorn
set_option maxRecDepth 20000
open Go.RowKit Go.ChangeShapes Go.WideShapes Go.ChangeAt

theorem own : ownKnob Try.prog.godebug = none := by kernel_rfl
theorem none_s (w : World) : OwnS w.heap.size (w.alloc (.cells #[] 3)) (.slice (some ⟨w.heap.size, 0, none⟩) 0 0) [] :=
  ⟨rfl, .inr ⟨w.heap.size, 0, #[], rfl, Nat.le_refl _, heap_alloc_new w _, Nat.le_refl _, Nat.zero_le _, rfl, rfl⟩⟩
theorem build0_s (w : World) : (Instr.buildSlice 45 0 #[]).run Try.prog w = .ok (.slice (some ⟨w.heap.size, 0, none⟩) 0 0) (w.alloc (.cells #[] 3)) := by kernel_rfl
theorem ints_two (B : Nat) (w : World) : Ints FK B (w.alloc (.cells #[.int .i64 2] 3)) (.slice (some ⟨w.heap.size, 0, none⟩) 1 1) [2] := by
  refine ⟨_, 1, rfl, by decide, fun i hi => ⟨w.heap.size, 0, _, rfl, heap_alloc_new w _, .inr rfl, ?_⟩⟩
  have : i = 0 := by simpa using hi
  subst this
  exact cell_new w _ _ 0 _ rfl
theorem zeros_make (w : World) : ∃ w', (Instr.makeSlice 59 (.int .i64 256) (.int .i64 256)).run Try.prog w = .ok (.slice (some ⟨w.heap.size, 0, none⟩) 256 256) w' ∧ BytesAt w' (.slice (some ⟨w.heap.size, 0, none⟩) 256 256) zeros ∧ Below w.heap.size w w' := by
  obtain ⟨w', h1, h2, h3⟩ := run_zeros w 256 (by decide)
  exact ⟨w', h1, h2.bytes (by simp [maxLen]), h3⟩
set_option maxHeartbeats 12800000 in
set_option maxRecDepth 400000 in
theorem walk (v0 : Value) (z0 : List Int) (a1 : Int) (_ : (Lit.int .i64 a1).wf = true) (W : World) (w0 : IntsArg W v0 z0) :
    Calls Try.prog 7 #[v0, .int .i64 a1] W fun e w' => e = .returned (.bool true) ∧ Below W.heap.size W w' := by
  obtain ⟨ao, cap, rfl, hlen, -⟩ := w0.1.form
  go_enter Try.func7, Try.ntmps7
  go_wp2_with fail
  refine (wknown_any W).mono ?_
  rintro e wa ⟨rfl, ba⟩
  go_wp2_with fail
  refine (new_any W.heap.size wa 100 (by omega) (by omega) ba.size).mono ?_
  rintro e wb ⟨rfl, db, bb, -⟩
  have bc : Below W.heap.size W wb := ba.trans (bb.mono ba.size)
  have hs := bc.size
  obtain ⟨hob, hinv0⟩ := TInv.start 100 (by decide) (by decide)
  have hop := open_yes db (by show 0 < 1000000; decide) hob (read_not4 rfl ⟨by decide, by decide⟩)
  rw [fresh_scan (by decide) hob] at hop
  clear hob
  go_wp2_with fail
  refine Calls.mono hop ?_
  rintro e wc ⟨lb, v, rfl, hlb, tv, lc, dc, bC⟩
  have bd := bc.trans (bC.mono hs)
  have hlB : W.heap.size ≤ lb := Nat.le_trans hs hlb
  obtain ⟨vo, vm, vc, hvv, -⟩ := tv.form'
  subst hvv
  replace lc : WlAt wc lb wa.heap.size (wl0 0 100 0 1) := lc
  generalize Dev.fresh 100 = d0 at dc hinv0
  generalize wl0 0 100 0 1 = l0 at lc hinv0
  have hbs0 := build0_s wc
  have bn0 := below_new wc (.cells #[] 3)
  have s0 : OwnS W.heap.size (wc.alloc (.cells #[] 3)) (.slice (some ⟨wc.heap.size, 0, none⟩) 0 0) (ahF 0 []) := ownsRow_base (none_s wc) (fun k hk => by
    have : k = wc.heap.size := by injection hk with hk; exact hk.symm
    have := bd.size; omega)
  replace lc := lc.below bn0
  replace dc := dc.below bn0
  have be := bd.trans (bn0.mono bd.size)
  clear hop tv bC bc hs hlb db bb ba bn0 bd
  go_wp2
  go_loopw [10, 11, 12] (fun av sv iv wr => ∃ (k : Nat) (d : Dev) (l : Wl) (T : Txs), k ≤ 15 ∧ k ≤ z0.length ∧ iv = .int .i64 k ∧ Hid (TInv d l T 100 k) ∧ OutT W.heap.size wr av (imgT T) ∧ OwnS W.heap.size wr sv (ahF 0 T) ∧ DevAt W.heap.size wr wa.heap.size d 0 ∧ WlAt wr lb wa.heap.size l ∧ Below W.heap.size W wr) (fun _ _ iv _ => z0.length - (intOf iv).toNat)
  case atStart => exact ⟨0, d0, l0, [], Nat.zero_le _, Nat.zero_le _, rfl, Lib.hid hinv0, OutT.nil _ _, s0, dc, lc, be⟩
  case round =>
    clear dc lc be hinv0 s0 hbs0
    obtain ⟨k, d, l, T, hk15, hkl, rfl, hinv, ta, sa, dk, lk, bk⟩ := hrel
    obtain ⟨lo, lm, lcap, hlv, hlm⟩ := ta.form'
    subst hlv
    obtain ⟨so, sm, scap, hsv, hsm⟩ := sa.form'
    subst hsv
    by_cases hc : k < z0.length ∧ k < 15
    · obtain ⟨hlt, h15⟩ := hc
      obtain ⟨b, off, rfl, hcell⟩ := w0.1.at bk hlt
      generalize z0.getD k 0 = z at hcell
      obtain ⟨c, hc5, ec⟩ := mod_form z 5 (by decide) (by decide)
      have hwr := bk.size
      have hd15 : decide ((k : Int) < 15) = true := by simp; omega
      obtain ⟨w1, hm1, r1, b1⟩ := made_imgs wr c (by omega)
      have bk1 := bk.trans (b1.mono hwr)
      have ta1 := ta.below b1
      have sa1 := sa.below b1
      have dk1 := dk.below b1
      have lk1 := lk.below b1
      obtain ⟨hi1, hi2⟩ := none_ok c
      have hap := append_fr dk1 lk1 hinv.out.grown.ok (by have := hinv.out.waits; omega) bk1.size hlB r1.k
      obtain ⟨e0, hinv'⟩ := hinv.out.app hi1 hi2 (by rw [List.length_replicate]; omega) (by omega)
      rw [e0] at hap
      have hlT := hinv.out.len
      generalize appDev d l (List.replicate c Im.none) = d' at hap hinv'
      generalize appL d l (List.replicate c Im.none) = l' at hap hinv'
      have HI := Lib.hid hinv'
      have HLT := Lib.hid hlT
      have hLn : lenT T ≤ 6 * k := hinv.out.next
      clear e0 hinv' hi1 hi2 ta sa dk lk bk dk1 lk1 b1 r1 hlT hlm hsm hinv
      go_wp2_with (simp only [ec])
      refine Calls.mono hap ?_
      rintro e w4 ⟨rfl, d4, l4, f4⟩
      have ta4 := ta1.fr f4 FG_img FG_lst
      have sa4 := sa1.fr f4 (fun cs => FG_int cs _)
      have bk4 := bk1.trans (f4.below bk1.size)
      clear hap f4 ta1 sa1 bk1 hm1 ec hcell
      obtain ⟨w6, hm6, r6, b6⟩ := made_imgs w4 c (by omega)
      have hbs := build_lst_one w6 (some ⟨w4.heap.size, 0, none⟩) c c
      have bn := below_new w6 (.cells #[.slice (some ⟨w4.heap.size, 0, none⟩) c c] 44)
      have hz9 : (w6.alloc (.cells #[.slice (some ⟨w4.heap.size, 0, none⟩) c c] 44)).heap.size = w6.heap.size + 1 := by simp
      have bk6 := bk4.trans (b6.mono bk4.size)
      have hs6 := bk6.size
      obtain ⟨v5, w5, hr5, t5, f5⟩ := outt_push ((ta4.below b6).below bn) (by rw [hz9]; omega) (heap_alloc_new w6 (.cells #[.slice (some ⟨w4.heap.size, 0, none⟩) c c] 44)) (r6.below bn) (by unfold imgT; rw [List.length_map, HLT.out]; omega) 34
      have l5 : WlAt w5 lb wa.heap.size l' := f5.keep _ _ ((l4.below b6).below bn) (.inr (KL_log _ _))
      have d5 := ((d4.below b6).below bn).fr f5 KL_FK
      have s5 := ((sa4.below b6).below bn).fr f5 KL_int
      have bk5 := (bk6.trans (bn.mono hs6)).trans (f5.below (by rw [hz9]; omega))
      have t5' : OutT W.heap.size w5 v5 (imgT (T ++ [(1, zIms c)])) := by unfold imgT; rw [List.map_append]; exact t5
      obtain ⟨lo5, lm5, lc5, hv5, hm5⟩ := t5'.form'
      subst hv5
      have HR5 := Lib.hid hr5
      clear hr5 f5 bn hz9 ta4 sa4 d4 l4 bk4 t5 r6 b6 bk6 hs6 hm5
      go_wp2_with (with_reducible refine wpList_append_eq rfl (.tmp 59) (.tmp 62) 34 34 rfl (.slice lo lm lcap) (.slice (some ⟨w6.heap.size, 0, none⟩) 1 1) (.slice lo5 lm5 lc5) rfl rfl HR5.out ?_)
      clear HR5 hm6 hbs
      go_loopw [11, 14] (fun sv jv wx => ∃ j : Nat, j ≤ c + 1 ∧ jv = .int .i64 j ∧ OwnS W.heap.size wx sv (ahF 0 T ++ List.replicate j (k : Int)) ∧ OutT W.heap.size wx (.slice lo5 lm5 lc5) (imgT (T ++ [(1, zIms c)])) ∧ DevAt W.heap.size wx wa.heap.size d' 0 ∧ WlAt wx lb wa.heap.size l' ∧ Below W.heap.size W wx) (fun _ jv _ => c + 1 - (intOf jv).toNat)
      case atStart => exact ⟨0, Nat.zero_le _, rfl, by rw [List.replicate_zero, List.append_nil]; exact s5, t5', d5, l5, bk5⟩
      case round =>
        clear s5 t5' d5 l5 bk5
        obtain ⟨j, hj, rfl, sj, tj, dj, lj, bj⟩ := hrel
        obtain ⟨po, pm, pc, hpv, -⟩ := sj.form'
        subst hpv
        have hsj := bj.size
        by_cases hjc : j ≤ c
        · have hbz := build_s (k : Int) wr
          obtain ⟨v7, w7, hr7, s7, f7⟩ := own_pushS sj (k : Int) hsj (by rw [List.length_append, List.length_replicate, ahF_length]; omega)
          have e7 : (ahF 0 T ++ List.replicate j (k : Int)) ++ [(k : Int)] = ahF 0 T ++ List.replicate (j + 1) (k : Int) := by rw [List.append_assoc, List.replicate_succ']
          rw [e7] at s7
          have t7 := tj.fr f7 KI_img KI_lst
          have d7 := dj.fr f7 KI_FK
          have l7 : WlAt w7 lb wa.heap.size l' := f7.keep _ _ lj (.inr (KI_log _ _))
          have bk7 := bj.trans (f7.below hsj)
          obtain ⟨lo7, lm7, lc7, hv7, -⟩ := s7.form'
          subst hv7
          have HR7 := Lib.hid hr7
          clear hr7 f7 sj tj dj lj bj e7
          go_wp2_with (with_reducible refine wpList_append_eq rfl (.tmp 69) (.tmp 71) 45 45 rfl (.slice po pm pc) (.slice (some ⟨wr.heap.size, 0, none⟩) 1 1) (.slice lo7 lm7 lc7) rfl rfl HR7.out ?_)
          go_roundw
          case rel => exact ⟨j + 1, by omega, by go_num, s7, t7, d7, l7, bk7⟩
          case measure => simp [intOf]; omega
        · obtain rfl : j = c + 1 := by omega
          have s8 : OwnS W.heap.size wr (.slice po pm pc) (ahF 0 (T ++ [(1, zIms c)])) := by
            rw [ahF_append, HLT.out]
            simp only [ahF, List.append_nil, List.length_replicate, Nat.zero_add]
            exact sj
          clear sj
          go_wp2
          go_roundw
          case rel => exact ⟨k + 1, d', l', _, by omega, by omega, by go_num, HI, tj, s8, dj, lj, bj⟩
          case measure => simp [intOf]; omega
    · by_cases hlt : k < z0.length
      · have hd15 : decide ((k : Int) < 15) = false := by simp; omega
        have hsm1 : sm = lenT T := by rw [hsm.out, ahF_length]
        have hnx := hinv.out.next
        have hwt := hinv.out.waits
        obtain ⟨hfd, hgf⟩ := hinv.out.grown.flush
        have hfl := flush_any dk (by unfold maxLen; omega) (by omega)
        rw [hfd] at hfl
        have HFD := Lib.hid hfd
        clear hfd hgf
        by_cases h0 : sm = 0
        · have hs0 : (((sm : Nat) : Int) == 0) = true := by rw [h0]; rfl
          clear hinv h0 hsm1 hsm hlm
          go_wp2_with fail
          refine Calls.mono hfl ?_
          rintro e w1 ⟨rfl, d1, f1⟩
          have bk1 := bk.trans (f1.below bk.size)
          clear hfl f1 HFD
          go_wp2
          go_ret
          exact ⟨rfl, bk1⟩
        · have hw : IntKind.u64.wrap (sm : Int) = (sm : Int) := by rw [IntKind.wrap_u64]; omega
          have hsp : (0 : Int) < (sm : Int) := by omega
          have hs0 : ((sm : Int) == 0) = false := by simp; omega
          have hsi : ¬ (sm : Int) = 0 := by omega
          have hwn : ¬ IntKind.u64.wrap (sm : Int) = 0 := by rw [hw]; exact hsi
          obtain ⟨m, hm, em⟩ := mod_form a1 (sm : Int) (by omega) (by omega)
          obtain ⟨c, x, r, hdr, hcT, hg, h1, h2⟩ := ahF_get T 0 m (by omega)
          rw [Nat.zero_add] at hg
          obtain ⟨-, hwri, hob, hro, hsc⟩ := torn_opens hinv.out dk.ok.size (by omega) (a := m) hdr h1 h2
          have hfw : d.flushed.waits = [] := (flushed_same d).1
          have hcL : c ≤ (imgT T).length := by unfold imgT; rw [List.length_map]; omega
          have HAL := Lib.hid (show (ahF 0 T).length = sm by rw [ahF_length, hsm1])
          have htd : ({ d.flushed with waits := d.flushed.waits ++ [((m : Int), zeros)] } : Dev).crash [2] = tornD d.flushed m := rfl
          have hwl : (({ d.flushed with waits := d.flushed.waits ++ [((m : Int), zeros)] } : Dev)).waits.length = 1 := by rw [show (({ d.flushed with waits := d.flushed.waits ++ [((m : Int), zeros)] } : Dev)).waits = d.flushed.waits ++ [((m : Int), zeros)] from rfl, hfw]; rfl
          have htw : (tornD d.flushed m).waits = [] := (crash_same _ [2]).1
          have hfw0 : d.flushed.waits.length = 0 := by rw [hfw]; rfl
          generalize ({ d.flushed with waits := d.flushed.waits ++ [((m : Int), zeros)] } : Dev) = dw at hwri htd hwl
          generalize tornD d.flushed m = dt at *
          generalize d.flushed = df at *
          have hdz : d.waits.length ≤ 90 := by omega
          generalize d.waits.length = nw at *
          have hlmL : lm = (imgT T).length := hlm.out
          have HG := Lib.hid hg
          have HLM := Lib.hid hlmL
          generalize imgT T = L at *
          generalize ahF 0 T = AH at *
          have hcl : c ≤ lm := by rw [HLM.out]; exact hcL
          have hlc : lm ≤ lcap := by
            obtain ⟨vs, ⟨ao', cap', hv, hh1, hh2, hh3⟩, hh4, _⟩ := ta
            injection hv with e1 e2 e3
            omega
          clear hinv hdr hcT hg h1 h2 hfw hsm hlm hnx hwt h0 hlmL HFD hsm1 x r
          go_wp2_with fail
          refine Calls.mono hfl ?_
          rintro e w1 ⟨rfl, d1, f1⟩
          have ta1 := ta.fr f1 FK_img FK_lst
          have sa1 := sa.fr f1 (fun _ => rfl)
          have bk1 := bk.trans (f1.below bk.size)
          obtain ⟨w2, hmk, hby, b2⟩ := zeros_make w1
          have d2 := d1.below b2
          have ta2 := ta1.below b2
          have sa2 := sa1.below b2
          have bk2 := bk1.trans (b2.mono bk1.size)
          have hwr := write_any d2 (m : Int) hby (by omega) bk2.size
          rw [hwri] at hwr
          clear hfl f1 ta sa dk lk bk d1 ta1 sa1 bk1 b2 hby
          go_wp2_with (simp only [em])
          refine Calls.mono hwr ?_
          rintro e w3 ⟨rfl, d3, f3⟩
          have ta3 := ta2.fr f3 FK_img FK_lst
          have sa3 := sa2.fr f3 (fun _ => rfl)
          have bk3 := bk2.trans (f3.below bk2.size)
          have hb2 := build_s 2 w3
          have bn := below_new w3 (.cells #[.int .i64 2] 3)
          have bk4 := bk3.trans (bn.mono bk3.size)
          have hcr := crash_any (d3.below bn) (by rw [hwl]; unfold maxLen; omega) (by rw [hwl]; decide) (ints_two W.heap.size w3)
          rw [htd] at hcr
          have ta4 := ta3.below bn
          have sa4 := sa3.below bn
          clear hwr f3 d2 ta2 sa2 bk2 hmk ta3 sa3 bn em
          go_wp2_with fail
          refine Calls.mono hcr ?_
          rintro e w5 ⟨rfl, d5, f5⟩
          have ta5 := ta4.fr f5 FK_img FK_lst
          have sa5 := sa4.fr f5 (fun _ => rfl)
          have bk5 := bk4.trans (f5.below bk4.size)
          have hop := open_yes d5 (by rw [htw]; decide) hob hro
          rw [hsc] at hop
          clear hcr f5 d3 ta4 sa4 bk4 hb2 bk3
          go_wp2_with fail
          refine Calls.mono hop ?_
          rintro e w6 ⟨lb2, v2, rfl, -, t2, -, -, b6⟩
          obtain ⟨qo, qm, qc, hqv, -⟩ := t2.form'
          subst hqv
          have ta6 := ta5.below b6
          have sa6 := sa5.below b6
          have bk6 := bk5.trans (b6.mono bk5.size)
          obtain ⟨sb, rfl, -, hcell⟩ := sa6.cell (j := m) (by rw [HAL.out]; omega)
          rw [HG.out] at hcell
          have hmsm : m < sm := by omega
          have hcc : ((c : Nat) : Int) ≤ ((lcap : Nat) : Int) := by omega
          have hsa := sameAll_any t2.lsts (ta6.take c (by rw [← HLM.out]; exact hcl)).lsts
          clear hop d5 ta5 sa5 bk5 b6 t2 ta6 sa6 hob hro hsc
          go_wp2_with fail
          refine Calls.mono hsa ?_
          rintro e w7 ⟨rfl, b7⟩
          have bk7 := bk6.trans (b7.mono bk6.size)
          clear hsa bk6 b7
          go_wp2
          go_ret
          exact ⟨rfl, bk7⟩
      · have hlt' : k = z0.length := by omega
        have hsm1 : sm = lenT T := by rw [hsm.out, ahF_length]
        have hnx := hinv.out.next
        have hwt := hinv.out.waits
        obtain ⟨hfd, hgf⟩ := hinv.out.grown.flush
        have hfl := flush_any dk (by unfold maxLen; omega) (by omega)
        rw [hfd] at hfl
        have HFD := Lib.hid hfd
        clear hfd hgf
        by_cases h0 : sm = 0
        · have hs0 : (((sm : Nat) : Int) == 0) = true := by rw [h0]; rfl
          clear hinv h0 hsm1 hsm hlm
          go_wp2_with fail
          refine Calls.mono hfl ?_
          rintro e w1 ⟨rfl, d1, f1⟩
          have bk1 := bk.trans (f1.below bk.size)
          clear hfl f1 HFD
          go_wp2
          go_ret
          exact ⟨rfl, bk1⟩
        · have hw : IntKind.u64.wrap (sm : Int) = (sm : Int) := by rw [IntKind.wrap_u64]; omega
          have hsp : (0 : Int) < (sm : Int) := by omega
          have hs0 : ((sm : Int) == 0) = false := by simp; omega
          have hsi : ¬ (sm : Int) = 0 := by omega
          have hwn : ¬ IntKind.u64.wrap (sm : Int) = 0 := by rw [hw]; exact hsi
          obtain ⟨m, hm, em⟩ := mod_form a1 (sm : Int) (by omega) (by omega)
          obtain ⟨c, x, r, hdr, hcT, hg, h1, h2⟩ := ahF_get T 0 m (by omega)
          rw [Nat.zero_add] at hg
          obtain ⟨-, hwri, hob, hro, hsc⟩ := torn_opens hinv.out dk.ok.size (by omega) (a := m) hdr h1 h2
          have hfw : d.flushed.waits = [] := (flushed_same d).1
          have hcL : c ≤ (imgT T).length := by unfold imgT; rw [List.length_map]; omega
          have HAL := Lib.hid (show (ahF 0 T).length = sm by rw [ahF_length, hsm1])
          have htd : ({ d.flushed with waits := d.flushed.waits ++ [((m : Int), zeros)] } : Dev).crash [2] = tornD d.flushed m := rfl
          have hwl : (({ d.flushed with waits := d.flushed.waits ++ [((m : Int), zeros)] } : Dev)).waits.length = 1 := by rw [show (({ d.flushed with waits := d.flushed.waits ++ [((m : Int), zeros)] } : Dev)).waits = d.flushed.waits ++ [((m : Int), zeros)] from rfl, hfw]; rfl
          have htw : (tornD d.flushed m).waits = [] := (crash_same _ [2]).1
          have hfw0 : d.flushed.waits.length = 0 := by rw [hfw]; rfl
          generalize ({ d.flushed with waits := d.flushed.waits ++ [((m : Int), zeros)] } : Dev) = dw at hwri htd hwl
          generalize tornD d.flushed m = dt at *
          generalize d.flushed = df at *
          have hdz : d.waits.length ≤ 90 := by omega
          generalize d.waits.length = nw at *
          have hlmL : lm = (imgT T).length := hlm.out
          have HG := Lib.hid hg
          have HLM := Lib.hid hlmL
          generalize imgT T = L at *
          generalize ahF 0 T = AH at *
          have hcl : c ≤ lm := by rw [HLM.out]; exact hcL
          have hlc : lm ≤ lcap := by
            obtain ⟨vs, ⟨ao', cap', hv, hh1, hh2, hh3⟩, hh4, _⟩ := ta
            injection hv with e1 e2 e3
            omega
          clear hinv hdr hcT hg h1 h2 hfw hsm hlm hnx hwt h0 hlmL HFD hsm1 x r
          go_wp2_with fail
          refine Calls.mono hfl ?_
          rintro e w1 ⟨rfl, d1, f1⟩
          have ta1 := ta.fr f1 FK_img FK_lst
          have sa1 := sa.fr f1 (fun _ => rfl)
          have bk1 := bk.trans (f1.below bk.size)
          obtain ⟨w2, hmk, hby, b2⟩ := zeros_make w1
          have d2 := d1.below b2
          have ta2 := ta1.below b2
          have sa2 := sa1.below b2
          have bk2 := bk1.trans (b2.mono bk1.size)
          have hwr := write_any d2 (m : Int) hby (by omega) bk2.size
          rw [hwri] at hwr
          clear hfl f1 ta sa dk lk bk d1 ta1 sa1 bk1 b2 hby
          go_wp2_with (simp only [em])
          refine Calls.mono hwr ?_
          rintro e w3 ⟨rfl, d3, f3⟩
          have ta3 := ta2.fr f3 FK_img FK_lst
          have sa3 := sa2.fr f3 (fun _ => rfl)
          have bk3 := bk2.trans (f3.below bk2.size)
          have hb2 := build_s 2 w3
          have bn := below_new w3 (.cells #[.int .i64 2] 3)
          have bk4 := bk3.trans (bn.mono bk3.size)
          have hcr := crash_any (d3.below bn) (by rw [hwl]; unfold maxLen; omega) (by rw [hwl]; decide) (ints_two W.heap.size w3)
          rw [htd] at hcr
          have ta4 := ta3.below bn
          have sa4 := sa3.below bn
          clear hwr f3 d2 ta2 sa2 bk2 hmk ta3 sa3 bn em
          go_wp2_with fail
          refine Calls.mono hcr ?_
          rintro e w5 ⟨rfl, d5, f5⟩
          have ta5 := ta4.fr f5 FK_img FK_lst
          have sa5 := sa4.fr f5 (fun _ => rfl)
          have bk5 := bk4.trans (f5.below bk4.size)
          have hop := open_yes d5 (by rw [htw]; decide) hob hro
          rw [hsc] at hop
          clear hcr f5 d3 ta4 sa4 bk4 hb2 bk3
          go_wp2_with fail
          refine Calls.mono hop ?_
          rintro e w6 ⟨lb2, v2, rfl, -, t2, -, -, b6⟩
          obtain ⟨qo, qm, qc, hqv, -⟩ := t2.form'
          subst hqv
          have ta6 := ta5.below b6
          have sa6 := sa5.below b6
          have bk6 := bk5.trans (b6.mono bk5.size)
          obtain ⟨sb, rfl, -, hcell⟩ := sa6.cell (j := m) (by rw [HAL.out]; omega)
          rw [HG.out] at hcell
          have hmsm : m < sm := by omega
          have hcc : ((c : Nat) : Int) ≤ ((lcap : Nat) : Int) := by omega
          have hsa := sameAll_any t2.lsts (ta6.take c (by rw [← HLM.out]; exact hcl)).lsts
          clear hop d5 ta5 sa5 bk5 b6 t2 ta6 sa6 hob hro hsc
          go_wp2_with fail
          refine Calls.mono hsa ?_
          rintro e w7 ⟨rfl, b7⟩
          have bk7 := bk6.trans (b7.mono bk6.size)
          clear hsa bk6 b7
          go_wp2
          go_ret
          exact ⟨rfl, bk7⟩

/-! ### the row -/
theorem laidOut : laidOutB Try.prog = true := by kernel_rfl
theorem bytesInt : Try.prog.bytesOf 3 = 8 := by kernel_rfl
set_option maxRecDepth 100000 in
theorem lifted (os : Os) (started : os.Started) (H : Type) (enc : TypeId × Value → H) :
    ReturnsInHanded {} Try.checked os 7 .any (Rows.walTornSpec.pre6 enc Try.prog Try.f7 Rows.walTornRow.domain false) (Rows.walTornSpec.post enc Try.prog Try.f7 false true false false) := by
  refine returnsInHanded_of_change_sized (C := Try.checked) own started (by kernel_rfl) Try.func7
    (ChangeSpec.witness6 (enc := enc) (C := Try.checked) false ⟨#[], #[.slice none 0 0, .int .i64 0], []⟩ 8 (by kernel_rfl) (by kernel_rfl) (by kernel_rfl) (by kernel_rfl)) ?_
  intro W base args ds gs before hval0 hW hcnd hsz0 _
  have hval : ∀ (j : Nat) t v, Try.f7.params[j]? = some t → args[j]? = some v → Value.okWide Try.prog W .any base t v := hval0
  have hW' := hW
  obtain ⟨p, q, hA0, hV, rfl, hfz, hnd⟩ := hW
  have hA : DataW.TrodAll enc Try.prog W 0 (fun _ => true) true Try.f7.params.toList args.toList ds p := hA0
  have hsz : (DataW.weightsEach Try.prog (Try.f7.params.toList ++ Rows.walTornSpec.plain.varTypes Try.prog) (ds ++ gs)).all (· ≤ reachBytes) = true := hsz0
  rw [Try.params7] at hA hval hsz
  obtain ⟨v0, vs0, d0, ds0, p0, q0, hargs, rfl, rfl, h0, r0⟩ := trodAll_cons hA
  obtain ⟨v1, vs1, d1, ds1, p1, q1, rfl, rfl, rfl, h1, r1⟩ := trodAll_cons r0
  obtain ⟨rfl, rfl, rfl⟩ := trodAll_nil r1
  obtain rfl : args = #[v0, v1] := by cases args; simp_all
  obtain ⟨rfl, rfl⟩ := trodVars_none hV
  have k0 := h0
  have lt0 := args_lt k0
  obtain ⟨z0, w0⟩ := ints_arg Try.underlying45 Try.underlying3 (by kernel_rfl) (hval 0 45 v0 rfl rfl) (fun el sp e => by subst e; have := sized_slice hsz (j := 0) (t := 45) (e := 3) rfl rfl Try.underlying45; rwa [bytesInt] at this) h0
  obtain ⟨a1, rfl, rfl, rfl, w1⟩ := open_int Try.underlying3 (hval 1 3 v1 rfl rfl) h1
  clear hA0 hval0 hsz0
  refine (walk v0 z0 a1 w1 W w0).mono fun e W' ⟨he, bel⟩ => ?_
  subst he
  exact ⟨_, rfl, _, _, _, [], _, [], hW', trodAll_mk1 (shut_bool Try.underlying4 _), (trodAll_cons_mk (Below.trod laidOut (by kernel_rfl) (of_decide_eq_true (by kernel_rfl)) k0 bel lt0) (trodAll_cons_mk (shut_int Try.underlying3 w1) trodAll_mk0)), rfl, bel.frame _, fun h => by cases h⟩

theorem over : Rows.walTornRow.holds Try.pinned (OpenSpec.ofChange Rows.walTornSpec) :=
  OpenClaim.holds_of_wide 7 Try.f7 rfl rfl rfl rfl rfl rfl rfl ⟨rfl, rfl, rfl, rfl, rfl⟩ rfl rfl rfl rfl rfl (by kernel_rfl) Try.func7 (by kernel_rfl)
    (of_decide_eq_true (by kernel_rfl)) (by unfold Func.isWrapper; first | (rw [if_pos (by decide +kernel)]; kernel_rfl) | (rw [if_neg (by decide +kernel)]; exact ⟨rfl, rfl⟩))
    (fun os started H enc _ => lifted os started H enc)
end Go.Proofs.Ytlddfgbjhmihnaa.walTorn

namespace Go.Proofs.Ytlddfgbjhmihnaa
/-- The law returns true at every input. -/
theorem walTorn_holds : Rows.WalTornSaid := walTorn.over
end Go.Proofs.Ytlddfgbjhmihnaa

