/- What is opened behind a cut is what was appended behind it: the law cisternlaw08.WalTrims returns true at every input. No condition. -/
import Derived.Test.YtehomlbkipgocaaWTrimL
namespace Go.Proofs.Ytehomlbkipgocaa.walTrims
set_option maxRecDepth 20000
open Go.RowKit Go.ChangeShapes Go.WideShapes Go.ChangeAt

theorem own : ownKnob Try.prog.godebug = none := by kernel_rfl
theorem ext_abc (k : Nat) (hk : k < 6) : (ByteArray.mk #[97, 98, 99, 100, 101, 102]).extract k (k + 1) = ⟨#[UInt8.ofNat (97 + k)]⟩ := by
  have : k = 0 ∨ k = 1 ∨ k = 2 ∨ k = 3 ∨ k = 4 ∨ k = 5 := by omega
  rcases this with rfl | rfl | rfl | rfl | rfl | rfl <;> rfl
theorem exec_indexAddrT {P : Program} {w : World} {ρ : Operand → Value} {o : Oper} {t e : TypeId} {x ix : Operand} {b off len cap : Nat} {k s : Nat} (ho : o.op = .indexAddr t x ix) (hx : ρ x = .slice (some ⟨b, off, none⟩) len cap) (hi : ρ ix = .int .i64 k) (hk : k < len)
    (hu : P.underlying t = some (.slice e)) (hs : (P.info? e).map (·.size) = some s) : (execOp ρ o).run P w = .ok (.value (.pointer (some ⟨b, off + k * s, none⟩))) w := by
  cases hq : P.info? e with
  | none => simp [hq] at hs
  | some i =>
    have h1 : i.size = s := by simpa [hq] using hs
    have e2 : (⟨b, off, none⟩ : Addr).add (k * s) = ⟨b, off + k * s, none⟩ := by unfold Addr.add; split <;> simp_all
    unfold execOp
    simp [ho, hx, hi, Instr.indexAt, asIntOf, run_underlying hu, hk, sizeOf, typeInfo, hq, h1, e2]
theorem exec_inteqT {P : Program} {w : World} {ρ : Operand → Value} {o : Oper} {t t' : TypeId} {x y : Operand} {k : IntKind} {a b : Int} {c : Bool} (ho : o.op = .binOp .eql t x y t') (hx : ρ x = .int k a) (hy : ρ y = .int k b) (h : (a == b) = c) : (execOp ρ o).run P w = .ok (.value (.bool c)) w := by
  subst h
  unfold execOp
  simp only [ho, hx, hy, Sem.run_bind]
  have e1 : (eqGuard .eql t x y (.int k a) (.int k b)).run P w = .ok () w := by simp [eqGuard]
  have e2 : (binOp .eql t (.int k a) (.int k b)).run P w = .ok (.bool (a == b)) w := by simp [go_sem]
  rw [e1, Result.andThen_ok, e2]; rfl
theorem trim_frT {w w' : World} {lb db : Nat} {l : Wl} (h : WlAt w lb db l) (h1 : ∀ k, k ≠ lb → w'.heap[k]? = w.heap[k]?) (h2 : Below lb w w') : Fr KG 0 w w' :=
  ⟨h2.os, h2.tape, h2.output, h2.size, fun k o hk hko => by
    by_cases e : k = lb
    · subst e
      have e2 := hk.symm.trans h
      cases e2
      rcases hko with hko | hko
      · omega
      · simp [KG] at hko
    · exact (h1 k e).trans hk⟩
theorem exec_sliceL {P : Program} {w : World} {ρ : Operand → Value} {o : Oper} {t : TypeId} {x lx : Operand} {a : Option Addr} {len cap k s : Nat} (ho : o.op = .slice t x (some lx) none none) (hx : ρ x = .slice a len cap) (hi : ρ lx = .int .i64 (k : Nat)) (hk : k ≤ len) (hu : P.underlying t = some (.slice (P.elem t))) (hs : (sizeOf (P.elem t)).run P w = .ok s w) :
    (execOp ρ o).run P w = .ok (.value (sliced a k len cap s)) w := by
  have := run_slice_l (P := P) w t a len cap hu .i64 (k : Int) (by omega) (by omega)
  rw [hs] at this
  have e : ((k : Int)).toNat = k := by omega
  rw [e] at this
  unfold execOp
  simp [ho, hx, hi, run_sliceAt_slice w t _ _ _ _ hu, this, Result.andThen]
theorem szLst (w : World) : (sizeOf (Try.prog.elem 34)).run Try.prog w = .ok 1 w := by kernel_rfl
set_option maxHeartbeats 6400000 in
set_option maxRecDepth 400000 in
theorem walk (v0 : Value) (z0 : List Int) (a1 : Int) (_ : (Lit.int .i64 a1).wf = true) (W : World) (w0 : IntsArg W v0 z0) :
    Calls Try.prog 6 #[v0, .int .i64 a1] W fun e w' => e = .returned (.bool true) ∧ Below W.heap.size W w' := by
  obtain ⟨ao, cap, rfl, hlen, -⟩ := w0.1.form
  go_enter Try.func6, Try.ntmps6
  go_wp2_with fail
  refine (wknown_any W).mono ?_
  rintro e wa ⟨rfl, ba⟩
  go_wp2_with fail
  refine (new_any W.heap.size wa 200 (by omega) (by omega) ba.size).mono ?_
  rintro e wb ⟨rfl, db, bb, -⟩
  have bc : Below W.heap.size W wb := ba.trans (bb.mono ba.size)
  have hs := bc.size
  obtain ⟨hob, hinv0⟩ := TInv.start 200 (by decide) (by decide)
  have hop := open_yes db (by show 0 < 1000000; decide) hob (read_not4 rfl ⟨by decide, by decide⟩)
  rw [fresh_scan (by decide) hob] at hop
  clear hob
  go_wp2_with fail
  refine Calls.mono hop ?_
  rintro e wc ⟨lb, v, rfl, hlb, tv, lc, dc, bC⟩
  have bd := bc.trans (bC.mono hs)
  have hlB : W.heap.size ≤ lb := Nat.le_trans hs hlb
  obtain ⟨vo, vm, vc, hvv, -⟩ := tv.form'
  subst hvv
  replace lc : WlAt wc lb wa.heap.size (wl0 0 200 0 1) := lc
  generalize Dev.fresh 200 = d0 at dc hinv0
  generalize wl0 0 200 0 1 = l0 at lc hinv0
  have hbs0 := build_s 0 wc
  have bn0 := below_new wc (.cells #[.int .i64 0] 3)
  have s0 : OwnS W.heap.size (wc.alloc (.cells #[.int .i64 0] 3)) (.slice (some ⟨wc.heap.size, 0, none⟩) 1 1) (stT []) := ownsRow_base (one_s wc 0) (fun k hk => by
    have : k = wc.heap.size := by injection hk with hk; exact hk.symm
    have := bd.size; omega)
  replace lc := lc.below bn0
  replace dc := dc.below bn0
  have be := bd.trans (bn0.mono bd.size)
  clear hop tv bC bc hs hlb db bb ba bn0 bd
  go_wp2
  go_loopw [10, 11, 12] (fun av sv iv wr => ∃ (k : Nat) (d : Dev) (l : Wl) (T : Txs), k ≤ 20 ∧ k ≤ z0.length ∧ iv = .int .i64 k ∧ Hid (TInv d l T 200 k) ∧ OutT W.heap.size wr av (imgT T) ∧ OwnS W.heap.size wr sv (stT T) ∧ DevAt W.heap.size wr wa.heap.size d 0 ∧ WlAt wr lb wa.heap.size l ∧ Below W.heap.size W wr) (fun _ _ iv _ => z0.length - (intOf iv).toNat)
  case atStart => exact ⟨0, d0, l0, [], Nat.zero_le _, Nat.zero_le _, rfl, Lib.hid hinv0, OutT.nil _ _, s0, dc, lc, be⟩
  case round =>
    clear dc lc be hinv0 s0 hbs0
    obtain ⟨k, d, l, T, hk20, hkl, rfl, hinv, ta, sa, dk, lk, bk⟩ := hrel
    obtain ⟨lo, lm, lcap, hlv, hlm⟩ := ta.form'
    subst hlv
    obtain ⟨so, sm, scap, hsv, hsm⟩ := sa.form'
    subst hsv
    by_cases hc : k < z0.length ∧ k < 20
    · obtain ⟨hlt, h20⟩ := hc
      obtain ⟨b, off, rfl, hcell⟩ := w0.1.at bk hlt
      generalize z0.getD k 0 = z at hcell
      obtain ⟨c, hc6, ec⟩ := mod_form z 6 (by decide) (by decide)
      obtain ⟨wo, rfl⟩ : ∃ wo, wo = wr := ⟨_, rfl⟩
      have hwr := bk.size
      have hd20 : decide ((k : Int) < 20) = true := by simp; omega
      go_wp2
      rw [ec]
      clear ec hcell
      go_loopw [14, 15] (fun tv jv wr' => ∃ j : Nat, j ≤ c ∧ jv = .int .i64 j ∧ OwnM wo.heap.size wr' tv (tTx k j) ∧ Below wo.heap.size wo wr') (fun _ jv _ => c - (intOf jv).toNat)
      case atStart => exact ⟨0, Nat.zero_le _, rfl, OwnM.nil _ _, Below.refl _ _⟩
      case round =>
        obtain ⟨j, hj, rfl, oj, bj⟩ := hrel
        obtain ⟨to, tm, tc, htv, htm⟩ := oj.form'
        subst htv
        by_cases hjc : j < c
        · have hsl : (Instr.slice 9 (.string ⟨#[97, 98, 99, 100, 101, 102]⟩) (some (.int .i64 (j : Nat))) (some (.int .i64 ((j : Int) + 1))) none).run Try.prog wr = .ok (.string ⟨#[UInt8.ofNat (97 + j)]⟩) wr := by
            have := run_slice_string (P := Try.prog) wr 9 ⟨#[97, 98, 99, 100, 101, 102]⟩ .i64 .i64 (j : Int) ((j : Int) + 1) Try.underlying9 (by omega) (by omega) (by show ((j : Int) + 1) ≤ 6; omega)
            rw [this]
            have h1 : ((j : Int)).toNat = j := by omega
            have h2 : ((j : Int) + 1).toNat = j + 1 := by omega
            rw [h1, h2, ext_abc j (by omega)]
          obtain ⟨q, hq⟩ : ∃ q, (⟨#[UInt8.ofNat (97 + j)]⟩ : ByteArray) = q := ⟨_, rfl⟩
          have htx : tTx k (j + 1) = tTx k j ++ [⟨(k : Int), q⟩] := by rw [tTx_succ, ← hq]; rfl
          have hok := (tTx_ok (i := k) (n := j + 1) (by omega)).2 ⟨(k : Int), q⟩ (by rw [htx]; simp)
          rw [hq] at hsl
          have hb2 := build_im (k : Int) q
          have hbs : (Instr.buildSlice 44 1 #[(0, .agg #[.int .i64 (k : Nat), .string q])]).run Try.prog wr = .ok (.slice (some ⟨wr.heap.size, 0, none⟩) 1 1) (wr.alloc (.cells #[.int .i64 (k : Nat), .string q] 50)) := build_imgs_one wr ⟨(k : Int), q⟩
          have hit := imgs_one wr ⟨(k : Int), q⟩ hok
          have hs' := bj.size
          obtain ⟨v9, w9, hr9, o9, b9, s9⟩ := own_append_imgs (oj.alloc (.cells #[.int .i64 (k : Nat), .string q] 50)) hit (by rw [tTx_length]; simp; omega) (by simp; omega) 44
          rw [← htx] at o9
          have b9w := (bj.alloc hs' (.cells #[.int .i64 (k : Nat), .string q] 50)).trans b9
          obtain ⟨lo9, lm9, lc9, hv9, hm9⟩ := o9.form'
          subst hv9
          have HR9 := Lib.hid hr9
          clear hr9 hit b9 s9 oj bj htx hok hq
          go_wp2_with (with_reducible refine wpList_append_eq rfl (.tmp 60) (.tmp 67) 44 44 rfl (.slice to tm tc) (.slice (some ⟨wr.heap.size, 0, none⟩) 1 1) (.slice lo9 lm9 lc9) rfl rfl HR9.out ?_)
          go_roundw
          case rel => exact ⟨j + 1, by omega, by go_num, o9, b9w⟩
          case measure => simp [intOf]; omega
        · obtain rfl : j = c := by omega
          obtain ⟨hi1, hi2⟩ := tTx_ok (i := k) (n := j) (by omega)
          have hl6 := tTx_length k j
          have r0 := OwnM.reads oj hi2 (by omega)
          have bk1 := bk.trans (bj.mono hwr)
          have ta1 := ta.below bj
          have sa1 := sa.below bj
          have dk1 := dk.below bj
          have lk1 := lk.below bj
          have hap := append_fr dk1 lk1 hinv.out.grown.ok (by have := hinv.out.waits; omega) bk1.size hlB r0.k
          obtain ⟨e0, hinv'⟩ := hinv.out.app hi1 hi2 (by omega) (by omega)
          rw [e0] at hap
          generalize appDev d l (tTx k j) = d' at hap hinv'
          generalize appL d l (tTx k j) = l' at hap hinv'
          have HI := Lib.hid hinv'
          have hlT := hinv.out.len
          obtain ⟨nx, hnx⟩ : ∃ nx, l'.next = nx := ⟨_, rfl⟩
          have hnx2 : nx = lenT (T ++ [(1, tTx k j)]) := by rw [← hnx, hinv'.next_eq]
          have HNX := Lib.hid hnx2
          clear e0 hinv' hi1 hi2 hl6 oj bj ta sa dk lk bk dk1 lk1 hnx2
          go_wp2_with fail
          refine Calls.mono hap ?_
          rintro e w4 ⟨rfl, d4, l4, f4⟩
          have ta4 := ta1.fr f4 FG_img FG_lst
          have sa4 := sa1.fr f4 (fun cs => FG_int cs _)
          have r4 := r0.fr f4 FG_img
          have bk4 := bk1.trans (f4.below bk1.size)
          have hnext := next_any l4
          rw [hnx] at hnext
          clear hap f4 ta1 sa1 r0 bk1 hnx hinv
          have hbs := build_lst_one w4 to tm tc
          have bn := below_new w4 (.cells #[.slice to tm tc] 44)
          have hz9 : (w4.alloc (.cells #[.slice to tm tc] 44)).heap.size = w4.heap.size + 1 := by simp
          have hs4 := bk4.size
          obtain ⟨v5, w5, hr5, t5, f5⟩ := outt_push (ta4.below bn) (by rw [hz9]; omega) (heap_alloc_new w4 (.cells #[.slice to tm tc] 44)) (r4.below bn) (by unfold imgT; rw [List.length_map]; omega) 34
          have l5 : WlAt w5 lb wa.heap.size l' := f5.keep _ _ (l4.below bn) (.inr (KL_log _ _))
          have d5 := (d4.below bn).fr f5 KL_FK
          have s5 := (sa4.below bn).fr f5 KL_int
          have bk5 := (bk4.trans (bn.mono hs4)).trans (f5.below (by rw [hz9]; omega))
          obtain ⟨lo5, lm5, lc5, hv5, hm5⟩ := t5.form'
          subst hv5
          have HR5 := Lib.hid hr5
          clear hr5 f5 bn hz9 ta4 sa4 r4 d4 l4 bk4 hnext hs4
          go_wp2_with (with_reducible refine wpList_append_eq rfl (.tmp 73) (.tmp 75) 34 34 rfl (.slice lo lm lcap) (.slice (some ⟨w4.heap.size, 0, none⟩) 1 1) (.slice lo5 lm5 lc5) rfl rfl HR5.out ?_)
          have hnx5 := next_any l5
          have HE : (l'.next : Int) = (lenT (T ++ [(1, tTx k j)]) : Int) := by rw [HI.out.next_eq]
          rw [HE] at hnx5
          refine Calls.mono hnx5 ?_
          rintro e _ ⟨rfl, rfl⟩
          have hs5 := bk5.size
          have hbz := build_s (lenT (T ++ [(1, tTx k j)]) : Int) w5
          obtain ⟨v6, w6, hr6, s6, f6⟩ := own_pushS s5 (lenT (T ++ [(1, tTx k j)]) : Int) hs5 (by rw [stT_length]; omega)
          rw [← stT_append] at s6
          have t6 := t5.fr f6 KI_img KI_lst
          have d6 := d5.fr f6 KI_FK
          have l6 : WlAt w6 lb wa.heap.size l' := f6.keep _ _ l5 (.inr (KI_log _ _))
          have bk6 := bk5.trans (f6.below hs5)
          have t6' : OutT W.heap.size w6 (.slice lo5 lm5 lc5) (imgT (T ++ [(1, tTx k j)])) := by unfold imgT; rw [List.map_append]; exact t6
          obtain ⟨lo6, lm6, lc6, hv6, hm6⟩ := s6.form'
          subst hv6
          have HR6 := Lib.hid hr6
          generalize (lenT (T ++ [(1, tTx k j)]) : Int) = nz at hbz HR6
          clear hr6 f6 t6 t5 s5 d5 l5 bk5 hnx5 HE
          go_wp2_with (with_reducible refine wpList_append_eq rfl (.tmp 77) (.tmp 80) 45 45 rfl (.slice so sm scap) (.slice (some ⟨w5.heap.size, 0, none⟩) 1 1) (.slice lo6 lm6 lc6) rfl rfl HR6.out ?_)
          go_roundw
          case rel => exact ⟨k + 1, _, _, _, by omega, by omega, by go_num, HI, t6', s6, d6, l6, bk6⟩
          case measure => simp [intOf]; omega
    · have hTl := hinv.out.len
      have hsm1 : sm = k + 1 := by rw [hsm.out, stT_length, hTl]
      have hlm1 : lm = k := by rw [hlm.out]; unfold imgT; rw [List.length_map, hTl]
      have hw : IntKind.u64.wrap (sm : Int) = (sm : Int) := by rw [IntKind.wrap_u64]; omega
      have hsp : (0 : Int) < (sm : Int) := by omega
      have hs0 : ((sm : Int) == 0) = false := by simp; omega
      have hsn : ¬ sm = 0 := by omega
      have hsi : ¬ (sm : Int) = 0 := by omega
      have hwn : ¬ IntKind.u64.wrap (sm : Int) = 0 := by rw [hw]; exact hsi
      obtain ⟨m, hm, em⟩ := mod_form a1 (sm : Int) (by omega) (by omega)
      have hmk : m ≤ k := by omega
      obtain ⟨hfd, hob, hro, hsc⟩ := hinv.out.opens (by omega) (by decide) m 2 (by decide)
      obtain ⟨htr1, htr2⟩ := hinv.out.trims m
      have hwt := hinv.out.waits
      have hfl := flush_any dk (by unfold maxLen; omega) (by omega)
      rw [hfd] at hfl
      have hwz : d.flushed.waits.length = 0 := by rw [(flushed_same d).1]; rfl
      have hg := stT_get T (j := m) (by omega)
      generalize d.flushed = df at hfl hob hro hsc hwz
      generalize ht : lenT (T.take m) = t at hob hsc htr1 htr2 hg
      have ht9 : t ≤ 200 := by
        have h1 := lenT_append (T.take m) (T.drop m)
        rw [List.take_append_drop] at h1
        have := hinv.out.next
        omega
      have HIS : Hid (imgT T = imgT T) := Lib.hid rfl
      have hL : (imgT T).length = k := by unfold imgT; rw [List.length_map, hTl]
      generalize imgT T = L at ta hsc hL
      have HSM := Lib.hid hsm1
      have HLM := Lib.hid hlm1
      have HTL := Lib.hid hTl
      clear hfd hTl ht hlm hsm hinv HIS hwt hsm1 hlm1
      by_cases hlt : k < z0.length
      · have hd20 : decide ((k : Int) < 20) = false := by simp; omega
        go_wp2_with fail
        refine Calls.mono hfl ?_
        rintro e w1 ⟨rfl, d1, f1⟩
        have ta1 := ta.fr f1 FK_img FK_lst
        have sa1 := sa.fr f1 (fun _ => rfl)
        have l1 := lk.fr f1
        have bk1 := bk.trans (f1.below bk.size)
        obtain ⟨sb, rfl, hsb, hcell⟩ := sa1.cell (j := m) (by rw [stT_length, HTL.out]; omega)
        rw [hg] at hcell
        have hop := open_yes d1 (by rw [hwz]; decide) hob hro
        rw [hsc] at hop
        clear hfl f1 ta sa lk dk bk hob hro hsc
        go_wp2_with (simp only [em])
        refine Calls.mono hop ?_
        rintro e w2 ⟨lb2, v2, rfl, hlb2, t2, l2', d2, b2⟩
        obtain ⟨qo, qm, qc, hqv, hqm⟩ := t2.form'
        subst hqv
        have ta2 := ta1.below b2
        have sa2 := sa1.below b2
        have l2 := l1.below b2
        have bk2 := bk1.trans (b2.mono bk1.size)
        clear hop b2 ta1 sa1 l1 d1 bk1 hlb2 l2' d2
        have hcell2 : w2.cell? ⟨sb, m, none⟩ = some (.int .i64 (t : Nat)) := by
          obtain ⟨sb2, e2, -, hc2⟩ := sa2.cell (j := m) (by rw [stT_length, HTL.out]; omega)
          have : sb = sb2 := by injection e2 with e2; injection e2
          subst this
          rw [hg] at hc2; exact hc2
        clear hcell
        have hcl : ∀ (w : World) , OwnS W.heap.size w (.slice (some ⟨sb, 0, none⟩) sm scap) (stT T) → w.cell? ⟨sb, m, none⟩ = some (.int .i64 (t : Nat)) := fun w h => by
          obtain ⟨sb2, e2, -, hc2⟩ := h.cell (j := m) (by rw [stT_length, HTL.out]; omega)
          have : sb = sb2 := by injection e2 with e2; injection e2
          subst this
          rw [hg] at hc2; exact hc2
        have hmlen : m < sm := by omega
        have hmlm : m ≤ lm := by rw [HLM.out]; exact hmk
        go_wp2_with fail
        have s3 : OwnS W.heap.size w2.drew (.slice (some ⟨sb, 0, none⟩) sm scap) (stT T) := sa2
        have l3 : WlAt w2.drew lb wa.heap.size l := l2
        have bk3 : Below W.heap.size W w2.drew := bk2.drew
        have t3 : LstsAt w2.drew (.slice qo qm qc) (L.drop m) := t2.lsts.drewN 1
        have t4 : LstsAt w2.drew (sliced lo m lm lcap 1) (L.drop m) := by
          have hh : OutT W.heap.size w2 (.slice lo lm lcap) L := ta2
          have := (hh.drop (k := m) (by rw [hL]; omega) (by rw [hL]; omega) (bo := if lcap = m then lo else lo.map (·.add (m * 1))) (fun b off e hlt => by
            have hlc : lcap ≠ m := by
              obtain ⟨vs, ⟨ao', cap', hv, h1, h2, h3⟩, h4, _⟩ := hh
              injection hv with e1 e2 e3
              omega
            rw [if_neg hlc, e, Nat.mul_one]; simp [Addr.add_mid]) (lcap - m)).drewN 1
          unfold sliced
          rw [hL, ← HLM.out] at this
          exact this
        clear ta2 sa2 l2 bk2 t2
        have hsa := sameAll_any t3 t4
        have hS := hcl _ s3
        refine wp_region_held_drew (S := fun w' => w'.cell? ⟨sb, m, none⟩ = some (.int .i64 (t : Nat))) mixed hS (fun _ => ?_)
        show wpAnyH _ _ _ _ _ 28 (Array.replicate 28 false) _ _
        refine wpAnyH_take_d 0 (some 102) (.int .i64 0) rfl (by kernel_rfl) (by kernel_rfl) (by kernel_rfl) (by kernel_rfl) rfl (fun _ _ _ h => h) (fun _ _ => by kernel_rfl) (by exact hS) ?_
        simp only [Act.put, List.setIfInBounds_toArray, List.set_cons_succ, List.set_cons_zero]
        refine wpAnyH_take_d 1 (some 103) (.bool true) rfl (by kernel_rfl) (by kernel_rfl) (by kernel_rfl) (by kernel_rfl) rfl (fun _ _ _ h => h) (fun _ _ => by kernel_rfl) (by exact hS) ?_
        simp only [Act.put, List.setIfInBounds_toArray, List.set_cons_succ, List.set_cons_zero]
        refine wpAnyH_take_d 2 (some 104) (.bool true) rfl (by kernel_rfl) (by kernel_rfl) (by kernel_rfl) (by kernel_rfl) rfl (fun _ _ _ h => h) (fun _ _ => by kernel_rfl) (by exact hS) ?_
        simp only [Act.put, List.setIfInBounds_toArray, List.set_cons_succ, List.set_cons_zero]
        refine wpAnyH_take_d 3 (some 105) (.slice qo qm qc) rfl (by kernel_rfl) (by kernel_rfl) (by kernel_rfl) (by kernel_rfl) rfl (fun _ _ _ h => h) (fun _ _ => by kernel_rfl) (by exact hS) ?_
        simp only [Act.put, List.setIfInBounds_toArray, List.set_cons_succ, List.set_cons_zero]
        refine wpAnyH_take_d 4 (some 106) (.slice lo lm lcap) rfl (by kernel_rfl) (by kernel_rfl) (by kernel_rfl) (by kernel_rfl) rfl (fun _ _ _ h => h) (fun _ _ => by kernel_rfl) (by exact hS) ?_
        simp only [Act.put, List.setIfInBounds_toArray, List.set_cons_succ, List.set_cons_zero]
        refine wpAnyH_take_d 5 (some 107) (.int .i64 m) rfl (by kernel_rfl) (by kernel_rfl) (by kernel_rfl) (by kernel_rfl) rfl (fun _ _ _ h => h) (fun _ _ => by kernel_rfl) (by exact hS) ?_
        simp only [Act.put, List.setIfInBounds_toArray, List.set_cons_succ, List.set_cons_zero]
        refine wpAnyH_take_d 6 (some 108) (sliced lo m lm lcap 1) rfl (by kernel_rfl) (by kernel_rfl) (by kernel_rfl) (by kernel_rfl) rfl (fun _ _ _ h => h) (fun w' h => exec_sliceL rfl rfl rfl hmlm (by kernel_rfl) (szLst w')) (by exact hS) ?_
        simp only [Act.put, List.setIfInBounds_toArray, List.set_cons_succ, List.set_cons_zero]
        refine wpAnyH_call 7 (some 109) 13 #[.slice qo qm qc, sliced lo m lm lcap 1] rfl (by kernel_rfl) (by kernel_rfl) rfl (by kernel_rfl) hsa ?_
        rintro e w4 ⟨rfl, b4⟩
        have s4 := s3.below b4
        have l4 := l3.below b4
        have bk4 := bk3.trans (b4.mono bk3.size)
        have hS := hcl _ s4
        refine ⟨_, rfl, hS, ?_⟩
        simp only [Act.put, List.setIfInBounds_toArray, List.set_cons_succ, List.set_cons_zero]
        clear hsa s3 l3 bk3 b4 t3 t4
        refine wpAnyH_take_d 8 (some 110) (.bool true) rfl (by kernel_rfl) (by kernel_rfl) (by kernel_rfl) (by kernel_rfl) rfl (fun _ _ _ h => h) (fun _ _ => by kernel_rfl) (by exact hS) ?_
        simp only [Act.put, List.setIfInBounds_toArray, List.set_cons_succ, List.set_cons_zero]
        refine wpAnyH_take_d 9 (some 111) (.bool true) rfl (by kernel_rfl) (by kernel_rfl) (by kernel_rfl) (by kernel_rfl) rfl (fun _ _ _ h => h) (fun _ _ => by kernel_rfl) (by exact hS) ?_
        simp only [Act.put, List.setIfInBounds_toArray, List.set_cons_succ, List.set_cons_zero]
        refine wpAnyH_take_d 10 (some 112) (.pointer (some ⟨lb, 0, none⟩)) rfl (by kernel_rfl) (by kernel_rfl) (by kernel_rfl) (by kernel_rfl) rfl (fun _ _ _ h => h) (fun _ _ => by kernel_rfl) (by exact hS) ?_
        simp only [Act.put, List.setIfInBounds_toArray, List.set_cons_succ, List.set_cons_zero]
        refine wpAnyH_take_d 11 (some 113) (.slice (some ⟨sb, 0, none⟩) sm scap) rfl (by kernel_rfl) (by kernel_rfl) (by kernel_rfl) (by kernel_rfl) rfl (fun _ _ _ h => h) (fun _ _ => by kernel_rfl) (by exact hS) ?_
        simp only [Act.put, List.setIfInBounds_toArray, List.set_cons_succ, List.set_cons_zero]
        refine wpAnyH_take_d 12 (some 114) (.int .i64 m) rfl (by kernel_rfl) (by kernel_rfl) (by kernel_rfl) (by kernel_rfl) rfl (fun _ _ _ h => h) (fun _ _ => by kernel_rfl) (by exact hS) ?_
        simp only [Act.put, List.setIfInBounds_toArray, List.set_cons_succ, List.set_cons_zero]
        refine wpAnyH_take_d 13 (some 115) (.pointer (some ⟨sb, 0 + m * 1, none⟩)) rfl (by kernel_rfl) (by kernel_rfl) (by kernel_rfl) (by kernel_rfl) rfl (fun _ _ _ h => h) (fun w' h => exec_indexAddrT rfl rfl rfl hmlen Try.underlying45 (by kernel_rfl)) (by exact hS) ?_
        simp only [Act.put, List.setIfInBounds_toArray, List.set_cons_succ, List.set_cons_zero]
        refine wpAnyH_take_d 14 (some 116) (.int .i64 t) rfl (by kernel_rfl) (by kernel_rfl) (by kernel_rfl) (by kernel_rfl) rfl (fun _ _ _ h => h) (fun w' h => exec_load_cell rfl rfl (by rw [Nat.mul_one, Nat.zero_add]; exact h) Try.underlying3 rfl) (by exact hS) ?_
        simp only [Act.put, List.setIfInBounds_toArray, List.set_cons_succ, List.set_cons_zero]
        have htr := trim_any l4 (t : Int)
        rw [htr1, htr2] at htr
        refine wpAnyH_call 15 (some 117) 17 #[.pointer (some ⟨lb, 0, none⟩), .int .i64 (t : Nat)] rfl (by kernel_rfl) (by kernel_rfl) rfl (by kernel_rfl) htr ?_
        rintro e w5 ⟨rfl, l5, o5, b5⟩
        have s5 := s4.fr (trim_frT l4 o5 b5) (fun _ => rfl)
        have bk5 := bk4.trans (b5.mono hlB)
        have hS := hcl _ s5
        refine ⟨_, rfl, hS, ?_⟩
        simp only [Act.put, List.setIfInBounds_toArray, List.set_cons_succ, List.set_cons_zero]
        clear htr s4 l4 bk4 o5 b5
        refine wpAnyH_take_d 16 (some 118) (.bool true) rfl (by kernel_rfl) (by kernel_rfl) (by kernel_rfl) (by kernel_rfl) rfl (fun _ _ _ h => h) (fun _ _ => by kernel_rfl) (by exact hS) ?_
        simp only [Act.put, List.setIfInBounds_toArray, List.set_cons_succ, List.set_cons_zero]
        refine wpAnyH_take_d 17 (some 119) (.bool true) rfl (by kernel_rfl) (by kernel_rfl) (by kernel_rfl) (by kernel_rfl) rfl (fun _ _ _ h => h) (fun _ _ => by kernel_rfl) (by exact hS) ?_
        simp only [Act.put, List.setIfInBounds_toArray, List.set_cons_succ, List.set_cons_zero]
        refine wpAnyH_take_d 18 (some 120) (.bool true) rfl (by kernel_rfl) (by kernel_rfl) (by kernel_rfl) (by kernel_rfl) rfl (fun _ _ _ h => h) (fun _ _ => by kernel_rfl) (by exact hS) ?_
        simp only [Act.put, List.setIfInBounds_toArray, List.set_cons_succ, List.set_cons_zero]
        refine wpAnyH_take_d 19 (some 121) (.pointer (some ⟨lb, 0, none⟩)) rfl (by kernel_rfl) (by kernel_rfl) (by kernel_rfl) (by kernel_rfl) rfl (fun _ _ _ h => h) (fun _ _ => by kernel_rfl) (by exact hS) ?_
        simp only [Act.put, List.setIfInBounds_toArray, List.set_cons_succ, List.set_cons_zero]
        refine wpAnyH_take_d 21 (some 123) (.slice (some ⟨sb, 0, none⟩) sm scap) rfl (by kernel_rfl) (by kernel_rfl) (by kernel_rfl) (by kernel_rfl) rfl (fun _ _ _ h => h) (fun _ _ => by kernel_rfl) (by exact hS) ?_
        simp only [Act.put, List.setIfInBounds_toArray, List.set_cons_succ, List.set_cons_zero]
        refine wpAnyH_take_d 22 (some 124) (.int .i64 m) rfl (by kernel_rfl) (by kernel_rfl) (by kernel_rfl) (by kernel_rfl) rfl (fun _ _ _ h => h) (fun _ _ => by kernel_rfl) (by exact hS) ?_
        simp only [Act.put, List.setIfInBounds_toArray, List.set_cons_succ, List.set_cons_zero]
        refine wpAnyH_take_d 23 (some 125) (.pointer (some ⟨sb, 0 + m * 1, none⟩)) rfl (by kernel_rfl) (by kernel_rfl) (by kernel_rfl) (by kernel_rfl) rfl (fun _ _ _ h => h) (fun w' h => exec_indexAddrT rfl rfl rfl hmlen Try.underlying45 (by kernel_rfl)) (by exact hS) ?_
        simp only [Act.put, List.setIfInBounds_toArray, List.set_cons_succ, List.set_cons_zero]
        refine wpAnyH_take_d 24 (some 126) (.int .i64 t) rfl (by kernel_rfl) (by kernel_rfl) (by kernel_rfl) (by kernel_rfl) rfl (fun _ _ _ h => h) (fun w' h => exec_load_cell rfl rfl (by rw [Nat.mul_one, Nat.zero_add]; exact h) Try.underlying3 rfl) (by exact hS) ?_
        simp only [Act.put, List.setIfInBounds_toArray, List.set_cons_succ, List.set_cons_zero]
        refine wpAnyH_call 20 (some 122) 22 #[.pointer (some ⟨lb, 0, none⟩)] rfl (by kernel_rfl) (by kernel_rfl) rfl (by kernel_rfl) (tail_any l5) ?_
        rintro e _ ⟨rfl, rfl⟩
        refine ⟨_, rfl, hS, ?_⟩
        simp only [Act.put, List.setIfInBounds_toArray, List.set_cons_succ, List.set_cons_zero]
        refine wpAnyH_one 25 (some 127) (.bool true) rfl (by kernel_rfl) (by kernel_rfl) rfl (exec_inteqT rfl rfl rfl (by simp)) (by exact hS) ?_
        simp only [Act.put, List.setIfInBounds_toArray, List.set_cons_succ, List.set_cons_zero]
        refine wpAnyH_take_d 26 (some 128) (.bool true) rfl (by kernel_rfl) (by kernel_rfl) (by kernel_rfl) (by kernel_rfl) rfl (fun _ _ _ h => h) (fun _ _ => by kernel_rfl) (by exact hS) ?_
        simp only [Act.put, List.setIfInBounds_toArray, List.set_cons_succ, List.set_cons_zero]
        refine wpAnyH_take_d 27 (some 4) (.bool true) rfl (by kernel_rfl) (by kernel_rfl) (by kernel_rfl) (by kernel_rfl) rfl (fun _ _ _ h => h) (fun _ _ => by kernel_rfl) (by exact hS) ?_
        simp only [Act.put, List.setIfInBounds_toArray, List.set_cons_succ, List.set_cons_zero]
        refine wpAnyH_done (by kernel_rfl) ?_ _
        clear hS s5 l5
        go_wp2
        go_ret
        exact ⟨rfl, bk5⟩
      · have hd : decide ((k : Int) < (z0.length : Int)) = false := by simp; omega
        go_wp2_with fail
        refine Calls.mono hfl ?_
        rintro e w1 ⟨rfl, d1, f1⟩
        have ta1 := ta.fr f1 FK_img FK_lst
        have sa1 := sa.fr f1 (fun _ => rfl)
        have l1 := lk.fr f1
        have bk1 := bk.trans (f1.below bk.size)
        obtain ⟨sb, rfl, hsb, hcell⟩ := sa1.cell (j := m) (by rw [stT_length, HTL.out]; omega)
        rw [hg] at hcell
        have hop := open_yes d1 (by rw [hwz]; decide) hob hro
        rw [hsc] at hop
        clear hfl f1 ta sa lk dk bk hob hro hsc
        go_wp2_with (simp only [em])
        refine Calls.mono hop ?_
        rintro e w2 ⟨lb2, v2, rfl, hlb2, t2, l2', d2, b2⟩
        obtain ⟨qo, qm, qc, hqv, hqm⟩ := t2.form'
        subst hqv
        have ta2 := ta1.below b2
        have sa2 := sa1.below b2
        have l2 := l1.below b2
        have bk2 := bk1.trans (b2.mono bk1.size)
        clear hop b2 ta1 sa1 l1 d1 bk1 hlb2 l2' d2
        have hcell2 : w2.cell? ⟨sb, m, none⟩ = some (.int .i64 (t : Nat)) := by
          obtain ⟨sb2, e2, -, hc2⟩ := sa2.cell (j := m) (by rw [stT_length, HTL.out]; omega)
          have : sb = sb2 := by injection e2 with e2; injection e2
          subst this
          rw [hg] at hc2; exact hc2
        clear hcell
        have hcl : ∀ (w : World) , OwnS W.heap.size w (.slice (some ⟨sb, 0, none⟩) sm scap) (stT T) → w.cell? ⟨sb, m, none⟩ = some (.int .i64 (t : Nat)) := fun w h => by
          obtain ⟨sb2, e2, -, hc2⟩ := h.cell (j := m) (by rw [stT_length, HTL.out]; omega)
          have : sb = sb2 := by injection e2 with e2; injection e2
          subst this
          rw [hg] at hc2; exact hc2
        have hmlen : m < sm := by omega
        have hmlm : m ≤ lm := by rw [HLM.out]; exact hmk
        go_wp2_with fail
        have s3 : OwnS W.heap.size w2.drew (.slice (some ⟨sb, 0, none⟩) sm scap) (stT T) := sa2
        have l3 : WlAt w2.drew lb wa.heap.size l := l2
        have bk3 : Below W.heap.size W w2.drew := bk2.drew
        have t3 : LstsAt w2.drew (.slice qo qm qc) (L.drop m) := t2.lsts.drewN 1
        have t4 : LstsAt w2.drew (sliced lo m lm lcap 1) (L.drop m) := by
          have hh : OutT W.heap.size w2 (.slice lo lm lcap) L := ta2
          have := (hh.drop (k := m) (by rw [hL]; omega) (by rw [hL]; omega) (bo := if lcap = m then lo else lo.map (·.add (m * 1))) (fun b off e hlt => by
            have hlc : lcap ≠ m := by
              obtain ⟨vs, ⟨ao', cap', hv, h1, h2, h3⟩, h4, _⟩ := hh
              injection hv with e1 e2 e3
              omega
            rw [if_neg hlc, e, Nat.mul_one]; simp [Addr.add_mid]) (lcap - m)).drewN 1
          unfold sliced
          rw [hL, ← HLM.out] at this
          exact this
        clear ta2 sa2 l2 bk2 t2
        have hsa := sameAll_any t3 t4
        have hS := hcl _ s3
        refine wp_region_held_drew (S := fun w' => w'.cell? ⟨sb, m, none⟩ = some (.int .i64 (t : Nat))) mixed hS (fun _ => ?_)
        show wpAnyH _ _ _ _ _ 28 (Array.replicate 28 false) _ _
        refine wpAnyH_take_d 0 (some 102) (.int .i64 0) rfl (by kernel_rfl) (by kernel_rfl) (by kernel_rfl) (by kernel_rfl) rfl (fun _ _ _ h => h) (fun _ _ => by kernel_rfl) (by exact hS) ?_
        simp only [Act.put, List.setIfInBounds_toArray, List.set_cons_succ, List.set_cons_zero]
        refine wpAnyH_take_d 1 (some 103) (.bool true) rfl (by kernel_rfl) (by kernel_rfl) (by kernel_rfl) (by kernel_rfl) rfl (fun _ _ _ h => h) (fun _ _ => by kernel_rfl) (by exact hS) ?_
        simp only [Act.put, List.setIfInBounds_toArray, List.set_cons_succ, List.set_cons_zero]
        refine wpAnyH_take_d 2 (some 104) (.bool true) rfl (by kernel_rfl) (by kernel_rfl) (by kernel_rfl) (by kernel_rfl) rfl (fun _ _ _ h => h) (fun _ _ => by kernel_rfl) (by exact hS) ?_
        simp only [Act.put, List.setIfInBounds_toArray, List.set_cons_succ, List.set_cons_zero]
        refine wpAnyH_take_d 3 (some 105) (.slice qo qm qc) rfl (by kernel_rfl) (by kernel_rfl) (by kernel_rfl) (by kernel_rfl) rfl (fun _ _ _ h => h) (fun _ _ => by kernel_rfl) (by exact hS) ?_
        simp only [Act.put, List.setIfInBounds_toArray, List.set_cons_succ, List.set_cons_zero]
        refine wpAnyH_take_d 4 (some 106) (.slice lo lm lcap) rfl (by kernel_rfl) (by kernel_rfl) (by kernel_rfl) (by kernel_rfl) rfl (fun _ _ _ h => h) (fun _ _ => by kernel_rfl) (by exact hS) ?_
        simp only [Act.put, List.setIfInBounds_toArray, List.set_cons_succ, List.set_cons_zero]
        refine wpAnyH_take_d 5 (some 107) (.int .i64 m) rfl (by kernel_rfl) (by kernel_rfl) (by kernel_rfl) (by kernel_rfl) rfl (fun _ _ _ h => h) (fun _ _ => by kernel_rfl) (by exact hS) ?_
        simp only [Act.put, List.setIfInBounds_toArray, List.set_cons_succ, List.set_cons_zero]
        refine wpAnyH_take_d 6 (some 108) (sliced lo m lm lcap 1) rfl (by kernel_rfl) (by kernel_rfl) (by kernel_rfl) (by kernel_rfl) rfl (fun _ _ _ h => h) (fun w' h => exec_sliceL rfl rfl rfl hmlm (by kernel_rfl) (szLst w')) (by exact hS) ?_
        simp only [Act.put, List.setIfInBounds_toArray, List.set_cons_succ, List.set_cons_zero]
        refine wpAnyH_call 7 (some 109) 13 #[.slice qo qm qc, sliced lo m lm lcap 1] rfl (by kernel_rfl) (by kernel_rfl) rfl (by kernel_rfl) hsa ?_
        rintro e w4 ⟨rfl, b4⟩
        have s4 := s3.below b4
        have l4 := l3.below b4
        have bk4 := bk3.trans (b4.mono bk3.size)
        have hS := hcl _ s4
        refine ⟨_, rfl, hS, ?_⟩
        simp only [Act.put, List.setIfInBounds_toArray, List.set_cons_succ, List.set_cons_zero]
        clear hsa s3 l3 bk3 b4 t3 t4
        refine wpAnyH_take_d 8 (some 110) (.bool true) rfl (by kernel_rfl) (by kernel_rfl) (by kernel_rfl) (by kernel_rfl) rfl (fun _ _ _ h => h) (fun _ _ => by kernel_rfl) (by exact hS) ?_
        simp only [Act.put, List.setIfInBounds_toArray, List.set_cons_succ, List.set_cons_zero]
        refine wpAnyH_take_d 9 (some 111) (.bool true) rfl (by kernel_rfl) (by kernel_rfl) (by kernel_rfl) (by kernel_rfl) rfl (fun _ _ _ h => h) (fun _ _ => by kernel_rfl) (by exact hS) ?_
        simp only [Act.put, List.setIfInBounds_toArray, List.set_cons_succ, List.set_cons_zero]
        refine wpAnyH_take_d 10 (some 112) (.pointer (some ⟨lb, 0, none⟩)) rfl (by kernel_rfl) (by kernel_rfl) (by kernel_rfl) (by kernel_rfl) rfl (fun _ _ _ h => h) (fun _ _ => by kernel_rfl) (by exact hS) ?_
        simp only [Act.put, List.setIfInBounds_toArray, List.set_cons_succ, List.set_cons_zero]
        refine wpAnyH_take_d 11 (some 113) (.slice (some ⟨sb, 0, none⟩) sm scap) rfl (by kernel_rfl) (by kernel_rfl) (by kernel_rfl) (by kernel_rfl) rfl (fun _ _ _ h => h) (fun _ _ => by kernel_rfl) (by exact hS) ?_
        simp only [Act.put, List.setIfInBounds_toArray, List.set_cons_succ, List.set_cons_zero]
        refine wpAnyH_take_d 12 (some 114) (.int .i64 m) rfl (by kernel_rfl) (by kernel_rfl) (by kernel_rfl) (by kernel_rfl) rfl (fun _ _ _ h => h) (fun _ _ => by kernel_rfl) (by exact hS) ?_
        simp only [Act.put, List.setIfInBounds_toArray, List.set_cons_succ, List.set_cons_zero]
        refine wpAnyH_take_d 13 (some 115) (.pointer (some ⟨sb, 0 + m * 1, none⟩)) rfl (by kernel_rfl) (by kernel_rfl) (by kernel_rfl) (by kernel_rfl) rfl (fun _ _ _ h => h) (fun w' h => exec_indexAddrT rfl rfl rfl hmlen Try.underlying45 (by kernel_rfl)) (by exact hS) ?_
        simp only [Act.put, List.setIfInBounds_toArray, List.set_cons_succ, List.set_cons_zero]
        refine wpAnyH_take_d 14 (some 116) (.int .i64 t) rfl (by kernel_rfl) (by kernel_rfl) (by kernel_rfl) (by kernel_rfl) rfl (fun _ _ _ h => h) (fun w' h => exec_load_cell rfl rfl (by rw [Nat.mul_one, Nat.zero_add]; exact h) Try.underlying3 rfl) (by exact hS) ?_
        simp only [Act.put, List.setIfInBounds_toArray, List.set_cons_succ, List.set_cons_zero]
        have htr := trim_any l4 (t : Int)
        rw [htr1, htr2] at htr
        refine wpAnyH_call 15 (some 117) 17 #[.pointer (some ⟨lb, 0, none⟩), .int .i64 (t : Nat)] rfl (by kernel_rfl) (by kernel_rfl) rfl (by kernel_rfl) htr ?_
        rintro e w5 ⟨rfl, l5, o5, b5⟩
        have s5 := s4.fr (trim_frT l4 o5 b5) (fun _ => rfl)
        have bk5 := bk4.trans (b5.mono hlB)
        have hS := hcl _ s5
        refine ⟨_, rfl, hS, ?_⟩
        simp only [Act.put, List.setIfInBounds_toArray, List.set_cons_succ, List.set_cons_zero]
        clear htr s4 l4 bk4 o5 b5
        refine wpAnyH_take_d 16 (some 118) (.bool true) rfl (by kernel_rfl) (by kernel_rfl) (by kernel_rfl) (by kernel_rfl) rfl (fun _ _ _ h => h) (fun _ _ => by kernel_rfl) (by exact hS) ?_
        simp only [Act.put, List.setIfInBounds_toArray, List.set_cons_succ, List.set_cons_zero]
        refine wpAnyH_take_d 17 (some 119) (.bool true) rfl (by kernel_rfl) (by kernel_rfl) (by kernel_rfl) (by kernel_rfl) rfl (fun _ _ _ h => h) (fun _ _ => by kernel_rfl) (by exact hS) ?_
        simp only [Act.put, List.setIfInBounds_toArray, List.set_cons_succ, List.set_cons_zero]
        refine wpAnyH_take_d 18 (some 120) (.bool true) rfl (by kernel_rfl) (by kernel_rfl) (by kernel_rfl) (by kernel_rfl) rfl (fun _ _ _ h => h) (fun _ _ => by kernel_rfl) (by exact hS) ?_
        simp only [Act.put, List.setIfInBounds_toArray, List.set_cons_succ, List.set_cons_zero]
        refine wpAnyH_take_d 19 (some 121) (.pointer (some ⟨lb, 0, none⟩)) rfl (by kernel_rfl) (by kernel_rfl) (by kernel_rfl) (by kernel_rfl) rfl (fun _ _ _ h => h) (fun _ _ => by kernel_rfl) (by exact hS) ?_
        simp only [Act.put, List.setIfInBounds_toArray, List.set_cons_succ, List.set_cons_zero]
        refine wpAnyH_take_d 21 (some 123) (.slice (some ⟨sb, 0, none⟩) sm scap) rfl (by kernel_rfl) (by kernel_rfl) (by kernel_rfl) (by kernel_rfl) rfl (fun _ _ _ h => h) (fun _ _ => by kernel_rfl) (by exact hS) ?_
        simp only [Act.put, List.setIfInBounds_toArray, List.set_cons_succ, List.set_cons_zero]
        refine wpAnyH_take_d 22 (some 124) (.int .i64 m) rfl (by kernel_rfl) (by kernel_rfl) (by kernel_rfl) (by kernel_rfl) rfl (fun _ _ _ h => h) (fun _ _ => by kernel_rfl) (by exact hS) ?_
        simp only [Act.put, List.setIfInBounds_toArray, List.set_cons_succ, List.set_cons_zero]
        refine wpAnyH_take_d 23 (some 125) (.pointer (some ⟨sb, 0 + m * 1, none⟩)) rfl (by kernel_rfl) (by kernel_rfl) (by kernel_rfl) (by kernel_rfl) rfl (fun _ _ _ h => h) (fun w' h => exec_indexAddrT rfl rfl rfl hmlen Try.underlying45 (by kernel_rfl)) (by exact hS) ?_
        simp only [Act.put, List.setIfInBounds_toArray, List.set_cons_succ, List.set_cons_zero]
        refine wpAnyH_take_d 24 (some 126) (.int .i64 t) rfl (by kernel_rfl) (by kernel_rfl) (by kernel_rfl) (by kernel_rfl) rfl (fun _ _ _ h => h) (fun w' h => exec_load_cell rfl rfl (by rw [Nat.mul_one, Nat.zero_add]; exact h) Try.underlying3 rfl) (by exact hS) ?_
        simp only [Act.put, List.setIfInBounds_toArray, List.set_cons_succ, List.set_cons_zero]
        refine wpAnyH_call 20 (some 122) 22 #[.pointer (some ⟨lb, 0, none⟩)] rfl (by kernel_rfl) (by kernel_rfl) rfl (by kernel_rfl) (tail_any l5) ?_
        rintro e _ ⟨rfl, rfl⟩
        refine ⟨_, rfl, hS, ?_⟩
        simp only [Act.put, List.setIfInBounds_toArray, List.set_cons_succ, List.set_cons_zero]
        refine wpAnyH_one 25 (some 127) (.bool true) rfl (by kernel_rfl) (by kernel_rfl) rfl (exec_inteqT rfl rfl rfl (by simp)) (by exact hS) ?_
        simp only [Act.put, List.setIfInBounds_toArray, List.set_cons_succ, List.set_cons_zero]
        refine wpAnyH_take_d 26 (some 128) (.bool true) rfl (by kernel_rfl) (by kernel_rfl) (by kernel_rfl) (by kernel_rfl) rfl (fun _ _ _ h => h) (fun _ _ => by kernel_rfl) (by exact hS) ?_
        simp only [Act.put, List.setIfInBounds_toArray, List.set_cons_succ, List.set_cons_zero]
        refine wpAnyH_take_d 27 (some 4) (.bool true) rfl (by kernel_rfl) (by kernel_rfl) (by kernel_rfl) (by kernel_rfl) rfl (fun _ _ _ h => h) (fun _ _ => by kernel_rfl) (by exact hS) ?_
        simp only [Act.put, List.setIfInBounds_toArray, List.set_cons_succ, List.set_cons_zero]
        refine wpAnyH_done (by kernel_rfl) ?_ _
        clear hS s5 l5
        go_wp2
        go_ret
        exact ⟨rfl, bk5⟩

/-! ### the row -/
theorem laidOut : laidOutB Try.prog = true := by kernel_rfl
theorem bytesInt : Try.prog.bytesOf 3 = 8 := by kernel_rfl
set_option maxRecDepth 100000 in
theorem lifted (os : Os) (started : os.Started) (H : Type) (enc : TypeId × Value → H) :
    ReturnsInHanded {} Try.checked os 6 .any (Rows.walTrimsSpec.pre6 enc Try.prog Try.f6 Rows.walTrimsRow.domain false) (Rows.walTrimsSpec.post enc Try.prog Try.f6 false true false false) := by
  refine returnsInHanded_of_change_sized (C := Try.checked) own started (by kernel_rfl) Try.func6
    (ChangeSpec.witness6 (enc := enc) (C := Try.checked) false ⟨#[], #[.slice none 0 0, .int .i64 0], []⟩ 8 (by kernel_rfl) (by kernel_rfl) (by kernel_rfl) (by kernel_rfl)) ?_
  intro W base args ds gs before hval0 hW hcnd hsz0 _
  have hval : ∀ (j : Nat) t v, Try.f6.params[j]? = some t → args[j]? = some v → Value.okWide Try.prog W .any base t v := hval0
  have hW' := hW
  obtain ⟨p, q, hA0, hV, rfl, hfz, hnd⟩ := hW
  have hA : DataW.TrodAll enc Try.prog W 0 (fun _ => true) true Try.f6.params.toList args.toList ds p := hA0
  have hsz : (DataW.weightsEach Try.prog (Try.f6.params.toList ++ Rows.walTrimsSpec.plain.varTypes Try.prog) (ds ++ gs)).all (· ≤ reachBytes) = true := hsz0
  rw [Try.params6] at hA hval hsz
  obtain ⟨v0, vs0, d0, ds0, p0, q0, hargs, rfl, rfl, h0, r0⟩ := trodAll_cons hA
  obtain ⟨v1, vs1, d1, ds1, p1, q1, rfl, rfl, rfl, h1, r1⟩ := trodAll_cons r0
  obtain ⟨rfl, rfl, rfl⟩ := trodAll_nil r1
  obtain rfl : args = #[v0, v1] := by cases args; simp_all
  obtain ⟨rfl, rfl⟩ := trodVars_none hV
  have k0 := h0
  have lt0 := args_lt k0
  obtain ⟨z0, w0⟩ := ints_arg Try.underlying45 Try.underlying3 (by kernel_rfl) (hval 0 45 v0 rfl rfl) (fun el sp e => by subst e; have := sized_slice hsz (j := 0) (t := 45) (e := 3) rfl rfl Try.underlying45; rwa [bytesInt] at this) h0
  obtain ⟨a1, rfl, rfl, rfl, w1⟩ := open_int Try.underlying3 (hval 1 3 v1 rfl rfl) h1
  clear hA0 hval0 hsz0
  refine (walk v0 z0 a1 w1 W w0).mono fun e W' ⟨he, bel⟩ => ?_
  subst he
  exact ⟨_, rfl, _, _, _, [], _, [], hW', trodAll_mk1 (shut_bool Try.underlying4 _), (trodAll_cons_mk (Below.trod laidOut (by kernel_rfl) (of_decide_eq_true (by kernel_rfl)) k0 bel lt0) (trodAll_cons_mk (shut_int Try.underlying3 w1) trodAll_mk0)), rfl, bel.frame _, fun h => by cases h⟩

theorem over : Rows.walTrimsRow.holds Try.pinned (OpenSpec.ofChange Rows.walTrimsSpec) :=
  OpenClaim.holds_of_wide 6 Try.f6 rfl rfl rfl rfl rfl rfl rfl ⟨rfl, rfl, rfl, rfl, rfl⟩ rfl rfl rfl rfl rfl (by kernel_rfl) Try.func6 (by kernel_rfl)
    (of_decide_eq_true (by kernel_rfl)) (by unfold Func.isWrapper; first | (rw [if_pos (by decide +kernel)]; kernel_rfl) | (rw [if_neg (by decide +kernel)]; exact ⟨rfl, rfl⟩))
    (fun os started H enc _ => lifted os started H enc)
end Go.Proofs.Ytehomlbkipgocaa.walTrims

namespace Go.Proofs.Ytehomlbkipgocaa
/-- The law returns true at every input. -/
theorem walTrims_holds : Rows.WalTrimsSaid := walTrims.over
end Go.Proofs.Ytehomlbkipgocaa

