/- What is put in a leaf is found there, all else stands as it stood, and dropped again it is gone: the law cisternlaw11.NodeMap returns true at every input. No condition. -/
import Derived.Test.YtjhhcikhgkkjmaaNMapL
namespace Go.Proofs.Ytjhhcikhgkkjmaa.nodeMap
set_option maxRecDepth 20000
open Go.RowKit Go.ChangeShapes Go.WideShapes Go.ChangeAt

theorem own : ownKnob Try.prog.godebug = none := by kernel_rfl
set_option maxHeartbeats 12800000 in
set_option maxRecDepth 400000 in
theorem walk (v0 : Value) (z0 : Nd) (a1 : ByteArray) (_ : a1.size ≤ maxLen) (a2 : ByteArray) (_ : a2.size ≤ maxLen) (W : World) (w0 : NdArg W v0 z0) :
    Calls Try.prog 6 #[v0, .string a1, .string a2] W fun e w' => e = .returned (.bool true) ∧ Below W.heap.size W w' := by
  obtain ⟨h0, -, -⟩ := w0
  have hsm := h0.small
  have OF := Lib.hid (fun w (hb : Below W.heap.size W w) => of_in h0 hb)
  obtain ⟨pv, kv, iv, rfl, h1, h2, h3⟩ := h0
  obtain ⟨pa, pm, pc, rfl, hpm⟩ := h1.form
  obtain ⟨ka, km, kc, rfl, -⟩ := h2.form
  obtain ⟨ia, im, ic, rfl, -⟩ := h3.form
  have H1 := Lib.hid h1
  have i1 := h1.len okP
  rw [← hpm.out] at i1
  clear h1 h2 h3 hsm
  generalize hlf : z0.leaf = lf at *
  have RB := Lib.hid (fun w1 b => rbox_facts (W := W) (lf := lf) (pv := .slice pa pm pc) (kv := .slice ka km kc) (iv := .slice ia im ic) (w1 := w1) b)
  have b0 : Below (W.heap.size + 1) (W.alloc (rbO lf (.slice pa pm pc) (.slice ka km kc) (.slice ia im ic))) (W.alloc (rbO lf (.slice pa pm pc) (.slice ka km kc) (.slice ia im ic))) := Below.refl _ _
  have hz0 : W.heap.size + 1 ≤ (W.alloc (rbO lf (.slice pa pm pc) (.slice ka km kc) (.slice ia im ic))).heap.size := by simp
  have HZ0 := Lib.hid hz0
  clear hz0
  go_enter Try.func6, Try.ntmps6
  go_wp2_with fail
  refine Calls.mono (nknown_any _) ?_
  rintro e w1 ⟨rfl, c1⟩
  have b1 := Below.thenB b0 c1 HZ0.out
  obtain ⟨q, B1, s1⟩ := RB.out w1 b1
  obtain ⟨q0, q1, q2, q3⟩ := q
  clear c1 b0
  cases lf
  · go_wp2_with fail
    refine Calls.mono (nknown_any _) ?_
    rintro e w2 ⟨rfl, c2⟩
    have b2 := Below.thenB b1 c2 s1
    obtain ⟨-, B2, -⟩ := RB.out w2 b2
    clear q0 q1 q2 q3 b1 c2 b2 B1
    go_wp2
    go_ret
    exact ⟨rfl, B2⟩
  · go_wp2_with fail
    refine Calls.mono (OF.out _ B1) ?_
    rintro e w2 ⟨v2, rfl, n2, c2⟩
    have b2 := Below.thenB b1 c2 s1
    obtain ⟨-, B2, s2⟩ := RB.out w2 b2
    have pc1 := put_any n2 ⟨a1, a2⟩
    have hbp := build_pr a1 a2 w2
    clear b1 B1 s1 c2 n2 q0 q1 q2 q3
    rcases putN_cases z0 ⟨a1, a2⟩ with hp | ⟨-, hok, hokL, hp⟩
    · rw [hp] at pc1
      clear hp
      go_wp2_with fail
      refine Calls.mono pc1 ?_
      rintro e w3 ⟨v3, rfl, ⟨pq, kq, iq, rfl, ob1, ob2, ob3⟩, c3⟩
      obtain ⟨qa, qm, qc, rfl⟩ := ob1.slv
      obtain ⟨ra, rm, rc, rfl⟩ := ob2.slv
      obtain ⟨sa, sm, sc, rfl⟩ := ob3.slv
      have b3 := Below.thenB b2 c3 s2
      obtain ⟨-, B3, s3⟩ := RB.out w3 b3
      have hg := heap_alloc_new w3 zNdO
      have B3' := B3.alloc B3.size zNdO
      clear pc1 hbp c3 b2 b3 ob1 ob2 ob3
      go_wp2_with (with_reducible refine wpList_store_nd rfl (.tmp 7) (.tmp 32) rfl w3.heap.size false (.slice qa qm qc) (.slice ra rm rc) (.slice sa sm sc) rfl rfl #[.bool false, .slice none 0 0, .slice none 0 0, .slice none 0 0] hg rfl (.mk _ _ _) (.mk _ _ _) (.mk _ _ _) B3' B3.size ?_)
      rintro w4 - - B4 -
      go_wp2
      go_ret
      exact ⟨rfl, B4⟩
    · rw [hp] at pc1
      obtain ⟨L, hL⟩ : ∃ L, putL z0.ps ⟨a1, a2⟩ = L := ⟨_, rfl⟩
      have hrl : risB (ksOf z0.ps) = true := (okL_true ((okN_leaf hlf).symm.trans hok)).2.2.2.1
      have hrL : risB (ksOf L) = true := by rw [← hL]; exact (okL_true hokL).2.2.2.1
      have hL255 : L.length ≤ 255 := by rw [← hL]; exact (okL_true hokL).2.2.1
      have hdp : delL L a1 = z0.ps.filter (keep a1) := by rw [← hL]; exact del_put hrl (by rw [hL]; exact hrL)
      have hhas : hasL L a1 = true := by rw [← hL]; exact has_put _ _
      have hdr1 : dropN (lf L) a1 = (lf (delL L a1), 0) := by
        have hk : okN (lf L) = true := by rw [← hL]; exact hokL
        have hh : hasL (lf L).ps a1 = true := hhas
        unfold dropN; rw [hk, hh]; rfl
      have hokD : okN (lf (delL L a1)) = true := del_ok (by rw [← hL]; exact hokL) a1
      have hdr2 : dropN (lf (delL L a1)) a1 = (.none, 7) := by
        have hh : hasL (lf (delL L a1)).ps a1 = false := has_del hrL a1
        unfold dropN; rw [hokD, hh]; rfl
      have PA := Lib.hid (fun i (h : PlaceAt (ksOf L) a1 i) => put_at (l := z0.ps) (x := ⟨a1, a2⟩) (by rw [hL]; exact hrL) (i := i) (by rw [hL]; exact h))
      rw [hL] at PA pc1 hokL
      rw [hdp] at hdr1 hdr2 hokD
      obtain ⟨D, hD⟩ : ∃ D, z0.ps.filter (keep a1) = D := ⟨_, rfl⟩
      rw [hD] at hdr1 hdr2 hokD
      have hD255 : D.length ≤ 255 := (okL_true hokD).2.2.1
      have HD := Lib.hid hD
      have HOKL := Lib.hid hokL
      have HD1 := Lib.hid hdr1
      have HD2 := Lib.hid hdr2
      clear hp hL hrl hrL hdp hhas hdr1 hdr2 hokD hokL hok hD
      go_wp2_with fail
      refine Calls.mono pc1 ?_
      rintro e w3 ⟨v3, rfl, ⟨pq, kq, iq, rfl, ob1, ob2, ob3⟩, c3⟩
      obtain ⟨qa, qm, qc, rfl⟩ := ob1.slv
      obtain ⟨ra, rm, rc, rfl⟩ := ob2.slv
      obtain ⟨sa, sm, sc, rfl⟩ := ob3.slv
      have b3 := Below.thenB b2 c3 s2
      obtain ⟨-, B3, s3⟩ := RB.out w3 b3
      have hg := heap_alloc_new w3 zNdO
      have b3' := b3.alloc s3 zNdO
      have nd3 : NdOwn w2.heap.size w3 (.agg #[.bool true, .slice qa qm qc, .slice ra rm rc, .slice sa sm sc]) (lf L) := ⟨_, _, _, rfl, ob1, ob2, ob3⟩
      have HQM : Hid (qm = L.length) := Lib.hid (by obtain ⟨_, _, e9, _⟩ := ob1.form; cases e9; rfl)
      clear pc1 hbp c3 b2 ob1 ob2 ob3 B3 B2 s2
      have bn3 := below_new w3 zNdO
      go_wp2_with (with_reducible refine wpList_store_nd rfl (.tmp 7) (.tmp 32) rfl w3.heap.size (Go.Proofs.Ytjhhcikhgkkjmaa.lf L).leaf (.slice qa qm qc) (.slice ra rm rc) (.slice sa sm sc) rfl rfl #[.bool false, .slice none 0 0, .slice none 0 0, .slice none 0 0] hg rfl (.mk _ _ _) (.mk _ _ _) (.mk _ _ _) b3' s3 ?_)
      rintro w4 - hQ4 b4 hk4
      replace hQ4 : w4.heap[w3.heap.size]? = some (ndO true (.slice qa qm qc) (.slice ra rm rc) (.slice sa sm sc)) := hQ4
      have hsm3 : (Go.Proofs.Ytjhhcikhgkkjmaa.lf L).small := leaf_small (by omega)
      have nd4 : NdAt w4.heap.size w4 (.agg #[.bool true, .slice qa qm qc, .slice ra rm rc, .slice sa sm sc]) (Go.Proofs.Ytjhhcikhgkkjmaa.lf L) := by
        have hb34 : Below w3.heap.size w3 w4 := ⟨(b4.os.trans b3.os.symm), (b4.tape.trans b3.tape.symm), (b4.output.trans b3.output.symm), Nat.le_of_lt (lt_of_heap hQ4), fun k hk => (hk4 k (by omega)).trans (Below.heap_alloc w3 zNdO k hk)⟩
        exact (nd3.below hb34).at hsm3
      obtain ⟨-, B4, s4⟩ := RB.out w4 b4
      have hsQ : W.heap.size + 1 ≤ w3.heap.size := s3
      clear hg b3 b3' nd3 bn3 hk4
      obtain ⟨Q, hQe⟩ : ∃ Q, w3.heap.size = Q := ⟨_, rfl⟩
      rw [hQe] at hQ4 hsQ ⊢
      obtain ⟨t0, t1, t2, t3⟩ := NdCells.of hQ4
      have fi := find_any nd4 a1
      clear s3 hQe
      go_wp2_with fail
      refine Calls.mono fi ?_
      rintro e w5 ⟨i, E, rfl, hfp, c5⟩
      obtain ⟨rfl, hpl⟩ : E = 0 ∧ PlaceAt (ksOf L) a1 i := by
        unfold FindPost at hfp
        rw [HOKL.out, if_pos rfl] at hfp
        exact ⟨hfp.1, by have := hfp.2; unfold FindAt at this; simpa [Go.Proofs.Ytjhhcikhgkkjmaa.lf] using this⟩
      obtain ⟨hiL, hix⟩ := PA.out i hpl
      have b5 := Below.thenB b4 c5 s4
      obtain ⟨-, B5, s5⟩ := RB.out w5 b5
      have hQ5 := (c5.block Q (lt_of_heap hQ4)).trans hQ4
      have nd5 := (nd4.below c5).more c5.size
      obtain ⟨p9, k9, j9, he9, hs9, -, -⟩ := nd5
      have e9 : p9 = .slice qa qm qc := by injection he9 with he9; have := congrArg (fun a => a[1]?) he9; simpa using this.symm
      rw [e9] at hs9
      obtain ⟨gb, goff, gcap, hv9, hB9, hc9, hc9'⟩ := SlAt.getP hs9 hiL
      obtain ⟨rfl, -, rfl⟩ : qa = some ⟨gb, goff, none⟩ ∧ qm = L.length ∧ qc = gcap := by cases hv9; exact ⟨rfl, rfl, rfl⟩
      have hix' : prAt L i = ⟨a1, a2⟩ := hix
      have hlfp : prAt (Go.Proofs.Ytjhhcikhgkkjmaa.lf L).ps i = ⟨a1, a2⟩ := hix
      rw [hlfp] at hc9 hc9'
      simp only at hc9 hc9'
      have hiq : i < qm := by rw [HQM.out]; exact hiL
      have ne9 := neq_pr a1 a2 w5
      have hq255 : qm ≤ 255 := by rw [HQM.out]; exact hL255
      have nd5' : NdAt w5.heap.size w5 (.agg #[.bool true, .slice (some ⟨gb, goff, none⟩) qm qc, .slice ra rm rc, .slice sa sm sc]) (Go.Proofs.Ytjhhcikhgkkjmaa.lf L) := (nd4.below c5).more c5.size
      have dr := drop_any nd5' a1
      rw [HD1.out] at dr
      obtain ⟨t0, t1, t2, t3⟩ := NdCells.of hQ5
      clear fi c5 b4 s4 B4 hQ4 nd4 hfp hpl hiL hix hix' hlfp he9 hs9 e9 hv9 nd5'
      go_wp2_with fail
      refine Calls.mono dr ?_
      rintro e w6 ⟨v6, rfl, ⟨pq6, kq6, iq6, rfl, od1, od2, od3⟩, c6⟩
      obtain ⟨da, dm, dc, rfl⟩ := od1.slv
      obtain ⟨ea, em, ec, rfl⟩ := od2.slv
      obtain ⟨fa, fm, fc, rfl⟩ := od3.slv
      have b6 := Below.thenB b5 c6 s5
      obtain ⟨-, B6, s6⟩ := RB.out w6 b6
      have hg := heap_alloc_new w6 zNdO
      have b6' := b6.alloc s6 zNdO
      have HDM : Hid (dm = D.length) := Lib.hid (by obtain ⟨_, _, e9, _⟩ := od1.form; cases e9; rfl)
      have nd6 : NdOwn w5.heap.size w6 (.agg #[.bool true, .slice da dm dc, .slice ea em ec, .slice fa fm fc]) (Go.Proofs.Ytjhhcikhgkkjmaa.lf D) := ⟨_, _, _, rfl, od1, od2, od3⟩
      clear dr c6 b5 s5 B5 hQ5 hc9 hc9' hB9 ne9 od1 od2 od3 t0 t1 t2 t3 B6
      go_wp2_with (with_reducible refine wpList_store_nd rfl (.tmp 11) (.tmp 68) rfl w6.heap.size (Go.Proofs.Ytjhhcikhgkkjmaa.lf D).leaf (.slice da dm dc) (.slice ea em ec) (.slice fa fm fc) rfl rfl #[.bool false, .slice none 0 0, .slice none 0 0, .slice none 0 0] hg rfl (.mk _ _ _) (.mk _ _ _) (.mk _ _ _) b6' s6 ?_)
      rintro w7 - hR7 b7 hk7
      replace hR7 : w7.heap[w6.heap.size]? = some (ndO true (.slice da dm dc) (.slice ea em ec) (.slice fa fm fc)) := hR7
      have nd7 : NdAt w7.heap.size w7 (.agg #[.bool true, .slice da dm dc, .slice ea em ec, .slice fa fm fc]) (Go.Proofs.Ytjhhcikhgkkjmaa.lf D) := by
        have hb67 : Below w6.heap.size w6 w7 := ⟨(b7.os.trans b6.os.symm), (b7.tape.trans b6.tape.symm), (b7.output.trans b6.output.symm), Nat.le_of_lt (lt_of_heap hR7), fun k hk => (hk7 k (by omega)).trans (Below.heap_alloc w6 zNdO k hk)⟩
        exact (nd6.below hb67).at (leaf_small (by omega))
      obtain ⟨-, B7, s7⟩ := RB.out w7 b7
      have hsR : W.heap.size + 1 ≤ w6.heap.size := s6
      clear hg b6 b6' nd6 hk7
      obtain ⟨R, hRe⟩ : ∃ R, w6.heap.size = R := ⟨_, rfl⟩
      rw [hRe] at hR7 hsR ⊢
      obtain ⟨t0, t1, t2, t3⟩ := NdCells.of hR7
      have dr := drop_any nd7 a1
      rw [HD2.out] at dr
      clear s6 hRe
      go_wp2_with fail
      refine Calls.mono dr ?_
      rintro e w8 ⟨v8, rfl, ⟨pq8, kq8, iq8, rfl, ox1, ox2, ox3⟩, c8⟩
      obtain ⟨xa, xm, xc, rfl⟩ := ox1.slv
      obtain ⟨ya, ym, yc, rfl⟩ := ox2.slv
      obtain ⟨ua, um, uc, rfl⟩ := ox3.slv
      have b8 := Below.thenB b7 c8 s7
      obtain ⟨-, -, s8⟩ := RB.out w8 b8
      have hR8 := (c8.block R (lt_of_heap hR7)).trans hR7
      have nd8 := (nd7.below c8).more c8.size
      have hg := heap_alloc_new w8 zNdO
      have b8' := b8.alloc s8 zNdO
      have hRlt := lt_of_heap hR8
      clear dr c8 b7 s7 B7 hR7 nd7 ox1 ox2 ox3 t0 t1 t2 t3
      go_wp2_with (with_reducible refine wpList_store_nd rfl (.tmp 13) (.tmp 74) rfl w8.heap.size Nd.none.leaf (.slice xa xm xc) (.slice ya ym yc) (.slice ua um uc) rfl rfl #[.bool false, .slice none 0 0, .slice none 0 0, .slice none 0 0] hg rfl (.mk _ _ _) (.mk _ _ _) (.mk _ _ _) b8' s8 ?_)
      rintro w9 - hX9 b9 hk9
      have hb89 : Below w8.heap.size w8 w9 := ⟨(b9.os.trans b8.os.symm), (b9.tape.trans b8.tape.symm), (b9.output.trans b8.output.symm), Nat.le_of_lt (lt_of_heap hX9), fun k hk => (hk9 k (by omega)).trans (Below.heap_alloc w8 zNdO k hk)⟩
      have hR9 := (hb89.block R hRlt).trans hR8
      have nd9 := (nd8.below hb89).more hb89.size
      obtain ⟨p9, k9, j9, he9, hs9, -, -⟩ := nd9
      have e9 : p9 = .slice da dm dc := by injection he9 with he9; have := congrArg (fun a => a[1]?) he9; simpa using this.symm
      rw [e9] at hs9
      have hs9' : SlAt elP w9.heap.size w9 (.slice da dm dc) D := hs9
      obtain ⟨-, B9, s9⟩ := RB.out w9 b9
      have HS9 := Lib.hid hs9'
      have HB9 := Lib.hid b9
      clear hg b8 b8' nd8 hk9 hR8 hRlt hb89 hX9 he9 e9 hs9 hs9' s8 s9 b9
      have hw90 : Below w9.heap.size w9 w9 := Below.refl _ _
      have hR9l := lt_of_heap hR9
      have RBX := Lib.hid (fun (w' : World) (b : Below w9.heap.size w9 w') => (RB.out w' (HB9.out.trans (b.mono (by have := HB9.out.size; have := HZ0.out; omega)))))
      have RX := Lib.hid (fun (w' : World) (b : Below w9.heap.size w9 w') => NdCells.of ((b.block R hR9l).trans hR9))
      have hdm255 : dm ≤ 255 := by rw [HDM.out]; exact hD255
      clear hR9 B9 OF HB9
      go_wp2
      go_loopw [15, 16] (fun av iv wr => ∃ k : Nat, k ≤ pm ∧ iv = .int .i64 k ∧ av = .int .i64 (((z0.ps.take k).filter (keep a1)).length : Nat) ∧ Below w9.heap.size w9 wr) (fun _ iv _ => pm - (intOf iv).toNat)
      case atStart => exact ⟨0, Nat.zero_le _, rfl, rfl, hw90⟩
      case round =>
        clear hw90
        obtain ⟨k, hk, rfl, rfl, hb⟩ := hrel
        obtain ⟨hq, BW, -⟩ := RBX.out _ hb
        obtain ⟨q0, q1, q2, q3⟩ := hq
        obtain ⟨t0, t1, t2, t3⟩ := RX.out _ hb
        by_cases hlt : k < pm
        · have hlt' : k < z0.ps.length := by rw [← hpm.out]; exact hlt
          obtain ⟨b, off, cap', hv, hB, hc1, hc2⟩ := H1.out.getP hlt'
          obtain ⟨rfl, -, rfl⟩ : pa = some ⟨b, off, none⟩ ∧ pm = z0.ps.length ∧ pc = cap' := by cases hv; exact ⟨rfl, rfl, rfl⟩
          have d1 := (BW.cell (p := ⟨b, off + k * 2, none⟩) hB).trans hc1
          have d2 := (BW.cell (p := ⟨b, off + k * 2 + 1, none⟩) hB).trans hc2
          have hfa := filter_at (p := keep a1) hlt'
          have hfg := filter_get (p := keep a1) hlt'
          rw [HD.out] at hfg
          obtain ⟨m, hm⟩ : ∃ m, ((z0.ps.take k).filter (keep a1)).length = m := ⟨_, rfl⟩
          have hfl := congrArg List.length hfa
          rw [List.length_append, hm] at hfl
          rw [hm] at hfg ⊢
          have HV := Lib.hid hv
          clear hv hc1 hc2 hfa hm
          cases hke : keep a1 (prAt z0.ps k)
          · rw [hke] at hfl
            have HF := Lib.hid hfl
            have heq : ((prAt z0.ps k).k.toList == a1.toList) = true := by unfold keep at hke; show eqS _ _ = true; simpa using hke
            generalize prAt z0.ps k = x at *
            obtain ⟨xk, xv⟩ := x
            simp only at d1 d2 heq
            have heq2 : xk.toList = a1.toList := by simpa using heq
            clear hfl hfg hke
            go_wp2
            go_roundw
            case rel => exact ⟨k + 1, by omega, by go_num, by rw [HF.out]; rfl, hb⟩
            case measure => simp [intOf]; omega
          · rw [hke] at hfl
            have HF := Lib.hid hfl
            obtain ⟨hmD, hmx⟩ := hfg hke
            obtain ⟨b2, off2, cap2, hv2, hB2, hc2, hc2'⟩ := HS9.out.getP hmD
            obtain ⟨rfl, -, rfl⟩ : da = some ⟨b2, off2, none⟩ ∧ dm = D.length ∧ dc = cap2 := by cases hv2; exact ⟨rfl, rfl, rfl⟩
            rw [hmx] at hc2 hc2'
            have e1 := (hb.cell (p := ⟨b2, off2 + m * 2, none⟩) hB2).trans hc2
            have e2 := (hb.cell (p := ⟨b2, off2 + m * 2 + 1, none⟩) hB2).trans hc2'
            have heq : ((prAt z0.ps k).k.toList == a1.toList) = false := by unfold keep at hke; show eqS _ _ = false; simpa using hke
            have hmd : m < dm := by rw [HDM.out]; exact hmD
            generalize prAt z0.ps k = x at *
            obtain ⟨xk, xv⟩ := x
            simp only at d1 d2 heq e1 e2
            have heq2 : ¬ xk.toList = a1.toList := by simpa using heq
            have hbB2 : b2 < wr.heap.size := Nat.lt_of_lt_of_le hB2 hb.size
            have hbB : b < wr.heap.size := World.block_lt_of_cell? _ _ d1
            have hbR : R < wr.heap.size := World.block_lt_of_cell? _ _ t1
            have hbW : W.heap.size < wr.heap.size := World.block_lt_of_cell? _ _ q1
            have E1 := Lib.hid (fun (w' : World) (h : Below wr.heap.size wr w') => range2 ((h.cell (p := ⟨b2, off2 + m * 2, none⟩) hbB2).trans e1) ((h.cell (p := ⟨b2, off2 + m * 2 + 1, none⟩) hbB2).trans e2))
            have E2 := Lib.hid (fun (w' : World) (h : Below wr.heap.size wr w') => range2 ((h.cell (p := ⟨b, off + k * 2, none⟩) hbB).trans d1) ((h.cell (p := ⟨b, off + k * 2 + 1, none⟩) hbB).trans d2))
            have E3 := Lib.hid (fun (w' : World) (h : Below wr.heap.size wr w') => (h.cell (p := ⟨R, 1, none⟩) hbR).trans t1)
            have E4 := Lib.hid (fun (w' : World) (h : Below wr.heap.size wr w') => (h.cell (p := ⟨W.heap.size, 1, none⟩) hbW).trans q1)
            have hge : decide ((dm : Int) ≤ (m : Int)) = false := by simp; omega
            have hwm : IntKind.i64.wrap ((m : Int) + 1) = (m : Int) + 1 := by rw [IntKind.wrap_i64]; omega
            clear hfl hfg hke hc2 hc2' hmx hmD hv2 hB2 e1 e2
            go_wp2_with fail
            have hS : Below wr.heap.size wr wr.drew := (Below.refl _ _).drew
            refine wp_region_held_drew (S := fun w' => Below wr.heap.size wr w') mixed hS (fun _ => ?_)
            show wpAnyH _ _ _ _ _ 18 (Array.replicate 18 false) _ _
            refine wpAnyH_take_d 0 (some 97) (.int .i64 m) rfl (by kernel_rfl) (by kernel_rfl) (by kernel_rfl) (by kernel_rfl) rfl (fun _ _ _ h => h) (fun _ _ => by kernel_rfl) (by exact hS) ?_
            simp only [Act.put, List.setIfInBounds_toArray, List.set_cons_succ, List.set_cons_zero]
            refine wpAnyH_take_d 1 (some 98) (.pointer (some ⟨R, 1, none⟩)) rfl (by kernel_rfl) (by kernel_rfl) (by kernel_rfl) (by kernel_rfl) rfl (fun _ _ _ h => h) (fun _ _ => by kernel_rfl) (by exact hS) ?_
            simp only [Act.put, List.setIfInBounds_toArray, List.set_cons_succ, List.set_cons_zero]
            refine wpAnyH_take_d 2 (some 99) (.slice (some ⟨b2, off2, none⟩) dm dc) rfl (by kernel_rfl) (by kernel_rfl) (by kernel_rfl) (by kernel_rfl) rfl (fun _ _ _ h => h) (fun w' h => exec_load_cell rfl rfl (E3.out _ h) Try.underlying22 rfl) (by exact hS) ?_
            simp only [Act.put, List.setIfInBounds_toArray, List.set_cons_succ, List.set_cons_zero]
            refine wpAnyH_take_d 3 (some 100) (.int .i64 dm) rfl (by kernel_rfl) (by kernel_rfl) (by kernel_rfl) (by kernel_rfl) rfl (fun _ _ _ h => h) (fun _ _ => ex_len rfl rfl Try.underlying22) (by exact hS) ?_
            simp only [Act.put, List.setIfInBounds_toArray, List.set_cons_succ, List.set_cons_zero]
            refine wpAnyH_take_d 4 (some 101) (.bool false) rfl (by kernel_rfl) (by kernel_rfl) (by kernel_rfl) (by kernel_rfl) rfl (fun _ _ _ h => h) (fun _ _ => ex_ge rfl rfl rfl hge) (by exact hS) ?_
            simp only [Act.put, List.setIfInBounds_toArray, List.set_cons_succ, List.set_cons_zero]
            refine wpAnyH_take_d 5 (some 102) (.bool false) rfl (by kernel_rfl) (by kernel_rfl) (by kernel_rfl) (by kernel_rfl) rfl (fun _ _ _ h => h) (fun _ _ => by kernel_rfl) (by exact hS) ?_
            simp only [Act.put, List.setIfInBounds_toArray, List.set_cons_succ, List.set_cons_zero]
            refine wpAnyH_take_d 6 (some 103) (.pointer (some ⟨R, 1, none⟩)) rfl (by kernel_rfl) (by kernel_rfl) (by kernel_rfl) (by kernel_rfl) rfl (fun _ _ _ h => h) (fun _ _ => by kernel_rfl) (by exact hS) ?_
            simp only [Act.put, List.setIfInBounds_toArray, List.set_cons_succ, List.set_cons_zero]
            refine wpAnyH_take_d 7 (some 104) (.slice (some ⟨b2, off2, none⟩) dm dc) rfl (by kernel_rfl) (by kernel_rfl) (by kernel_rfl) (by kernel_rfl) rfl (fun _ _ _ h => h) (fun w' h => exec_load_cell rfl rfl (E3.out _ h) Try.underlying22 rfl) (by exact hS) ?_
            simp only [Act.put, List.setIfInBounds_toArray, List.set_cons_succ, List.set_cons_zero]
            refine wpAnyH_take_d 8 (some 105) (.int .i64 m) rfl (by kernel_rfl) (by kernel_rfl) (by kernel_rfl) (by kernel_rfl) rfl (fun _ _ _ h => h) (fun _ _ => by kernel_rfl) (by exact hS) ?_
            simp only [Act.put, List.setIfInBounds_toArray, List.set_cons_succ, List.set_cons_zero]
            refine wpAnyH_take_d 9 (some 106) (.pointer (some ⟨b2, off2 + m * 2, none⟩)) rfl (by kernel_rfl) (by kernel_rfl) (by kernel_rfl) (by kernel_rfl) rfl (fun _ _ _ h => h) (fun _ _ => ex_index 2 rfl rfl rfl hmd Try.underlying22 szPr) (by exact hS) ?_
            simp only [Act.put, List.setIfInBounds_toArray, List.set_cons_succ, List.set_cons_zero]
            refine wpAnyH_take_d 10 (some 107) (prV ⟨xk, xv⟩) rfl (by kernel_rfl) (by kernel_rfl) (by kernel_rfl) (by kernel_rfl) rfl (fun _ _ _ h => h) (fun w' h => ex_row rfl rfl (E1.out _ h) Try.underlying50 rfl (by kernel_rfl)) (by exact hS) ?_
            simp only [Act.put, List.setIfInBounds_toArray, List.set_cons_succ, List.set_cons_zero]
            refine wpAnyH_take_d 11 (some 108) (.pointer (some ⟨W.heap.size, 1, none⟩)) rfl (by kernel_rfl) (by kernel_rfl) (by kernel_rfl) (by kernel_rfl) rfl (fun _ _ _ h => h) (fun _ _ => by kernel_rfl) (by exact hS) ?_
            simp only [Act.put, List.setIfInBounds_toArray, List.set_cons_succ, List.set_cons_zero]
            refine wpAnyH_take_d 12 (some 109) (.slice (some ⟨b, off, none⟩) pm pc) rfl (by kernel_rfl) (by kernel_rfl) (by kernel_rfl) (by kernel_rfl) rfl (fun _ _ _ h => h) (fun w' h => exec_load_cell rfl rfl (E4.out _ h) Try.underlying22 rfl) (by exact hS) ?_
            simp only [Act.put, List.setIfInBounds_toArray, List.set_cons_succ, List.set_cons_zero]
            refine wpAnyH_take_d 13 (some 110) (.int .i64 k) rfl (by kernel_rfl) (by kernel_rfl) (by kernel_rfl) (by kernel_rfl) rfl (fun _ _ _ h => h) (fun _ _ => by kernel_rfl) (by exact hS) ?_
            simp only [Act.put, List.setIfInBounds_toArray, List.set_cons_succ, List.set_cons_zero]
            refine wpAnyH_take_d 14 (some 111) (.pointer (some ⟨b, off + k * 2, none⟩)) rfl (by kernel_rfl) (by kernel_rfl) (by kernel_rfl) (by kernel_rfl) rfl (fun _ _ _ h => h) (fun _ _ => ex_index 2 rfl rfl rfl hlt Try.underlying22 szPr) (by exact hS) ?_
            simp only [Act.put, List.setIfInBounds_toArray, List.set_cons_succ, List.set_cons_zero]
            refine wpAnyH_take_d 15 (some 112) (prV ⟨xk, xv⟩) rfl (by kernel_rfl) (by kernel_rfl) (by kernel_rfl) (by kernel_rfl) rfl (fun _ _ _ h => h) (fun w' h => ex_row rfl rfl (E2.out _ h) Try.underlying50 rfl (by kernel_rfl)) (by exact hS) ?_
            simp only [Act.put, List.setIfInBounds_toArray, List.set_cons_succ, List.set_cons_zero]
            refine wpAnyH_take_d 16 (some 113) (.bool false) rfl (by kernel_rfl) (by kernel_rfl) (by kernel_rfl) (by kernel_rfl) rfl (fun _ _ _ h => h) (fun w' _ => ex_bin rfl rfl rfl (by kernel_rfl) (neq_pr xk xv w')) (by exact hS) ?_
            simp only [Act.put, List.setIfInBounds_toArray, List.set_cons_succ, List.set_cons_zero]
            refine wpAnyH_take_d 17 (some 114) (.bool false) rfl (by kernel_rfl) (by kernel_rfl) (by kernel_rfl) (by kernel_rfl) rfl (fun _ _ _ h => h) (fun _ _ => by kernel_rfl) (by exact hS) ?_
            simp only [Act.put, List.setIfInBounds_toArray, List.set_cons_succ, List.set_cons_zero]
            refine wpAnyH_done (by kernel_rfl) ?_ _
            have hb' := hb.trans (hS.mono hb.size)
            clear hS d1 d2 q0 q1 q2 q3 t0 t1 t2 t3
            go_wp2
            go_roundw
            case rel => exact ⟨k + 1, by omega, by go_num, by rw [HF.out]; simp, hb'⟩
            case measure => simp [intOf]; omega
        · have hkl : (z0.ps.take k).filter (keep a1) = D := by rw [List.take_of_length_le (by have := hpm.out; omega)]; exact HD.out
          rw [hkl, ← HDM.out]
          clear hkl
          go_wp2
          go_ret
          exact ⟨by simp, BW⟩

/-! ### the row -/
theorem laidOut : laidOutB Try.prog = true := by kernel_rfl
theorem bytesInt : Try.prog.bytesOf 3 = 8 := by kernel_rfl
set_option maxRecDepth 100000 in
theorem lifted (os : Os) (started : os.Started) (H : Type) (enc : TypeId × Value → H) :
    ReturnsInHanded {} Try.checked os 6 .any (Rows.nodeMapSpec.pre6 enc Try.prog Try.f6 Rows.nodeMapRow.domain false) (Rows.nodeMapSpec.post enc Try.prog Try.f6 false true false false) := by
  refine returnsInHanded_of_change_sized (C := Try.checked) own started (by kernel_rfl) Try.func6
    (ChangeSpec.witness6 (enc := enc) (C := Try.checked) false ⟨#[], #[.agg #[.bool false, .slice none 0 0, .slice none 0 0, .slice none 0 0], .string ByteArray.empty, .string ByteArray.empty], []⟩ 8 (by kernel_rfl) (by kernel_rfl) (by kernel_rfl) (by kernel_rfl)) ?_
  intro W base args ds gs before hval0 hW hcnd hsz0 _
  have hval : ∀ (j : Nat) t v, Try.f6.params[j]? = some t → args[j]? = some v → Value.okWide Try.prog W .any base t v := hval0
  have hW' := hW
  obtain ⟨p, q, hA0, hV, rfl, hfz, hnd⟩ := hW
  have hA : DataW.TrodAll enc Try.prog W 0 (fun _ => true) true Try.f6.params.toList args.toList ds p := hA0
  have hsz : (DataW.weightsEach Try.prog (Try.f6.params.toList ++ Rows.nodeMapSpec.plain.varTypes Try.prog) (ds ++ gs)).all (· ≤ reachBytes) = true := hsz0
  rw [Try.params6] at hA hval hsz
  obtain ⟨v0, vs0, d0, ds0, p0, q0, hargs, rfl, rfl, h0, r0⟩ := trodAll_cons hA
  obtain ⟨v1, vs1, d1, ds1, p1, q1, rfl, rfl, rfl, h1, r1⟩ := trodAll_cons r0
  obtain ⟨v2, vs2, d2, ds2, p2, q2, rfl, rfl, rfl, h2, r2⟩ := trodAll_cons r1
  obtain ⟨rfl, rfl, rfl⟩ := trodAll_nil r2
  obtain rfl : args = #[v0, v1, v2] := by cases args; simp_all
  obtain ⟨rfl, rfl⟩ := trodVars_none hV
  have k0 := h0
  have lt0 := args_lt k0
  obtain ⟨z0, w0⟩ := nd_arg (hval 0 26 v0 rfl rfl) (fun k hk => of_decide_eq_true (List.all_eq_true.1 hsz _ (DataW.weights_mem_each (j := 0) (t := 26) (d := d0) rfl rfl k hk))) h0
  obtain ⟨a1, rfl, rfl, rfl, w1⟩ := Go.ChangeMaps.open_string Try.underlying9 (hval 1 9 v1 rfl rfl) h1
  obtain ⟨a2, rfl, rfl, rfl, w2⟩ := Go.ChangeMaps.open_string Try.underlying9 (hval 2 9 v2 rfl rfl) h2
  clear hA0 hval0 hsz0
  refine (walk v0 z0 a1 w1 a2 w2 W w0).mono fun e W' ⟨he, bel⟩ => ?_
  subst he
  exact ⟨_, rfl, _, _, _, [], _, [], hW', trodAll_mk1 (shut_bool Try.underlying4 _), (trodAll_cons_mk (Below.trod laidOut (by kernel_rfl) (of_decide_eq_true (by kernel_rfl)) k0 bel lt0) (trodAll_cons_mk (Go.ChangeMaps.shut_string Try.underlying9 w1) (trodAll_cons_mk (Go.ChangeMaps.shut_string Try.underlying9 w2) trodAll_mk0))), rfl, bel.frame _, fun h => by cases h⟩

theorem over : Rows.nodeMapRow.holds Try.pinned (OpenSpec.ofChange Rows.nodeMapSpec) :=
  OpenClaim.holds_of_wide 6 Try.f6 rfl rfl rfl rfl rfl rfl rfl ⟨rfl, rfl, rfl, rfl, rfl⟩ rfl rfl rfl rfl rfl (by kernel_rfl) Try.func6 (by kernel_rfl)
    (of_decide_eq_true (by kernel_rfl)) (by unfold Func.isWrapper; first | (rw [if_pos (by decide +kernel)]; kernel_rfl) | (rw [if_neg (by decide +kernel)]; exact ⟨rfl, rfl⟩))
    (fun os started H enc _ => lifted os started H enc)
end Go.Proofs.Ytjhhcikhgkkjmaa.nodeMap

namespace Go.Proofs.Ytjhhcikhgkkjmaa
/-- The law returns true at every input. -/
theorem nodeMap_holds : Rows.NodeMapSaid := nodeMap.over
end Go.Proofs.Ytjhhcikhgkkjmaa

