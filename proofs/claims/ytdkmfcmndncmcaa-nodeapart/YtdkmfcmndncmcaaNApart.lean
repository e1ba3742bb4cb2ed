/- What is handed to Put, Drop, Split and Merge stays as it is, its spare room too, whatever is done to the answers: the law cisternlaw11.NodeApart returns true at every input. No condition. -/
import Derived.Test.YtdkmfcmndncmcaaNApart0
namespace Go.Proofs.Ytdkmfcmndncmcaa.nodeApart
set_option maxRecDepth 20000
open Go.RowKit Go.ChangeShapes Go.WideShapes Go.ChangeAt

theorem own : ownKnob Try.prog.godebug = none := by kernel_rfl
theorem own_form {base : Nat} {w : World} {v : Value} {n : Nd} (h : NdOwn base w v n) : ∃ pa pm pc ka km kc ia im ic, v = .agg #[.bool n.leaf, .slice pa pm pc, .slice ka km kc, .slice ia im ic] := by
  obtain ⟨pv, kv, iv, rfl, h1, h2, h3⟩ := h
  obtain ⟨pa, pm, pc, rfl⟩ := h1.slv
  obtain ⟨ka, km, kc, rfl⟩ := h2.slv
  obtain ⟨ia, im, ic, rfl⟩ := h3.slv
  exact ⟨_, _, _, _, _, _, _, _, _, rfl⟩
/-- what the walk keeps of an answer: its lists are rows of its own -/
def Own3 (base : Nat) (w : World) (pv kv iv : Value) : Prop := ∃ (ps : List Pr) (ks : List ByteArray) (is : List Int), OwnR elP base w pv ps ∧ OwnR elS base w kv ks ∧ OwnR elI base w iv is
theorem Own3.below {base : Nat} {w w' : World} {pv kv iv : Value} (h : Own3 base w pv kv iv) (hb : Below w.heap.size w w') : Own3 base w' pv kv iv := by
  obtain ⟨ps, ks, is, h1, h2, h3⟩ := h
  exact ⟨ps, ks, is, h1.below hb, h2.below hb, h3.below hb⟩
theorem Own3.base {b b' : Nat} {w : World} {pv kv iv : Value} (h : Own3 b w pv kv iv) (hb : b' ≤ b) : Own3 b' w pv kv iv := by
  obtain ⟨ps, ks, is, h1, h2, h3⟩ := h
  exact ⟨ps, ks, is, h1.base hb, h2.base hb, h3.base hb⟩
theorem own3 {base : Nat} {w : World} {n : Nd} {lf : Bool} {pv kv iv : Value} (h : NdOwn base w (.agg #[.bool lf, pv, kv, iv]) n) : Own3 base w pv kv iv := by
  obtain ⟨p, k, i, e, h1, h2, h3⟩ := h
  simp only [Value.agg.injEq, Array.mk.injEq, List.cons.injEq, and_true] at e
  obtain ⟨-, rfl, rfl, rfl⟩ := e
  exact ⟨_, _, _, h1, h2, h3⟩
theorem split_ret {w : World} {v : Value} {n : Nd} (h : NdAt w.heap.size w v n) : Calls Try.prog 31 #[v] w fun e w' => ∃ a key b er, SplRet w a key b er e w' :=
  (split_any h).mono fun e w' r => by
    rcases r with ⟨er, -, r⟩ | ⟨a, key, b, -, r⟩
    · exact ⟨_, _, _, _, r⟩
    · exact ⟨_, _, _, _, r⟩
theorem ex_cap {P : Program} {w : World} {ρ : Operand → Value} {o : Oper} {x : Operand} {t e : TypeId} {a : Option Addr} {n c : Nat} (ho : o.op = .call { callee := .builtin .cap, args := #[x], argTypes := #[t] }) (hx : ρ x = .slice a n c) (hu : P.underlying t = some (.slice e)) : (execOp ρ o).run P w = .ok (.value (.int .i64 c)) w := by
  unfold execOp
  simp [ho, resolve, invoke, builtin, hx, Builtin.cap_, run_underlying hu, Result.andThen]
  rfl
/-- the spare room of a list that the law made -/
theorem spareF {α : Type} {E : El α} (hE : ElOk E) {base : Nat} {w : World} {g n c : Nat} {l : List α} (h : OwnF E base w (.slice (some ⟨g, 0, none⟩) n c) l) {j : Nat} {u : Value} (hu : (zc E)[j]? = some u) : w.cell? ⟨g, n * E.k + j, none⟩ = some u := by
  obtain ⟨g', cur, hv, hb, hg, hc⟩ := h
  obtain ⟨rfl, rfl, rfl⟩ : g = g' ∧ n = l.length ∧ c = l.length + 1 := by
    injection hv with e1 e2 e3
    injection e1 with e1
    injection e1 with e1
    exact ⟨e1, e2, e3⟩
  rw [cell_of_row _ _ _ _ _ _ hg, ← Array.getElem?_toList, hc, List.getElem?_append_right (by rw [cells_length hE]; omega), cells_length hE, Nat.add_sub_cancel_left]
  exact hu
theorem full_form {base : Nat} {w : World} {v : Value} {n : Nd} (h : NdFull base w v n) : ∃ g1 g2 g3 : Nat, v = .agg #[.bool n.leaf, .slice (some ⟨g1, 0, none⟩) n.ps.length (n.ps.length + 1), .slice (some ⟨g2, 0, none⟩) n.ks.length (n.ks.length + 1), .slice (some ⟨g3, 0, none⟩) n.is.length (n.is.length + 1)] ∧
    OwnF elP base w (.slice (some ⟨g1, 0, none⟩) n.ps.length (n.ps.length + 1)) n.ps ∧ OwnF elS base w (.slice (some ⟨g2, 0, none⟩) n.ks.length (n.ks.length + 1)) n.ks ∧ OwnF elI base w (.slice (some ⟨g3, 0, none⟩) n.is.length (n.is.length + 1)) n.is := by
  obtain ⟨pv, kv, iv, rfl, h1, h2, h3⟩ := h
  have h1' := h1
  have h2' := h2
  have h3' := h3
  obtain ⟨g1, _, rfl, -⟩ := h1
  obtain ⟨g2, _, rfl, -⟩ := h2
  obtain ⟨g3, _, rfl, -⟩ := h3
  exact ⟨g1, g2, g3, rfl, h1', h2', h3'⟩
set_option maxHeartbeats 25600000 in
set_option maxRecDepth 400000 in
theorem walk (v0 : Value) (z0 : Nd) (a1 : ByteArray) (_ : a1.size ≤ maxLen) (a2 : ByteArray) (_ : a2.size ≤ maxLen) (W : World) (w0 : NdArg W v0 z0) :
    Calls Try.prog 9 #[v0, .string a1, .string a2] W fun e w' => e = .returned (.bool true) ∧ Below W.heap.size W w' := by
  obtain ⟨h0, -, -⟩ := w0
  have H0 := Lib.hid h0
  have hsm := h0.small
  have hl1 : z0.ps.length ≤ 17592186043904 := by
    obtain ⟨_, _, _, _, x1, -, -⟩ := h0
    exact x1.len okP
  have hl2 : z0.ks.length ≤ 17592186043904 := by
    obtain ⟨_, _, _, _, -, x2, -⟩ := h0
    exact x2.len okS
  have hl3 : z0.is.length ≤ 17592186043904 := by
    obtain ⟨_, _, _, _, -, -, x3⟩ := h0
    exact x3.len okZ
  have OF := Lib.hid (fun w (hb : Below W.heap.size W w) => of_any ((h0.below hb).more hb.size))
  obtain ⟨pv, kv, iv, rfl, h1, h2, h3⟩ := h0
  obtain ⟨pa, pm, pc, rfl, -⟩ := h1.form
  obtain ⟨ka, km, kc, rfl, -⟩ := h2.form
  obtain ⟨ia, im, ic, rfl, -⟩ := h3.form
  clear h1 h2 h3
  obtain ⟨lf, hlf⟩ : ∃ lf, z0.leaf = lf := ⟨_, rfl⟩
  have HLF := Lib.hid hlf
  have HSM := Lib.hid hsm
  rw [hlf] at H0 OF ⊢
  clear hlf hsm
  have RB := Lib.hid (fun w1 b => rbox_facts (W := W) (lf := lf) (pv := .slice pa pm pc) (kv := .slice ka km kc) (iv := .slice ia im ic) (w1 := w1) b)
  have b0 : Below (W.heap.size + 1) (W.alloc (rbO lf (.slice pa pm pc) (.slice ka km kc) (.slice ia im ic))) (W.alloc (rbO lf (.slice pa pm pc) (.slice ka km kc) (.slice ia im ic))) := Below.refl _ _
  have hz0 : W.heap.size + 1 ≤ (W.alloc (rbO lf (.slice pa pm pc) (.slice ka km kc) (.slice ia im ic))).heap.size := by simp
  have HZ0 := Lib.hid hz0
  clear hz0
  go_enter Try.func9, Try.ntmps9
  go_wp2_with fail
  refine Calls.mono (nknown_any _) ?_
  rintro e w1 ⟨rfl, c1⟩
  have b1 := Below.thenB b0 c1 HZ0.out
  obtain ⟨⟨q0, q1, q2, q3⟩, B1, s1⟩ := RB.out w1 b1
  clear c1 b0
  go_wp2_with fail
  refine Calls.mono (OF.out _ B1) ?_
  rintro e w2 ⟨v2, rfl, n2, c2⟩
  obtain ⟨g1, g2, g3, rfl, f1, f2, f3⟩ := full_form n2
  have nin := n2.at HSM.out
  obtain ⟨N1, hN1⟩ : ∃ N1, z0.ps.length = N1 := ⟨_, rfl⟩
  obtain ⟨N2, hN2⟩ : ∃ N2, z0.ks.length = N2 := ⟨_, rfl⟩
  obtain ⟨N3, hN3⟩ : ∃ N3, z0.is.length = N3 := ⟨_, rfl⟩
  have hlf := HLF.out
  simp only [hlf, hN1, hN2, hN3] at nin f1 f2 f3 hl1 hl2 hl3 ⊢
  have NIN := Lib.hid nin
  have F1 := Lib.hid f1
  have F2 := Lib.hid f2
  have F3 := Lib.hid f3
  have b2 := Below.thenB b1 c2 s1
  have s2 := (RB.out w2 b2).2.2
  have hg := heap_alloc_new w2 zNdO
  have c3' := below_new w2 zNdO
  clear b1 B1 s1 c2 n2 nin f1 f2 f3 hlf hN1 hN2 hN3 OF q0 q1 q2 q3
  go_wp2_with (with_reducible refine wpList_store_nd (a0 := w2) (B := w2.heap.size) rfl (.tmp 7) (.tmp 32) rfl w2.heap.size lf (.slice (some ⟨g1, 0, none⟩) N1 (N1 + 1)) (.slice (some ⟨g2, 0, none⟩) N2 (N2 + 1)) (.slice (some ⟨g3, 0, none⟩) N3 (N3 + 1)) rfl rfl #[.bool false, .slice none 0 0, .slice none 0 0, .slice none 0 0] hg rfl (.mk _ _ _) (.mk _ _ _) (.mk _ _ _) c3' (Nat.le_refl _) ?_)
  rintro w3 - gT c3 -
  have b3 := b2.trans (c3.mono s2)
  obtain ⟨-, B3, s3⟩ := RB.out w3 b3
  have hTs := lt_of_heap gT
  have NIN := Lib.hid (fun (w' : World) (h : Below w3.heap.size w3 w') => (NIN.out.below (c3.trans (h.mono c3.size))).more (Nat.le_trans c3.size h.size))
  have F1 := Lib.hid (fun (w' : World) (h : Below w3.heap.size w3 w') => F1.out.below (c3.trans (h.mono c3.size)))
  have F2 := Lib.hid (fun (w' : World) (h : Below w3.heap.size w3 w') => F2.out.below (c3.trans (h.mono c3.size)))
  have F3 := Lib.hid (fun (w' : World) (h : Below w3.heap.size w3 w') => F3.out.below (c3.trans (h.mono c3.size)))
  obtain ⟨T, hT⟩ : ∃ T, w2.heap.size = T := ⟨_, rfl⟩
  rw [hT] at gT hTs ⊢
  have CT := Lib.hid (fun (w' : World) (h : Below w3.heap.size w3 w') => NdCells.of ((h.block T hTs).trans gT))
  have RZ := Lib.hid (fun (w' : World) (h : Below w3.heap.size w3 w') => (RB.out w' (Below.thenB b3 h s3)).1)
  have HB := Lib.hid B3
  have NZ := Lib.hid (fun (w' : World) (h : Below w3.heap.size w3 w') => (H0.out.below (HB.out.trans (h.mono HB.out.size))).more (Nat.le_trans HB.out.size h.size))
  have HZW := Lib.hid (show w3.heap.size ≤ w3.heap.size from Nat.le_refl _)
  clear hT gT hTs hg c3' c3 b2 b3 B3 s2 s3 H0 HSM HZ0 RB
  have hb : Below w3.heap.size w3 w3 := Below.refl _ _
  obtain ⟨q0, q1, q2, q3⟩ := CT.out _ hb
  go_wp2_with fail
  refine Calls.mono (put_any (NIN.out _ hb) ⟨a1, a2⟩) ?_
  rintro e w4 ⟨v1, rfl, oo1, c⟩
  have hs := hb.size
  have hb := hb.trans (c.mono hb.size)
  obtain ⟨pa1, pm1, pc1, ka1, km1, kc1, ia1, im1, ic1, rfl⟩ := own_form oo1
  have o1 := (own3 oo1).base hs
  clear oo1
  have hg := heap_alloc_new w4 zNdO
  have c' := below_new w4 zNdO
  clear c hs q0 q1 q2 q3
  generalize hlz1 : Nd.leaf (putN z0 ⟨a1, a2⟩).1 = l1 at *
  clear hlz1
  go_wp2_with (with_reducible refine wpList_store_nd (a0 := w4) (B := w4.heap.size) rfl (.tmp 8) (.tmp 39) rfl w4.heap.size l1 (.slice pa1 pm1 pc1) (.slice ka1 km1 kc1) (.slice ia1 im1 ic1) rfl rfl #[.bool false, .slice none 0 0, .slice none 0 0, .slice none 0 0] hg rfl (.mk _ _ _) (.mk _ _ _) (.mk _ _ _) c' (Nat.le_refl _) ?_)
  rintro w5 - x1 c -
  have o1 := o1.below c
  have hb := hb.trans (c.mono hb.size)
  obtain ⟨A1, hA⟩ : ∃ A, w4.heap.size = A := ⟨_, rfl⟩
  rw [hA] at x1 ⊢
  clear hA hg c' c
  obtain ⟨q0, q1, q2, q3⟩ := CT.out _ hb
  go_wp2_with fail
  refine Calls.mono (drop_any (NIN.out _ hb) a1) ?_
  rintro e w6 ⟨v2, rfl, oo2, c⟩
  have hs := hb.size
  have hb := hb.trans (c.mono hb.size)
  obtain ⟨pa2, pm2, pc2, ka2, km2, kc2, ia2, im2, ic2, rfl⟩ := own_form oo2
  have o2 := (own3 oo2).base hs
  clear oo2
  have o1 := o1.below c
  have x1 := (c.block _ (lt_of_heap x1)).trans x1
  have hg := heap_alloc_new w6 zNdO
  have c' := below_new w6 zNdO
  clear c hs q0 q1 q2 q3
  generalize hlz2 : Nd.leaf (dropN z0 a1).1 = l2 at *
  clear hlz2
  go_wp2_with (with_reducible refine wpList_store_nd (a0 := w6) (B := w6.heap.size) rfl (.tmp 10) (.tmp 45) rfl w6.heap.size l2 (.slice pa2 pm2 pc2) (.slice ka2 km2 kc2) (.slice ia2 im2 ic2) rfl rfl #[.bool false, .slice none 0 0, .slice none 0 0, .slice none 0 0] hg rfl (.mk _ _ _) (.mk _ _ _) (.mk _ _ _) c' (Nat.le_refl _) ?_)
  rintro w7 - x2 c -
  have o1 := o1.below c
  have o2 := o2.below c
  have x1 := (c.block _ (lt_of_heap x1)).trans x1
  have hb := hb.trans (c.mono hb.size)
  obtain ⟨A2, hA⟩ : ∃ A, w6.heap.size = A := ⟨_, rfl⟩
  rw [hA] at x2 ⊢
  clear hA hg c' c
  obtain ⟨q0, q1, q2, q3⟩ := CT.out _ hb
  go_wp2_with fail
  refine Calls.mono (split_ret (NIN.out _ hb)) ?_
  rintro e w8 ⟨nd3, key3, nd4, er3, v3, v4, rfl, oo3, oo4, c⟩
  have hs := hb.size
  have hb := hb.trans (c.mono hb.size)
  obtain ⟨pa3, pm3, pc3, ka3, km3, kc3, ia3, im3, ic3, rfl⟩ := own_form oo3
  obtain ⟨pa4, pm4, pc4, ka4, km4, kc4, ia4, im4, ic4, rfl⟩ := own_form oo4
  have o3 := (own3 oo3).base hs
  have o4 := (own3 oo4).base hs
  clear oo3 oo4
  have o1 := o1.below c
  have o2 := o2.below c
  have x1 := (c.block _ (lt_of_heap x1)).trans x1
  have x2 := (c.block _ (lt_of_heap x2)).trans x2
  have hg1 := heap_alloc_new w8 zNdO
  have hg2 := heap_alloc_new (w8.alloc zNdO) zNdO
  have hz1 : (w8.alloc zNdO).heap.size = w8.heap.size + 1 := by simp
  have hg1 : ((w8.alloc zNdO).alloc zNdO).heap[w8.heap.size]? = some zNdO := (Below.heap_alloc _ _ _ (by simp)).trans hg1
  rw [hz1] at hg2
  have c' : Below w8.heap.size w8 ((w8.alloc zNdO).alloc zNdO) := (below_new _ _).trans ((below_new _ _).mono (by simp))
  clear c hs hz1 q0 q1 q2 q3
  generalize nd3.leaf = l3 at *
  generalize nd4.leaf = l4 at *
  go_wp2_with (with_reducible refine wpList_store_nd (a0 := w8) (B := w8.heap.size) rfl (.tmp 12) (.tmp 50) rfl w8.heap.size l3 (.slice pa3 pm3 pc3) (.slice ka3 km3 kc3) (.slice ia3 im3 ic3) rfl rfl #[.bool false, .slice none 0 0, .slice none 0 0, .slice none 0 0] hg1 rfl (.mk _ _ _) (.mk _ _ _) (.mk _ _ _) c' (Nat.le_refl _) ?_)
  rintro w9 - x3 c9 k9
  have hg2 := (k9 (w8.heap.size + 1) (by omega)).trans hg2
  go_wp2_with (with_reducible refine wpList_store_nd (a0 := w8) (B := w8.heap.size) rfl (.tmp 14) (.tmp 52) rfl (w8.heap.size + 1) l4 (.slice pa4 pm4 pc4) (.slice ka4 km4 kc4) (.slice ia4 im4 ic4) rfl rfl #[.bool false, .slice none 0 0, .slice none 0 0, .slice none 0 0] hg2 rfl (.mk _ _ _) (.mk _ _ _) (.mk _ _ _) c9 (Nat.le_succ _) ?_)
  rintro w10 - x4 c k10
  have x3 := (k10 w8.heap.size (by omega)).trans x3
  have o1 := o1.below c
  have o2 := o2.below c
  have o3 := o3.below c
  have o4 := o4.below c
  have x1 := (c.block _ (lt_of_heap x1)).trans x1
  have x2 := (c.block _ (lt_of_heap x2)).trans x2
  have hb := hb.trans (c.mono hb.size)
  obtain ⟨A3, hA⟩ : ∃ A, w8.heap.size = A := ⟨_, rfl⟩
  rw [hA] at x3 x4 ⊢
  clear hA hg1 hg2 c' c9 k9 k10 c
  obtain ⟨q0, q1, q2, q3⟩ := CT.out _ hb
  go_wp2_with fail
  refine Calls.mono (merge_any (NIN.out _ hb) (NIN.out _ hb) a1) ?_
  rintro e w11 ⟨v5, rfl, oo5, c⟩
  have hs := hb.size
  have hb := hb.trans (c.mono hb.size)
  obtain ⟨pa5, pm5, pc5, ka5, km5, kc5, ia5, im5, ic5, rfl⟩ := own_form oo5
  have o5 := (own3 oo5).base hs
  clear oo5
  have o1 := o1.below c
  have o2 := o2.below c
  have o3 := o3.below c
  have o4 := o4.below c
  have x1 := (c.block _ (lt_of_heap x1)).trans x1
  have x2 := (c.block _ (lt_of_heap x2)).trans x2
  have x3 := (c.block _ (lt_of_heap x3)).trans x3
  have x4 := (c.block _ (lt_of_heap x4)).trans x4
  have hg := heap_alloc_new w11 zNdO
  have c' := below_new w11 zNdO
  clear c hs q0 q1 q2 q3
  generalize hlz5 : Nd.leaf (mergeN z0 a1 z0).1 = l5 at *
  clear hlz5
  go_wp2_with (with_reducible refine wpList_store_nd (a0 := w11) (B := w11.heap.size) rfl (.tmp 16) (.tmp 59) rfl w11.heap.size l5 (.slice pa5 pm5 pc5) (.slice ka5 km5 kc5) (.slice ia5 im5 ic5) rfl rfl #[.bool false, .slice none 0 0, .slice none 0 0, .slice none 0 0] hg rfl (.mk _ _ _) (.mk _ _ _) (.mk _ _ _) c' (Nat.le_refl _) ?_)
  rintro w12 - x5 c -
  have o1 := o1.below c
  have o2 := o2.below c
  have o3 := o3.below c
  have o4 := o4.below c
  have o5 := o5.below c
  have x1 := (c.block _ (lt_of_heap x1)).trans x1
  have x2 := (c.block _ (lt_of_heap x2)).trans x2
  have x3 := (c.block _ (lt_of_heap x3)).trans x3
  have x4 := (c.block _ (lt_of_heap x4)).trans x4
  have hb := hb.trans (c.mono hb.size)
  obtain ⟨A5, hA⟩ : ∃ A, w11.heap.size = A := ⟨_, rfl⟩
  rw [hA] at x5 ⊢
  clear hA hg c' c
  obtain ⟨q0, q1, q2, q3⟩ := CT.out _ hb
  obtain ⟨y10, y11, y12, y13⟩ := NdCells.of x1
  obtain ⟨y20, y21, y22, y23⟩ := NdCells.of x2
  obtain ⟨y30, y31, y32, y33⟩ := NdCells.of x3
  obtain ⟨y40, y41, y42, y43⟩ := NdCells.of x4
  obtain ⟨y50, y51, y52, y53⟩ := NdCells.of x5
  have bn := build_nd5 l1 l2 l3 l4 l5 (p0 := .slice pa1 pm1 pc1) (k0 := .slice ka1 km1 kc1) (i0 := .slice ia1 im1 ic1) (p1 := .slice pa2 pm2 pc2) (k1 := .slice ka2 km2 kc2) (i1 := .slice ia2 im2 ic2) (p2 := .slice pa3 pm3 pc3) (k2 := .slice ka3 km3 kc3) (i2 := .slice ia3 im3 ic3) (p3 := .slice pa4 pm4 pc4) (k3 := .slice ka4 km4 kc4) (i3 := .slice ia4 im4 ic4) (p4 := .slice pa5 pm5 pc5) (k4 := .slice ka5 km5 kc5) (i4 := .slice ia5 im5 ic5) (.mk _ _ _) (.mk _ _ _) (.mk _ _ _) (.mk _ _ _) (.mk _ _ _) (.mk _ _ _) (.mk _ _ _) (.mk _ _ _) (.mk _ _ _) (.mk _ _ _) (.mk _ _ _) (.mk _ _ _) (.mk _ _ _) (.mk _ _ _) (.mk _ _ _) w12
  obtain ⟨G, hG⟩ : ∃ G, w12.heap.size = G := ⟨_, rfl⟩
  obtain ⟨w13, hw13⟩ : ∃ w13, w12.alloc (.cells (rowN l1 l2 l3 l4 l5 (.slice pa1 pm1 pc1) (.slice ka1 km1 kc1) (.slice ia1 im1 ic1) (.slice pa2 pm2 pc2) (.slice ka2 km2 kc2) (.slice ia2 im2 ic2) (.slice pa3 pm3 pc3) (.slice ka3 km3 kc3) (.slice ia3 im3 ic3) (.slice pa4 pm4 pc4) (.slice ka4 km4 kc4) (.slice ia4 im4 ic4) (.slice pa5 pm5 pc5) (.slice ka5 km5 kc5) (.slice ia5 im5 ic5)) 32) = w13 := ⟨_, rfl⟩
  have hg13 := heap_alloc_new w12 (.cells (rowN l1 l2 l3 l4 l5 (.slice pa1 pm1 pc1) (.slice ka1 km1 kc1) (.slice ia1 im1 ic1) (.slice pa2 pm2 pc2) (.slice ka2 km2 kc2) (.slice ia2 im2 ic2) (.slice pa3 pm3 pc3) (.slice ka3 km3 kc3) (.slice ia3 im3 ic3) (.slice pa4 pm4 pc4) (.slice ka4 km4 kc4) (.slice ia4 im4 ic4) (.slice pa5 pm5 pc5) (.slice ka5 km5 kc5) (.slice ia5 im5 ic5)) 32)
  have c := below_new w12 (.cells (rowN l1 l2 l3 l4 l5 (.slice pa1 pm1 pc1) (.slice ka1 km1 kc1) (.slice ia1 im1 ic1) (.slice pa2 pm2 pc2) (.slice ka2 km2 kc2) (.slice ia2 im2 ic2) (.slice pa3 pm3 pc3) (.slice ka3 km3 kc3) (.slice ia3 im3 ic3) (.slice pa4 pm4 pc4) (.slice ka4 km4 kc4) (.slice ia4 im4 ic4) (.slice pa5 pm5 pc5) (.slice ka5 km5 kc5) (.slice ia5 im5 ic5)) 32)
  rw [hw13, hG] at bn
  rw [hw13, hG] at hg13
  rw [hw13, hG] at c
  have hb13 := hb.trans (c.mono (by rw [← hG]; exact hb.size))
  have hHG : w12.heap.size ≤ G := Nat.le_of_eq hG
  obtain ⟨lp1, lk1, li1, rp1, rk1, ri1⟩ := o1
  obtain ⟨lp2, lk2, li2, rp2, rk2, ri2⟩ := o2
  obtain ⟨lp3, lk3, li3, rp3, rk3, ri3⟩ := o3
  obtain ⟨lp4, lk4, li4, rp4, rk4, ri4⟩ := o4
  obtain ⟨lp5, lk5, li5, rp5, rk5, ri5⟩ := o5
  have hap : Ap w3.heap.size G G w3 (five (.slice pa1 pm1 pc1) (.slice pa2 pm2 pc2) (.slice pa3 pm3 pc3) (.slice pa4 pm4 pc4) (.slice pa5 pm5 pc5)) (five (.slice ka1 km1 kc1) (.slice ka2 km2 kc2) (.slice ka3 km3 kc3) (.slice ka4 km4 kc4) (.slice ka5 km5 kc5)) (five (.slice ia1 im1 ic1) (.slice ia2 im2 ic2) (.slice ia3 im3 ic3) (.slice ia4 im4 ic4) (.slice ia5 im5 ic5)) w13 :=
    ⟨hb13, row_cells hg13, five_all ((WRow.of rp1 HZW.out hHG).below c) ((WRow.of rp2 HZW.out hHG).below c) ((WRow.of rp3 HZW.out hHG).below c) ((WRow.of rp4 HZW.out hHG).below c) ((WRow.of rp5 HZW.out hHG).below c), five_all ((WRow.of rk1 HZW.out hHG).below c) ((WRow.of rk2 HZW.out hHG).below c) ((WRow.of rk3 HZW.out hHG).below c) ((WRow.of rk4 HZW.out hHG).below c) ((WRow.of rk5 HZW.out hHG).below c), five_all ((WRow.of ri1 HZW.out hHG).below c) ((WRow.of ri2 HZW.out hHG).below c) ((WRow.of ri3 HZW.out hHG).below c) ((WRow.of ri4 HZW.out hHG).below c) ((WRow.of ri5 HZW.out hHG).below c), Nat.le_refl _⟩
  have HAP := Lib.hid hap
  have HW := Lib.hid hw13
  clear hap rp1 rp2 rp3 rp4 rp5 rk1 rk2 rk3 rk4 rk5 ri1 ri2 ri3 ri4 ri5 hg13 c hb13
  obtain ⟨P, hP⟩ : ∃ P, five (.slice pa1 pm1 pc1) (.slice pa2 pm2 pc2) (.slice pa3 pm3 pc3) (.slice pa4 pm4 pc4) (.slice pa5 pm5 pc5) = P := ⟨_, rfl⟩
  obtain ⟨K, hK⟩ : ∃ K, five (.slice ka1 km1 kc1) (.slice ka2 km2 kc2) (.slice ka3 km3 kc3) (.slice ka4 km4 kc4) (.slice ka5 km5 kc5) = K := ⟨_, rfl⟩
  obtain ⟨I, hI⟩ : ∃ I, five (.slice ia1 im1 ic1) (.slice ia2 im2 ic2) (.slice ia3 im3 ic3) (.slice ia4 im4 ic4) (.slice ia5 im5 ic5) = I := ⟨_, rfl⟩
  rw [hP, hK, hI] at HAP
  clear hP hK hI hHG hb
  go_wp2
  go_loopw [19] (fun iv wr => ∃ i : Nat, i ≤ 5 ∧ iv = .int .i64 i ∧ Ap w3.heap.size G G w3 P K I wr) (fun iv _ => 5 - (intOf iv).toNat)
  case atStart =>
    have h13 := HAP.out
    rw [← HW.out] at h13
    exact ⟨0, by omega, rfl, h13⟩
  case round =>
    obtain ⟨i, hi, rfl, hA⟩ := hrel
    by_cases hlt : i < 5
    · obtain ⟨ra, rm, rc, sa, sm, sc, ta, tm, tc, e1, e2, e3, m1, m2, m3⟩ := hA.forms hlt
      obtain ⟨d1, d2, d3⟩ := hA.c i hlt
      rw [e1] at d1
      rw [e2] at d2
      rw [e3] at d3
      have E1 := Lib.hid e1
      have E2 := Lib.hid e2
      have E3 := Lib.hid e3
      unfold maxLen at m1 m2 m3
      clear e1 e2 e3
      go_wp2
      go_loopw [20] (fun kv wr => ∃ k : Nat, k ≤ rm ∧ kv = .int .i64 k ∧ Ap w3.heap.size G G w3 P K I wr) (fun kv _ => rm - (intOf kv).toNat)
      case atStart => exact ⟨0, Nat.zero_le _, rfl, hA⟩
      case round =>
        obtain ⟨k, hk, rfl, hA⟩ := hrel
        obtain ⟨d1, d2, d3⟩ := hA.c i hlt
        rw [E1.out] at d1
        rw [E2.out] at d2
        rw [E3.out] at d3
        by_cases hk2 : k < rm
        · obtain ⟨gb, u, u', rfl, k0, k1, k2, k3, hA'⟩ := hA.pair hlt E1.out hk2 (.string ⟨#[33]⟩) (.string ByteArray.empty)
          clear hA
          go_wp2
          go_roundw
          case rel => exact ⟨k + 1, by omega, by go_num, hA'⟩
          case measure => simp [intOf]; omega
        · clear hk
          go_wp2
          go_loopw [21] (fun kv wr => ∃ k : Nat, k ≤ sm ∧ kv = .int .i64 k ∧ Ap w3.heap.size G G w3 P K I wr) (fun kv _ => sm - (intOf kv).toNat)
          case atStart => exact ⟨0, Nat.zero_le _, rfl, hA⟩
          case round =>
            obtain ⟨k, hk, rfl, hA⟩ := hrel
            obtain ⟨d1, d2, d3⟩ := hA.c i hlt
            rw [E1.out] at d1
            rw [E2.out] at d2
            rw [E3.out] at d3
            by_cases hk2 : k < sm
            · obtain ⟨gb, u, rfl, k0, k1, hA'⟩ := hA.oneK hlt E2.out hk2 (.string ⟨#[33]⟩)
              clear hA
              go_wp2
              go_roundw
              case rel => exact ⟨k + 1, by omega, by go_num, hA'⟩
              case measure => simp [intOf]; omega
            · clear hk
              go_wp2
              go_loopw [22] (fun kv wr => ∃ k : Nat, k ≤ tm ∧ kv = .int .i64 k ∧ Ap w3.heap.size G G w3 P K I wr) (fun kv _ => tm - (intOf kv).toNat)
              case atStart => exact ⟨0, Nat.zero_le _, rfl, hA⟩
              case round =>
                obtain ⟨k, hk, rfl, hA⟩ := hrel
                obtain ⟨d1, d2, d3⟩ := hA.c i hlt
                rw [E1.out] at d1
                rw [E2.out] at d2
                rw [E3.out] at d3
                by_cases hk2 : k < tm
                · obtain ⟨gb, u, rfl, k0, k1, hA'⟩ := hA.oneI hlt E3.out hk2 (.int .i64 0)
                  clear hA
                  go_wp2
                  go_roundw
                  case rel => exact ⟨k + 1, by omega, by go_num, hA'⟩
                  case measure => simp [intOf]; omega
                · clear hk
                  go_wp2
                  go_roundw
                  case rel => exact ⟨i + 1, by omega, by go_num, hA⟩
                  case measure => simp [intOf]; omega
    · have hb := hA.b
      clear hA hi HAP
      go_wp2_with fail
      have hS := hb.drew
      refine wp_region_held_drew (S := fun w' => Below w3.heap.size w3 w') mixed hS (fun _ => ?_)
      show wpAnyH _ _ _ _ _ 5 (Array.replicate 5 false) _ _
      refine wpAnyH_take_d 0 (some 125) (.agg #[.bool lf, .slice (some ⟨g1, 0, none⟩) N1 (N1 + 1), .slice (some ⟨g2, 0, none⟩) N2 (N2 + 1), .slice (some ⟨g3, 0, none⟩) N3 (N3 + 1)]) rfl (by kernel_rfl) (by kernel_rfl) (by kernel_rfl) (by kernel_rfl) rfl (fun _ _ _ h => h) (fun w' h => ex_row rfl rfl (range4s (CT.out _ h)) Try.underlying32 rfl (by kernel_rfl)) (by exact hS) ?_
      simp only [Act.put, List.setIfInBounds_toArray, List.set_cons_succ, List.set_cons_zero]
      refine wpAnyH_take_d 2 (some 127) (.agg #[.bool lf, .slice pa pm pc, .slice ka km kc, .slice ia im ic]) rfl (by kernel_rfl) (by kernel_rfl) (by kernel_rfl) (by kernel_rfl) rfl (fun _ _ _ h => h) (fun w' h => ex_row rfl rfl (range4s (RZ.out _ h)) Try.underlying26 rfl (by kernel_rfl)) (by exact hS) ?_
      simp only [Act.put, List.setIfInBounds_toArray, List.set_cons_succ, List.set_cons_zero]
      refine wpAnyH_call 1 (some 126) 23 #[.agg #[.bool lf, .slice (some ⟨g1, 0, none⟩) N1 (N1 + 1), .slice (some ⟨g2, 0, none⟩) N2 (N2 + 1), .slice (some ⟨g3, 0, none⟩) N3 (N3 + 1)]] rfl (by kernel_rfl) (by kernel_rfl) rfl (by kernel_rfl) (back_any (.mk _ _ _) (.mk _ _ _) (.mk _ _ _)) ?_
      rintro e wx ⟨rfl, bx⟩
      have hS := hS.trans (bx.mono hS.size)
      refine ⟨_, rfl, hS, ?_⟩
      simp only [Act.put, List.setIfInBounds_toArray, List.set_cons_succ, List.set_cons_zero]
      refine wpAnyH_call 3 (some 128) 22 #[.agg #[.bool lf, .slice (some ⟨g1, 0, none⟩) N1 (N1 + 1), .slice (some ⟨g2, 0, none⟩) N2 (N2 + 1), .slice (some ⟨g3, 0, none⟩) N3 (N3 + 1)], .agg #[.bool lf, .slice pa pm pc, .slice ka km kc, .slice ia im ic]] rfl (by kernel_rfl) (by kernel_rfl) rfl (by kernel_rfl) (same_any (NIN.out _ hS) (NZ.out _ hS)) ?_
      rintro e wx ⟨rfl, bx⟩
      have hS := hS.trans (bx.mono hS.size)
      refine ⟨_, rfl, hS, ?_⟩
      simp only [Act.put, List.setIfInBounds_toArray, List.set_cons_succ, List.set_cons_zero]
      refine wpAnyH_take_d 4 (some 129) (.bool false) rfl (by kernel_rfl) (by kernel_rfl) (by kernel_rfl) (by kernel_rfl) rfl (fun _ _ _ h => h) (fun _ _ => by kernel_rfl) (by exact hS) ?_
      simp only [Act.put, List.setIfInBounds_toArray, List.set_cons_succ, List.set_cons_zero]
      refine wpAnyH_done (by kernel_rfl) ?_ _
      rename_i wx
      go_wp2_with fail
      have hS := hS.drew
      refine wp_region_held_drew (S := fun w' => Below w3.heap.size w3 w') mixed hS (fun _ => ?_)
      show wpAnyH _ _ _ _ _ 21 (Array.replicate 21 false) _ _
      refine wpAnyH_take_d 0 (some 130) (.pointer (some ⟨T, 1, none⟩)) rfl (by kernel_rfl) (by kernel_rfl) (by kernel_rfl) (by kernel_rfl) rfl (fun _ _ _ h => h) (fun _ _ => by kernel_rfl) (by exact hS) ?_
      simp only [Act.put, List.setIfInBounds_toArray, List.set_cons_succ, List.set_cons_zero]
      refine wpAnyH_take_d 1 (some 131) (.slice (some ⟨g1, 0, none⟩) N1 (N1 + 1)) rfl (by kernel_rfl) (by kernel_rfl) (by kernel_rfl) (by kernel_rfl) rfl (fun _ _ _ h => h) (fun w' h => exec_load_cell rfl rfl (CT.out _ h).c1 Try.underlying22 rfl) (by exact hS) ?_
      simp only [Act.put, List.setIfInBounds_toArray, List.set_cons_succ, List.set_cons_zero]
      refine wpAnyH_take_d 2 (some 132) (.pointer (some ⟨T, 1, none⟩)) rfl (by kernel_rfl) (by kernel_rfl) (by kernel_rfl) (by kernel_rfl) rfl (fun _ _ _ h => h) (fun _ _ => by kernel_rfl) (by exact hS) ?_
      simp only [Act.put, List.setIfInBounds_toArray, List.set_cons_succ, List.set_cons_zero]
      refine wpAnyH_take_d 3 (some 133) (.slice (some ⟨g1, 0, none⟩) N1 (N1 + 1)) rfl (by kernel_rfl) (by kernel_rfl) (by kernel_rfl) (by kernel_rfl) rfl (fun _ _ _ h => h) (fun w' h => exec_load_cell rfl rfl (CT.out _ h).c1 Try.underlying22 rfl) (by exact hS) ?_
      simp only [Act.put, List.setIfInBounds_toArray, List.set_cons_succ, List.set_cons_zero]
      refine wpAnyH_take_d 4 (some 134) (.int .i64 ((N1 + 1 : Nat) : Int)) rfl (by kernel_rfl) (by kernel_rfl) (by kernel_rfl) (by kernel_rfl) rfl (fun _ _ _ h => h) (fun _ _ => ex_cap rfl rfl Try.underlying22) (by exact hS) ?_
      simp only [Act.put, List.setIfInBounds_toArray, List.set_cons_succ, List.set_cons_zero]
      refine wpAnyH_take_d 5 (some 135) (.slice (some ⟨g1, 0, none⟩) (N1 + 1) (N1 + 1)) rfl (by kernel_rfl) (by kernel_rfl) (by kernel_rfl) (by kernel_rfl) rfl (fun _ _ _ h => h) (fun w' _ => ex_slice rfl rfl rfl rfl (slP_to _ (Nat.le_refl _) w')) (by exact hS) ?_
      simp only [Act.put, List.setIfInBounds_toArray, List.set_cons_succ, List.set_cons_zero]
      refine wpAnyH_take_d 6 (some 136) (.pointer (some ⟨T, 2, none⟩)) rfl (by kernel_rfl) (by kernel_rfl) (by kernel_rfl) (by kernel_rfl) rfl (fun _ _ _ h => h) (fun _ _ => by kernel_rfl) (by exact hS) ?_
      simp only [Act.put, List.setIfInBounds_toArray, List.set_cons_succ, List.set_cons_zero]
      refine wpAnyH_take_d 7 (some 137) (.slice (some ⟨g2, 0, none⟩) N2 (N2 + 1)) rfl (by kernel_rfl) (by kernel_rfl) (by kernel_rfl) (by kernel_rfl) rfl (fun _ _ _ h => h) (fun w' h => exec_load_cell rfl rfl (CT.out _ h).c2 Try.underlying23 rfl) (by exact hS) ?_
      simp only [Act.put, List.setIfInBounds_toArray, List.set_cons_succ, List.set_cons_zero]
      refine wpAnyH_take_d 8 (some 138) (.pointer (some ⟨T, 2, none⟩)) rfl (by kernel_rfl) (by kernel_rfl) (by kernel_rfl) (by kernel_rfl) rfl (fun _ _ _ h => h) (fun _ _ => by kernel_rfl) (by exact hS) ?_
      simp only [Act.put, List.setIfInBounds_toArray, List.set_cons_succ, List.set_cons_zero]
      refine wpAnyH_take_d 9 (some 139) (.slice (some ⟨g2, 0, none⟩) N2 (N2 + 1)) rfl (by kernel_rfl) (by kernel_rfl) (by kernel_rfl) (by kernel_rfl) rfl (fun _ _ _ h => h) (fun w' h => exec_load_cell rfl rfl (CT.out _ h).c2 Try.underlying23 rfl) (by exact hS) ?_
      simp only [Act.put, List.setIfInBounds_toArray, List.set_cons_succ, List.set_cons_zero]
      refine wpAnyH_take_d 10 (some 140) (.int .i64 ((N2 + 1 : Nat) : Int)) rfl (by kernel_rfl) (by kernel_rfl) (by kernel_rfl) (by kernel_rfl) rfl (fun _ _ _ h => h) (fun _ _ => ex_cap rfl rfl Try.underlying23) (by exact hS) ?_
      simp only [Act.put, List.setIfInBounds_toArray, List.set_cons_succ, List.set_cons_zero]
      refine wpAnyH_take_d 11 (some 141) (.slice (some ⟨g2, 0, none⟩) (N2 + 1) (N2 + 1)) rfl (by kernel_rfl) (by kernel_rfl) (by kernel_rfl) (by kernel_rfl) rfl (fun _ _ _ h => h) (fun w' _ => ex_slice rfl rfl rfl rfl (slS_to _ (Nat.le_refl _) w')) (by exact hS) ?_
      simp only [Act.put, List.setIfInBounds_toArray, List.set_cons_succ, List.set_cons_zero]
      refine wpAnyH_take_d 12 (some 142) (.pointer (some ⟨T, 3, none⟩)) rfl (by kernel_rfl) (by kernel_rfl) (by kernel_rfl) (by kernel_rfl) rfl (fun _ _ _ h => h) (fun _ _ => by kernel_rfl) (by exact hS) ?_
      simp only [Act.put, List.setIfInBounds_toArray, List.set_cons_succ, List.set_cons_zero]
      refine wpAnyH_take_d 13 (some 143) (.slice (some ⟨g3, 0, none⟩) N3 (N3 + 1)) rfl (by kernel_rfl) (by kernel_rfl) (by kernel_rfl) (by kernel_rfl) rfl (fun _ _ _ h => h) (fun w' h => exec_load_cell rfl rfl (CT.out _ h).c3 Try.underlying24 rfl) (by exact hS) ?_
      simp only [Act.put, List.setIfInBounds_toArray, List.set_cons_succ, List.set_cons_zero]
      refine wpAnyH_take_d 14 (some 144) (.pointer (some ⟨T, 3, none⟩)) rfl (by kernel_rfl) (by kernel_rfl) (by kernel_rfl) (by kernel_rfl) rfl (fun _ _ _ h => h) (fun _ _ => by kernel_rfl) (by exact hS) ?_
      simp only [Act.put, List.setIfInBounds_toArray, List.set_cons_succ, List.set_cons_zero]
      refine wpAnyH_take_d 15 (some 145) (.slice (some ⟨g3, 0, none⟩) N3 (N3 + 1)) rfl (by kernel_rfl) (by kernel_rfl) (by kernel_rfl) (by kernel_rfl) rfl (fun _ _ _ h => h) (fun w' h => exec_load_cell rfl rfl (CT.out _ h).c3 Try.underlying24 rfl) (by exact hS) ?_
      simp only [Act.put, List.setIfInBounds_toArray, List.set_cons_succ, List.set_cons_zero]
      refine wpAnyH_take_d 16 (some 146) (.int .i64 ((N3 + 1 : Nat) : Int)) rfl (by kernel_rfl) (by kernel_rfl) (by kernel_rfl) (by kernel_rfl) rfl (fun _ _ _ h => h) (fun _ _ => ex_cap rfl rfl Try.underlying24) (by exact hS) ?_
      simp only [Act.put, List.setIfInBounds_toArray, List.set_cons_succ, List.set_cons_zero]
      refine wpAnyH_take_d 17 (some 147) (.slice (some ⟨g3, 0, none⟩) (N3 + 1) (N3 + 1)) rfl (by kernel_rfl) (by kernel_rfl) (by kernel_rfl) (by kernel_rfl) rfl (fun _ _ _ h => h) (fun w' _ => ex_slice rfl rfl rfl rfl (slI_to _ (Nat.le_refl _) w')) (by exact hS) ?_
      simp only [Act.put, List.setIfInBounds_toArray, List.set_cons_succ, List.set_cons_zero]
      refine wpAnyH_take_d 18 (some 23) (.slice (some ⟨g1, 0, none⟩) (N1 + 1) (N1 + 1)) rfl (by kernel_rfl) (by kernel_rfl) (by kernel_rfl) (by kernel_rfl) rfl (fun _ _ _ h => h) (fun _ _ => by kernel_rfl) (by exact hS) ?_
      simp only [Act.put, List.setIfInBounds_toArray, List.set_cons_succ, List.set_cons_zero]
      refine wpAnyH_take_d 19 (some 24) (.slice (some ⟨g2, 0, none⟩) (N2 + 1) (N2 + 1)) rfl (by kernel_rfl) (by kernel_rfl) (by kernel_rfl) (by kernel_rfl) rfl (fun _ _ _ h => h) (fun _ _ => by kernel_rfl) (by exact hS) ?_
      simp only [Act.put, List.setIfInBounds_toArray, List.set_cons_succ, List.set_cons_zero]
      refine wpAnyH_take_d 20 (some 25) (.slice (some ⟨g3, 0, none⟩) (N3 + 1) (N3 + 1)) rfl (by kernel_rfl) (by kernel_rfl) (by kernel_rfl) (by kernel_rfl) rfl (fun _ _ _ h => h) (fun _ _ => by kernel_rfl) (by exact hS) ?_
      simp only [Act.put, List.setIfInBounds_toArray, List.set_cons_succ, List.set_cons_zero]
      refine wpAnyH_done (by kernel_rfl) ?_ _
      obtain ⟨V, hV⟩ : ∃ V, wx.drew = V := ⟨_, rfl⟩
      rw [hV] at hS ⊢
      clear hV
      obtain ⟨q0, q1, q2, q3⟩ := CT.out _ hS
      go_wp2
      go_loopw [26] (fun iv wr => ∃ k : Nat, N1 ≤ k ∧ k ≤ N1 + 1 ∧ iv = .int .i64 k ∧ Below w3.heap.size w3 wr) (fun iv _ => N1 + 1 - (intOf iv).toNat)
      case atStart => exact ⟨N1, Nat.le_refl _, Nat.le_succ _, rfl, hS⟩
      case round =>
        obtain ⟨k, hk1, hk2, rfl, hS⟩ := hrel
        obtain ⟨q0, q1, q2, q3⟩ := CT.out _ hS
        by_cases hlt : k < N1 + 1
        · obtain rfl : k = N1 := by omega
          have y0 : wr.cell? ⟨g1, k * 2, none⟩ = some (.string ByteArray.empty) := spareF okP (F1.out _ hS) (j := 0) rfl
          have y1 : wr.cell? ⟨g1, k * 2 + 1, none⟩ = some (.string ByteArray.empty) := spareF okP (F1.out _ hS) (j := 1) rfl
          go_wp2
          go_roundw
          case rel => exact ⟨k + 1, by omega, by omega, by go_num, hS⟩
          case measure => simp [intOf] <;> omega
        · clear hk1 hk2
          go_wp2
          go_loopw [27] (fun iv wr => ∃ k : Nat, N2 ≤ k ∧ k ≤ N2 + 1 ∧ iv = .int .i64 k ∧ Below w3.heap.size w3 wr) (fun iv _ => N2 + 1 - (intOf iv).toNat)
          case atStart => exact ⟨N2, Nat.le_refl _, Nat.le_succ _, rfl, hS⟩
          case round =>
            obtain ⟨k, hk1, hk2, rfl, hS⟩ := hrel
            obtain ⟨q0, q1, q2, q3⟩ := CT.out _ hS
            by_cases hlt : k < N2 + 1
            · obtain rfl : k = N2 := by omega
              have t0 : wr.cell? ⟨g2, k * 1 + 0, none⟩ = some (.string ByteArray.empty) := spareF okS (F2.out _ hS) (j := 0) rfl
              rw [Nat.mul_one, Nat.add_zero] at t0
              go_wp2
              go_roundw
              case rel => exact ⟨k + 1, by omega, by omega, by go_num, hS⟩
              case measure => simp [intOf] <;> omega
            · clear hk1 hk2
              go_wp2
              go_loopw [28] (fun iv wr => ∃ k : Nat, N3 ≤ k ∧ k ≤ N3 + 1 ∧ iv = .int .i64 k ∧ Below w3.heap.size w3 wr) (fun iv _ => N3 + 1 - (intOf iv).toNat)
              case atStart => exact ⟨N3, Nat.le_refl _, Nat.le_succ _, rfl, hS⟩
              case round =>
                obtain ⟨k, hk1, hk2, rfl, hS⟩ := hrel
                obtain ⟨q0, q1, q2, q3⟩ := CT.out _ hS
                by_cases hlt : k < N3 + 1
                · obtain rfl : k = N3 := by omega
                  have t0 : wr.cell? ⟨g3, k * 1 + 0, none⟩ = some (.int .i64 0) := spareF okZ (F3.out _ hS) (j := 0) rfl
                  rw [Nat.mul_one, Nat.add_zero] at t0
                  go_wp2
                  go_roundw
                  case rel => exact ⟨k + 1, by omega, by omega, by go_num, hS⟩
                  case measure => simp [intOf] <;> omega
                · clear hk1 hk2
                  go_wp2
                  go_ret
                  exact ⟨rfl, HB.out.trans (hS.mono HB.out.size)⟩

/-! ### the row -/
theorem laidOut : laidOutB Try.prog = true := by kernel_rfl
theorem bytesInt : Try.prog.bytesOf 3 = 8 := by kernel_rfl
set_option maxRecDepth 100000 in
theorem lifted (os : Os) (started : os.Started) (H : Type) (enc : TypeId × Value → H) :
    ReturnsInHanded {} Try.checked os 9 .any (Rows.nodeApartSpec.pre6 enc Try.prog Try.f9 Rows.nodeApartRow.domain false) (Rows.nodeApartSpec.post enc Try.prog Try.f9 false true false false) := by
  refine returnsInHanded_of_change_sized (C := Try.checked) own started (by kernel_rfl) Try.func9
    (ChangeSpec.witness6 (enc := enc) (C := Try.checked) false ⟨#[], #[.agg #[.bool false, .slice none 0 0, .slice none 0 0, .slice none 0 0], .string ByteArray.empty, .string ByteArray.empty], []⟩ 8 (by kernel_rfl) (by kernel_rfl) (by kernel_rfl) (by kernel_rfl)) ?_
  intro W base args ds gs before hval0 hW hcnd hsz0 _
  have hval : ∀ (j : Nat) t v, Try.f9.params[j]? = some t → args[j]? = some v → Value.okWide Try.prog W .any base t v := hval0
  have hW' := hW
  obtain ⟨p, q, hA0, hV, rfl, hfz, hnd⟩ := hW
  have hA : DataW.TrodAll enc Try.prog W 0 (fun _ => true) true Try.f9.params.toList args.toList ds p := hA0
  have hsz : (DataW.weightsEach Try.prog (Try.f9.params.toList ++ Rows.nodeApartSpec.plain.varTypes Try.prog) (ds ++ gs)).all (· ≤ reachBytes) = true := hsz0
  rw [Try.params9] at hA hval hsz
  obtain ⟨v0, vs0, d0, ds0, p0, q0, hargs, rfl, rfl, h0, r0⟩ := trodAll_cons hA
  obtain ⟨v1, vs1, d1, ds1, p1, q1, rfl, rfl, rfl, h1, r1⟩ := trodAll_cons r0
  obtain ⟨v2, vs2, d2, ds2, p2, q2, rfl, rfl, rfl, h2, r2⟩ := trodAll_cons r1
  obtain ⟨rfl, rfl, rfl⟩ := trodAll_nil r2
  obtain rfl : args = #[v0, v1, v2] := by cases args; simp_all
  obtain ⟨rfl, rfl⟩ := trodVars_none hV
  have k0 := h0
  have lt0 := args_lt k0
  obtain ⟨z0, w0⟩ := nd_arg (hval 0 26 v0 rfl rfl) (fun k hk => of_decide_eq_true (List.all_eq_true.1 hsz _ (DataW.weights_mem_each (j := 0) (t := 26) (d := d0) rfl rfl k hk))) h0
  obtain ⟨a1, rfl, rfl, rfl, w1⟩ := Go.ChangeMaps.open_string Try.underlying9 (hval 1 9 v1 rfl rfl) h1
  obtain ⟨a2, rfl, rfl, rfl, w2⟩ := Go.ChangeMaps.open_string Try.underlying9 (hval 2 9 v2 rfl rfl) h2
  clear hA0 hval0 hsz0
  refine (walk v0 z0 a1 w1 a2 w2 W w0).mono fun e W' ⟨he, bel⟩ => ?_
  subst he
  exact ⟨_, rfl, _, _, _, [], _, [], hW', trodAll_mk1 (shut_bool Try.underlying4 _), (trodAll_cons_mk (Below.trod laidOut (by kernel_rfl) (of_decide_eq_true (by kernel_rfl)) k0 bel lt0) (trodAll_cons_mk (Go.ChangeMaps.shut_string Try.underlying9 w1) (trodAll_cons_mk (Go.ChangeMaps.shut_string Try.underlying9 w2) trodAll_mk0))), rfl, bel.frame _, fun h => by cases h⟩

theorem over : Rows.nodeApartRow.holds Try.pinned (OpenSpec.ofChange Rows.nodeApartSpec) :=
  OpenClaim.holds_of_wide 9 Try.f9 rfl rfl rfl rfl rfl rfl rfl ⟨rfl, rfl, rfl, rfl, rfl⟩ rfl rfl rfl rfl rfl (by kernel_rfl) Try.func9 (by kernel_rfl)
    (of_decide_eq_true (by kernel_rfl)) (by unfold Func.isWrapper; first | (rw [if_pos (by decide +kernel)]; kernel_rfl) | (rw [if_neg (by decide +kernel)]; exact ⟨rfl, rfl⟩))
    (fun os started H enc _ => lifted os started H enc)
end Go.Proofs.Ytdkmfcmndncmcaa.nodeApart

namespace Go.Proofs.Ytdkmfcmndncmcaa
/-- The law returns true at every input. -/
theorem nodeApart_holds : Rows.NodeApartSaid := nodeApart.over
end Go.Proofs.Ytdkmfcmndncmcaa

