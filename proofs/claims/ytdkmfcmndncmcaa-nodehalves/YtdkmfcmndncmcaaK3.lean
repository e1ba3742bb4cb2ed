/- Texts that belong together, joined. No statement of the seat is proved here. -/
import Derived.Test.YtdkmfcmndncmcaaNDocSL
import Derived.Test.YtdkmfcmndncmcaaNMerge
import Derived.Test.YtdkmfcmndncmcaaNLf
/- The contract of the document's DocMerge. No statement of the seat is proved here. -/
namespace Go.Proofs.Ytdkmfcmndncmcaa
set_option maxRecDepth 20000
open Go.RowKit

/-- Merge's boxes: two arguments, one result -/
structure MrgR (w : World) (lf1 : Bool) (p1 k1 i1 : Value) (lf2 : Bool) (p2 k2 i2 : Value) (w1 : World) : Prop where
  c1 : NdCells w1 w.heap.size lf1 p1 k1 i1
  c2 : NdCells w1 (w.heap.size + 1) lf2 p2 k2 i2
  z : w1.heap[w.heap.size + 2]? = some zrbO
  fr : Below w.heap.size w w1
  sz : w.heap.size + 3 ≤ w1.heap.size
theorem MrgR.below {w w1 w2 : World} {lf1 lf2 : Bool} {p1 k1 i1 p2 k2 i2 : Value} (h : MrgR w lf1 p1 k1 i1 lf2 p2 k2 i2 w1) (b : Below (w.heap.size + 3) w1 w2) : MrgR w lf1 p1 k1 i1 lf2 p2 k2 i2 w2 := by
  have c := fun j => World.cell?_of_block (w := w1) (w' := w2) (a := ⟨w.heap.size, j, none⟩) (b.block w.heap.size (by omega))
  have d := fun j => World.cell?_of_block (w := w1) (w' := w2) (a := ⟨w.heap.size + 1, j, none⟩) (b.block (w.heap.size + 1) (by omega))
  exact ⟨⟨(c 0).trans h.c1.c0, (c 1).trans h.c1.c1, (c 2).trans h.c1.c2, (c 3).trans h.c1.c3⟩, ⟨(d 0).trans h.c2.c0, (d 1).trans h.c2.c1, (d 2).trans h.c2.c2, (d 3).trans h.c2.c3⟩, (b.block _ (by omega)).trans h.z, h.fr.trans (b.mono (by omega)), Nat.le_trans h.sz b.size⟩
theorem mrr_start (w : World) (lf1 lf2 : Bool) (p1 k1 i1 p2 k2 i2 : Value) : MrgR w lf1 p1 k1 i1 lf2 p2 k2 i2 (((w.alloc (rbO lf1 p1 k1 i1)).alloc (rbO lf2 p2 k2 i2)).alloc zrbO) := by
  have s1 : (w.alloc (rbO lf1 p1 k1 i1)).heap.size = w.heap.size + 1 := by simp
  have s2 : ((w.alloc (rbO lf1 p1 k1 i1)).alloc (rbO lf2 p2 k2 i2)).heap.size = w.heap.size + 2 := by simp
  have s3 : (((w.alloc (rbO lf1 p1 k1 i1)).alloc (rbO lf2 p2 k2 i2)).alloc zrbO).heap.size = w.heap.size + 3 := by simp
  have a0 := heap_alloc_new w (rbO lf1 p1 k1 i1)
  have a1 := heap_alloc_new (w.alloc (rbO lf1 p1 k1 i1)) (rbO lf2 p2 k2 i2)
  have a2 := heap_alloc_new ((w.alloc (rbO lf1 p1 k1 i1)).alloc (rbO lf2 p2 k2 i2)) zrbO
  rw [s1] at a1
  rw [s2] at a2
  have b1 : Below (w.heap.size + 1) (w.alloc (rbO lf1 p1 k1 i1)) ((w.alloc (rbO lf1 p1 k1 i1)).alloc (rbO lf2 p2 k2 i2)) := (Below.refl _ _).alloc (by omega) _
  have b2 : Below (w.heap.size + 2) ((w.alloc (rbO lf1 p1 k1 i1)).alloc (rbO lf2 p2 k2 i2)) (((w.alloc (rbO lf1 p1 k1 i1)).alloc (rbO lf2 p2 k2 i2)).alloc zrbO) := (Below.refl _ _).alloc (by omega) _
  exact ⟨NdCells.of ((b2.block _ (by omega)).trans ((b1.block _ (by omega)).trans a0)), NdCells.of ((b2.block _ (by omega)).trans a1), a2, (below_new _ _).trans ((b1.mono (by omega)).trans (b2.mono (by omega))), by omega⟩
set_option maxHeartbeats 6400000 in
theorem docMerge_no {w : World} {v1 v2 : Value} {a b : Nd} (h1 : NdAt w.heap.size w v1 a) (h2 : NdAt w.heap.size w v2 b) (key : ByteArray) (hk : (okN a && okN b && (a.leaf == b.leaf) && okK key) = false) : Calls Try.prog 32 #[v1, .string key, v2] w (NdRet w (.none, 2)) := by
  have HA := Lib.hid (fun (w' : World) (f : Below w.heap.size w w') => And.intro ((h1.below f).more f.size) ((h2.below f).more f.size))
  obtain ⟨pv, kv, iv, rfl, x1, x2, x3⟩ := h1
  obtain ⟨qv, lv, jv, rfl, y1, y2, y3⟩ := h2
  obtain ⟨pa, pm, pc, rfl, -⟩ := x1.form
  obtain ⟨ka, km, kc, rfl, -⟩ := x2.form
  obtain ⟨ia, im, ic, rfl, -⟩ := x3.form
  obtain ⟨qa, qm, qc, rfl, -⟩ := y1.form
  obtain ⟨la, lm, lc, rfl, -⟩ := y2.form
  obtain ⟨ja, jm, jc, rfl, -⟩ := y3.form
  clear x1 x2 x3 y1 y2 y3
  have F := mrr_start w a.leaf b.leaf (.slice pa pm pc) (.slice ka km kc) (.slice ia im ic) (.slice qa qm qc) (.slice la lm lc) (.slice ja jm jc)
  have fa := right_any (HA.out _ F.fr).1
  have FB := Lib.hid (fun (w1 w2 : World) (f : Below w.heap.size w w2) => right_any (HA.out _ f).2)
  have bz := build_rz
  obtain ⟨q0, q1, q2, q3⟩ := F.c1
  obtain ⟨r0, r1, r2, r3⟩ := F.c2
  generalize a.leaf = lf1 at *
  generalize b.leaf = lf2 at *
  cases hka : okN a
  · rw [hka] at fa
    clear hka hk
    go_enter Try.func32, Try.ntmps32
    go_wp2_with fail
    refine fa.mono ?_
    rintro e w4 ⟨rfl, b4⟩
    have F := F.below (b4.mono F.sz)
    clear fa b4 FB HA q0 q1 q2 q3 r0 r1 r2 r3
    have bz1 := bz w4
    have z := F.z
    have fr := F.fr
    clear F bz
    go_wp2_with (with_reducible refine wpList_store_rn (a0 := w) (B := w.heap.size) rfl (.tmp 6) (.tmp 29) rfl (w.heap.size + 2) false (.slice none 0 0) (.slice none 0 0) (.slice none 0 0) rfl rfl #[.bool false, .slice none 0 0, .slice none 0 0, .slice none 0 0] z rfl (.mk _ _ _) (.mk _ _ _) (.mk _ _ _) fr (by omega) ?_)
    rintro w6 ⟨t0, t1, t2, t3⟩ - b6 -
    go_wp2
    exact bodyPost_ret (v := .tuple #[zNd, .int .i64 2]) (by simp [results, Try.results32, go_sem, t0, t1, t2, t3]) rfl (zNd_ret rfl b6)
  · rw [hka] at fa
    cases hkb : okN b
    · clear hka hk
      go_enter Try.func32, Try.ntmps32
      go_wp2_with fail
      refine fa.mono ?_
      rintro e w4 ⟨rfl, b4⟩
      have F := F.below (b4.mono F.sz)
      have fb := FB.out w _ F.fr
      rw [hkb] at fb
      clear fa b4 FB HA q0 q1 q2 q3 r0 r1 r2 r3
      obtain ⟨q0, q1, q2, q3⟩ := F.c1
      obtain ⟨r0, r1, r2, r3⟩ := F.c2
      go_wp2_with fail
      refine fb.mono ?_
      rintro e w5 ⟨rfl, b5⟩
      have F := F.below (b5.mono F.sz)
      clear fb b5 q0 q1 q2 q3 r0 r1 r2 r3
      have bz1 := bz w5
      have z := F.z
      have fr := F.fr
      clear F bz
      go_wp2_with (with_reducible refine wpList_store_rn (a0 := w) (B := w.heap.size) rfl (.tmp 6) (.tmp 29) rfl (w.heap.size + 2) false (.slice none 0 0) (.slice none 0 0) (.slice none 0 0) rfl rfl #[.bool false, .slice none 0 0, .slice none 0 0, .slice none 0 0] z rfl (.mk _ _ _) (.mk _ _ _) (.mk _ _ _) fr (by omega) ?_)
      rintro w6 ⟨t0, t1, t2, t3⟩ - b6 -
      go_wp2
      exact bodyPost_ret (v := .tuple #[zNd, .int .i64 2]) (by simp [results, Try.results32, go_sem, t0, t1, t2, t3]) rfl (zNd_ret rfl b6)
    · cases hlf : (lf1 == lf2)
      · have hne : lf1 ≠ lf2 := by simpa using hlf
        clear hk hlf
        go_enter Try.func32, Try.ntmps32
        go_wp2_with fail
        refine fa.mono ?_
        rintro e w4 ⟨rfl, b4⟩
        have F := F.below (b4.mono F.sz)
        have fb := FB.out w _ F.fr
        rw [hkb] at fb
        clear fa b4 FB HA q0 q1 q2 q3 r0 r1 r2 r3 hka hkb
        obtain ⟨q0, q1, q2, q3⟩ := F.c1
        obtain ⟨r0, r1, r2, r3⟩ := F.c2
        go_wp2_with fail
        refine fb.mono ?_
        rintro e w5 ⟨rfl, b5⟩
        have F := F.below (b5.mono F.sz)
        clear fb b5 q0 q1 q2 q3 r0 r1 r2 r3
        obtain ⟨q0, q1, q2, q3⟩ := F.c1
        obtain ⟨r0, r1, r2, r3⟩ := F.c2
        cases lf1 <;> cases lf2
        · exact absurd rfl hne
        · clear hne
          have bz1 := bz w5
          have z := F.z
          have fr := F.fr
          clear F bz
          go_wp2_with (with_reducible refine wpList_store_rn (a0 := w) (B := w.heap.size) rfl (.tmp 6) (.tmp 29) rfl (w.heap.size + 2) false (.slice none 0 0) (.slice none 0 0) (.slice none 0 0) rfl rfl #[.bool false, .slice none 0 0, .slice none 0 0, .slice none 0 0] z rfl (.mk _ _ _) (.mk _ _ _) (.mk _ _ _) fr (by omega) ?_)
          rintro w6 ⟨t0, t1, t2, t3⟩ - b6 -
          go_wp2
          exact bodyPost_ret (v := .tuple #[zNd, .int .i64 2]) (by simp [results, Try.results32, go_sem, t0, t1, t2, t3]) rfl (zNd_ret rfl b6)
        · clear hne
          have bz1 := bz w5
          have z := F.z
          have fr := F.fr
          clear F bz
          go_wp2_with (with_reducible refine wpList_store_rn (a0 := w) (B := w.heap.size) rfl (.tmp 6) (.tmp 29) rfl (w.heap.size + 2) false (.slice none 0 0) (.slice none 0 0) (.slice none 0 0) rfl rfl #[.bool false, .slice none 0 0, .slice none 0 0, .slice none 0 0] z rfl (.mk _ _ _) (.mk _ _ _) (.mk _ _ _) fr (by omega) ?_)
          rintro w6 ⟨t0, t1, t2, t3⟩ - b6 -
          go_wp2
          exact bodyPost_ret (v := .tuple #[zNd, .int .i64 2]) (by simp [results, Try.results32, go_sem, t0, t1, t2, t3]) rfl (zNd_ret rfl b6)
        · exact absurd rfl hne
      · have hkk : okK key = false := by rw [hka, hkb, hlf] at hk; simpa using hk
        have heq : lf1 = lf2 := by simpa using hlf
        clear hk hlf
        subst heq
        have ik := refKey_any key
        rw [hkk] at ik
        go_enter Try.func32, Try.ntmps32
        go_wp2_with fail
        refine fa.mono ?_
        rintro e w4 ⟨rfl, b4⟩
        have F := F.below (b4.mono F.sz)
        have fb := FB.out w _ F.fr
        rw [hkb] at fb
        clear fa b4 FB HA q0 q1 q2 q3 r0 r1 r2 r3 hka hkb hkk
        obtain ⟨q0, q1, q2, q3⟩ := F.c1
        obtain ⟨r0, r1, r2, r3⟩ := F.c2
        go_wp2_with fail
        refine fb.mono ?_
        rintro e w5 ⟨rfl, b5⟩
        have F := F.below (b5.mono F.sz)
        clear fb b5 q0 q1 q2 q3 r0 r1 r2 r3
        obtain ⟨q0, q1, q2, q3⟩ := F.c1
        obtain ⟨r0, r1, r2, r3⟩ := F.c2
        cases lf1
        · have ik := ik w5
          go_wp2_with fail
          refine ik.mono ?_
          rintro e w5 ⟨rfl, rfl⟩
          clear ik
          have bz1 := bz w5
          have z := F.z
          have fr := F.fr
          clear F bz
          go_wp2_with (with_reducible refine wpList_store_rn (a0 := w) (B := w.heap.size) rfl (.tmp 6) (.tmp 29) rfl (w.heap.size + 2) false (.slice none 0 0) (.slice none 0 0) (.slice none 0 0) rfl rfl #[.bool false, .slice none 0 0, .slice none 0 0, .slice none 0 0] z rfl (.mk _ _ _) (.mk _ _ _) (.mk _ _ _) fr (by omega) ?_)
          rintro w6 ⟨t0, t1, t2, t3⟩ - b6 -
          go_wp2
          exact bodyPost_ret (v := .tuple #[zNd, .int .i64 2]) (by simp [results, Try.results32, go_sem, t0, t1, t2, t3]) rfl (zNd_ret rfl b6)
        · have ik := ik w5
          go_wp2_with fail
          refine ik.mono ?_
          rintro e w5 ⟨rfl, rfl⟩
          clear ik
          have bz1 := bz w5
          have z := F.z
          have fr := F.fr
          clear F bz
          go_wp2_with (with_reducible refine wpList_store_rn (a0 := w) (B := w.heap.size) rfl (.tmp 6) (.tmp 29) rfl (w.heap.size + 2) false (.slice none 0 0) (.slice none 0 0) (.slice none 0 0) rfl rfl #[.bool false, .slice none 0 0, .slice none 0 0, .slice none 0 0] z rfl (.mk _ _ _) (.mk _ _ _) (.mk _ _ _) fr (by omega) ?_)
          rintro w6 ⟨t0, t1, t2, t3⟩ - b6 -
          go_wp2
          exact bodyPost_ret (v := .tuple #[zNd, .int .i64 2]) (by simp [results, Try.results32, go_sem, t0, t1, t2, t3]) rfl (zNd_ret rfl b6)
theorem ok_lens {n : Nd} (h : okN n = true) : n.ps.length ≤ 255 ∧ n.ks.length ≤ 255 ∧ n.is.length ≤ 255 := by
  cases hl : n.leaf with
  | true =>
    rw [okN_leaf hl] at h
    obtain ⟨h1, h2, h3, -⟩ := okL_true h
    rw [h1, h2]; exact ⟨h3, Nat.zero_le _, Nat.zero_le _⟩
  | false =>
    rw [okN_inner hl] at h
    obtain ⟨h1, h2, h3, h4, -⟩ := okI_true h
    rw [h1]; exact ⟨Nat.zero_le _, by omega, h3⟩
theorem ok_shape {n : Nd} (h : okN n = true) : (n.leaf = true → n.is = []) ∧ (n.leaf = false → n.ps = []) :=
  ⟨fun hl => (okL_true ((okN_leaf hl).symm.trans h)).2.1, fun hl => (okI_true ((okN_inner hl).symm.trans h)).1⟩
theorem mer_leaf {x y : Nd} {key : ByteArray} (h : x.leaf = true) : merN x key y = ⟨true, x.ps ++ y.ps, [], []⟩ := by unfold merN; rw [h]; rfl
theorem mer_in {x y : Nd} {key : ByteArray} (h : x.leaf = false) : merN x key y = ⟨false, [], x.ks ++ [key] ++ y.ks, x.is ++ y.is⟩ := by unfold merN; rw [h]; rfl
theorem mer_small {x y : Nd} (key : ByteArray) (hx : okN x = true) (hy : okN y = true) : (merN x key y).small := by
  obtain ⟨a1, a2, a3⟩ := ok_lens hx
  obtain ⟨b1, b2, b3⟩ := ok_lens hy
  cases h : x.leaf
  · rw [mer_in h]; unfold Nd.small; simp; omega
  · rw [mer_leaf h]; unfold Nd.small; simp; omega
theorem heap_set_here {w : World} {b j : Nat} {u : Value} {c : Array Value} {t : TypeId} {fz : Nat × Nat} (h : w.heap[b]? = some (.cells c t fz)) : (w.setCell ⟨b, j, none⟩ u).heap[b]? = some (.cells (c.setIfInBounds j u) t fz) := by
  simp [World.setCell, Array.getElem?_modify, h]
theorem ownN_keepg {base g : Nat} {w w1 : World} {v : Value} {n : Nd} (h : NdOwn base w v n) (hg : g < base) (hk : ∀ k, k ≠ g → w1.heap[k]? = w.heap[k]?) : NdOwn base w1 v n := by
  obtain ⟨pv, kv, iv, e, h1, h2, h3⟩ := h
  exact ⟨pv, kv, iv, e, h1.keepg hg hk, h2.keepg hg hk, h3.keepg hg hk⟩
theorem app_step2 {α : Type} {E : El α} (hE : ElOk E) {base : Nat} {w : World} {v : Value} {l : List α} (h : OwnR E base w v l) {B : Nat} {x : Value} {m : List α} (hx : SlAt E B w x m) (hlen : (l.length + m.length) * E.bytes ≤ 140737488355328) (hb : base ≤ w.heap.size) (ty : TypeId) :
    ∃ a n c w', (Builtin.append_ #[E.st, E.st] ty #[v, x]).run Try.prog w = .ok (.slice a n c) w' ∧ OwnR E base w' (.slice a n c) (l ++ m) ∧ Below base w w' ∧ w.heap.size ≤ w'.heap.size ∧ True ∧ ∀ k : Nat, k < w.heap.size → some k ≠ v.ownBlock → w'.heap[k]? = w.heap[k]? := by
  obtain ⟨v', w', hr, ho, hb', hs, hg⟩ := own_app hE h hx hlen hb ty
  obtain ⟨a, n, c, rfl⟩ := ho.slv
  exact ⟨a, n, c, w', hr, ho, hb', hs, trivial, hg.1⟩
end Go.Proofs.Ytdkmfcmndncmcaa

/- The contract of the document's DocMerge at leaves. No statement of the seat is proved here. -/
namespace Go.Proofs.Ytdkmfcmndncmcaa
set_option maxRecDepth 20000
open Go.RowKit

set_option maxHeartbeats 25600000 in
theorem docMerge_leaf {w : World} {v1 v2 : Value} {x y : Nd} (h1 : NdAt w.heap.size w v1 x) (h2 : NdAt w.heap.size w v2 y) (key : ByteArray) (hk : okN x = true ∧ okN y = true ∧ okK key = true) (hlf : x.leaf = y.leaf) (hl : x.leaf = true) : Calls Try.prog 32 #[v1, .string key, v2] w (NdRet w (mergeN x key y)) := by
  have hR := mergeN_eq hk hlf
  obtain ⟨R, hR2⟩ : ∃ R, mergeN x key y = R := ⟨_, rfl⟩
  rw [hR2]
  rw [hR2] at hR
  have HR := Lib.hid hR.symm
  obtain ⟨lx1, lx2, lx3⟩ := ok_lens hk.1
  obtain ⟨ly1, ly2, ly3⟩ := ok_lens hk.2.1
  have HSH := Lib.hid (And.intro (ok_shape hk.1) (ok_shape hk.2.1))
  have hok1 := hk.1
  have hok2 := hk.2.1
  have HA := Lib.hid (fun (w' : World) (f : Below w.heap.size w w') => And.intro ((h1.below f).more f.size) ((h2.below f).more f.size))
  obtain ⟨pv, kv, iv, rfl, x1, x2, x3⟩ := h1
  obtain ⟨qv, lv, jv, rfl, y1, y2, y3⟩ := h2
  obtain ⟨pa, pm, pc, rfl, -⟩ := x1.form
  obtain ⟨ka, km, kc, rfl, -⟩ := x2.form
  obtain ⟨ia, im, ic, rfl, -⟩ := x3.form
  obtain ⟨qa, qm, qc, rfl, -⟩ := y1.form
  obtain ⟨la, lm, lc, rfl, -⟩ := y2.form
  obtain ⟨ja, jm, jc, rfl, -⟩ := y3.form
  have hl2 : y.leaf = true := hlf.symm.trans hl
  have HLX := Lib.hid hl
  have HLY := Lib.hid hl2
  have HSMN := Lib.hid (mer_small key hok1 hok2)
  have F := mrr_start w true true (.slice pa pm pc) (.slice ka km kc) (.slice ia im ic) (.slice qa qm qc) (.slice la lm lc) (.slice ja jm jc)
  simp only [hl, hl2] at HA ⊢
  have fa := right_any (HA.out _ F.fr).1
  have FB := Lib.hid (fun (w2 : World) (f : Below w.heap.size w w2) => right_any (HA.out _ f).2)
  have ik := refKey_any key
  rw [hk.2.2] at ik
  rw [hok1] at fa
  rw [hok2] at FB
  have XP := Lib.hid (fun (W : World) (f : Below w.heap.size w W) => (x1.below f).more f.size)
  have YP := Lib.hid (fun (W : World) (f : Below w.heap.size w W) => (y1.below f).more f.size)
  have XS := Lib.hid (fun (W : World) (f : Below w.heap.size w W) => (x2.below f).more f.size)
  have YS := Lib.hid (fun (W : World) (f : Below w.heap.size w W) => (y2.below f).more f.size)
  have XI := Lib.hid (fun (W : World) (f : Below w.heap.size w W) => (x3.below f).more f.size)
  have YI := Lib.hid (fun (W : World) (f : Below w.heap.size w W) => (y3.below f).more f.size)
  have NP1 : Hid ((([] : List Pr).length + x.ps.length) * elP.bytes ≤ 140737488355328) := Lib.hid (by show (0 + _) * 32 ≤ _; omega)
  have NP2 : Hid ((x.ps.length + y.ps.length) * elP.bytes ≤ 140737488355328) := Lib.hid (by show (_ + _) * 32 ≤ _; omega)
  have NI1 : Hid ((([] : List Int).length + x.is.length) * elI.bytes ≤ 140737488355328) := Lib.hid (by show (0 + _) * 8 ≤ _; omega)
  have NI2 : Hid ((x.is.length + y.is.length) * elI.bytes ≤ 140737488355328) := Lib.hid (by show (_ + _) * 8 ≤ _; omega)
  have NS1 : Hid ((([] : List ByteArray).length + x.ks.length) * elS.bytes ≤ 140737488355328) := Lib.hid (by show (0 + _) * 16 ≤ _; omega)
  have NS2 : Hid ((x.ks.length + [key].length) * elS.bytes ≤ 140737488355328) := Lib.hid (by show (_ + 1) * 16 ≤ _; omega)
  have NS3 : Hid (((x.ks ++ [key]).length + y.ks.length) * elS.bytes ≤ 140737488355328) := Lib.hid (by rw [List.length_append]; show (_ + 1 + _) * 16 ≤ _; omega)
  have HSM : Hid ((x.ps ++ y.ps).length * elP.bytes ≤ 140737488351232 ∧ (x.ks ++ [key] ++ y.ks).length * elS.bytes ≤ 140737488351232 ∧ (x.is ++ y.is).length * elI.bytes ≤ 140737488351232) := Lib.hid ⟨by rw [List.length_append]; show (_ + _) * 32 ≤ _; omega, by simp only [List.length_append]; show (_ + 1 + _) * 16 ≤ _; omega, by rw [List.length_append]; show (_ + _) * 8 ≤ _; omega⟩
  have bz := build_rz
  clear hlf hl hl2 hR hR2 hok1 hok2 hk x1 x2 x3 y1 y2 y3 lx1 lx2 lx3 ly1 ly2 ly3
  obtain ⟨q0, q1, q2, q3⟩ := F.c1
  obtain ⟨r0, r1, r2, r3⟩ := F.c2
  · go_enter Try.func32, Try.ntmps32
    go_wp2_with fail
    refine fa.mono ?_
    rintro e w4 ⟨rfl, b4⟩
    have F := F.below (b4.mono F.sz)
    have fb := FB.out _ F.fr
    clear fa b4 FB q0 q1 q2 q3 r0 r1 r2 r3
    obtain ⟨q0, q1, q2, q3⟩ := F.c1
    obtain ⟨r0, r1, r2, r3⟩ := F.c2
    go_wp2_with fail
    refine fb.mono ?_
    rintro e w5 ⟨rfl, b5⟩
    have F := F.below (b5.mono F.sz)
    clear fb b5 q0 q1 q2 q3 r0 r1 r2 r3
    obtain ⟨q0, q1, q2, q3⟩ := F.c1
    obtain ⟨r0, r1, r2, r3⟩ := F.c2
    have ik := ik w5
    go_wp2_with fail
    refine ik.mono ?_
    rintro e w5 ⟨rfl, rfl⟩
    clear ik q0 q1 q2 q3 r0 r1 r2 r3
    go_upto_region 3 with fail
    go_cut [8] from 30 to 47 (fun s wx => ∃ A vp vi, s = .pointer (some ⟨A, 0, none⟩) ∧ SlV vp ∧ SlV vi ∧ MrgR w true (.slice pa pm pc) (.slice ka km kc) (.slice ia im ic) true (.slice qa qm qc) (.slice la lm lc) (.slice ja jm jc) wx ∧ wx.heap[A]? = some (rbO true vp (.slice none 0 0) vi) ∧ w.heap.size + 3 ≤ A ∧ OwnR elP (w.heap.size + 3) wx vp (x.ps ++ y.ps) ∧ OwnR elI (w.heap.size + 3) wx vi (x.is ++ y.is))
    case first =>
      obtain ⟨V0, hV0⟩ : ∃ V0, w5.drew = V0 := ⟨_, rfl⟩
      have F := F.below ((Below.refl _ _).drew)
      rw [hV0] at F
      have hb : Below V0.heap.size V0 V0 := Below.refl _ _
      have hs : V0.heap.size ≤ V0.heap.size := Nat.le_refl _
      have hS : Below V0.heap.size V0 w5.drew := by rw [hV0]; exact hb
      have LD := Lib.hid (fun (w' : World) (b : Below V0.heap.size V0 w') => F.below (b.mono F.sz))
      have XP := Lib.hid (fun (w' : World) (b : Below V0.heap.size V0 w') => XP.out _ (LD.out _ b).fr)
      have YP := Lib.hid (fun (w' : World) (b : Below V0.heap.size V0 w') => YP.out _ (LD.out _ b).fr)
      have XI := Lib.hid (fun (w' : World) (b : Below V0.heap.size V0 w') => XI.out _ (LD.out _ b).fr)
      have YI := Lib.hid (fun (w' : World) (b : Below V0.heap.size V0 w') => YI.out _ (LD.out _ b).fr)
      refine wp_region_held_drew (S := fun w' => Below V0.heap.size V0 w') mixed hS (fun _ => ?_)
      rw [hV0] at hS ⊢
      show wpAnyH _ _ _ _ _ 19 (Array.replicate 19 false) _ _
      refine wpAnyH_take_d 0 (some 30) (.pointer (some ⟨w.heap.size, 0, none⟩)) rfl (by kernel_rfl) (by kernel_rfl) (by kernel_rfl) (by kernel_rfl) rfl (fun _ _ _ h => h) (fun _ _ => by kernel_rfl) (by exact hS) ?_
      simp only [Act.put, List.setIfInBounds_toArray, List.set_cons_succ, List.set_cons_zero]
      refine wpAnyH_take_d 1 (some 31) (.bool true) rfl (by kernel_rfl) (by kernel_rfl) (by kernel_rfl) (by kernel_rfl) rfl (fun _ _ _ h => h) (fun w' h => exec_load_cell rfl rfl (LD.out _ h).c1.c0 Try.underlying4 rfl) (by exact hS) ?_
      simp only [Act.put, List.setIfInBounds_toArray, List.set_cons_succ, List.set_cons_zero]
      refine wpAnyH_take_d 3 (some 33) (.pointer (some ⟨w.heap.size, 1, none⟩)) rfl (by kernel_rfl) (by kernel_rfl) (by kernel_rfl) (by kernel_rfl) rfl (fun _ _ _ h => h) (fun _ _ => by kernel_rfl) (by exact hS) ?_
      simp only [Act.put, List.setIfInBounds_toArray, List.set_cons_succ, List.set_cons_zero]
      refine wpAnyH_take_d 4 (some 34) (.slice pa pm pc) rfl (by kernel_rfl) (by kernel_rfl) (by kernel_rfl) (by kernel_rfl) rfl (fun _ _ _ h => h) (fun w' h => exec_load_cell rfl rfl (LD.out _ h).c1.c1 Try.underlying22 rfl) (by exact hS) ?_
      simp only [Act.put, List.setIfInBounds_toArray, List.set_cons_succ, List.set_cons_zero]
      refine wpAnyH_take_d 6 (some 36) (.pointer (some ⟨w.heap.size + 1, 1, none⟩)) rfl (by kernel_rfl) (by kernel_rfl) (by kernel_rfl) (by kernel_rfl) rfl (fun _ _ _ h => h) (fun _ _ => by kernel_rfl) (by exact hS) ?_
      simp only [Act.put, List.setIfInBounds_toArray, List.set_cons_succ, List.set_cons_zero]
      refine wpAnyH_take_d 7 (some 37) (.slice qa qm qc) rfl (by kernel_rfl) (by kernel_rfl) (by kernel_rfl) (by kernel_rfl) rfl (fun _ _ _ h => h) (fun w' h => exec_load_cell rfl rfl (LD.out _ h).c2.c1 Try.underlying22 rfl) (by exact hS) ?_
      simp only [Act.put, List.setIfInBounds_toArray, List.set_cons_succ, List.set_cons_zero]
      refine wpAnyH_take_d 10 (some 40) (.pointer (some ⟨w.heap.size, 3, none⟩)) rfl (by kernel_rfl) (by kernel_rfl) (by kernel_rfl) (by kernel_rfl) rfl (fun _ _ _ h => h) (fun _ _ => by kernel_rfl) (by exact hS) ?_
      simp only [Act.put, List.setIfInBounds_toArray, List.set_cons_succ, List.set_cons_zero]
      refine wpAnyH_take_d 11 (some 41) (.slice ia im ic) rfl (by kernel_rfl) (by kernel_rfl) (by kernel_rfl) (by kernel_rfl) rfl (fun _ _ _ h => h) (fun w' h => exec_load_cell rfl rfl (LD.out _ h).c1.c3 Try.underlying24 rfl) (by exact hS) ?_
      simp only [Act.put, List.setIfInBounds_toArray, List.set_cons_succ, List.set_cons_zero]
      refine wpAnyH_take_d 13 (some 43) (.pointer (some ⟨w.heap.size + 1, 3, none⟩)) rfl (by kernel_rfl) (by kernel_rfl) (by kernel_rfl) (by kernel_rfl) rfl (fun _ _ _ h => h) (fun _ _ => by kernel_rfl) (by exact hS) ?_
      simp only [Act.put, List.setIfInBounds_toArray, List.set_cons_succ, List.set_cons_zero]
      refine wpAnyH_take_d 14 (some 44) (.slice ja jm jc) rfl (by kernel_rfl) (by kernel_rfl) (by kernel_rfl) (by kernel_rfl) rfl (fun _ _ _ h => h) (fun w' h => exec_load_cell rfl rfl (LD.out _ h).c2.c3 Try.underlying24 rfl) (by exact hS) ?_
      simp only [Act.put, List.setIfInBounds_toArray, List.set_cons_succ, List.set_cons_zero]
      -- left: [(2, ('32', 'Op.buildSlice 22 0 #[]', None)), (5, ('35', 'Op.call { builtin append, args := #[t32, t34], argTypes := #[22, 22] }', None)), (8, ('38', 'Op.call { builtin append, args := #[t35, t37], argTypes := #[22, 22] }', None)), (9, ('39', 'Op.buildSlice 24 0 #[]', None)), (12, ('42', 'Op.call { builtin append, args := #[t39, t41], argTypes := #[24, 24] }', None)), (15, ('45', 'Op.call { builtin append, args := #[t42, t44], argTypes := #[24, 24] }', None)), (16, ('46', 'Op.build 26 #[(0, t31), (1, t38), (3, t45)]', None)), (17, ('8', 'Op.alloc 26', None)), (18, ('none', 'Op.store 26 t8 t46', None))]
      clear hV0
      refine wpAnyH_three (w1 := V0.alloc (.cells #[] 50)) (w2 := V0.alloc (.cells #[] 3)) (w3 := V0.alloc zrbO) 2 9 17 (some 32) (some 39) (some 8) (.slice (some ⟨V0.heap.size, 0, none⟩) 0 0) (.slice (some ⟨V0.heap.size, 0, none⟩) 0 0) (.pointer (some ⟨V0.heap.size, 0, none⟩)) rfl rfl rfl (by kernel_rfl) (by kernel_rfl) (by kernel_rfl) (by kernel_rfl) rfl rfl rfl (ex_b0 rfl (mk0P V0)) (ex_b0 rfl (mk0I V0)) (al_row rfl zero_rnd) (hb.trans ((below_new V0 (.cells #[] 50)).mono hs)) (hb.trans ((below_new V0 (.cells #[] 3)).mono hs)) (hb.trans ((below_new V0 zrbO).mono hs)) ?_ ?_ ?_
      · skip
        obtain ⟨W1, hV⟩ : ∃ x, V0.alloc (.cells #[] 50) = x := ⟨_, rfl⟩
        have bx : Below V0.heap.size V0 W1 := by rw [← hV]; exact below_new V0 _
        have hlt1 : V0.heap.size < W1.heap.size := by rw [← hV]; simp
        have oP : OwnR elP V0.heap.size W1 (.slice (some ⟨V0.heap.size, 0, none⟩) 0 0) [] := by rw [← hV]; exact (OwnR.made elP V0).base hs
        have hb := hb.trans (bx.mono hs)
        have hs := Nat.le_trans hs bx.size
        have hS := hb
        rw [hV]
        clear hV bx
        simp only [Act.put, List.setIfInBounds_toArray, List.set_cons_succ, List.set_cons_zero]
        obtain ⟨a4, n4, c4, W4, hr4, q4, bq4, sq4, kq4⟩ := app_step okP oP (XP.out _ hb) NP1.out hs 22
        rw [List.nil_append] at q4
        refine wpAnyH_three (w1 := W4) (w2 := W1.alloc (.cells #[] 3)) (w3 := W1.alloc zrbO) 5 9 17 (some 35) (some 39) (some 8) (.slice a4 n4 c4) (.slice (some ⟨W1.heap.size, 0, none⟩) 0 0) (.pointer (some ⟨W1.heap.size, 0, none⟩)) rfl rfl rfl (by kernel_rfl) (by kernel_rfl) (by kernel_rfl) (by kernel_rfl) rfl rfl rfl (ex_app rfl rfl rfl hr4) (ex_b0 rfl (mk0I W1)) (al_row rfl zero_rnd) (hb.trans bq4) (hb.trans ((below_new W1 (.cells #[] 3)).mono hs)) (hb.trans ((below_new W1 zrbO).mono hs)) ?_ ?_ ?_
        · skip
          have oP := q4
          have hb := hb.trans bq4
          have hs := Nat.le_trans hs sq4
          have hS := hb
          simp only [Act.put, List.setIfInBounds_toArray, List.set_cons_succ, List.set_cons_zero]
          obtain ⟨a7, n7, c7, W7, hr7, q7, bq7, sq7, kq7⟩ := app_step okP oP (YP.out _ hb) NP2.out hs 22
          refine wpAnyH_three (w1 := W7) (w2 := W4.alloc (.cells #[] 3)) (w3 := W4.alloc zrbO) 8 9 17 (some 38) (some 39) (some 8) (.slice a7 n7 c7) (.slice (some ⟨W4.heap.size, 0, none⟩) 0 0) (.pointer (some ⟨W4.heap.size, 0, none⟩)) rfl rfl rfl (by kernel_rfl) (by kernel_rfl) (by kernel_rfl) (by kernel_rfl) rfl rfl rfl (ex_app rfl rfl rfl hr7) (ex_b0 rfl (mk0I W4)) (al_row rfl zero_rnd) (hb.trans bq7) (hb.trans ((below_new W4 (.cells #[] 3)).mono hs)) (hb.trans ((below_new W4 zrbO).mono hs)) ?_ ?_ ?_
          · skip
            have oP := q7
            have hb := hb.trans bq7
            have hs := Nat.le_trans hs sq7
            have hS := hb
            simp only [Act.put, List.setIfInBounds_toArray, List.set_cons_succ, List.set_cons_zero]
            refine wpAnyH_two (w1 := W7.alloc (.cells #[] 3)) (w2 := W7.alloc zrbO) 9 17 (some 39) (some 8) (.slice (some ⟨W7.heap.size, 0, none⟩) 0 0) (.pointer (some ⟨W7.heap.size, 0, none⟩)) rfl rfl (by kernel_rfl) (by kernel_rfl) (by kernel_rfl) rfl rfl (ex_b0 rfl (mk0I W7)) (al_row rfl zero_rnd) (hb.trans ((below_new W7 (.cells #[] 3)).mono hs)) (hb.trans ((below_new W7 zrbO).mono hs)) ?_ ?_
            · skip
              obtain ⟨W10, hV⟩ : ∃ x, W7.alloc (.cells #[] 3) = x := ⟨_, rfl⟩
              have bx : Below W7.heap.size W7 W10 := by rw [← hV]; exact below_new W7 _
              have hlt10 : W7.heap.size < W10.heap.size := by rw [← hV]; simp
              have oP := oP.below bx
              have oI : OwnR elI V0.heap.size W10 (.slice (some ⟨W7.heap.size, 0, none⟩) 0 0) [] := by rw [← hV]; exact (OwnR.made elI W7).base hs
              have hb := hb.trans (bx.mono hs)
              have hs := Nat.le_trans hs bx.size
              have hS := hb
              rw [hV]
              clear hV bx
              simp only [Act.put, List.setIfInBounds_toArray, List.set_cons_succ, List.set_cons_zero]
              obtain ⟨a12, n12, c12, W12, hr12, q12, bq12, sq12, kq12⟩ := app_step okZ oI (XI.out _ hb) NI1.out hs 24
              rw [List.nil_append] at q12
              refine wpAnyH_two (w1 := W12) (w2 := W10.alloc zrbO) 12 17 (some 42) (some 8) (.slice a12 n12 c12) (.pointer (some ⟨W10.heap.size, 0, none⟩)) rfl rfl (by kernel_rfl) (by kernel_rfl) (by kernel_rfl) rfl rfl (ex_app rfl rfl rfl hr12) (al_row rfl zero_rnd) (hb.trans bq12) (hb.trans ((below_new W10 zrbO).mono hs)) ?_ ?_
              · skip
                have oP := own_keep oP kq12 (by decide)
                have oI := q12
                have hb := hb.trans bq12
                have hs := Nat.le_trans hs sq12
                have hS := hb
                simp only [Act.put, List.setIfInBounds_toArray, List.set_cons_succ, List.set_cons_zero]
                obtain ⟨a14, n14, c14, W14, hr14, q14, bq14, sq14, kq14⟩ := app_step okZ oI (YI.out _ hb) NI2.out hs 24
                refine wpAnyH_two (w1 := W14) (w2 := W12.alloc zrbO) 15 17 (some 45) (some 8) (.slice a14 n14 c14) (.pointer (some ⟨W12.heap.size, 0, none⟩)) rfl rfl (by kernel_rfl) (by kernel_rfl) (by kernel_rfl) rfl rfl (ex_app rfl rfl rfl hr14) (al_row rfl zero_rnd) (hb.trans bq14) (hb.trans ((below_new W12 zrbO).mono hs)) ?_ ?_
                · skip
                  have oP := own_keep oP kq14 (by decide)
                  have oI := q14
                  have hb := hb.trans bq14
                  have hs := Nat.le_trans hs sq14
                  have hS := hb
                  simp only [Act.put, List.setIfInBounds_toArray, List.set_cons_succ, List.set_cons_zero]
                  refine wpAnyH_take_d 16 (some 46) (.agg #[.bool true, .slice a7 n7 c7, .slice none 0 0, .slice a14 n14 c14]) rfl (by kernel_rfl) (by kernel_rfl) (by kernel_rfl) (by kernel_rfl) rfl (fun _ _ _ h => h) (fun w' _ => ex_build013 rfl rfl rfl rfl (run_build w' 26 _ _ (by kernel_rfl))) (by exact hS) ?_
                  simp only [Act.put, List.setIfInBounds_toArray, List.set_cons_succ, List.set_cons_zero]
                  refine wpAnyH_one (w1 := W14.alloc zrbO) 17 (some 8) (.pointer (some ⟨W14.heap.size, 0, none⟩)) rfl (by kernel_rfl) (by kernel_rfl) rfl (al_row rfl zero_rnd) (hb.trans ((below_new W14 zrbO).mono hs)) ?_
                  obtain ⟨W16, hV⟩ : ∃ x, W14.alloc zrbO = x := ⟨_, rfl⟩
                  have bx : Below W14.heap.size W14 W16 := by rw [← hV]; exact below_new W14 _
                  have hlt16 : W14.heap.size < W16.heap.size := by rw [← hV]; simp
                  have oP := oP.below bx
                  have oI := oI.below bx
                  have hA : W16.heap[W14.heap.size]? = some zrbO := by rw [← hV]; exact heap_alloc_new W14 _
                  have hAlo := hs
                  have hb := hb.trans (bx.mono hs)
                  have hs := Nat.le_trans hs bx.size
                  have hS := hb
                  rw [hV]
                  clear hV bx
                  simp only [Act.put, List.setIfInBounds_toArray, List.set_cons_succ, List.set_cons_zero]
                  have hb2 := below_setRow' hb hAlo #[.bool true, .slice a7 n7 c7, .slice none 0 0, .slice a14 n14 c14]
                  refine wpAnyH_one_skip 18 rfl (by kernel_rfl) (by kernel_rfl) (ex_store_row rfl rfl rfl hA (by kernel_rfl) rfl (by simp [Value.oneCell'])) hb2 ?_
                  simp only [Act.put, List.setIfInBounds_toArray]
                  refine wpAnyH_done (by kernel_rfl) ?_ _
                  have F2 := F.below (hb2.mono F.sz)
                  have H0 := setRow_heap _ _ _ #[.bool true, .slice a7 n7 c7, .slice none 0 0, .slice a14 n14 c14] _ _ hA
                  have H1 := (oP.ner hA (by decide) (fun k hk => setRow_other _ W14.heap.size k #[.bool true, .slice a7 n7 c7, .slice none 0 0, .slice a14 n14 c14] hk)).base F.sz
                  have H2 := (oI.ner hA (by decide) (fun k hk => setRow_other _ W14.heap.size k #[.bool true, .slice a7 n7 c7, .slice none 0 0, .slice a14 n14 c14] hk)).base F.sz
                  have H3 := Nat.le_trans F.sz hAlo
                  clear hb2 hb hS oP oI hA
                  go_wp2
                  go_meet
                  exact ⟨_, _, _, rfl, .mk _ _ _, .mk _ _ _, F2, H0, H3, H1, H2⟩
                · skip
                  obtain ⟨W15, hV⟩ : ∃ x, W12.alloc zrbO = x := ⟨_, rfl⟩
                  have bx : Below W12.heap.size W12 W15 := by rw [← hV]; exact below_new W12 _
                  have hlt15 : W12.heap.size < W15.heap.size := by rw [← hV]; simp
                  have oP := oP.below bx
                  have oI := oI.below bx
                  have hA : W15.heap[W12.heap.size]? = some zrbO := by rw [← hV]; exact heap_alloc_new W12 _
                  have hAlo := hs
                  have hb := hb.trans (bx.mono hs)
                  have hs := Nat.le_trans hs bx.size
                  have hS := hb
                  rw [hV]
                  clear hV bx
                  simp only [Act.put, List.setIfInBounds_toArray, List.set_cons_succ, List.set_cons_zero]
                  obtain ⟨a17, n17, c17, W17, hr17, q17, bq17, sq17, kq17⟩ := app_step okZ oI (YI.out _ hb) NI2.out hs 24
                  refine wpAnyH_one (w1 := W17) 15 (some 45) (.slice a17 n17 c17) rfl (by kernel_rfl) (by kernel_rfl) rfl (ex_app rfl rfl rfl hr17) (hb.trans bq17) ?_
                  have oP := own_keep oP kq17 (by decide)
                  have hA := kq17 _ _ _ _ hA (by decide)
                  have oI := q17
                  have hb := hb.trans bq17
                  have hs := Nat.le_trans hs sq17
                  have hS := hb
                  simp only [Act.put, List.setIfInBounds_toArray, List.set_cons_succ, List.set_cons_zero]
                  refine wpAnyH_take_d 16 (some 46) (.agg #[.bool true, .slice a7 n7 c7, .slice none 0 0, .slice a17 n17 c17]) rfl (by kernel_rfl) (by kernel_rfl) (by kernel_rfl) (by kernel_rfl) rfl (fun _ _ _ h => h) (fun w' _ => ex_build013 rfl rfl rfl rfl (run_build w' 26 _ _ (by kernel_rfl))) (by exact hS) ?_
                  simp only [Act.put, List.setIfInBounds_toArray, List.set_cons_succ, List.set_cons_zero]
                  have hb2 := below_setRow' hb hAlo #[.bool true, .slice a7 n7 c7, .slice none 0 0, .slice a17 n17 c17]
                  refine wpAnyH_one_skip 18 rfl (by kernel_rfl) (by kernel_rfl) (ex_store_row rfl rfl rfl hA (by kernel_rfl) rfl (by simp [Value.oneCell'])) hb2 ?_
                  simp only [Act.put, List.setIfInBounds_toArray]
                  refine wpAnyH_done (by kernel_rfl) ?_ _
                  have F2 := F.below (hb2.mono F.sz)
                  have H0 := setRow_heap _ _ _ #[.bool true, .slice a7 n7 c7, .slice none 0 0, .slice a17 n17 c17] _ _ hA
                  have H1 := (oP.ner hA (by decide) (fun k hk => setRow_other _ W12.heap.size k #[.bool true, .slice a7 n7 c7, .slice none 0 0, .slice a17 n17 c17] hk)).base F.sz
                  have H2 := (oI.ner hA (by decide) (fun k hk => setRow_other _ W12.heap.size k #[.bool true, .slice a7 n7 c7, .slice none 0 0, .slice a17 n17 c17] hk)).base F.sz
                  have H3 := Nat.le_trans F.sz hAlo
                  clear hb2 hb hS oP oI hA
                  go_wp2
                  go_meet
                  exact ⟨_, _, _, rfl, .mk _ _ _, .mk _ _ _, F2, H0, H3, H1, H2⟩
              · skip
                obtain ⟨W13, hV⟩ : ∃ x, W10.alloc zrbO = x := ⟨_, rfl⟩
                have bx : Below W10.heap.size W10 W13 := by rw [← hV]; exact below_new W10 _
                have hlt13 : W10.heap.size < W13.heap.size := by rw [← hV]; simp
                have oP := oP.below bx
                have oI := oI.below bx
                have hA : W13.heap[W10.heap.size]? = some zrbO := by rw [← hV]; exact heap_alloc_new W10 _
                have hAlo := hs
                have hb := hb.trans (bx.mono hs)
                have hs := Nat.le_trans hs bx.size
                have hS := hb
                rw [hV]
                clear hV bx
                simp only [Act.put, List.setIfInBounds_toArray, List.set_cons_succ, List.set_cons_zero]
                obtain ⟨a18, n18, c18, W18, hr18, q18, bq18, sq18, kq18⟩ := app_step okZ oI (XI.out _ hb) NI1.out hs 24
                rw [List.nil_append] at q18
                refine wpAnyH_one (w1 := W18) 12 (some 42) (.slice a18 n18 c18) rfl (by kernel_rfl) (by kernel_rfl) rfl (ex_app rfl rfl rfl hr18) (hb.trans bq18) ?_
                have oP := own_keep oP kq18 (by decide)
                have hA := kq18 _ _ _ _ hA (by decide)
                have oI := q18
                have hb := hb.trans bq18
                have hs := Nat.le_trans hs sq18
                have hS := hb
                simp only [Act.put, List.setIfInBounds_toArray, List.set_cons_succ, List.set_cons_zero]
                obtain ⟨a19, n19, c19, W19, hr19, q19, bq19, sq19, kq19⟩ := app_step okZ oI (YI.out _ hb) NI2.out hs 24
                refine wpAnyH_one (w1 := W19) 15 (some 45) (.slice a19 n19 c19) rfl (by kernel_rfl) (by kernel_rfl) rfl (ex_app rfl rfl rfl hr19) (hb.trans bq19) ?_
                have oP := own_keep oP kq19 (by decide)
                have hA := kq19 _ _ _ _ hA (by decide)
                have oI := q19
                have hb := hb.trans bq19
                have hs := Nat.le_trans hs sq19
                have hS := hb
                simp only [Act.put, List.setIfInBounds_toArray, List.set_cons_succ, List.set_cons_zero]
                refine wpAnyH_take_d 16 (some 46) (.agg #[.bool true, .slice a7 n7 c7, .slice none 0 0, .slice a19 n19 c19]) rfl (by kernel_rfl) (by kernel_rfl) (by kernel_rfl) (by kernel_rfl) rfl (fun _ _ _ h => h) (fun w' _ => ex_build013 rfl rfl rfl rfl (run_build w' 26 _ _ (by kernel_rfl))) (by exact hS) ?_
                simp only [Act.put, List.setIfInBounds_toArray, List.set_cons_succ, List.set_cons_zero]
                have hb2 := below_setRow' hb hAlo #[.bool true, .slice a7 n7 c7, .slice none 0 0, .slice a19 n19 c19]
                refine wpAnyH_one_skip 18 rfl (by kernel_rfl) (by kernel_rfl) (ex_store_row rfl rfl rfl hA (by kernel_rfl) rfl (by simp [Value.oneCell'])) hb2 ?_
                simp only [Act.put, List.setIfInBounds_toArray]
                refine wpAnyH_done (by kernel_rfl) ?_ _
                have F2 := F.below (hb2.mono F.sz)
                have H0 := setRow_heap _ _ _ #[.bool true, .slice a7 n7 c7, .slice none 0 0, .slice a19 n19 c19] _ _ hA
                have H1 := (oP.ner hA (by decide) (fun k hk => setRow_other _ W10.heap.size k #[.bool true, .slice a7 n7 c7, .slice none 0 0, .slice a19 n19 c19] hk)).base F.sz
                have H2 := (oI.ner hA (by decide) (fun k hk => setRow_other _ W10.heap.size k #[.bool true, .slice a7 n7 c7, .slice none 0 0, .slice a19 n19 c19] hk)).base F.sz
                have H3 := Nat.le_trans F.sz hAlo
                clear hb2 hb hS oP oI hA
                go_wp2
                go_meet
                exact ⟨_, _, _, rfl, .mk _ _ _, .mk _ _ _, F2, H0, H3, H1, H2⟩
            · skip
              obtain ⟨W11, hV⟩ : ∃ x, W7.alloc zrbO = x := ⟨_, rfl⟩
              have bx : Below W7.heap.size W7 W11 := by rw [← hV]; exact below_new W7 _
              have hlt11 : W7.heap.size < W11.heap.size := by rw [← hV]; simp
              have oP := oP.below bx
              have hA : W11.heap[W7.heap.size]? = some zrbO := by rw [← hV]; exact heap_alloc_new W7 _
              have hAlo := hs
              have hb := hb.trans (bx.mono hs)
              have hs := Nat.le_trans hs bx.size
              have hS := hb
              rw [hV]
              clear hV bx
              simp only [Act.put, List.setIfInBounds_toArray, List.set_cons_succ, List.set_cons_zero]
              refine wpAnyH_one (w1 := W11.alloc (.cells #[] 3)) 9 (some 39) (.slice (some ⟨W11.heap.size, 0, none⟩) 0 0) rfl (by kernel_rfl) (by kernel_rfl) rfl (ex_b0 rfl (mk0I W11)) (hb.trans ((below_new W11 (.cells #[] 3)).mono hs)) ?_
              obtain ⟨W20, hV⟩ : ∃ x, W11.alloc (.cells #[] 3) = x := ⟨_, rfl⟩
              have bx : Below W11.heap.size W11 W20 := by rw [← hV]; exact below_new W11 _
              have hlt20 : W11.heap.size < W20.heap.size := by rw [← hV]; simp
              have oP := oP.below bx
              have hA := (bx.block _ (lt_of_heap hA)).trans hA
              have oI : OwnR elI V0.heap.size W20 (.slice (some ⟨W11.heap.size, 0, none⟩) 0 0) [] := by rw [← hV]; exact (OwnR.made elI W11).base hs
              have hb := hb.trans (bx.mono hs)
              have hs := Nat.le_trans hs bx.size
              have hS := hb
              rw [hV]
              clear hV bx
              simp only [Act.put, List.setIfInBounds_toArray, List.set_cons_succ, List.set_cons_zero]
              obtain ⟨a21, n21, c21, W21, hr21, q21, bq21, sq21, kq21⟩ := app_step okZ oI (XI.out _ hb) NI1.out hs 24
              rw [List.nil_append] at q21
              refine wpAnyH_one (w1 := W21) 12 (some 42) (.slice a21 n21 c21) rfl (by kernel_rfl) (by kernel_rfl) rfl (ex_app rfl rfl rfl hr21) (hb.trans bq21) ?_
              have oP := own_keep oP kq21 (by decide)
              have hA := kq21 _ _ _ _ hA (by decide)
              have oI := q21
              have hb := hb.trans bq21
              have hs := Nat.le_trans hs sq21
              have hS := hb
              simp only [Act.put, List.setIfInBounds_toArray, List.set_cons_succ, List.set_cons_zero]
              obtain ⟨a22, n22, c22, W22, hr22, q22, bq22, sq22, kq22⟩ := app_step okZ oI (YI.out _ hb) NI2.out hs 24
              refine wpAnyH_one (w1 := W22) 15 (some 45) (.slice a22 n22 c22) rfl (by kernel_rfl) (by kernel_rfl) rfl (ex_app rfl rfl rfl hr22) (hb.trans bq22) ?_
              have oP := own_keep oP kq22 (by decide)
              have hA := kq22 _ _ _ _ hA (by decide)
              have oI := q22
              have hb := hb.trans bq22
              have hs := Nat.le_trans hs sq22
              have hS := hb
              simp only [Act.put, List.setIfInBounds_toArray, List.set_cons_succ, List.set_cons_zero]
              refine wpAnyH_take_d 16 (some 46) (.agg #[.bool true, .slice a7 n7 c7, .slice none 0 0, .slice a22 n22 c22]) rfl (by kernel_rfl) (by kernel_rfl) (by kernel_rfl) (by kernel_rfl) rfl (fun _ _ _ h => h) (fun w' _ => ex_build013 rfl rfl rfl rfl (run_build w' 26 _ _ (by kernel_rfl))) (by exact hS) ?_
              simp only [Act.put, List.setIfInBounds_toArray, List.set_cons_succ, List.set_cons_zero]
              have hb2 := below_setRow' hb hAlo #[.bool true, .slice a7 n7 c7, .slice none 0 0, .slice a22 n22 c22]
              refine wpAnyH_one_skip 18 rfl (by kernel_rfl) (by kernel_rfl) (ex_store_row rfl rfl rfl hA (by kernel_rfl) rfl (by simp [Value.oneCell'])) hb2 ?_
              simp only [Act.put, List.setIfInBounds_toArray]
              refine wpAnyH_done (by kernel_rfl) ?_ _
              have F2 := F.below (hb2.mono F.sz)
              have H0 := setRow_heap _ _ _ #[.bool true, .slice a7 n7 c7, .slice none 0 0, .slice a22 n22 c22] _ _ hA
              have H1 := (oP.ner hA (by decide) (fun k hk => setRow_other _ W7.heap.size k #[.bool true, .slice a7 n7 c7, .slice none 0 0, .slice a22 n22 c22] hk)).base F.sz
              have H2 := (oI.ner hA (by decide) (fun k hk => setRow_other _ W7.heap.size k #[.bool true, .slice a7 n7 c7, .slice none 0 0, .slice a22 n22 c22] hk)).base F.sz
              have H3 := Nat.le_trans F.sz hAlo
              clear hb2 hb hS oP oI hA
              go_wp2
              go_meet
              exact ⟨_, _, _, rfl, .mk _ _ _, .mk _ _ _, F2, H0, H3, H1, H2⟩
          · skip
            obtain ⟨W8, hV⟩ : ∃ x, W4.alloc (.cells #[] 3) = x := ⟨_, rfl⟩
            have bx : Below W4.heap.size W4 W8 := by rw [← hV]; exact below_new W4 _
            have hlt8 : W4.heap.size < W8.heap.size := by rw [← hV]; simp
            have oP := oP.below bx
            have oI : OwnR elI V0.heap.size W8 (.slice (some ⟨W4.heap.size, 0, none⟩) 0 0) [] := by rw [← hV]; exact (OwnR.made elI W4).base hs
            have hb := hb.trans (bx.mono hs)
            have hs := Nat.le_trans hs bx.size
            have hS := hb
            rw [hV]
            clear hV bx
            simp only [Act.put, List.setIfInBounds_toArray, List.set_cons_succ, List.set_cons_zero]
            obtain ⟨a23, n23, c23, W23, hr23, q23, bq23, sq23, kq23⟩ := app_step okP oP (YP.out _ hb) NP2.out hs 22
            refine wpAnyH_two (w1 := W23) (w2 := W8.alloc zrbO) 8 17 (some 38) (some 8) (.slice a23 n23 c23) (.pointer (some ⟨W8.heap.size, 0, none⟩)) rfl rfl (by kernel_rfl) (by kernel_rfl) (by kernel_rfl) rfl rfl (ex_app rfl rfl rfl hr23) (al_row rfl zero_rnd) (hb.trans bq23) (hb.trans ((below_new W8 zrbO).mono hs)) ?_ ?_
            · skip
              have oI := own_keep oI kq23 (by decide)
              have oP := q23
              have hb := hb.trans bq23
              have hs := Nat.le_trans hs sq23
              have hS := hb
              simp only [Act.put, List.setIfInBounds_toArray, List.set_cons_succ, List.set_cons_zero]
              obtain ⟨a25, n25, c25, W25, hr25, q25, bq25, sq25, kq25⟩ := app_step okZ oI (XI.out _ hb) NI1.out hs 24
              rw [List.nil_append] at q25
              refine wpAnyH_two (w1 := W25) (w2 := W23.alloc zrbO) 12 17 (some 42) (some 8) (.slice a25 n25 c25) (.pointer (some ⟨W23.heap.size, 0, none⟩)) rfl rfl (by kernel_rfl) (by kernel_rfl) (by kernel_rfl) rfl rfl (ex_app rfl rfl rfl hr25) (al_row rfl zero_rnd) (hb.trans bq25) (hb.trans ((below_new W23 zrbO).mono hs)) ?_ ?_
              · skip
                have oP := own_keep oP kq25 (by decide)
                have oI := q25
                have hb := hb.trans bq25
                have hs := Nat.le_trans hs sq25
                have hS := hb
                simp only [Act.put, List.setIfInBounds_toArray, List.set_cons_succ, List.set_cons_zero]
                obtain ⟨a27, n27, c27, W27, hr27, q27, bq27, sq27, kq27⟩ := app_step okZ oI (YI.out _ hb) NI2.out hs 24
                refine wpAnyH_two (w1 := W27) (w2 := W25.alloc zrbO) 15 17 (some 45) (some 8) (.slice a27 n27 c27) (.pointer (some ⟨W25.heap.size, 0, none⟩)) rfl rfl (by kernel_rfl) (by kernel_rfl) (by kernel_rfl) rfl rfl (ex_app rfl rfl rfl hr27) (al_row rfl zero_rnd) (hb.trans bq27) (hb.trans ((below_new W25 zrbO).mono hs)) ?_ ?_
                · skip
                  have oP := own_keep oP kq27 (by decide)
                  have oI := q27
                  have hb := hb.trans bq27
                  have hs := Nat.le_trans hs sq27
                  have hS := hb
                  simp only [Act.put, List.setIfInBounds_toArray, List.set_cons_succ, List.set_cons_zero]
                  refine wpAnyH_take_d 16 (some 46) (.agg #[.bool true, .slice a23 n23 c23, .slice none 0 0, .slice a27 n27 c27]) rfl (by kernel_rfl) (by kernel_rfl) (by kernel_rfl) (by kernel_rfl) rfl (fun _ _ _ h => h) (fun w' _ => ex_build013 rfl rfl rfl rfl (run_build w' 26 _ _ (by kernel_rfl))) (by exact hS) ?_
                  simp only [Act.put, List.setIfInBounds_toArray, List.set_cons_succ, List.set_cons_zero]
                  refine wpAnyH_one (w1 := W27.alloc zrbO) 17 (some 8) (.pointer (some ⟨W27.heap.size, 0, none⟩)) rfl (by kernel_rfl) (by kernel_rfl) rfl (al_row rfl zero_rnd) (hb.trans ((below_new W27 zrbO).mono hs)) ?_
                  obtain ⟨W29, hV⟩ : ∃ x, W27.alloc zrbO = x := ⟨_, rfl⟩
                  have bx : Below W27.heap.size W27 W29 := by rw [← hV]; exact below_new W27 _
                  have hlt29 : W27.heap.size < W29.heap.size := by rw [← hV]; simp
                  have oP := oP.below bx
                  have oI := oI.below bx
                  have hA : W29.heap[W27.heap.size]? = some zrbO := by rw [← hV]; exact heap_alloc_new W27 _
                  have hAlo := hs
                  have hb := hb.trans (bx.mono hs)
                  have hs := Nat.le_trans hs bx.size
                  have hS := hb
                  rw [hV]
                  clear hV bx
                  simp only [Act.put, List.setIfInBounds_toArray, List.set_cons_succ, List.set_cons_zero]
                  have hb2 := below_setRow' hb hAlo #[.bool true, .slice a23 n23 c23, .slice none 0 0, .slice a27 n27 c27]
                  refine wpAnyH_one_skip 18 rfl (by kernel_rfl) (by kernel_rfl) (ex_store_row rfl rfl rfl hA (by kernel_rfl) rfl (by simp [Value.oneCell'])) hb2 ?_
                  simp only [Act.put, List.setIfInBounds_toArray]
                  refine wpAnyH_done (by kernel_rfl) ?_ _
                  have F2 := F.below (hb2.mono F.sz)
                  have H0 := setRow_heap _ _ _ #[.bool true, .slice a23 n23 c23, .slice none 0 0, .slice a27 n27 c27] _ _ hA
                  have H1 := (oP.ner hA (by decide) (fun k hk => setRow_other _ W27.heap.size k #[.bool true, .slice a23 n23 c23, .slice none 0 0, .slice a27 n27 c27] hk)).base F.sz
                  have H2 := (oI.ner hA (by decide) (fun k hk => setRow_other _ W27.heap.size k #[.bool true, .slice a23 n23 c23, .slice none 0 0, .slice a27 n27 c27] hk)).base F.sz
                  have H3 := Nat.le_trans F.sz hAlo
                  clear hb2 hb hS oP oI hA
                  go_wp2
                  go_meet
                  exact ⟨_, _, _, rfl, .mk _ _ _, .mk _ _ _, F2, H0, H3, H1, H2⟩
                · skip
                  obtain ⟨W28, hV⟩ : ∃ x, W25.alloc zrbO = x := ⟨_, rfl⟩
                  have bx : Below W25.heap.size W25 W28 := by rw [← hV]; exact below_new W25 _
                  have hlt28 : W25.heap.size < W28.heap.size := by rw [← hV]; simp
                  have oP := oP.below bx
                  have oI := oI.below bx
                  have hA : W28.heap[W25.heap.size]? = some zrbO := by rw [← hV]; exact heap_alloc_new W25 _
                  have hAlo := hs
                  have hb := hb.trans (bx.mono hs)
                  have hs := Nat.le_trans hs bx.size
                  have hS := hb
                  rw [hV]
                  clear hV bx
                  simp only [Act.put, List.setIfInBounds_toArray, List.set_cons_succ, List.set_cons_zero]
                  obtain ⟨a30, n30, c30, W30, hr30, q30, bq30, sq30, kq30⟩ := app_step okZ oI (YI.out _ hb) NI2.out hs 24
                  refine wpAnyH_one (w1 := W30) 15 (some 45) (.slice a30 n30 c30) rfl (by kernel_rfl) (by kernel_rfl) rfl (ex_app rfl rfl rfl hr30) (hb.trans bq30) ?_
                  have oP := own_keep oP kq30 (by decide)
                  have hA := kq30 _ _ _ _ hA (by decide)
                  have oI := q30
                  have hb := hb.trans bq30
                  have hs := Nat.le_trans hs sq30
                  have hS := hb
                  simp only [Act.put, List.setIfInBounds_toArray, List.set_cons_succ, List.set_cons_zero]
                  refine wpAnyH_take_d 16 (some 46) (.agg #[.bool true, .slice a23 n23 c23, .slice none 0 0, .slice a30 n30 c30]) rfl (by kernel_rfl) (by kernel_rfl) (by kernel_rfl) (by kernel_rfl) rfl (fun _ _ _ h => h) (fun w' _ => ex_build013 rfl rfl rfl rfl (run_build w' 26 _ _ (by kernel_rfl))) (by exact hS) ?_
                  simp only [Act.put, List.setIfInBounds_toArray, List.set_cons_succ, List.set_cons_zero]
                  have hb2 := below_setRow' hb hAlo #[.bool true, .slice a23 n23 c23, .slice none 0 0, .slice a30 n30 c30]
                  refine wpAnyH_one_skip 18 rfl (by kernel_rfl) (by kernel_rfl) (ex_store_row rfl rfl rfl hA (by kernel_rfl) rfl (by simp [Value.oneCell'])) hb2 ?_
                  simp only [Act.put, List.setIfInBounds_toArray]
                  refine wpAnyH_done (by kernel_rfl) ?_ _
                  have F2 := F.below (hb2.mono F.sz)
                  have H0 := setRow_heap _ _ _ #[.bool true, .slice a23 n23 c23, .slice none 0 0, .slice a30 n30 c30] _ _ hA
                  have H1 := (oP.ner hA (by decide) (fun k hk => setRow_other _ W25.heap.size k #[.bool true, .slice a23 n23 c23, .slice none 0 0, .slice a30 n30 c30] hk)).base F.sz
                  have H2 := (oI.ner hA (by decide) (fun k hk => setRow_other _ W25.heap.size k #[.bool true, .slice a23 n23 c23, .slice none 0 0, .slice a30 n30 c30] hk)).base F.sz
                  have H3 := Nat.le_trans F.sz hAlo
                  clear hb2 hb hS oP oI hA
                  go_wp2
                  go_meet
                  exact ⟨_, _, _, rfl, .mk _ _ _, .mk _ _ _, F2, H0, H3, H1, H2⟩
              · skip
                obtain ⟨W26, hV⟩ : ∃ x, W23.alloc zrbO = x := ⟨_, rfl⟩
                have bx : Below W23.heap.size W23 W26 := by rw [← hV]; exact below_new W23 _
                have hlt26 : W23.heap.size < W26.heap.size := by rw [← hV]; simp
                have oP := oP.below bx
                have oI := oI.below bx
                have hA : W26.heap[W23.heap.size]? = some zrbO := by rw [← hV]; exact heap_alloc_new W23 _
                have hAlo := hs
                have hb := hb.trans (bx.mono hs)
                have hs := Nat.le_trans hs bx.size
                have hS := hb
                rw [hV]
                clear hV bx
                simp only [Act.put, List.setIfInBounds_toArray, List.set_cons_succ, List.set_cons_zero]
                obtain ⟨a31, n31, c31, W31, hr31, q31, bq31, sq31, kq31⟩ := app_step okZ oI (XI.out _ hb) NI1.out hs 24
                rw [List.nil_append] at q31
                refine wpAnyH_one (w1 := W31) 12 (some 42) (.slice a31 n31 c31) rfl (by kernel_rfl) (by kernel_rfl) rfl (ex_app rfl rfl rfl hr31) (hb.trans bq31) ?_
                have oP := own_keep oP kq31 (by decide)
                have hA := kq31 _ _ _ _ hA (by decide)
                have oI := q31
                have hb := hb.trans bq31
                have hs := Nat.le_trans hs sq31
                have hS := hb
                simp only [Act.put, List.setIfInBounds_toArray, List.set_cons_succ, List.set_cons_zero]
                obtain ⟨a32, n32, c32, W32, hr32, q32, bq32, sq32, kq32⟩ := app_step okZ oI (YI.out _ hb) NI2.out hs 24
                refine wpAnyH_one (w1 := W32) 15 (some 45) (.slice a32 n32 c32) rfl (by kernel_rfl) (by kernel_rfl) rfl (ex_app rfl rfl rfl hr32) (hb.trans bq32) ?_
                have oP := own_keep oP kq32 (by decide)
                have hA := kq32 _ _ _ _ hA (by decide)
                have oI := q32
                have hb := hb.trans bq32
                have hs := Nat.le_trans hs sq32
                have hS := hb
                simp only [Act.put, List.setIfInBounds_toArray, List.set_cons_succ, List.set_cons_zero]
                refine wpAnyH_take_d 16 (some 46) (.agg #[.bool true, .slice a23 n23 c23, .slice none 0 0, .slice a32 n32 c32]) rfl (by kernel_rfl) (by kernel_rfl) (by kernel_rfl) (by kernel_rfl) rfl (fun _ _ _ h => h) (fun w' _ => ex_build013 rfl rfl rfl rfl (run_build w' 26 _ _ (by kernel_rfl))) (by exact hS) ?_
                simp only [Act.put, List.setIfInBounds_toArray, List.set_cons_succ, List.set_cons_zero]
                have hb2 := below_setRow' hb hAlo #[.bool true, .slice a23 n23 c23, .slice none 0 0, .slice a32 n32 c32]
                refine wpAnyH_one_skip 18 rfl (by kernel_rfl) (by kernel_rfl) (ex_store_row rfl rfl rfl hA (by kernel_rfl) rfl (by simp [Value.oneCell'])) hb2 ?_
                simp only [Act.put, List.setIfInBounds_toArray]
                refine wpAnyH_done (by kernel_rfl) ?_ _
                have F2 := F.below (hb2.mono F.sz)
                have H0 := setRow_heap _ _ _ #[.bool true, .slice a23 n23 c23, .slice none 0 0, .slice a32 n32 c32] _ _ hA
                have H1 := (oP.ner hA (by decide) (fun k hk => setRow_other _ W23.heap.size k #[.bool true, .slice a23 n23 c23, .slice none 0 0, .slice a32 n32 c32] hk)).base F.sz
                have H2 := (oI.ner hA (by decide) (fun k hk => setRow_other _ W23.heap.size k #[.bool true, .slice a23 n23 c23, .slice none 0 0, .slice a32 n32 c32] hk)).base F.sz
                have H3 := Nat.le_trans F.sz hAlo
                clear hb2 hb hS oP oI hA
                go_wp2
                go_meet
                exact ⟨_, _, _, rfl, .mk _ _ _, .mk _ _ _, F2, H0, H3, H1, H2⟩
            · skip
              obtain ⟨W24, hV⟩ : ∃ x, W8.alloc zrbO = x := ⟨_, rfl⟩
              have bx : Below W8.heap.size W8 W24 := by rw [← hV]; exact below_new W8 _
              have hlt24 : W8.heap.size < W24.heap.size := by rw [← hV]; simp
              have oP := oP.below bx
              have oI := oI.below bx
              have hA : W24.heap[W8.heap.size]? = some zrbO := by rw [← hV]; exact heap_alloc_new W8 _
              have hAlo := hs
              have hb := hb.trans (bx.mono hs)
              have hs := Nat.le_trans hs bx.size
              have hS := hb
              rw [hV]
              clear hV bx
              simp only [Act.put, List.setIfInBounds_toArray, List.set_cons_succ, List.set_cons_zero]
              obtain ⟨a33, n33, c33, W33, hr33, q33, bq33, sq33, kq33⟩ := app_step okP oP (YP.out _ hb) NP2.out hs 22
              refine wpAnyH_one (w1 := W33) 8 (some 38) (.slice a33 n33 c33) rfl (by kernel_rfl) (by kernel_rfl) rfl (ex_app rfl rfl rfl hr33) (hb.trans bq33) ?_
              have oI := own_keep oI kq33 (by decide)
              have hA := kq33 _ _ _ _ hA (by decide)
              have oP := q33
              have hb := hb.trans bq33
              have hs := Nat.le_trans hs sq33
              have hS := hb
              simp only [Act.put, List.setIfInBounds_toArray, List.set_cons_succ, List.set_cons_zero]
              obtain ⟨a34, n34, c34, W34, hr34, q34, bq34, sq34, kq34⟩ := app_step okZ oI (XI.out _ hb) NI1.out hs 24
              rw [List.nil_append] at q34
              refine wpAnyH_one (w1 := W34) 12 (some 42) (.slice a34 n34 c34) rfl (by kernel_rfl) (by kernel_rfl) rfl (ex_app rfl rfl rfl hr34) (hb.trans bq34) ?_
              have oP := own_keep oP kq34 (by decide)
              have hA := kq34 _ _ _ _ hA (by decide)
              have oI := q34
              have hb := hb.trans bq34
              have hs := Nat.le_trans hs sq34
              have hS := hb
              simp only [Act.put, List.setIfInBounds_toArray, List.set_cons_succ, List.set_cons_zero]
              obtain ⟨a35, n35, c35, W35, hr35, q35, bq35, sq35, kq35⟩ := app_step okZ oI (YI.out _ hb) NI2.out hs 24
              refine wpAnyH_one (w1 := W35) 15 (some 45) (.slice a35 n35 c35) rfl (by kernel_rfl) (by kernel_rfl) rfl (ex_app rfl rfl rfl hr35) (hb.trans bq35) ?_
              have oP := own_keep oP kq35 (by decide)
              have hA := kq35 _ _ _ _ hA (by decide)
              have oI := q35
              have hb := hb.trans bq35
              have hs := Nat.le_trans hs sq35
              have hS := hb
              simp only [Act.put, List.setIfInBounds_toArray, List.set_cons_succ, List.set_cons_zero]
              refine wpAnyH_take_d 16 (some 46) (.agg #[.bool true, .slice a33 n33 c33, .slice none 0 0, .slice a35 n35 c35]) rfl (by kernel_rfl) (by kernel_rfl) (by kernel_rfl) (by kernel_rfl) rfl (fun _ _ _ h => h) (fun w' _ => ex_build013 rfl rfl rfl rfl (run_build w' 26 _ _ (by kernel_rfl))) (by exact hS) ?_
              simp only [Act.put, List.setIfInBounds_toArray, List.set_cons_succ, List.set_cons_zero]
              have hb2 := below_setRow' hb hAlo #[.bool true, .slice a33 n33 c33, .slice none 0 0, .slice a35 n35 c35]
              refine wpAnyH_one_skip 18 rfl (by kernel_rfl) (by kernel_rfl) (ex_store_row rfl rfl rfl hA (by kernel_rfl) rfl (by simp [Value.oneCell'])) hb2 ?_
              simp only [Act.put, List.setIfInBounds_toArray]
              refine wpAnyH_done (by kernel_rfl) ?_ _
              have F2 := F.below (hb2.mono F.sz)
              have H0 := setRow_heap _ _ _ #[.bool true, .slice a33 n33 c33, .slice none 0 0, .slice a35 n35 c35] _ _ hA
              have H1 := (oP.ner hA (by decide) (fun k hk => setRow_other _ W8.heap.size k #[.bool true, .slice a33 n33 c33, .slice none 0 0, .slice a35 n35 c35] hk)).base F.sz
              have H2 := (oI.ner hA (by decide) (fun k hk => setRow_other _ W8.heap.size k #[.bool true, .slice a33 n33 c33, .slice none 0 0, .slice a35 n35 c35] hk)).base F.sz
              have H3 := Nat.le_trans F.sz hAlo
              clear hb2 hb hS oP oI hA
              go_wp2
              go_meet
              exact ⟨_, _, _, rfl, .mk _ _ _, .mk _ _ _, F2, H0, H3, H1, H2⟩
          · skip
            obtain ⟨W9, hV⟩ : ∃ x, W4.alloc zrbO = x := ⟨_, rfl⟩
            have bx : Below W4.heap.size W4 W9 := by rw [← hV]; exact below_new W4 _
            have hlt9 : W4.heap.size < W9.heap.size := by rw [← hV]; simp
            have oP := oP.below bx
            have hA : W9.heap[W4.heap.size]? = some zrbO := by rw [← hV]; exact heap_alloc_new W4 _
            have hAlo := hs
            have hb := hb.trans (bx.mono hs)
            have hs := Nat.le_trans hs bx.size
            have hS := hb
            rw [hV]
            clear hV bx
            simp only [Act.put, List.setIfInBounds_toArray, List.set_cons_succ, List.set_cons_zero]
            obtain ⟨a36, n36, c36, W36, hr36, q36, bq36, sq36, kq36⟩ := app_step okP oP (YP.out _ hb) NP2.out hs 22
            refine wpAnyH_two (w1 := W36) (w2 := W9.alloc (.cells #[] 3)) 8 9 (some 38) (some 39) (.slice a36 n36 c36) (.slice (some ⟨W9.heap.size, 0, none⟩) 0 0) rfl rfl (by kernel_rfl) (by kernel_rfl) (by kernel_rfl) rfl rfl (ex_app rfl rfl rfl hr36) (ex_b0 rfl (mk0I W9)) (hb.trans bq36) (hb.trans ((below_new W9 (.cells #[] 3)).mono hs)) ?_ ?_
            · skip
              have hA := kq36 _ _ _ _ hA (by decide)
              have oP := q36
              have hb := hb.trans bq36
              have hs := Nat.le_trans hs sq36
              have hS := hb
              simp only [Act.put, List.setIfInBounds_toArray, List.set_cons_succ, List.set_cons_zero]
              refine wpAnyH_one (w1 := W36.alloc (.cells #[] 3)) 9 (some 39) (.slice (some ⟨W36.heap.size, 0, none⟩) 0 0) rfl (by kernel_rfl) (by kernel_rfl) rfl (ex_b0 rfl (mk0I W36)) (hb.trans ((below_new W36 (.cells #[] 3)).mono hs)) ?_
              obtain ⟨W38, hV⟩ : ∃ x, W36.alloc (.cells #[] 3) = x := ⟨_, rfl⟩
              have bx : Below W36.heap.size W36 W38 := by rw [← hV]; exact below_new W36 _
              have hlt38 : W36.heap.size < W38.heap.size := by rw [← hV]; simp
              have oP := oP.below bx
              have hA := (bx.block _ (lt_of_heap hA)).trans hA
              have oI : OwnR elI V0.heap.size W38 (.slice (some ⟨W36.heap.size, 0, none⟩) 0 0) [] := by rw [← hV]; exact (OwnR.made elI W36).base hs
              have hb := hb.trans (bx.mono hs)
              have hs := Nat.le_trans hs bx.size
              have hS := hb
              rw [hV]
              clear hV bx
              simp only [Act.put, List.setIfInBounds_toArray, List.set_cons_succ, List.set_cons_zero]
              obtain ⟨a39, n39, c39, W39, hr39, q39, bq39, sq39, kq39⟩ := app_step okZ oI (XI.out _ hb) NI1.out hs 24
              rw [List.nil_append] at q39
              refine wpAnyH_one (w1 := W39) 12 (some 42) (.slice a39 n39 c39) rfl (by kernel_rfl) (by kernel_rfl) rfl (ex_app rfl rfl rfl hr39) (hb.trans bq39) ?_
              have oP := own_keep oP kq39 (by decide)
              have hA := kq39 _ _ _ _ hA (by decide)
              have oI := q39
              have hb := hb.trans bq39
              have hs := Nat.le_trans hs sq39
              have hS := hb
              simp only [Act.put, List.setIfInBounds_toArray, List.set_cons_succ, List.set_cons_zero]
              obtain ⟨a40, n40, c40, W40, hr40, q40, bq40, sq40, kq40⟩ := app_step okZ oI (YI.out _ hb) NI2.out hs 24
              refine wpAnyH_one (w1 := W40) 15 (some 45) (.slice a40 n40 c40) rfl (by kernel_rfl) (by kernel_rfl) rfl (ex_app rfl rfl rfl hr40) (hb.trans bq40) ?_
              have oP := own_keep oP kq40 (by decide)
              have hA := kq40 _ _ _ _ hA (by decide)
              have oI := q40
              have hb := hb.trans bq40
              have hs := Nat.le_trans hs sq40
              have hS := hb
              simp only [Act.put, List.setIfInBounds_toArray, List.set_cons_succ, List.set_cons_zero]
              refine wpAnyH_take_d 16 (some 46) (.agg #[.bool true, .slice a36 n36 c36, .slice none 0 0, .slice a40 n40 c40]) rfl (by kernel_rfl) (by kernel_rfl) (by kernel_rfl) (by kernel_rfl) rfl (fun _ _ _ h => h) (fun w' _ => ex_build013 rfl rfl rfl rfl (run_build w' 26 _ _ (by kernel_rfl))) (by exact hS) ?_
              simp only [Act.put, List.setIfInBounds_toArray, List.set_cons_succ, List.set_cons_zero]
              have hb2 := below_setRow' hb hAlo #[.bool true, .slice a36 n36 c36, .slice none 0 0, .slice a40 n40 c40]
              refine wpAnyH_one_skip 18 rfl (by kernel_rfl) (by kernel_rfl) (ex_store_row rfl rfl rfl hA (by kernel_rfl) rfl (by simp [Value.oneCell'])) hb2 ?_
              simp only [Act.put, List.setIfInBounds_toArray]
              refine wpAnyH_done (by kernel_rfl) ?_ _
              have F2 := F.below (hb2.mono F.sz)
              have H0 := setRow_heap _ _ _ #[.bool true, .slice a36 n36 c36, .slice none 0 0, .slice a40 n40 c40] _ _ hA
              have H1 := (oP.ner hA (by decide) (fun k hk => setRow_other _ W4.heap.size k #[.bool true, .slice a36 n36 c36, .slice none 0 0, .slice a40 n40 c40] hk)).base F.sz
              have H2 := (oI.ner hA (by decide) (fun k hk => setRow_other _ W4.heap.size k #[.bool true, .slice a36 n36 c36, .slice none 0 0, .slice a40 n40 c40] hk)).base F.sz
              have H3 := Nat.le_trans F.sz hAlo
              clear hb2 hb hS oP oI hA
              go_wp2
              go_meet
              exact ⟨_, _, _, rfl, .mk _ _ _, .mk _ _ _, F2, H0, H3, H1, H2⟩
            · skip
              obtain ⟨W37, hV⟩ : ∃ x, W9.alloc (.cells #[] 3) = x := ⟨_, rfl⟩
              have bx : Below W9.heap.size W9 W37 := by rw [← hV]; exact below_new W9 _
              have hlt37 : W9.heap.size < W37.heap.size := by rw [← hV]; simp
              have oP := oP.below bx
              have hA := (bx.block _ (lt_of_heap hA)).trans hA
              have oI : OwnR elI V0.heap.size W37 (.slice (some ⟨W9.heap.size, 0, none⟩) 0 0) [] := by rw [← hV]; exact (OwnR.made elI W9).base hs
              have hb := hb.trans (bx.mono hs)
              have hs := Nat.le_trans hs bx.size
              have hS := hb
              rw [hV]
              clear hV bx
              simp only [Act.put, List.setIfInBounds_toArray, List.set_cons_succ, List.set_cons_zero]
              obtain ⟨a41, n41, c41, W41, hr41, q41, bq41, sq41, kq41⟩ := app_step okP oP (YP.out _ hb) NP2.out hs 22
              refine wpAnyH_one (w1 := W41) 8 (some 38) (.slice a41 n41 c41) rfl (by kernel_rfl) (by kernel_rfl) rfl (ex_app rfl rfl rfl hr41) (hb.trans bq41) ?_
              have hA := kq41 _ _ _ _ hA (by decide)
              have oI := own_keep oI kq41 (by decide)
              have oP := q41
              have hb := hb.trans bq41
              have hs := Nat.le_trans hs sq41
              have hS := hb
              simp only [Act.put, List.setIfInBounds_toArray, List.set_cons_succ, List.set_cons_zero]
              obtain ⟨a42, n42, c42, W42, hr42, q42, bq42, sq42, kq42⟩ := app_step okZ oI (XI.out _ hb) NI1.out hs 24
              rw [List.nil_append] at q42
              refine wpAnyH_one (w1 := W42) 12 (some 42) (.slice a42 n42 c42) rfl (by kernel_rfl) (by kernel_rfl) rfl (ex_app rfl rfl rfl hr42) (hb.trans bq42) ?_
              have oP := own_keep oP kq42 (by decide)
              have hA := kq42 _ _ _ _ hA (by decide)
              have oI := q42
              have hb := hb.trans bq42
              have hs := Nat.le_trans hs sq42
              have hS := hb
              simp only [Act.put, List.setIfInBounds_toArray, List.set_cons_succ, List.set_cons_zero]
              obtain ⟨a43, n43, c43, W43, hr43, q43, bq43, sq43, kq43⟩ := app_step okZ oI (YI.out _ hb) NI2.out hs 24
              refine wpAnyH_one (w1 := W43) 15 (some 45) (.slice a43 n43 c43) rfl (by kernel_rfl) (by kernel_rfl) rfl (ex_app rfl rfl rfl hr43) (hb.trans bq43) ?_
              have oP := own_keep oP kq43 (by decide)
              have hA := kq43 _ _ _ _ hA (by decide)
              have oI := q43
              have hb := hb.trans bq43
              have hs := Nat.le_trans hs sq43
              have hS := hb
              simp only [Act.put, List.setIfInBounds_toArray, List.set_cons_succ, List.set_cons_zero]
              refine wpAnyH_take_d 16 (some 46) (.agg #[.bool true, .slice a41 n41 c41, .slice none 0 0, .slice a43 n43 c43]) rfl (by kernel_rfl) (by kernel_rfl) (by kernel_rfl) (by kernel_rfl) rfl (fun _ _ _ h => h) (fun w' _ => ex_build013 rfl rfl rfl rfl (run_build w' 26 _ _ (by kernel_rfl))) (by exact hS) ?_
              simp only [Act.put, List.setIfInBounds_toArray, List.set_cons_succ, List.set_cons_zero]
              have hb2 := below_setRow' hb hAlo #[.bool true, .slice a41 n41 c41, .slice none 0 0, .slice a43 n43 c43]
              refine wpAnyH_one_skip 18 rfl (by kernel_rfl) (by kernel_rfl) (ex_store_row rfl rfl rfl hA (by kernel_rfl) rfl (by simp [Value.oneCell'])) hb2 ?_
              simp only [Act.put, List.setIfInBounds_toArray]
              refine wpAnyH_done (by kernel_rfl) ?_ _
              have F2 := F.below (hb2.mono F.sz)
              have H0 := setRow_heap _ _ _ #[.bool true, .slice a41 n41 c41, .slice none 0 0, .slice a43 n43 c43] _ _ hA
              have H1 := (oP.ner hA (by decide) (fun k hk => setRow_other _ W4.heap.size k #[.bool true, .slice a41 n41 c41, .slice none 0 0, .slice a43 n43 c43] hk)).base F.sz
              have H2 := (oI.ner hA (by decide) (fun k hk => setRow_other _ W4.heap.size k #[.bool true, .slice a41 n41 c41, .slice none 0 0, .slice a43 n43 c43] hk)).base F.sz
              have H3 := Nat.le_trans F.sz hAlo
              clear hb2 hb hS oP oI hA
              go_wp2
              go_meet
              exact ⟨_, _, _, rfl, .mk _ _ _, .mk _ _ _, F2, H0, H3, H1, H2⟩
        · skip
          obtain ⟨W5, hV⟩ : ∃ x, W1.alloc (.cells #[] 3) = x := ⟨_, rfl⟩
          have bx : Below W1.heap.size W1 W5 := by rw [← hV]; exact below_new W1 _
          have hlt5 : W1.heap.size < W5.heap.size := by rw [← hV]; simp
          have oP := oP.below bx
          have oI : OwnR elI V0.heap.size W5 (.slice (some ⟨W1.heap.size, 0, none⟩) 0 0) [] := by rw [← hV]; exact (OwnR.made elI W1).base hs
          have hb := hb.trans (bx.mono hs)
          have hs := Nat.le_trans hs bx.size
          have hS := hb
          rw [hV]
          clear hV bx
          simp only [Act.put, List.setIfInBounds_toArray, List.set_cons_succ, List.set_cons_zero]
          obtain ⟨a44, n44, c44, W44, hr44, q44, bq44, sq44, kq44⟩ := app_step okP oP (XP.out _ hb) NP1.out hs 22
          rw [List.nil_append] at q44
          refine wpAnyH_two (w1 := W44) (w2 := W5.alloc zrbO) 5 17 (some 35) (some 8) (.slice a44 n44 c44) (.pointer (some ⟨W5.heap.size, 0, none⟩)) rfl rfl (by kernel_rfl) (by kernel_rfl) (by kernel_rfl) rfl rfl (ex_app rfl rfl rfl hr44) (al_row rfl zero_rnd) (hb.trans bq44) (hb.trans ((below_new W5 zrbO).mono hs)) ?_ ?_
          · skip
            have oI := own_keep oI kq44 (by decide)
            have oP := q44
            have hb := hb.trans bq44
            have hs := Nat.le_trans hs sq44
            have hS := hb
            simp only [Act.put, List.setIfInBounds_toArray, List.set_cons_succ, List.set_cons_zero]
            obtain ⟨a46, n46, c46, W46, hr46, q46, bq46, sq46, kq46⟩ := app_step okP oP (YP.out _ hb) NP2.out hs 22
            refine wpAnyH_two (w1 := W46) (w2 := W44.alloc zrbO) 8 17 (some 38) (some 8) (.slice a46 n46 c46) (.pointer (some ⟨W44.heap.size, 0, none⟩)) rfl rfl (by kernel_rfl) (by kernel_rfl) (by kernel_rfl) rfl rfl (ex_app rfl rfl rfl hr46) (al_row rfl zero_rnd) (hb.trans bq46) (hb.trans ((below_new W44 zrbO).mono hs)) ?_ ?_
            · skip
              have oI := own_keep oI kq46 (by decide)
              have oP := q46
              have hb := hb.trans bq46
              have hs := Nat.le_trans hs sq46
              have hS := hb
              simp only [Act.put, List.setIfInBounds_toArray, List.set_cons_succ, List.set_cons_zero]
              obtain ⟨a48, n48, c48, W48, hr48, q48, bq48, sq48, kq48⟩ := app_step okZ oI (XI.out _ hb) NI1.out hs 24
              rw [List.nil_append] at q48
              refine wpAnyH_two (w1 := W48) (w2 := W46.alloc zrbO) 12 17 (some 42) (some 8) (.slice a48 n48 c48) (.pointer (some ⟨W46.heap.size, 0, none⟩)) rfl rfl (by kernel_rfl) (by kernel_rfl) (by kernel_rfl) rfl rfl (ex_app rfl rfl rfl hr48) (al_row rfl zero_rnd) (hb.trans bq48) (hb.trans ((below_new W46 zrbO).mono hs)) ?_ ?_
              · skip
                have oP := own_keep oP kq48 (by decide)
                have oI := q48
                have hb := hb.trans bq48
                have hs := Nat.le_trans hs sq48
                have hS := hb
                simp only [Act.put, List.setIfInBounds_toArray, List.set_cons_succ, List.set_cons_zero]
                obtain ⟨a50, n50, c50, W50, hr50, q50, bq50, sq50, kq50⟩ := app_step okZ oI (YI.out _ hb) NI2.out hs 24
                refine wpAnyH_two (w1 := W50) (w2 := W48.alloc zrbO) 15 17 (some 45) (some 8) (.slice a50 n50 c50) (.pointer (some ⟨W48.heap.size, 0, none⟩)) rfl rfl (by kernel_rfl) (by kernel_rfl) (by kernel_rfl) rfl rfl (ex_app rfl rfl rfl hr50) (al_row rfl zero_rnd) (hb.trans bq50) (hb.trans ((below_new W48 zrbO).mono hs)) ?_ ?_
                · skip
                  have oP := own_keep oP kq50 (by decide)
                  have oI := q50
                  have hb := hb.trans bq50
                  have hs := Nat.le_trans hs sq50
                  have hS := hb
                  simp only [Act.put, List.setIfInBounds_toArray, List.set_cons_succ, List.set_cons_zero]
                  refine wpAnyH_take_d 16 (some 46) (.agg #[.bool true, .slice a46 n46 c46, .slice none 0 0, .slice a50 n50 c50]) rfl (by kernel_rfl) (by kernel_rfl) (by kernel_rfl) (by kernel_rfl) rfl (fun _ _ _ h => h) (fun w' _ => ex_build013 rfl rfl rfl rfl (run_build w' 26 _ _ (by kernel_rfl))) (by exact hS) ?_
                  simp only [Act.put, List.setIfInBounds_toArray, List.set_cons_succ, List.set_cons_zero]
                  refine wpAnyH_one (w1 := W50.alloc zrbO) 17 (some 8) (.pointer (some ⟨W50.heap.size, 0, none⟩)) rfl (by kernel_rfl) (by kernel_rfl) rfl (al_row rfl zero_rnd) (hb.trans ((below_new W50 zrbO).mono hs)) ?_
                  obtain ⟨W52, hV⟩ : ∃ x, W50.alloc zrbO = x := ⟨_, rfl⟩
                  have bx : Below W50.heap.size W50 W52 := by rw [← hV]; exact below_new W50 _
                  have hlt52 : W50.heap.size < W52.heap.size := by rw [← hV]; simp
                  have oP := oP.below bx
                  have oI := oI.below bx
                  have hA : W52.heap[W50.heap.size]? = some zrbO := by rw [← hV]; exact heap_alloc_new W50 _
                  have hAlo := hs
                  have hb := hb.trans (bx.mono hs)
                  have hs := Nat.le_trans hs bx.size
                  have hS := hb
                  rw [hV]
                  clear hV bx
                  simp only [Act.put, List.setIfInBounds_toArray, List.set_cons_succ, List.set_cons_zero]
                  have hb2 := below_setRow' hb hAlo #[.bool true, .slice a46 n46 c46, .slice none 0 0, .slice a50 n50 c50]
                  refine wpAnyH_one_skip 18 rfl (by kernel_rfl) (by kernel_rfl) (ex_store_row rfl rfl rfl hA (by kernel_rfl) rfl (by simp [Value.oneCell'])) hb2 ?_
                  simp only [Act.put, List.setIfInBounds_toArray]
                  refine wpAnyH_done (by kernel_rfl) ?_ _
                  have F2 := F.below (hb2.mono F.sz)
                  have H0 := setRow_heap _ _ _ #[.bool true, .slice a46 n46 c46, .slice none 0 0, .slice a50 n50 c50] _ _ hA
                  have H1 := (oP.ner hA (by decide) (fun k hk => setRow_other _ W50.heap.size k #[.bool true, .slice a46 n46 c46, .slice none 0 0, .slice a50 n50 c50] hk)).base F.sz
                  have H2 := (oI.ner hA (by decide) (fun k hk => setRow_other _ W50.heap.size k #[.bool true, .slice a46 n46 c46, .slice none 0 0, .slice a50 n50 c50] hk)).base F.sz
                  have H3 := Nat.le_trans F.sz hAlo
                  clear hb2 hb hS oP oI hA
                  go_wp2
                  go_meet
                  exact ⟨_, _, _, rfl, .mk _ _ _, .mk _ _ _, F2, H0, H3, H1, H2⟩
                · skip
                  obtain ⟨W51, hV⟩ : ∃ x, W48.alloc zrbO = x := ⟨_, rfl⟩
                  have bx : Below W48.heap.size W48 W51 := by rw [← hV]; exact below_new W48 _
                  have hlt51 : W48.heap.size < W51.heap.size := by rw [← hV]; simp
                  have oP := oP.below bx
                  have oI := oI.below bx
                  have hA : W51.heap[W48.heap.size]? = some zrbO := by rw [← hV]; exact heap_alloc_new W48 _
                  have hAlo := hs
                  have hb := hb.trans (bx.mono hs)
                  have hs := Nat.le_trans hs bx.size
                  have hS := hb
                  rw [hV]
                  clear hV bx
                  simp only [Act.put, List.setIfInBounds_toArray, List.set_cons_succ, List.set_cons_zero]
                  obtain ⟨a53, n53, c53, W53, hr53, q53, bq53, sq53, kq53⟩ := app_step okZ oI (YI.out _ hb) NI2.out hs 24
                  refine wpAnyH_one (w1 := W53) 15 (some 45) (.slice a53 n53 c53) rfl (by kernel_rfl) (by kernel_rfl) rfl (ex_app rfl rfl rfl hr53) (hb.trans bq53) ?_
                  have oP := own_keep oP kq53 (by decide)
                  have hA := kq53 _ _ _ _ hA (by decide)
                  have oI := q53
                  have hb := hb.trans bq53
                  have hs := Nat.le_trans hs sq53
                  have hS := hb
                  simp only [Act.put, List.setIfInBounds_toArray, List.set_cons_succ, List.set_cons_zero]
                  refine wpAnyH_take_d 16 (some 46) (.agg #[.bool true, .slice a46 n46 c46, .slice none 0 0, .slice a53 n53 c53]) rfl (by kernel_rfl) (by kernel_rfl) (by kernel_rfl) (by kernel_rfl) rfl (fun _ _ _ h => h) (fun w' _ => ex_build013 rfl rfl rfl rfl (run_build w' 26 _ _ (by kernel_rfl))) (by exact hS) ?_
                  simp only [Act.put, List.setIfInBounds_toArray, List.set_cons_succ, List.set_cons_zero]
                  have hb2 := below_setRow' hb hAlo #[.bool true, .slice a46 n46 c46, .slice none 0 0, .slice a53 n53 c53]
                  refine wpAnyH_one_skip 18 rfl (by kernel_rfl) (by kernel_rfl) (ex_store_row rfl rfl rfl hA (by kernel_rfl) rfl (by simp [Value.oneCell'])) hb2 ?_
                  simp only [Act.put, List.setIfInBounds_toArray]
                  refine wpAnyH_done (by kernel_rfl) ?_ _
                  have F2 := F.below (hb2.mono F.sz)
                  have H0 := setRow_heap _ _ _ #[.bool true, .slice a46 n46 c46, .slice none 0 0, .slice a53 n53 c53] _ _ hA
                  have H1 := (oP.ner hA (by decide) (fun k hk => setRow_other _ W48.heap.size k #[.bool true, .slice a46 n46 c46, .slice none 0 0, .slice a53 n53 c53] hk)).base F.sz
                  have H2 := (oI.ner hA (by decide) (fun k hk => setRow_other _ W48.heap.size k #[.bool true, .slice a46 n46 c46, .slice none 0 0, .slice a53 n53 c53] hk)).base F.sz
                  have H3 := Nat.le_trans F.sz hAlo
                  clear hb2 hb hS oP oI hA
                  go_wp2
                  go_meet
                  exact ⟨_, _, _, rfl, .mk _ _ _, .mk _ _ _, F2, H0, H3, H1, H2⟩
              · skip
                obtain ⟨W49, hV⟩ : ∃ x, W46.alloc zrbO = x := ⟨_, rfl⟩
                have bx : Below W46.heap.size W46 W49 := by rw [← hV]; exact below_new W46 _
                have hlt49 : W46.heap.size < W49.heap.size := by rw [← hV]; simp
                have oP := oP.below bx
                have oI := oI.below bx
                have hA : W49.heap[W46.heap.size]? = some zrbO := by rw [← hV]; exact heap_alloc_new W46 _
                have hAlo := hs
                have hb := hb.trans (bx.mono hs)
                have hs := Nat.le_trans hs bx.size
                have hS := hb
                rw [hV]
                clear hV bx
                simp only [Act.put, List.setIfInBounds_toArray, List.set_cons_succ, List.set_cons_zero]
                obtain ⟨a54, n54, c54, W54, hr54, q54, bq54, sq54, kq54⟩ := app_step okZ oI (XI.out _ hb) NI1.out hs 24
                rw [List.nil_append] at q54
                refine wpAnyH_one (w1 := W54) 12 (some 42) (.slice a54 n54 c54) rfl (by kernel_rfl) (by kernel_rfl) rfl (ex_app rfl rfl rfl hr54) (hb.trans bq54) ?_
                have oP := own_keep oP kq54 (by decide)
                have hA := kq54 _ _ _ _ hA (by decide)
                have oI := q54
                have hb := hb.trans bq54
                have hs := Nat.le_trans hs sq54
                have hS := hb
                simp only [Act.put, List.setIfInBounds_toArray, List.set_cons_succ, List.set_cons_zero]
                obtain ⟨a55, n55, c55, W55, hr55, q55, bq55, sq55, kq55⟩ := app_step okZ oI (YI.out _ hb) NI2.out hs 24
                refine wpAnyH_one (w1 := W55) 15 (some 45) (.slice a55 n55 c55) rfl (by kernel_rfl) (by kernel_rfl) rfl (ex_app rfl rfl rfl hr55) (hb.trans bq55) ?_
                have oP := own_keep oP kq55 (by decide)
                have hA := kq55 _ _ _ _ hA (by decide)
                have oI := q55
                have hb := hb.trans bq55
                have hs := Nat.le_trans hs sq55
                have hS := hb
                simp only [Act.put, List.setIfInBounds_toArray, List.set_cons_succ, List.set_cons_zero]
                refine wpAnyH_take_d 16 (some 46) (.agg #[.bool true, .slice a46 n46 c46, .slice none 0 0, .slice a55 n55 c55]) rfl (by kernel_rfl) (by kernel_rfl) (by kernel_rfl) (by kernel_rfl) rfl (fun _ _ _ h => h) (fun w' _ => ex_build013 rfl rfl rfl rfl (run_build w' 26 _ _ (by kernel_rfl))) (by exact hS) ?_
                simp only [Act.put, List.setIfInBounds_toArray, List.set_cons_succ, List.set_cons_zero]
                have hb2 := below_setRow' hb hAlo #[.bool true, .slice a46 n46 c46, .slice none 0 0, .slice a55 n55 c55]
                refine wpAnyH_one_skip 18 rfl (by kernel_rfl) (by kernel_rfl) (ex_store_row rfl rfl rfl hA (by kernel_rfl) rfl (by simp [Value.oneCell'])) hb2 ?_
                simp only [Act.put, List.setIfInBounds_toArray]
                refine wpAnyH_done (by kernel_rfl) ?_ _
                have F2 := F.below (hb2.mono F.sz)
                have H0 := setRow_heap _ _ _ #[.bool true, .slice a46 n46 c46, .slice none 0 0, .slice a55 n55 c55] _ _ hA
                have H1 := (oP.ner hA (by decide) (fun k hk => setRow_other _ W46.heap.size k #[.bool true, .slice a46 n46 c46, .slice none 0 0, .slice a55 n55 c55] hk)).base F.sz
                have H2 := (oI.ner hA (by decide) (fun k hk => setRow_other _ W46.heap.size k #[.bool true, .slice a46 n46 c46, .slice none 0 0, .slice a55 n55 c55] hk)).base F.sz
                have H3 := Nat.le_trans F.sz hAlo
                clear hb2 hb hS oP oI hA
                go_wp2
                go_meet
                exact ⟨_, _, _, rfl, .mk _ _ _, .mk _ _ _, F2, H0, H3, H1, H2⟩
            · skip
              obtain ⟨W47, hV⟩ : ∃ x, W44.alloc zrbO = x := ⟨_, rfl⟩
              have bx : Below W44.heap.size W44 W47 := by rw [← hV]; exact below_new W44 _
              have hlt47 : W44.heap.size < W47.heap.size := by rw [← hV]; simp
              have oP := oP.below bx
              have oI := oI.below bx
              have hA : W47.heap[W44.heap.size]? = some zrbO := by rw [← hV]; exact heap_alloc_new W44 _
              have hAlo := hs
              have hb := hb.trans (bx.mono hs)
              have hs := Nat.le_trans hs bx.size
              have hS := hb
              rw [hV]
              clear hV bx
              simp only [Act.put, List.setIfInBounds_toArray, List.set_cons_succ, List.set_cons_zero]
              obtain ⟨a56, n56, c56, W56, hr56, q56, bq56, sq56, kq56⟩ := app_step okP oP (YP.out _ hb) NP2.out hs 22
              refine wpAnyH_one (w1 := W56) 8 (some 38) (.slice a56 n56 c56) rfl (by kernel_rfl) (by kernel_rfl) rfl (ex_app rfl rfl rfl hr56) (hb.trans bq56) ?_
              have oI := own_keep oI kq56 (by decide)
              have hA := kq56 _ _ _ _ hA (by decide)
              have oP := q56
              have hb := hb.trans bq56
              have hs := Nat.le_trans hs sq56
              have hS := hb
              simp only [Act.put, List.setIfInBounds_toArray, List.set_cons_succ, List.set_cons_zero]
              obtain ⟨a57, n57, c57, W57, hr57, q57, bq57, sq57, kq57⟩ := app_step okZ oI (XI.out _ hb) NI1.out hs 24
              rw [List.nil_append] at q57
              refine wpAnyH_one (w1 := W57) 12 (some 42) (.slice a57 n57 c57) rfl (by kernel_rfl) (by kernel_rfl) rfl (ex_app rfl rfl rfl hr57) (hb.trans bq57) ?_
              have oP := own_keep oP kq57 (by decide)
              have hA := kq57 _ _ _ _ hA (by decide)
              have oI := q57
              have hb := hb.trans bq57
              have hs := Nat.le_trans hs sq57
              have hS := hb
              simp only [Act.put, List.setIfInBounds_toArray, List.set_cons_succ, List.set_cons_zero]
              obtain ⟨a58, n58, c58, W58, hr58, q58, bq58, sq58, kq58⟩ := app_step okZ oI (YI.out _ hb) NI2.out hs 24
              refine wpAnyH_one (w1 := W58) 15 (some 45) (.slice a58 n58 c58) rfl (by kernel_rfl) (by kernel_rfl) rfl (ex_app rfl rfl rfl hr58) (hb.trans bq58) ?_
              have oP := own_keep oP kq58 (by decide)
              have hA := kq58 _ _ _ _ hA (by decide)
              have oI := q58
              have hb := hb.trans bq58
              have hs := Nat.le_trans hs sq58
              have hS := hb
              simp only [Act.put, List.setIfInBounds_toArray, List.set_cons_succ, List.set_cons_zero]
              refine wpAnyH_take_d 16 (some 46) (.agg #[.bool true, .slice a56 n56 c56, .slice none 0 0, .slice a58 n58 c58]) rfl (by kernel_rfl) (by kernel_rfl) (by kernel_rfl) (by kernel_rfl) rfl (fun _ _ _ h => h) (fun w' _ => ex_build013 rfl rfl rfl rfl (run_build w' 26 _ _ (by kernel_rfl))) (by exact hS) ?_
              simp only [Act.put, List.setIfInBounds_toArray, List.set_cons_succ, List.set_cons_zero]
              have hb2 := below_setRow' hb hAlo #[.bool true, .slice a56 n56 c56, .slice none 0 0, .slice a58 n58 c58]
              refine wpAnyH_one_skip 18 rfl (by kernel_rfl) (by kernel_rfl) (ex_store_row rfl rfl rfl hA (by kernel_rfl) rfl (by simp [Value.oneCell'])) hb2 ?_
              simp only [Act.put, List.setIfInBounds_toArray]
              refine wpAnyH_done (by kernel_rfl) ?_ _
              have F2 := F.below (hb2.mono F.sz)
              have H0 := setRow_heap _ _ _ #[.bool true, .slice a56 n56 c56, .slice none 0 0, .slice a58 n58 c58] _ _ hA
              have H1 := (oP.ner hA (by decide) (fun k hk => setRow_other _ W44.heap.size k #[.bool true, .slice a56 n56 c56, .slice none 0 0, .slice a58 n58 c58] hk)).base F.sz
              have H2 := (oI.ner hA (by decide) (fun k hk => setRow_other _ W44.heap.size k #[.bool true, .slice a56 n56 c56, .slice none 0 0, .slice a58 n58 c58] hk)).base F.sz
              have H3 := Nat.le_trans F.sz hAlo
              clear hb2 hb hS oP oI hA
              go_wp2
              go_meet
              exact ⟨_, _, _, rfl, .mk _ _ _, .mk _ _ _, F2, H0, H3, H1, H2⟩
          · skip
            obtain ⟨W45, hV⟩ : ∃ x, W5.alloc zrbO = x := ⟨_, rfl⟩
            have bx : Below W5.heap.size W5 W45 := by rw [← hV]; exact below_new W5 _
            have hlt45 : W5.heap.size < W45.heap.size := by rw [← hV]; simp
            have oP := oP.below bx
            have oI := oI.below bx
            have hA : W45.heap[W5.heap.size]? = some zrbO := by rw [← hV]; exact heap_alloc_new W5 _
            have hAlo := hs
            have hb := hb.trans (bx.mono hs)
            have hs := Nat.le_trans hs bx.size
            have hS := hb
            rw [hV]
            clear hV bx
            simp only [Act.put, List.setIfInBounds_toArray, List.set_cons_succ, List.set_cons_zero]
            obtain ⟨a59, n59, c59, W59, hr59, q59, bq59, sq59, kq59⟩ := app_step okP oP (XP.out _ hb) NP1.out hs 22
            rw [List.nil_append] at q59
            refine wpAnyH_one (w1 := W59) 5 (some 35) (.slice a59 n59 c59) rfl (by kernel_rfl) (by kernel_rfl) rfl (ex_app rfl rfl rfl hr59) (hb.trans bq59) ?_
            have oI := own_keep oI kq59 (by decide)
            have hA := kq59 _ _ _ _ hA (by decide)
            have oP := q59
            have hb := hb.trans bq59
            have hs := Nat.le_trans hs sq59
            have hS := hb
            simp only [Act.put, List.setIfInBounds_toArray, List.set_cons_succ, List.set_cons_zero]
            obtain ⟨a60, n60, c60, W60, hr60, q60, bq60, sq60, kq60⟩ := app_step okP oP (YP.out _ hb) NP2.out hs 22
            refine wpAnyH_one (w1 := W60) 8 (some 38) (.slice a60 n60 c60) rfl (by kernel_rfl) (by kernel_rfl) rfl (ex_app rfl rfl rfl hr60) (hb.trans bq60) ?_
            have oI := own_keep oI kq60 (by decide)
            have hA := kq60 _ _ _ _ hA (by decide)
            have oP := q60
            have hb := hb.trans bq60
            have hs := Nat.le_trans hs sq60
            have hS := hb
            simp only [Act.put, List.setIfInBounds_toArray, List.set_cons_succ, List.set_cons_zero]
            obtain ⟨a61, n61, c61, W61, hr61, q61, bq61, sq61, kq61⟩ := app_step okZ oI (XI.out _ hb) NI1.out hs 24
            rw [List.nil_append] at q61
            refine wpAnyH_one (w1 := W61) 12 (some 42) (.slice a61 n61 c61) rfl (by kernel_rfl) (by kernel_rfl) rfl (ex_app rfl rfl rfl hr61) (hb.trans bq61) ?_
            have oP := own_keep oP kq61 (by decide)
            have hA := kq61 _ _ _ _ hA (by decide)
            have oI := q61
            have hb := hb.trans bq61
            have hs := Nat.le_trans hs sq61
            have hS := hb
            simp only [Act.put, List.setIfInBounds_toArray, List.set_cons_succ, List.set_cons_zero]
            obtain ⟨a62, n62, c62, W62, hr62, q62, bq62, sq62, kq62⟩ := app_step okZ oI (YI.out _ hb) NI2.out hs 24
            refine wpAnyH_one (w1 := W62) 15 (some 45) (.slice a62 n62 c62) rfl (by kernel_rfl) (by kernel_rfl) rfl (ex_app rfl rfl rfl hr62) (hb.trans bq62) ?_
            have oP := own_keep oP kq62 (by decide)
            have hA := kq62 _ _ _ _ hA (by decide)
            have oI := q62
            have hb := hb.trans bq62
            have hs := Nat.le_trans hs sq62
            have hS := hb
            simp only [Act.put, List.setIfInBounds_toArray, List.set_cons_succ, List.set_cons_zero]
            refine wpAnyH_take_d 16 (some 46) (.agg #[.bool true, .slice a60 n60 c60, .slice none 0 0, .slice a62 n62 c62]) rfl (by kernel_rfl) (by kernel_rfl) (by kernel_rfl) (by kernel_rfl) rfl (fun _ _ _ h => h) (fun w' _ => ex_build013 rfl rfl rfl rfl (run_build w' 26 _ _ (by kernel_rfl))) (by exact hS) ?_
            simp only [Act.put, List.setIfInBounds_toArray, List.set_cons_succ, List.set_cons_zero]
            have hb2 := below_setRow' hb hAlo #[.bool true, .slice a60 n60 c60, .slice none 0 0, .slice a62 n62 c62]
            refine wpAnyH_one_skip 18 rfl (by kernel_rfl) (by kernel_rfl) (ex_store_row rfl rfl rfl hA (by kernel_rfl) rfl (by simp [Value.oneCell'])) hb2 ?_
            simp only [Act.put, List.setIfInBounds_toArray]
            refine wpAnyH_done (by kernel_rfl) ?_ _
            have F2 := F.below (hb2.mono F.sz)
            have H0 := setRow_heap _ _ _ #[.bool true, .slice a60 n60 c60, .slice none 0 0, .slice a62 n62 c62] _ _ hA
            have H1 := (oP.ner hA (by decide) (fun k hk => setRow_other _ W5.heap.size k #[.bool true, .slice a60 n60 c60, .slice none 0 0, .slice a62 n62 c62] hk)).base F.sz
            have H2 := (oI.ner hA (by decide) (fun k hk => setRow_other _ W5.heap.size k #[.bool true, .slice a60 n60 c60, .slice none 0 0, .slice a62 n62 c62] hk)).base F.sz
            have H3 := Nat.le_trans F.sz hAlo
            clear hb2 hb hS oP oI hA
            go_wp2
            go_meet
            exact ⟨_, _, _, rfl, .mk _ _ _, .mk _ _ _, F2, H0, H3, H1, H2⟩
        · skip
          obtain ⟨W6, hV⟩ : ∃ x, W1.alloc zrbO = x := ⟨_, rfl⟩
          have bx : Below W1.heap.size W1 W6 := by rw [← hV]; exact below_new W1 _
          have hlt6 : W1.heap.size < W6.heap.size := by rw [← hV]; simp
          have oP := oP.below bx
          have hA : W6.heap[W1.heap.size]? = some zrbO := by rw [← hV]; exact heap_alloc_new W1 _
          have hAlo := hs
          have hb := hb.trans (bx.mono hs)
          have hs := Nat.le_trans hs bx.size
          have hS := hb
          rw [hV]
          clear hV bx
          simp only [Act.put, List.setIfInBounds_toArray, List.set_cons_succ, List.set_cons_zero]
          obtain ⟨a63, n63, c63, W63, hr63, q63, bq63, sq63, kq63⟩ := app_step okP oP (XP.out _ hb) NP1.out hs 22
          rw [List.nil_append] at q63
          refine wpAnyH_two (w1 := W63) (w2 := W6.alloc (.cells #[] 3)) 5 9 (some 35) (some 39) (.slice a63 n63 c63) (.slice (some ⟨W6.heap.size, 0, none⟩) 0 0) rfl rfl (by kernel_rfl) (by kernel_rfl) (by kernel_rfl) rfl rfl (ex_app rfl rfl rfl hr63) (ex_b0 rfl (mk0I W6)) (hb.trans bq63) (hb.trans ((below_new W6 (.cells #[] 3)).mono hs)) ?_ ?_
          · skip
            have hA := kq63 _ _ _ _ hA (by decide)
            have oP := q63
            have hb := hb.trans bq63
            have hs := Nat.le_trans hs sq63
            have hS := hb
            simp only [Act.put, List.setIfInBounds_toArray, List.set_cons_succ, List.set_cons_zero]
            obtain ⟨a65, n65, c65, W65, hr65, q65, bq65, sq65, kq65⟩ := app_step okP oP (YP.out _ hb) NP2.out hs 22
            refine wpAnyH_two (w1 := W65) (w2 := W63.alloc (.cells #[] 3)) 8 9 (some 38) (some 39) (.slice a65 n65 c65) (.slice (some ⟨W63.heap.size, 0, none⟩) 0 0) rfl rfl (by kernel_rfl) (by kernel_rfl) (by kernel_rfl) rfl rfl (ex_app rfl rfl rfl hr65) (ex_b0 rfl (mk0I W63)) (hb.trans bq65) (hb.trans ((below_new W63 (.cells #[] 3)).mono hs)) ?_ ?_
            · skip
              have hA := kq65 _ _ _ _ hA (by decide)
              have oP := q65
              have hb := hb.trans bq65
              have hs := Nat.le_trans hs sq65
              have hS := hb
              simp only [Act.put, List.setIfInBounds_toArray, List.set_cons_succ, List.set_cons_zero]
              refine wpAnyH_one (w1 := W65.alloc (.cells #[] 3)) 9 (some 39) (.slice (some ⟨W65.heap.size, 0, none⟩) 0 0) rfl (by kernel_rfl) (by kernel_rfl) rfl (ex_b0 rfl (mk0I W65)) (hb.trans ((below_new W65 (.cells #[] 3)).mono hs)) ?_
              obtain ⟨W67, hV⟩ : ∃ x, W65.alloc (.cells #[] 3) = x := ⟨_, rfl⟩
              have bx : Below W65.heap.size W65 W67 := by rw [← hV]; exact below_new W65 _
              have hlt67 : W65.heap.size < W67.heap.size := by rw [← hV]; simp
              have oP := oP.below bx
              have hA := (bx.block _ (lt_of_heap hA)).trans hA
              have oI : OwnR elI V0.heap.size W67 (.slice (some ⟨W65.heap.size, 0, none⟩) 0 0) [] := by rw [← hV]; exact (OwnR.made elI W65).base hs
              have hb := hb.trans (bx.mono hs)
              have hs := Nat.le_trans hs bx.size
              have hS := hb
              rw [hV]
              clear hV bx
              simp only [Act.put, List.setIfInBounds_toArray, List.set_cons_succ, List.set_cons_zero]
              obtain ⟨a68, n68, c68, W68, hr68, q68, bq68, sq68, kq68⟩ := app_step okZ oI (XI.out _ hb) NI1.out hs 24
              rw [List.nil_append] at q68
              refine wpAnyH_one (w1 := W68) 12 (some 42) (.slice a68 n68 c68) rfl (by kernel_rfl) (by kernel_rfl) rfl (ex_app rfl rfl rfl hr68) (hb.trans bq68) ?_
              have oP := own_keep oP kq68 (by decide)
              have hA := kq68 _ _ _ _ hA (by decide)
              have oI := q68
              have hb := hb.trans bq68
              have hs := Nat.le_trans hs sq68
              have hS := hb
              simp only [Act.put, List.setIfInBounds_toArray, List.set_cons_succ, List.set_cons_zero]
              obtain ⟨a69, n69, c69, W69, hr69, q69, bq69, sq69, kq69⟩ := app_step okZ oI (YI.out _ hb) NI2.out hs 24
              refine wpAnyH_one (w1 := W69) 15 (some 45) (.slice a69 n69 c69) rfl (by kernel_rfl) (by kernel_rfl) rfl (ex_app rfl rfl rfl hr69) (hb.trans bq69) ?_
              have oP := own_keep oP kq69 (by decide)
              have hA := kq69 _ _ _ _ hA (by decide)
              have oI := q69
              have hb := hb.trans bq69
              have hs := Nat.le_trans hs sq69
              have hS := hb
              simp only [Act.put, List.setIfInBounds_toArray, List.set_cons_succ, List.set_cons_zero]
              refine wpAnyH_take_d 16 (some 46) (.agg #[.bool true, .slice a65 n65 c65, .slice none 0 0, .slice a69 n69 c69]) rfl (by kernel_rfl) (by kernel_rfl) (by kernel_rfl) (by kernel_rfl) rfl (fun _ _ _ h => h) (fun w' _ => ex_build013 rfl rfl rfl rfl (run_build w' 26 _ _ (by kernel_rfl))) (by exact hS) ?_
              simp only [Act.put, List.setIfInBounds_toArray, List.set_cons_succ, List.set_cons_zero]
              have hb2 := below_setRow' hb hAlo #[.bool true, .slice a65 n65 c65, .slice none 0 0, .slice a69 n69 c69]
              refine wpAnyH_one_skip 18 rfl (by kernel_rfl) (by kernel_rfl) (ex_store_row rfl rfl rfl hA (by kernel_rfl) rfl (by simp [Value.oneCell'])) hb2 ?_
              simp only [Act.put, List.setIfInBounds_toArray]
              refine wpAnyH_done (by kernel_rfl) ?_ _
              have F2 := F.below (hb2.mono F.sz)
              have H0 := setRow_heap _ _ _ #[.bool true, .slice a65 n65 c65, .slice none 0 0, .slice a69 n69 c69] _ _ hA
              have H1 := (oP.ner hA (by decide) (fun k hk => setRow_other _ W1.heap.size k #[.bool true, .slice a65 n65 c65, .slice none 0 0, .slice a69 n69 c69] hk)).base F.sz
              have H2 := (oI.ner hA (by decide) (fun k hk => setRow_other _ W1.heap.size k #[.bool true, .slice a65 n65 c65, .slice none 0 0, .slice a69 n69 c69] hk)).base F.sz
              have H3 := Nat.le_trans F.sz hAlo
              clear hb2 hb hS oP oI hA
              go_wp2
              go_meet
              exact ⟨_, _, _, rfl, .mk _ _ _, .mk _ _ _, F2, H0, H3, H1, H2⟩
            · skip
              obtain ⟨W66, hV⟩ : ∃ x, W63.alloc (.cells #[] 3) = x := ⟨_, rfl⟩
              have bx : Below W63.heap.size W63 W66 := by rw [← hV]; exact below_new W63 _
              have hlt66 : W63.heap.size < W66.heap.size := by rw [← hV]; simp
              have oP := oP.below bx
              have hA := (bx.block _ (lt_of_heap hA)).trans hA
              have oI : OwnR elI V0.heap.size W66 (.slice (some ⟨W63.heap.size, 0, none⟩) 0 0) [] := by rw [← hV]; exact (OwnR.made elI W63).base hs
              have hb := hb.trans (bx.mono hs)
              have hs := Nat.le_trans hs bx.size
              have hS := hb
              rw [hV]
              clear hV bx
              simp only [Act.put, List.setIfInBounds_toArray, List.set_cons_succ, List.set_cons_zero]
              obtain ⟨a70, n70, c70, W70, hr70, q70, bq70, sq70, kq70⟩ := app_step okP oP (YP.out _ hb) NP2.out hs 22
              refine wpAnyH_one (w1 := W70) 8 (some 38) (.slice a70 n70 c70) rfl (by kernel_rfl) (by kernel_rfl) rfl (ex_app rfl rfl rfl hr70) (hb.trans bq70) ?_
              have hA := kq70 _ _ _ _ hA (by decide)
              have oI := own_keep oI kq70 (by decide)
              have oP := q70
              have hb := hb.trans bq70
              have hs := Nat.le_trans hs sq70
              have hS := hb
              simp only [Act.put, List.setIfInBounds_toArray, List.set_cons_succ, List.set_cons_zero]
              obtain ⟨a71, n71, c71, W71, hr71, q71, bq71, sq71, kq71⟩ := app_step okZ oI (XI.out _ hb) NI1.out hs 24
              rw [List.nil_append] at q71
              refine wpAnyH_one (w1 := W71) 12 (some 42) (.slice a71 n71 c71) rfl (by kernel_rfl) (by kernel_rfl) rfl (ex_app rfl rfl rfl hr71) (hb.trans bq71) ?_
              have oP := own_keep oP kq71 (by decide)
              have hA := kq71 _ _ _ _ hA (by decide)
              have oI := q71
              have hb := hb.trans bq71
              have hs := Nat.le_trans hs sq71
              have hS := hb
              simp only [Act.put, List.setIfInBounds_toArray, List.set_cons_succ, List.set_cons_zero]
              obtain ⟨a72, n72, c72, W72, hr72, q72, bq72, sq72, kq72⟩ := app_step okZ oI (YI.out _ hb) NI2.out hs 24
              refine wpAnyH_one (w1 := W72) 15 (some 45) (.slice a72 n72 c72) rfl (by kernel_rfl) (by kernel_rfl) rfl (ex_app rfl rfl rfl hr72) (hb.trans bq72) ?_
              have oP := own_keep oP kq72 (by decide)
              have hA := kq72 _ _ _ _ hA (by decide)
              have oI := q72
              have hb := hb.trans bq72
              have hs := Nat.le_trans hs sq72
              have hS := hb
              simp only [Act.put, List.setIfInBounds_toArray, List.set_cons_succ, List.set_cons_zero]
              refine wpAnyH_take_d 16 (some 46) (.agg #[.bool true, .slice a70 n70 c70, .slice none 0 0, .slice a72 n72 c72]) rfl (by kernel_rfl) (by kernel_rfl) (by kernel_rfl) (by kernel_rfl) rfl (fun _ _ _ h => h) (fun w' _ => ex_build013 rfl rfl rfl rfl (run_build w' 26 _ _ (by kernel_rfl))) (by exact hS) ?_
              simp only [Act.put, List.setIfInBounds_toArray, List.set_cons_succ, List.set_cons_zero]
              have hb2 := below_setRow' hb hAlo #[.bool true, .slice a70 n70 c70, .slice none 0 0, .slice a72 n72 c72]
              refine wpAnyH_one_skip 18 rfl (by kernel_rfl) (by kernel_rfl) (ex_store_row rfl rfl rfl hA (by kernel_rfl) rfl (by simp [Value.oneCell'])) hb2 ?_
              simp only [Act.put, List.setIfInBounds_toArray]
              refine wpAnyH_done (by kernel_rfl) ?_ _
              have F2 := F.below (hb2.mono F.sz)
              have H0 := setRow_heap _ _ _ #[.bool true, .slice a70 n70 c70, .slice none 0 0, .slice a72 n72 c72] _ _ hA
              have H1 := (oP.ner hA (by decide) (fun k hk => setRow_other _ W1.heap.size k #[.bool true, .slice a70 n70 c70, .slice none 0 0, .slice a72 n72 c72] hk)).base F.sz
              have H2 := (oI.ner hA (by decide) (fun k hk => setRow_other _ W1.heap.size k #[.bool true, .slice a70 n70 c70, .slice none 0 0, .slice a72 n72 c72] hk)).base F.sz
              have H3 := Nat.le_trans F.sz hAlo
              clear hb2 hb hS oP oI hA
              go_wp2
              go_meet
              exact ⟨_, _, _, rfl, .mk _ _ _, .mk _ _ _, F2, H0, H3, H1, H2⟩
          · skip
            obtain ⟨W64, hV⟩ : ∃ x, W6.alloc (.cells #[] 3) = x := ⟨_, rfl⟩
            have bx : Below W6.heap.size W6 W64 := by rw [← hV]; exact below_new W6 _
            have hlt64 : W6.heap.size < W64.heap.size := by rw [← hV]; simp
            have oP := oP.below bx
            have hA := (bx.block _ (lt_of_heap hA)).trans hA
            have oI : OwnR elI V0.heap.size W64 (.slice (some ⟨W6.heap.size, 0, none⟩) 0 0) [] := by rw [← hV]; exact (OwnR.made elI W6).base hs
            have hb := hb.trans (bx.mono hs)
            have hs := Nat.le_trans hs bx.size
            have hS := hb
            rw [hV]
            clear hV bx
            simp only [Act.put, List.setIfInBounds_toArray, List.set_cons_succ, List.set_cons_zero]
            obtain ⟨a73, n73, c73, W73, hr73, q73, bq73, sq73, kq73⟩ := app_step okP oP (XP.out _ hb) NP1.out hs 22
            rw [List.nil_append] at q73
            refine wpAnyH_one (w1 := W73) 5 (some 35) (.slice a73 n73 c73) rfl (by kernel_rfl) (by kernel_rfl) rfl (ex_app rfl rfl rfl hr73) (hb.trans bq73) ?_
            have hA := kq73 _ _ _ _ hA (by decide)
            have oI := own_keep oI kq73 (by decide)
            have oP := q73
            have hb := hb.trans bq73
            have hs := Nat.le_trans hs sq73
            have hS := hb
            simp only [Act.put, List.setIfInBounds_toArray, List.set_cons_succ, List.set_cons_zero]
            obtain ⟨a74, n74, c74, W74, hr74, q74, bq74, sq74, kq74⟩ := app_step okP oP (YP.out _ hb) NP2.out hs 22
            refine wpAnyH_one (w1 := W74) 8 (some 38) (.slice a74 n74 c74) rfl (by kernel_rfl) (by kernel_rfl) rfl (ex_app rfl rfl rfl hr74) (hb.trans bq74) ?_
            have hA := kq74 _ _ _ _ hA (by decide)
            have oI := own_keep oI kq74 (by decide)
            have oP := q74
            have hb := hb.trans bq74
            have hs := Nat.le_trans hs sq74
            have hS := hb
            simp only [Act.put, List.setIfInBounds_toArray, List.set_cons_succ, List.set_cons_zero]
            obtain ⟨a75, n75, c75, W75, hr75, q75, bq75, sq75, kq75⟩ := app_step okZ oI (XI.out _ hb) NI1.out hs 24
            rw [List.nil_append] at q75
            refine wpAnyH_one (w1 := W75) 12 (some 42) (.slice a75 n75 c75) rfl (by kernel_rfl) (by kernel_rfl) rfl (ex_app rfl rfl rfl hr75) (hb.trans bq75) ?_
            have oP := own_keep oP kq75 (by decide)
            have hA := kq75 _ _ _ _ hA (by decide)
            have oI := q75
            have hb := hb.trans bq75
            have hs := Nat.le_trans hs sq75
            have hS := hb
            simp only [Act.put, List.setIfInBounds_toArray, List.set_cons_succ, List.set_cons_zero]
            obtain ⟨a76, n76, c76, W76, hr76, q76, bq76, sq76, kq76⟩ := app_step okZ oI (YI.out _ hb) NI2.out hs 24
            refine wpAnyH_one (w1 := W76) 15 (some 45) (.slice a76 n76 c76) rfl (by kernel_rfl) (by kernel_rfl) rfl (ex_app rfl rfl rfl hr76) (hb.trans bq76) ?_
            have oP := own_keep oP kq76 (by decide)
            have hA := kq76 _ _ _ _ hA (by decide)
            have oI := q76
            have hb := hb.trans bq76
            have hs := Nat.le_trans hs sq76
            have hS := hb
            simp only [Act.put, List.setIfInBounds_toArray, List.set_cons_succ, List.set_cons_zero]
            refine wpAnyH_take_d 16 (some 46) (.agg #[.bool true, .slice a74 n74 c74, .slice none 0 0, .slice a76 n76 c76]) rfl (by kernel_rfl) (by kernel_rfl) (by kernel_rfl) (by kernel_rfl) rfl (fun _ _ _ h => h) (fun w' _ => ex_build013 rfl rfl rfl rfl (run_build w' 26 _ _ (by kernel_rfl))) (by exact hS) ?_
            simp only [Act.put, List.setIfInBounds_toArray, List.set_cons_succ, List.set_cons_zero]
            have hb2 := below_setRow' hb hAlo #[.bool true, .slice a74 n74 c74, .slice none 0 0, .slice a76 n76 c76]
            refine wpAnyH_one_skip 18 rfl (by kernel_rfl) (by kernel_rfl) (ex_store_row rfl rfl rfl hA (by kernel_rfl) rfl (by simp [Value.oneCell'])) hb2 ?_
            simp only [Act.put, List.setIfInBounds_toArray]
            refine wpAnyH_done (by kernel_rfl) ?_ _
            have F2 := F.below (hb2.mono F.sz)
            have H0 := setRow_heap _ _ _ #[.bool true, .slice a74 n74 c74, .slice none 0 0, .slice a76 n76 c76] _ _ hA
            have H1 := (oP.ner hA (by decide) (fun k hk => setRow_other _ W1.heap.size k #[.bool true, .slice a74 n74 c74, .slice none 0 0, .slice a76 n76 c76] hk)).base F.sz
            have H2 := (oI.ner hA (by decide) (fun k hk => setRow_other _ W1.heap.size k #[.bool true, .slice a74 n74 c74, .slice none 0 0, .slice a76 n76 c76] hk)).base F.sz
            have H3 := Nat.le_trans F.sz hAlo
            clear hb2 hb hS oP oI hA
            go_wp2
            go_meet
            exact ⟨_, _, _, rfl, .mk _ _ _, .mk _ _ _, F2, H0, H3, H1, H2⟩
      · skip
        obtain ⟨W2, hV⟩ : ∃ x, V0.alloc (.cells #[] 3) = x := ⟨_, rfl⟩
        have bx : Below V0.heap.size V0 W2 := by rw [← hV]; exact below_new V0 _
        have hlt2 : V0.heap.size < W2.heap.size := by rw [← hV]; simp
        have oI : OwnR elI V0.heap.size W2 (.slice (some ⟨V0.heap.size, 0, none⟩) 0 0) [] := by rw [← hV]; exact (OwnR.made elI V0).base hs
        have hb := hb.trans (bx.mono hs)
        have hs := Nat.le_trans hs bx.size
        have hS := hb
        rw [hV]
        clear hV bx
        simp only [Act.put, List.setIfInBounds_toArray, List.set_cons_succ, List.set_cons_zero]
        refine wpAnyH_two (w1 := W2.alloc (.cells #[] 50)) (w2 := W2.alloc zrbO) 2 17 (some 32) (some 8) (.slice (some ⟨W2.heap.size, 0, none⟩) 0 0) (.pointer (some ⟨W2.heap.size, 0, none⟩)) rfl rfl (by kernel_rfl) (by kernel_rfl) (by kernel_rfl) rfl rfl (ex_b0 rfl (mk0P W2)) (al_row rfl zero_rnd) (hb.trans ((below_new W2 (.cells #[] 50)).mono hs)) (hb.trans ((below_new W2 zrbO).mono hs)) ?_ ?_
        · skip
          obtain ⟨W77, hV⟩ : ∃ x, W2.alloc (.cells #[] 50) = x := ⟨_, rfl⟩
          have bx : Below W2.heap.size W2 W77 := by rw [← hV]; exact below_new W2 _
          have hlt77 : W2.heap.size < W77.heap.size := by rw [← hV]; simp
          have oI := oI.below bx
          have oP : OwnR elP V0.heap.size W77 (.slice (some ⟨W2.heap.size, 0, none⟩) 0 0) [] := by rw [← hV]; exact (OwnR.made elP W2).base hs
          have hb := hb.trans (bx.mono hs)
          have hs := Nat.le_trans hs bx.size
          have hS := hb
          rw [hV]
          clear hV bx
          simp only [Act.put, List.setIfInBounds_toArray, List.set_cons_succ, List.set_cons_zero]
          obtain ⟨a79, n79, c79, W79, hr79, q79, bq79, sq79, kq79⟩ := app_step okP oP (XP.out _ hb) NP1.out hs 22
          rw [List.nil_append] at q79
          refine wpAnyH_two (w1 := W79) (w2 := W77.alloc zrbO) 5 17 (some 35) (some 8) (.slice a79 n79 c79) (.pointer (some ⟨W77.heap.size, 0, none⟩)) rfl rfl (by kernel_rfl) (by kernel_rfl) (by kernel_rfl) rfl rfl (ex_app rfl rfl rfl hr79) (al_row rfl zero_rnd) (hb.trans bq79) (hb.trans ((below_new W77 zrbO).mono hs)) ?_ ?_
          · skip
            have oI := own_keep oI kq79 (by decide)
            have oP := q79
            have hb := hb.trans bq79
            have hs := Nat.le_trans hs sq79
            have hS := hb
            simp only [Act.put, List.setIfInBounds_toArray, List.set_cons_succ, List.set_cons_zero]
            obtain ⟨a81, n81, c81, W81, hr81, q81, bq81, sq81, kq81⟩ := app_step okP oP (YP.out _ hb) NP2.out hs 22
            refine wpAnyH_two (w1 := W81) (w2 := W79.alloc zrbO) 8 17 (some 38) (some 8) (.slice a81 n81 c81) (.pointer (some ⟨W79.heap.size, 0, none⟩)) rfl rfl (by kernel_rfl) (by kernel_rfl) (by kernel_rfl) rfl rfl (ex_app rfl rfl rfl hr81) (al_row rfl zero_rnd) (hb.trans bq81) (hb.trans ((below_new W79 zrbO).mono hs)) ?_ ?_
            · skip
              have oI := own_keep oI kq81 (by decide)
              have oP := q81
              have hb := hb.trans bq81
              have hs := Nat.le_trans hs sq81
              have hS := hb
              simp only [Act.put, List.setIfInBounds_toArray, List.set_cons_succ, List.set_cons_zero]
              obtain ⟨a83, n83, c83, W83, hr83, q83, bq83, sq83, kq83⟩ := app_step okZ oI (XI.out _ hb) NI1.out hs 24
              rw [List.nil_append] at q83
              refine wpAnyH_two (w1 := W83) (w2 := W81.alloc zrbO) 12 17 (some 42) (some 8) (.slice a83 n83 c83) (.pointer (some ⟨W81.heap.size, 0, none⟩)) rfl rfl (by kernel_rfl) (by kernel_rfl) (by kernel_rfl) rfl rfl (ex_app rfl rfl rfl hr83) (al_row rfl zero_rnd) (hb.trans bq83) (hb.trans ((below_new W81 zrbO).mono hs)) ?_ ?_
              · skip
                have oP := own_keep oP kq83 (by decide)
                have oI := q83
                have hb := hb.trans bq83
                have hs := Nat.le_trans hs sq83
                have hS := hb
                simp only [Act.put, List.setIfInBounds_toArray, List.set_cons_succ, List.set_cons_zero]
                obtain ⟨a85, n85, c85, W85, hr85, q85, bq85, sq85, kq85⟩ := app_step okZ oI (YI.out _ hb) NI2.out hs 24
                refine wpAnyH_two (w1 := W85) (w2 := W83.alloc zrbO) 15 17 (some 45) (some 8) (.slice a85 n85 c85) (.pointer (some ⟨W83.heap.size, 0, none⟩)) rfl rfl (by kernel_rfl) (by kernel_rfl) (by kernel_rfl) rfl rfl (ex_app rfl rfl rfl hr85) (al_row rfl zero_rnd) (hb.trans bq85) (hb.trans ((below_new W83 zrbO).mono hs)) ?_ ?_
                · skip
                  have oP := own_keep oP kq85 (by decide)
                  have oI := q85
                  have hb := hb.trans bq85
                  have hs := Nat.le_trans hs sq85
                  have hS := hb
                  simp only [Act.put, List.setIfInBounds_toArray, List.set_cons_succ, List.set_cons_zero]
                  refine wpAnyH_take_d 16 (some 46) (.agg #[.bool true, .slice a81 n81 c81, .slice none 0 0, .slice a85 n85 c85]) rfl (by kernel_rfl) (by kernel_rfl) (by kernel_rfl) (by kernel_rfl) rfl (fun _ _ _ h => h) (fun w' _ => ex_build013 rfl rfl rfl rfl (run_build w' 26 _ _ (by kernel_rfl))) (by exact hS) ?_
                  simp only [Act.put, List.setIfInBounds_toArray, List.set_cons_succ, List.set_cons_zero]
                  refine wpAnyH_one (w1 := W85.alloc zrbO) 17 (some 8) (.pointer (some ⟨W85.heap.size, 0, none⟩)) rfl (by kernel_rfl) (by kernel_rfl) rfl (al_row rfl zero_rnd) (hb.trans ((below_new W85 zrbO).mono hs)) ?_
                  obtain ⟨W87, hV⟩ : ∃ x, W85.alloc zrbO = x := ⟨_, rfl⟩
                  have bx : Below W85.heap.size W85 W87 := by rw [← hV]; exact below_new W85 _
                  have hlt87 : W85.heap.size < W87.heap.size := by rw [← hV]; simp
                  have oI := oI.below bx
                  have oP := oP.below bx
                  have hA : W87.heap[W85.heap.size]? = some zrbO := by rw [← hV]; exact heap_alloc_new W85 _
                  have hAlo := hs
                  have hb := hb.trans (bx.mono hs)
                  have hs := Nat.le_trans hs bx.size
                  have hS := hb
                  rw [hV]
                  clear hV bx
                  simp only [Act.put, List.setIfInBounds_toArray, List.set_cons_succ, List.set_cons_zero]
                  have hb2 := below_setRow' hb hAlo #[.bool true, .slice a81 n81 c81, .slice none 0 0, .slice a85 n85 c85]
                  refine wpAnyH_one_skip 18 rfl (by kernel_rfl) (by kernel_rfl) (ex_store_row rfl rfl rfl hA (by kernel_rfl) rfl (by simp [Value.oneCell'])) hb2 ?_
                  simp only [Act.put, List.setIfInBounds_toArray]
                  refine wpAnyH_done (by kernel_rfl) ?_ _
                  have F2 := F.below (hb2.mono F.sz)
                  have H0 := setRow_heap _ _ _ #[.bool true, .slice a81 n81 c81, .slice none 0 0, .slice a85 n85 c85] _ _ hA
                  have H1 := (oP.ner hA (by decide) (fun k hk => setRow_other _ W85.heap.size k #[.bool true, .slice a81 n81 c81, .slice none 0 0, .slice a85 n85 c85] hk)).base F.sz
                  have H2 := (oI.ner hA (by decide) (fun k hk => setRow_other _ W85.heap.size k #[.bool true, .slice a81 n81 c81, .slice none 0 0, .slice a85 n85 c85] hk)).base F.sz
                  have H3 := Nat.le_trans F.sz hAlo
                  clear hb2 hb hS oP oI hA
                  go_wp2
                  go_meet
                  exact ⟨_, _, _, rfl, .mk _ _ _, .mk _ _ _, F2, H0, H3, H1, H2⟩
                · skip
                  obtain ⟨W86, hV⟩ : ∃ x, W83.alloc zrbO = x := ⟨_, rfl⟩
                  have bx : Below W83.heap.size W83 W86 := by rw [← hV]; exact below_new W83 _
                  have hlt86 : W83.heap.size < W86.heap.size := by rw [← hV]; simp
                  have oI := oI.below bx
                  have oP := oP.below bx
                  have hA : W86.heap[W83.heap.size]? = some zrbO := by rw [← hV]; exact heap_alloc_new W83 _
                  have hAlo := hs
                  have hb := hb.trans (bx.mono hs)
                  have hs := Nat.le_trans hs bx.size
                  have hS := hb
                  rw [hV]
                  clear hV bx
                  simp only [Act.put, List.setIfInBounds_toArray, List.set_cons_succ, List.set_cons_zero]
                  obtain ⟨a88, n88, c88, W88, hr88, q88, bq88, sq88, kq88⟩ := app_step okZ oI (YI.out _ hb) NI2.out hs 24
                  refine wpAnyH_one (w1 := W88) 15 (some 45) (.slice a88 n88 c88) rfl (by kernel_rfl) (by kernel_rfl) rfl (ex_app rfl rfl rfl hr88) (hb.trans bq88) ?_
                  have oP := own_keep oP kq88 (by decide)
                  have hA := kq88 _ _ _ _ hA (by decide)
                  have oI := q88
                  have hb := hb.trans bq88
                  have hs := Nat.le_trans hs sq88
                  have hS := hb
                  simp only [Act.put, List.setIfInBounds_toArray, List.set_cons_succ, List.set_cons_zero]
                  refine wpAnyH_take_d 16 (some 46) (.agg #[.bool true, .slice a81 n81 c81, .slice none 0 0, .slice a88 n88 c88]) rfl (by kernel_rfl) (by kernel_rfl) (by kernel_rfl) (by kernel_rfl) rfl (fun _ _ _ h => h) (fun w' _ => ex_build013 rfl rfl rfl rfl (run_build w' 26 _ _ (by kernel_rfl))) (by exact hS) ?_
                  simp only [Act.put, List.setIfInBounds_toArray, List.set_cons_succ, List.set_cons_zero]
                  have hb2 := below_setRow' hb hAlo #[.bool true, .slice a81 n81 c81, .slice none 0 0, .slice a88 n88 c88]
                  refine wpAnyH_one_skip 18 rfl (by kernel_rfl) (by kernel_rfl) (ex_store_row rfl rfl rfl hA (by kernel_rfl) rfl (by simp [Value.oneCell'])) hb2 ?_
                  simp only [Act.put, List.setIfInBounds_toArray]
                  refine wpAnyH_done (by kernel_rfl) ?_ _
                  have F2 := F.below (hb2.mono F.sz)
                  have H0 := setRow_heap _ _ _ #[.bool true, .slice a81 n81 c81, .slice none 0 0, .slice a88 n88 c88] _ _ hA
                  have H1 := (oP.ner hA (by decide) (fun k hk => setRow_other _ W83.heap.size k #[.bool true, .slice a81 n81 c81, .slice none 0 0, .slice a88 n88 c88] hk)).base F.sz
                  have H2 := (oI.ner hA (by decide) (fun k hk => setRow_other _ W83.heap.size k #[.bool true, .slice a81 n81 c81, .slice none 0 0, .slice a88 n88 c88] hk)).base F.sz
                  have H3 := Nat.le_trans F.sz hAlo
                  clear hb2 hb hS oP oI hA
                  go_wp2
                  go_meet
                  exact ⟨_, _, _, rfl, .mk _ _ _, .mk _ _ _, F2, H0, H3, H1, H2⟩
              · skip
                obtain ⟨W84, hV⟩ : ∃ x, W81.alloc zrbO = x := ⟨_, rfl⟩
                have bx : Below W81.heap.size W81 W84 := by rw [← hV]; exact below_new W81 _
                have hlt84 : W81.heap.size < W84.heap.size := by rw [← hV]; simp
                have oI := oI.below bx
                have oP := oP.below bx
                have hA : W84.heap[W81.heap.size]? = some zrbO := by rw [← hV]; exact heap_alloc_new W81 _
                have hAlo := hs
                have hb := hb.trans (bx.mono hs)
                have hs := Nat.le_trans hs bx.size
                have hS := hb
                rw [hV]
                clear hV bx
                simp only [Act.put, List.setIfInBounds_toArray, List.set_cons_succ, List.set_cons_zero]
                obtain ⟨a89, n89, c89, W89, hr89, q89, bq89, sq89, kq89⟩ := app_step okZ oI (XI.out _ hb) NI1.out hs 24
                rw [List.nil_append] at q89
                refine wpAnyH_one (w1 := W89) 12 (some 42) (.slice a89 n89 c89) rfl (by kernel_rfl) (by kernel_rfl) rfl (ex_app rfl rfl rfl hr89) (hb.trans bq89) ?_
                have oP := own_keep oP kq89 (by decide)
                have hA := kq89 _ _ _ _ hA (by decide)
                have oI := q89
                have hb := hb.trans bq89
                have hs := Nat.le_trans hs sq89
                have hS := hb
                simp only [Act.put, List.setIfInBounds_toArray, List.set_cons_succ, List.set_cons_zero]
                obtain ⟨a90, n90, c90, W90, hr90, q90, bq90, sq90, kq90⟩ := app_step okZ oI (YI.out _ hb) NI2.out hs 24
                refine wpAnyH_one (w1 := W90) 15 (some 45) (.slice a90 n90 c90) rfl (by kernel_rfl) (by kernel_rfl) rfl (ex_app rfl rfl rfl hr90) (hb.trans bq90) ?_
                have oP := own_keep oP kq90 (by decide)
                have hA := kq90 _ _ _ _ hA (by decide)
                have oI := q90
                have hb := hb.trans bq90
                have hs := Nat.le_trans hs sq90
                have hS := hb
                simp only [Act.put, List.setIfInBounds_toArray, List.set_cons_succ, List.set_cons_zero]
                refine wpAnyH_take_d 16 (some 46) (.agg #[.bool true, .slice a81 n81 c81, .slice none 0 0, .slice a90 n90 c90]) rfl (by kernel_rfl) (by kernel_rfl) (by kernel_rfl) (by kernel_rfl) rfl (fun _ _ _ h => h) (fun w' _ => ex_build013 rfl rfl rfl rfl (run_build w' 26 _ _ (by kernel_rfl))) (by exact hS) ?_
                simp only [Act.put, List.setIfInBounds_toArray, List.set_cons_succ, List.set_cons_zero]
                have hb2 := below_setRow' hb hAlo #[.bool true, .slice a81 n81 c81, .slice none 0 0, .slice a90 n90 c90]
                refine wpAnyH_one_skip 18 rfl (by kernel_rfl) (by kernel_rfl) (ex_store_row rfl rfl rfl hA (by kernel_rfl) rfl (by simp [Value.oneCell'])) hb2 ?_
                simp only [Act.put, List.setIfInBounds_toArray]
                refine wpAnyH_done (by kernel_rfl) ?_ _
                have F2 := F.below (hb2.mono F.sz)
                have H0 := setRow_heap _ _ _ #[.bool true, .slice a81 n81 c81, .slice none 0 0, .slice a90 n90 c90] _ _ hA
                have H1 := (oP.ner hA (by decide) (fun k hk => setRow_other _ W81.heap.size k #[.bool true, .slice a81 n81 c81, .slice none 0 0, .slice a90 n90 c90] hk)).base F.sz
                have H2 := (oI.ner hA (by decide) (fun k hk => setRow_other _ W81.heap.size k #[.bool true, .slice a81 n81 c81, .slice none 0 0, .slice a90 n90 c90] hk)).base F.sz
                have H3 := Nat.le_trans F.sz hAlo
                clear hb2 hb hS oP oI hA
                go_wp2
                go_meet
                exact ⟨_, _, _, rfl, .mk _ _ _, .mk _ _ _, F2, H0, H3, H1, H2⟩
            · skip
              obtain ⟨W82, hV⟩ : ∃ x, W79.alloc zrbO = x := ⟨_, rfl⟩
              have bx : Below W79.heap.size W79 W82 := by rw [← hV]; exact below_new W79 _
              have hlt82 : W79.heap.size < W82.heap.size := by rw [← hV]; simp
              have oI := oI.below bx
              have oP := oP.below bx
              have hA : W82.heap[W79.heap.size]? = some zrbO := by rw [← hV]; exact heap_alloc_new W79 _
              have hAlo := hs
              have hb := hb.trans (bx.mono hs)
              have hs := Nat.le_trans hs bx.size
              have hS := hb
              rw [hV]
              clear hV bx
              simp only [Act.put, List.setIfInBounds_toArray, List.set_cons_succ, List.set_cons_zero]
              obtain ⟨a91, n91, c91, W91, hr91, q91, bq91, sq91, kq91⟩ := app_step okP oP (YP.out _ hb) NP2.out hs 22
              refine wpAnyH_one (w1 := W91) 8 (some 38) (.slice a91 n91 c91) rfl (by kernel_rfl) (by kernel_rfl) rfl (ex_app rfl rfl rfl hr91) (hb.trans bq91) ?_
              have oI := own_keep oI kq91 (by decide)
              have hA := kq91 _ _ _ _ hA (by decide)
              have oP := q91
              have hb := hb.trans bq91
              have hs := Nat.le_trans hs sq91
              have hS := hb
              simp only [Act.put, List.setIfInBounds_toArray, List.set_cons_succ, List.set_cons_zero]
              obtain ⟨a92, n92, c92, W92, hr92, q92, bq92, sq92, kq92⟩ := app_step okZ oI (XI.out _ hb) NI1.out hs 24
              rw [List.nil_append] at q92
              refine wpAnyH_one (w1 := W92) 12 (some 42) (.slice a92 n92 c92) rfl (by kernel_rfl) (by kernel_rfl) rfl (ex_app rfl rfl rfl hr92) (hb.trans bq92) ?_
              have oP := own_keep oP kq92 (by decide)
              have hA := kq92 _ _ _ _ hA (by decide)
              have oI := q92
              have hb := hb.trans bq92
              have hs := Nat.le_trans hs sq92
              have hS := hb
              simp only [Act.put, List.setIfInBounds_toArray, List.set_cons_succ, List.set_cons_zero]
              obtain ⟨a93, n93, c93, W93, hr93, q93, bq93, sq93, kq93⟩ := app_step okZ oI (YI.out _ hb) NI2.out hs 24
              refine wpAnyH_one (w1 := W93) 15 (some 45) (.slice a93 n93 c93) rfl (by kernel_rfl) (by kernel_rfl) rfl (ex_app rfl rfl rfl hr93) (hb.trans bq93) ?_
              have oP := own_keep oP kq93 (by decide)
              have hA := kq93 _ _ _ _ hA (by decide)
              have oI := q93
              have hb := hb.trans bq93
              have hs := Nat.le_trans hs sq93
              have hS := hb
              simp only [Act.put, List.setIfInBounds_toArray, List.set_cons_succ, List.set_cons_zero]
              refine wpAnyH_take_d 16 (some 46) (.agg #[.bool true, .slice a91 n91 c91, .slice none 0 0, .slice a93 n93 c93]) rfl (by kernel_rfl) (by kernel_rfl) (by kernel_rfl) (by kernel_rfl) rfl (fun _ _ _ h => h) (fun w' _ => ex_build013 rfl rfl rfl rfl (run_build w' 26 _ _ (by kernel_rfl))) (by exact hS) ?_
              simp only [Act.put, List.setIfInBounds_toArray, List.set_cons_succ, List.set_cons_zero]
              have hb2 := below_setRow' hb hAlo #[.bool true, .slice a91 n91 c91, .slice none 0 0, .slice a93 n93 c93]
              refine wpAnyH_one_skip 18 rfl (by kernel_rfl) (by kernel_rfl) (ex_store_row rfl rfl rfl hA (by kernel_rfl) rfl (by simp [Value.oneCell'])) hb2 ?_
              simp only [Act.put, List.setIfInBounds_toArray]
              refine wpAnyH_done (by kernel_rfl) ?_ _
              have F2 := F.below (hb2.mono F.sz)
              have H0 := setRow_heap _ _ _ #[.bool true, .slice a91 n91 c91, .slice none 0 0, .slice a93 n93 c93] _ _ hA
              have H1 := (oP.ner hA (by decide) (fun k hk => setRow_other _ W79.heap.size k #[.bool true, .slice a91 n91 c91, .slice none 0 0, .slice a93 n93 c93] hk)).base F.sz
              have H2 := (oI.ner hA (by decide) (fun k hk => setRow_other _ W79.heap.size k #[.bool true, .slice a91 n91 c91, .slice none 0 0, .slice a93 n93 c93] hk)).base F.sz
              have H3 := Nat.le_trans F.sz hAlo
              clear hb2 hb hS oP oI hA
              go_wp2
              go_meet
              exact ⟨_, _, _, rfl, .mk _ _ _, .mk _ _ _, F2, H0, H3, H1, H2⟩
          · skip
            obtain ⟨W80, hV⟩ : ∃ x, W77.alloc zrbO = x := ⟨_, rfl⟩
            have bx : Below W77.heap.size W77 W80 := by rw [← hV]; exact below_new W77 _
            have hlt80 : W77.heap.size < W80.heap.size := by rw [← hV]; simp
            have oI := oI.below bx
            have oP := oP.below bx
            have hA : W80.heap[W77.heap.size]? = some zrbO := by rw [← hV]; exact heap_alloc_new W77 _
            have hAlo := hs
            have hb := hb.trans (bx.mono hs)
            have hs := Nat.le_trans hs bx.size
            have hS := hb
            rw [hV]
            clear hV bx
            simp only [Act.put, List.setIfInBounds_toArray, List.set_cons_succ, List.set_cons_zero]
            obtain ⟨a94, n94, c94, W94, hr94, q94, bq94, sq94, kq94⟩ := app_step okP oP (XP.out _ hb) NP1.out hs 22
            rw [List.nil_append] at q94
            refine wpAnyH_one (w1 := W94) 5 (some 35) (.slice a94 n94 c94) rfl (by kernel_rfl) (by kernel_rfl) rfl (ex_app rfl rfl rfl hr94) (hb.trans bq94) ?_
            have oI := own_keep oI kq94 (by decide)
            have hA := kq94 _ _ _ _ hA (by decide)
            have oP := q94
            have hb := hb.trans bq94
            have hs := Nat.le_trans hs sq94
            have hS := hb
            simp only [Act.put, List.setIfInBounds_toArray, List.set_cons_succ, List.set_cons_zero]
            obtain ⟨a95, n95, c95, W95, hr95, q95, bq95, sq95, kq95⟩ := app_step okP oP (YP.out _ hb) NP2.out hs 22
            refine wpAnyH_one (w1 := W95) 8 (some 38) (.slice a95 n95 c95) rfl (by kernel_rfl) (by kernel_rfl) rfl (ex_app rfl rfl rfl hr95) (hb.trans bq95) ?_
            have oI := own_keep oI kq95 (by decide)
            have hA := kq95 _ _ _ _ hA (by decide)
            have oP := q95
            have hb := hb.trans bq95
            have hs := Nat.le_trans hs sq95
            have hS := hb
            simp only [Act.put, List.setIfInBounds_toArray, List.set_cons_succ, List.set_cons_zero]
            obtain ⟨a96, n96, c96, W96, hr96, q96, bq96, sq96, kq96⟩ := app_step okZ oI (XI.out _ hb) NI1.out hs 24
            rw [List.nil_append] at q96
            refine wpAnyH_one (w1 := W96) 12 (some 42) (.slice a96 n96 c96) rfl (by kernel_rfl) (by kernel_rfl) rfl (ex_app rfl rfl rfl hr96) (hb.trans bq96) ?_
            have oP := own_keep oP kq96 (by decide)
            have hA := kq96 _ _ _ _ hA (by decide)
            have oI := q96
            have hb := hb.trans bq96
            have hs := Nat.le_trans hs sq96
            have hS := hb
            simp only [Act.put, List.setIfInBounds_toArray, List.set_cons_succ, List.set_cons_zero]
            obtain ⟨a97, n97, c97, W97, hr97, q97, bq97, sq97, kq97⟩ := app_step okZ oI (YI.out _ hb) NI2.out hs 24
            refine wpAnyH_one (w1 := W97) 15 (some 45) (.slice a97 n97 c97) rfl (by kernel_rfl) (by kernel_rfl) rfl (ex_app rfl rfl rfl hr97) (hb.trans bq97) ?_
            have oP := own_keep oP kq97 (by decide)
            have hA := kq97 _ _ _ _ hA (by decide)
            have oI := q97
            have hb := hb.trans bq97
            have hs := Nat.le_trans hs sq97
            have hS := hb
            simp only [Act.put, List.setIfInBounds_toArray, List.set_cons_succ, List.set_cons_zero]
            refine wpAnyH_take_d 16 (some 46) (.agg #[.bool true, .slice a95 n95 c95, .slice none 0 0, .slice a97 n97 c97]) rfl (by kernel_rfl) (by kernel_rfl) (by kernel_rfl) (by kernel_rfl) rfl (fun _ _ _ h => h) (fun w' _ => ex_build013 rfl rfl rfl rfl (run_build w' 26 _ _ (by kernel_rfl))) (by exact hS) ?_
            simp only [Act.put, List.setIfInBounds_toArray, List.set_cons_succ, List.set_cons_zero]
            have hb2 := below_setRow' hb hAlo #[.bool true, .slice a95 n95 c95, .slice none 0 0, .slice a97 n97 c97]
            refine wpAnyH_one_skip 18 rfl (by kernel_rfl) (by kernel_rfl) (ex_store_row rfl rfl rfl hA (by kernel_rfl) rfl (by simp [Value.oneCell'])) hb2 ?_
            simp only [Act.put, List.setIfInBounds_toArray]
            refine wpAnyH_done (by kernel_rfl) ?_ _
            have F2 := F.below (hb2.mono F.sz)
            have H0 := setRow_heap _ _ _ #[.bool true, .slice a95 n95 c95, .slice none 0 0, .slice a97 n97 c97] _ _ hA
            have H1 := (oP.ner hA (by decide) (fun k hk => setRow_other _ W77.heap.size k #[.bool true, .slice a95 n95 c95, .slice none 0 0, .slice a97 n97 c97] hk)).base F.sz
            have H2 := (oI.ner hA (by decide) (fun k hk => setRow_other _ W77.heap.size k #[.bool true, .slice a95 n95 c95, .slice none 0 0, .slice a97 n97 c97] hk)).base F.sz
            have H3 := Nat.le_trans F.sz hAlo
            clear hb2 hb hS oP oI hA
            go_wp2
            go_meet
            exact ⟨_, _, _, rfl, .mk _ _ _, .mk _ _ _, F2, H0, H3, H1, H2⟩
        · skip
          obtain ⟨W78, hV⟩ : ∃ x, W2.alloc zrbO = x := ⟨_, rfl⟩
          have bx : Below W2.heap.size W2 W78 := by rw [← hV]; exact below_new W2 _
          have hlt78 : W2.heap.size < W78.heap.size := by rw [← hV]; simp
          have oI := oI.below bx
          have hA : W78.heap[W2.heap.size]? = some zrbO := by rw [← hV]; exact heap_alloc_new W2 _
          have hAlo := hs
          have hb := hb.trans (bx.mono hs)
          have hs := Nat.le_trans hs bx.size
          have hS := hb
          rw [hV]
          clear hV bx
          simp only [Act.put, List.setIfInBounds_toArray, List.set_cons_succ, List.set_cons_zero]
          refine wpAnyH_one (w1 := W78.alloc (.cells #[] 50)) 2 (some 32) (.slice (some ⟨W78.heap.size, 0, none⟩) 0 0) rfl (by kernel_rfl) (by kernel_rfl) rfl (ex_b0 rfl (mk0P W78)) (hb.trans ((below_new W78 (.cells #[] 50)).mono hs)) ?_
          obtain ⟨W98, hV⟩ : ∃ x, W78.alloc (.cells #[] 50) = x := ⟨_, rfl⟩
          have bx : Below W78.heap.size W78 W98 := by rw [← hV]; exact below_new W78 _
          have hlt98 : W78.heap.size < W98.heap.size := by rw [← hV]; simp
          have oI := oI.below bx
          have hA := (bx.block _ (lt_of_heap hA)).trans hA
          have oP : OwnR elP V0.heap.size W98 (.slice (some ⟨W78.heap.size, 0, none⟩) 0 0) [] := by rw [← hV]; exact (OwnR.made elP W78).base hs
          have hb := hb.trans (bx.mono hs)
          have hs := Nat.le_trans hs bx.size
          have hS := hb
          rw [hV]
          clear hV bx
          simp only [Act.put, List.setIfInBounds_toArray, List.set_cons_succ, List.set_cons_zero]
          obtain ⟨a99, n99, c99, W99, hr99, q99, bq99, sq99, kq99⟩ := app_step okP oP (XP.out _ hb) NP1.out hs 22
          rw [List.nil_append] at q99
          refine wpAnyH_one (w1 := W99) 5 (some 35) (.slice a99 n99 c99) rfl (by kernel_rfl) (by kernel_rfl) rfl (ex_app rfl rfl rfl hr99) (hb.trans bq99) ?_
          have oI := own_keep oI kq99 (by decide)
          have hA := kq99 _ _ _ _ hA (by decide)
          have oP := q99
          have hb := hb.trans bq99
          have hs := Nat.le_trans hs sq99
          have hS := hb
          simp only [Act.put, List.setIfInBounds_toArray, List.set_cons_succ, List.set_cons_zero]
          obtain ⟨a100, n100, c100, W100, hr100, q100, bq100, sq100, kq100⟩ := app_step okP oP (YP.out _ hb) NP2.out hs 22
          refine wpAnyH_one (w1 := W100) 8 (some 38) (.slice a100 n100 c100) rfl (by kernel_rfl) (by kernel_rfl) rfl (ex_app rfl rfl rfl hr100) (hb.trans bq100) ?_
          have oI := own_keep oI kq100 (by decide)
          have hA := kq100 _ _ _ _ hA (by decide)
          have oP := q100
          have hb := hb.trans bq100
          have hs := Nat.le_trans hs sq100
          have hS := hb
          simp only [Act.put, List.setIfInBounds_toArray, List.set_cons_succ, List.set_cons_zero]
          obtain ⟨a101, n101, c101, W101, hr101, q101, bq101, sq101, kq101⟩ := app_step okZ oI (XI.out _ hb) NI1.out hs 24
          rw [List.nil_append] at q101
          refine wpAnyH_one (w1 := W101) 12 (some 42) (.slice a101 n101 c101) rfl (by kernel_rfl) (by kernel_rfl) rfl (ex_app rfl rfl rfl hr101) (hb.trans bq101) ?_
          have hA := kq101 _ _ _ _ hA (by decide)
          have oP := own_keep oP kq101 (by decide)
          have oI := q101
          have hb := hb.trans bq101
          have hs := Nat.le_trans hs sq101
          have hS := hb
          simp only [Act.put, List.setIfInBounds_toArray, List.set_cons_succ, List.set_cons_zero]
          obtain ⟨a102, n102, c102, W102, hr102, q102, bq102, sq102, kq102⟩ := app_step okZ oI (YI.out _ hb) NI2.out hs 24
          refine wpAnyH_one (w1 := W102) 15 (some 45) (.slice a102 n102 c102) rfl (by kernel_rfl) (by kernel_rfl) rfl (ex_app rfl rfl rfl hr102) (hb.trans bq102) ?_
          have hA := kq102 _ _ _ _ hA (by decide)
          have oP := own_keep oP kq102 (by decide)
          have oI := q102
          have hb := hb.trans bq102
          have hs := Nat.le_trans hs sq102
          have hS := hb
          simp only [Act.put, List.setIfInBounds_toArray, List.set_cons_succ, List.set_cons_zero]
          refine wpAnyH_take_d 16 (some 46) (.agg #[.bool true, .slice a100 n100 c100, .slice none 0 0, .slice a102 n102 c102]) rfl (by kernel_rfl) (by kernel_rfl) (by kernel_rfl) (by kernel_rfl) rfl (fun _ _ _ h => h) (fun w' _ => ex_build013 rfl rfl rfl rfl (run_build w' 26 _ _ (by kernel_rfl))) (by exact hS) ?_
          simp only [Act.put, List.setIfInBounds_toArray, List.set_cons_succ, List.set_cons_zero]
          have hb2 := below_setRow' hb hAlo #[.bool true, .slice a100 n100 c100, .slice none 0 0, .slice a102 n102 c102]
          refine wpAnyH_one_skip 18 rfl (by kernel_rfl) (by kernel_rfl) (ex_store_row rfl rfl rfl hA (by kernel_rfl) rfl (by simp [Value.oneCell'])) hb2 ?_
          simp only [Act.put, List.setIfInBounds_toArray]
          refine wpAnyH_done (by kernel_rfl) ?_ _
          have F2 := F.below (hb2.mono F.sz)
          have H0 := setRow_heap _ _ _ #[.bool true, .slice a100 n100 c100, .slice none 0 0, .slice a102 n102 c102] _ _ hA
          have H1 := (oP.ner hA (by decide) (fun k hk => setRow_other _ W2.heap.size k #[.bool true, .slice a100 n100 c100, .slice none 0 0, .slice a102 n102 c102] hk)).base F.sz
          have H2 := (oI.ner hA (by decide) (fun k hk => setRow_other _ W2.heap.size k #[.bool true, .slice a100 n100 c100, .slice none 0 0, .slice a102 n102 c102] hk)).base F.sz
          have H3 := Nat.le_trans F.sz hAlo
          clear hb2 hb hS oP oI hA
          go_wp2
          go_meet
          exact ⟨_, _, _, rfl, .mk _ _ _, .mk _ _ _, F2, H0, H3, H1, H2⟩
      · skip
        obtain ⟨W3, hV⟩ : ∃ x, V0.alloc zrbO = x := ⟨_, rfl⟩
        have bx : Below V0.heap.size V0 W3 := by rw [← hV]; exact below_new V0 _
        have hlt3 : V0.heap.size < W3.heap.size := by rw [← hV]; simp
        have hA : W3.heap[V0.heap.size]? = some zrbO := by rw [← hV]; exact heap_alloc_new V0 _
        have hAlo := hs
        have hb := hb.trans (bx.mono hs)
        have hs := Nat.le_trans hs bx.size
        have hS := hb
        rw [hV]
        clear hV bx
        simp only [Act.put, List.setIfInBounds_toArray, List.set_cons_succ, List.set_cons_zero]
        refine wpAnyH_two (w1 := W3.alloc (.cells #[] 50)) (w2 := W3.alloc (.cells #[] 3)) 2 9 (some 32) (some 39) (.slice (some ⟨W3.heap.size, 0, none⟩) 0 0) (.slice (some ⟨W3.heap.size, 0, none⟩) 0 0) rfl rfl (by kernel_rfl) (by kernel_rfl) (by kernel_rfl) rfl rfl (ex_b0 rfl (mk0P W3)) (ex_b0 rfl (mk0I W3)) (hb.trans ((below_new W3 (.cells #[] 50)).mono hs)) (hb.trans ((below_new W3 (.cells #[] 3)).mono hs)) ?_ ?_
        · skip
          obtain ⟨W103, hV⟩ : ∃ x, W3.alloc (.cells #[] 50) = x := ⟨_, rfl⟩
          have bx : Below W3.heap.size W3 W103 := by rw [← hV]; exact below_new W3 _
          have hlt103 : W3.heap.size < W103.heap.size := by rw [← hV]; simp
          have hA := (bx.block _ (lt_of_heap hA)).trans hA
          have oP : OwnR elP V0.heap.size W103 (.slice (some ⟨W3.heap.size, 0, none⟩) 0 0) [] := by rw [← hV]; exact (OwnR.made elP W3).base hs
          have hb := hb.trans (bx.mono hs)
          have hs := Nat.le_trans hs bx.size
          have hS := hb
          rw [hV]
          clear hV bx
          simp only [Act.put, List.setIfInBounds_toArray, List.set_cons_succ, List.set_cons_zero]
          obtain ⟨a105, n105, c105, W105, hr105, q105, bq105, sq105, kq105⟩ := app_step okP oP (XP.out _ hb) NP1.out hs 22
          rw [List.nil_append] at q105
          refine wpAnyH_two (w1 := W105) (w2 := W103.alloc (.cells #[] 3)) 5 9 (some 35) (some 39) (.slice a105 n105 c105) (.slice (some ⟨W103.heap.size, 0, none⟩) 0 0) rfl rfl (by kernel_rfl) (by kernel_rfl) (by kernel_rfl) rfl rfl (ex_app rfl rfl rfl hr105) (ex_b0 rfl (mk0I W103)) (hb.trans bq105) (hb.trans ((below_new W103 (.cells #[] 3)).mono hs)) ?_ ?_
          · skip
            have hA := kq105 _ _ _ _ hA (by decide)
            have oP := q105
            have hb := hb.trans bq105
            have hs := Nat.le_trans hs sq105
            have hS := hb
            simp only [Act.put, List.setIfInBounds_toArray, List.set_cons_succ, List.set_cons_zero]
            obtain ⟨a107, n107, c107, W107, hr107, q107, bq107, sq107, kq107⟩ := app_step okP oP (YP.out _ hb) NP2.out hs 22
            refine wpAnyH_two (w1 := W107) (w2 := W105.alloc (.cells #[] 3)) 8 9 (some 38) (some 39) (.slice a107 n107 c107) (.slice (some ⟨W105.heap.size, 0, none⟩) 0 0) rfl rfl (by kernel_rfl) (by kernel_rfl) (by kernel_rfl) rfl rfl (ex_app rfl rfl rfl hr107) (ex_b0 rfl (mk0I W105)) (hb.trans bq107) (hb.trans ((below_new W105 (.cells #[] 3)).mono hs)) ?_ ?_
            · skip
              have hA := kq107 _ _ _ _ hA (by decide)
              have oP := q107
              have hb := hb.trans bq107
              have hs := Nat.le_trans hs sq107
              have hS := hb
              simp only [Act.put, List.setIfInBounds_toArray, List.set_cons_succ, List.set_cons_zero]
              refine wpAnyH_one (w1 := W107.alloc (.cells #[] 3)) 9 (some 39) (.slice (some ⟨W107.heap.size, 0, none⟩) 0 0) rfl (by kernel_rfl) (by kernel_rfl) rfl (ex_b0 rfl (mk0I W107)) (hb.trans ((below_new W107 (.cells #[] 3)).mono hs)) ?_
              obtain ⟨W109, hV⟩ : ∃ x, W107.alloc (.cells #[] 3) = x := ⟨_, rfl⟩
              have bx : Below W107.heap.size W107 W109 := by rw [← hV]; exact below_new W107 _
              have hlt109 : W107.heap.size < W109.heap.size := by rw [← hV]; simp
              have hA := (bx.block _ (lt_of_heap hA)).trans hA
              have oP := oP.below bx
              have oI : OwnR elI V0.heap.size W109 (.slice (some ⟨W107.heap.size, 0, none⟩) 0 0) [] := by rw [← hV]; exact (OwnR.made elI W107).base hs
              have hb := hb.trans (bx.mono hs)
              have hs := Nat.le_trans hs bx.size
              have hS := hb
              rw [hV]
              clear hV bx
              simp only [Act.put, List.setIfInBounds_toArray, List.set_cons_succ, List.set_cons_zero]
              obtain ⟨a110, n110, c110, W110, hr110, q110, bq110, sq110, kq110⟩ := app_step okZ oI (XI.out _ hb) NI1.out hs 24
              rw [List.nil_append] at q110
              refine wpAnyH_one (w1 := W110) 12 (some 42) (.slice a110 n110 c110) rfl (by kernel_rfl) (by kernel_rfl) rfl (ex_app rfl rfl rfl hr110) (hb.trans bq110) ?_
              have hA := kq110 _ _ _ _ hA (by decide)
              have oP := own_keep oP kq110 (by decide)
              have oI := q110
              have hb := hb.trans bq110
              have hs := Nat.le_trans hs sq110
              have hS := hb
              simp only [Act.put, List.setIfInBounds_toArray, List.set_cons_succ, List.set_cons_zero]
              obtain ⟨a111, n111, c111, W111, hr111, q111, bq111, sq111, kq111⟩ := app_step okZ oI (YI.out _ hb) NI2.out hs 24
              refine wpAnyH_one (w1 := W111) 15 (some 45) (.slice a111 n111 c111) rfl (by kernel_rfl) (by kernel_rfl) rfl (ex_app rfl rfl rfl hr111) (hb.trans bq111) ?_
              have hA := kq111 _ _ _ _ hA (by decide)
              have oP := own_keep oP kq111 (by decide)
              have oI := q111
              have hb := hb.trans bq111
              have hs := Nat.le_trans hs sq111
              have hS := hb
              simp only [Act.put, List.setIfInBounds_toArray, List.set_cons_succ, List.set_cons_zero]
              refine wpAnyH_take_d 16 (some 46) (.agg #[.bool true, .slice a107 n107 c107, .slice none 0 0, .slice a111 n111 c111]) rfl (by kernel_rfl) (by kernel_rfl) (by kernel_rfl) (by kernel_rfl) rfl (fun _ _ _ h => h) (fun w' _ => ex_build013 rfl rfl rfl rfl (run_build w' 26 _ _ (by kernel_rfl))) (by exact hS) ?_
              simp only [Act.put, List.setIfInBounds_toArray, List.set_cons_succ, List.set_cons_zero]
              have hb2 := below_setRow' hb hAlo #[.bool true, .slice a107 n107 c107, .slice none 0 0, .slice a111 n111 c111]
              refine wpAnyH_one_skip 18 rfl (by kernel_rfl) (by kernel_rfl) (ex_store_row rfl rfl rfl hA (by kernel_rfl) rfl (by simp [Value.oneCell'])) hb2 ?_
              simp only [Act.put, List.setIfInBounds_toArray]
              refine wpAnyH_done (by kernel_rfl) ?_ _
              have F2 := F.below (hb2.mono F.sz)
              have H0 := setRow_heap _ _ _ #[.bool true, .slice a107 n107 c107, .slice none 0 0, .slice a111 n111 c111] _ _ hA
              have H1 := (oP.ner hA (by decide) (fun k hk => setRow_other _ V0.heap.size k #[.bool true, .slice a107 n107 c107, .slice none 0 0, .slice a111 n111 c111] hk)).base F.sz
              have H2 := (oI.ner hA (by decide) (fun k hk => setRow_other _ V0.heap.size k #[.bool true, .slice a107 n107 c107, .slice none 0 0, .slice a111 n111 c111] hk)).base F.sz
              have H3 := Nat.le_trans F.sz hAlo
              clear hb2 hb hS oP oI hA
              go_wp2
              go_meet
              exact ⟨_, _, _, rfl, .mk _ _ _, .mk _ _ _, F2, H0, H3, H1, H2⟩
            · skip
              obtain ⟨W108, hV⟩ : ∃ x, W105.alloc (.cells #[] 3) = x := ⟨_, rfl⟩
              have bx : Below W105.heap.size W105 W108 := by rw [← hV]; exact below_new W105 _
              have hlt108 : W105.heap.size < W108.heap.size := by rw [← hV]; simp
              have hA := (bx.block _ (lt_of_heap hA)).trans hA
              have oP := oP.below bx
              have oI : OwnR elI V0.heap.size W108 (.slice (some ⟨W105.heap.size, 0, none⟩) 0 0) [] := by rw [← hV]; exact (OwnR.made elI W105).base hs
              have hb := hb.trans (bx.mono hs)
              have hs := Nat.le_trans hs bx.size
              have hS := hb
              rw [hV]
              clear hV bx
              simp only [Act.put, List.setIfInBounds_toArray, List.set_cons_succ, List.set_cons_zero]
              obtain ⟨a112, n112, c112, W112, hr112, q112, bq112, sq112, kq112⟩ := app_step okP oP (YP.out _ hb) NP2.out hs 22
              refine wpAnyH_one (w1 := W112) 8 (some 38) (.slice a112 n112 c112) rfl (by kernel_rfl) (by kernel_rfl) rfl (ex_app rfl rfl rfl hr112) (hb.trans bq112) ?_
              have hA := kq112 _ _ _ _ hA (by decide)
              have oI := own_keep oI kq112 (by decide)
              have oP := q112
              have hb := hb.trans bq112
              have hs := Nat.le_trans hs sq112
              have hS := hb
              simp only [Act.put, List.setIfInBounds_toArray, List.set_cons_succ, List.set_cons_zero]
              obtain ⟨a113, n113, c113, W113, hr113, q113, bq113, sq113, kq113⟩ := app_step okZ oI (XI.out _ hb) NI1.out hs 24
              rw [List.nil_append] at q113
              refine wpAnyH_one (w1 := W113) 12 (some 42) (.slice a113 n113 c113) rfl (by kernel_rfl) (by kernel_rfl) rfl (ex_app rfl rfl rfl hr113) (hb.trans bq113) ?_
              have hA := kq113 _ _ _ _ hA (by decide)
              have oP := own_keep oP kq113 (by decide)
              have oI := q113
              have hb := hb.trans bq113
              have hs := Nat.le_trans hs sq113
              have hS := hb
              simp only [Act.put, List.setIfInBounds_toArray, List.set_cons_succ, List.set_cons_zero]
              obtain ⟨a114, n114, c114, W114, hr114, q114, bq114, sq114, kq114⟩ := app_step okZ oI (YI.out _ hb) NI2.out hs 24
              refine wpAnyH_one (w1 := W114) 15 (some 45) (.slice a114 n114 c114) rfl (by kernel_rfl) (by kernel_rfl) rfl (ex_app rfl rfl rfl hr114) (hb.trans bq114) ?_
              have hA := kq114 _ _ _ _ hA (by decide)
              have oP := own_keep oP kq114 (by decide)
              have oI := q114
              have hb := hb.trans bq114
              have hs := Nat.le_trans hs sq114
              have hS := hb
              simp only [Act.put, List.setIfInBounds_toArray, List.set_cons_succ, List.set_cons_zero]
              refine wpAnyH_take_d 16 (some 46) (.agg #[.bool true, .slice a112 n112 c112, .slice none 0 0, .slice a114 n114 c114]) rfl (by kernel_rfl) (by kernel_rfl) (by kernel_rfl) (by kernel_rfl) rfl (fun _ _ _ h => h) (fun w' _ => ex_build013 rfl rfl rfl rfl (run_build w' 26 _ _ (by kernel_rfl))) (by exact hS) ?_
              simp only [Act.put, List.setIfInBounds_toArray, List.set_cons_succ, List.set_cons_zero]
              have hb2 := below_setRow' hb hAlo #[.bool true, .slice a112 n112 c112, .slice none 0 0, .slice a114 n114 c114]
              refine wpAnyH_one_skip 18 rfl (by kernel_rfl) (by kernel_rfl) (ex_store_row rfl rfl rfl hA (by kernel_rfl) rfl (by simp [Value.oneCell'])) hb2 ?_
              simp only [Act.put, List.setIfInBounds_toArray]
              refine wpAnyH_done (by kernel_rfl) ?_ _
              have F2 := F.below (hb2.mono F.sz)
              have H0 := setRow_heap _ _ _ #[.bool true, .slice a112 n112 c112, .slice none 0 0, .slice a114 n114 c114] _ _ hA
              have H1 := (oP.ner hA (by decide) (fun k hk => setRow_other _ V0.heap.size k #[.bool true, .slice a112 n112 c112, .slice none 0 0, .slice a114 n114 c114] hk)).base F.sz
              have H2 := (oI.ner hA (by decide) (fun k hk => setRow_other _ V0.heap.size k #[.bool true, .slice a112 n112 c112, .slice none 0 0, .slice a114 n114 c114] hk)).base F.sz
              have H3 := Nat.le_trans F.sz hAlo
              clear hb2 hb hS oP oI hA
              go_wp2
              go_meet
              exact ⟨_, _, _, rfl, .mk _ _ _, .mk _ _ _, F2, H0, H3, H1, H2⟩
          · skip
            obtain ⟨W106, hV⟩ : ∃ x, W103.alloc (.cells #[] 3) = x := ⟨_, rfl⟩
            have bx : Below W103.heap.size W103 W106 := by rw [← hV]; exact below_new W103 _
            have hlt106 : W103.heap.size < W106.heap.size := by rw [← hV]; simp
            have hA := (bx.block _ (lt_of_heap hA)).trans hA
            have oP := oP.below bx
            have oI : OwnR elI V0.heap.size W106 (.slice (some ⟨W103.heap.size, 0, none⟩) 0 0) [] := by rw [← hV]; exact (OwnR.made elI W103).base hs
            have hb := hb.trans (bx.mono hs)
            have hs := Nat.le_trans hs bx.size
            have hS := hb
            rw [hV]
            clear hV bx
            simp only [Act.put, List.setIfInBounds_toArray, List.set_cons_succ, List.set_cons_zero]
            obtain ⟨a115, n115, c115, W115, hr115, q115, bq115, sq115, kq115⟩ := app_step okP oP (XP.out _ hb) NP1.out hs 22
            rw [List.nil_append] at q115
            refine wpAnyH_one (w1 := W115) 5 (some 35) (.slice a115 n115 c115) rfl (by kernel_rfl) (by kernel_rfl) rfl (ex_app rfl rfl rfl hr115) (hb.trans bq115) ?_
            have hA := kq115 _ _ _ _ hA (by decide)
            have oI := own_keep oI kq115 (by decide)
            have oP := q115
            have hb := hb.trans bq115
            have hs := Nat.le_trans hs sq115
            have hS := hb
            simp only [Act.put, List.setIfInBounds_toArray, List.set_cons_succ, List.set_cons_zero]
            obtain ⟨a116, n116, c116, W116, hr116, q116, bq116, sq116, kq116⟩ := app_step okP oP (YP.out _ hb) NP2.out hs 22
            refine wpAnyH_one (w1 := W116) 8 (some 38) (.slice a116 n116 c116) rfl (by kernel_rfl) (by kernel_rfl) rfl (ex_app rfl rfl rfl hr116) (hb.trans bq116) ?_
            have hA := kq116 _ _ _ _ hA (by decide)
            have oI := own_keep oI kq116 (by decide)
            have oP := q116
            have hb := hb.trans bq116
            have hs := Nat.le_trans hs sq116
            have hS := hb
            simp only [Act.put, List.setIfInBounds_toArray, List.set_cons_succ, List.set_cons_zero]
            obtain ⟨a117, n117, c117, W117, hr117, q117, bq117, sq117, kq117⟩ := app_step okZ oI (XI.out _ hb) NI1.out hs 24
            rw [List.nil_append] at q117
            refine wpAnyH_one (w1 := W117) 12 (some 42) (.slice a117 n117 c117) rfl (by kernel_rfl) (by kernel_rfl) rfl (ex_app rfl rfl rfl hr117) (hb.trans bq117) ?_
            have hA := kq117 _ _ _ _ hA (by decide)
            have oP := own_keep oP kq117 (by decide)
            have oI := q117
            have hb := hb.trans bq117
            have hs := Nat.le_trans hs sq117
            have hS := hb
            simp only [Act.put, List.setIfInBounds_toArray, List.set_cons_succ, List.set_cons_zero]
            obtain ⟨a118, n118, c118, W118, hr118, q118, bq118, sq118, kq118⟩ := app_step okZ oI (YI.out _ hb) NI2.out hs 24
            refine wpAnyH_one (w1 := W118) 15 (some 45) (.slice a118 n118 c118) rfl (by kernel_rfl) (by kernel_rfl) rfl (ex_app rfl rfl rfl hr118) (hb.trans bq118) ?_
            have hA := kq118 _ _ _ _ hA (by decide)
            have oP := own_keep oP kq118 (by decide)
            have oI := q118
            have hb := hb.trans bq118
            have hs := Nat.le_trans hs sq118
            have hS := hb
            simp only [Act.put, List.setIfInBounds_toArray, List.set_cons_succ, List.set_cons_zero]
            refine wpAnyH_take_d 16 (some 46) (.agg #[.bool true, .slice a116 n116 c116, .slice none 0 0, .slice a118 n118 c118]) rfl (by kernel_rfl) (by kernel_rfl) (by kernel_rfl) (by kernel_rfl) rfl (fun _ _ _ h => h) (fun w' _ => ex_build013 rfl rfl rfl rfl (run_build w' 26 _ _ (by kernel_rfl))) (by exact hS) ?_
            simp only [Act.put, List.setIfInBounds_toArray, List.set_cons_succ, List.set_cons_zero]
            have hb2 := below_setRow' hb hAlo #[.bool true, .slice a116 n116 c116, .slice none 0 0, .slice a118 n118 c118]
            refine wpAnyH_one_skip 18 rfl (by kernel_rfl) (by kernel_rfl) (ex_store_row rfl rfl rfl hA (by kernel_rfl) rfl (by simp [Value.oneCell'])) hb2 ?_
            simp only [Act.put, List.setIfInBounds_toArray]
            refine wpAnyH_done (by kernel_rfl) ?_ _
            have F2 := F.below (hb2.mono F.sz)
            have H0 := setRow_heap _ _ _ #[.bool true, .slice a116 n116 c116, .slice none 0 0, .slice a118 n118 c118] _ _ hA
            have H1 := (oP.ner hA (by decide) (fun k hk => setRow_other _ V0.heap.size k #[.bool true, .slice a116 n116 c116, .slice none 0 0, .slice a118 n118 c118] hk)).base F.sz
            have H2 := (oI.ner hA (by decide) (fun k hk => setRow_other _ V0.heap.size k #[.bool true, .slice a116 n116 c116, .slice none 0 0, .slice a118 n118 c118] hk)).base F.sz
            have H3 := Nat.le_trans F.sz hAlo
            clear hb2 hb hS oP oI hA
            go_wp2
            go_meet
            exact ⟨_, _, _, rfl, .mk _ _ _, .mk _ _ _, F2, H0, H3, H1, H2⟩
        · skip
          obtain ⟨W104, hV⟩ : ∃ x, W3.alloc (.cells #[] 3) = x := ⟨_, rfl⟩
          have bx : Below W3.heap.size W3 W104 := by rw [← hV]; exact below_new W3 _
          have hlt104 : W3.heap.size < W104.heap.size := by rw [← hV]; simp
          have hA := (bx.block _ (lt_of_heap hA)).trans hA
          have oI : OwnR elI V0.heap.size W104 (.slice (some ⟨W3.heap.size, 0, none⟩) 0 0) [] := by rw [← hV]; exact (OwnR.made elI W3).base hs
          have hb := hb.trans (bx.mono hs)
          have hs := Nat.le_trans hs bx.size
          have hS := hb
          rw [hV]
          clear hV bx
          simp only [Act.put, List.setIfInBounds_toArray, List.set_cons_succ, List.set_cons_zero]
          refine wpAnyH_one (w1 := W104.alloc (.cells #[] 50)) 2 (some 32) (.slice (some ⟨W104.heap.size, 0, none⟩) 0 0) rfl (by kernel_rfl) (by kernel_rfl) rfl (ex_b0 rfl (mk0P W104)) (hb.trans ((below_new W104 (.cells #[] 50)).mono hs)) ?_
          obtain ⟨W119, hV⟩ : ∃ x, W104.alloc (.cells #[] 50) = x := ⟨_, rfl⟩
          have bx : Below W104.heap.size W104 W119 := by rw [← hV]; exact below_new W104 _
          have hlt119 : W104.heap.size < W119.heap.size := by rw [← hV]; simp
          have hA := (bx.block _ (lt_of_heap hA)).trans hA
          have oI := oI.below bx
          have oP : OwnR elP V0.heap.size W119 (.slice (some ⟨W104.heap.size, 0, none⟩) 0 0) [] := by rw [← hV]; exact (OwnR.made elP W104).base hs
          have hb := hb.trans (bx.mono hs)
          have hs := Nat.le_trans hs bx.size
          have hS := hb
          rw [hV]
          clear hV bx
          simp only [Act.put, List.setIfInBounds_toArray, List.set_cons_succ, List.set_cons_zero]
          obtain ⟨a120, n120, c120, W120, hr120, q120, bq120, sq120, kq120⟩ := app_step okP oP (XP.out _ hb) NP1.out hs 22
          rw [List.nil_append] at q120
          refine wpAnyH_one (w1 := W120) 5 (some 35) (.slice a120 n120 c120) rfl (by kernel_rfl) (by kernel_rfl) rfl (ex_app rfl rfl rfl hr120) (hb.trans bq120) ?_
          have hA := kq120 _ _ _ _ hA (by decide)
          have oI := own_keep oI kq120 (by decide)
          have oP := q120
          have hb := hb.trans bq120
          have hs := Nat.le_trans hs sq120
          have hS := hb
          simp only [Act.put, List.setIfInBounds_toArray, List.set_cons_succ, List.set_cons_zero]
          obtain ⟨a121, n121, c121, W121, hr121, q121, bq121, sq121, kq121⟩ := app_step okP oP (YP.out _ hb) NP2.out hs 22
          refine wpAnyH_one (w1 := W121) 8 (some 38) (.slice a121 n121 c121) rfl (by kernel_rfl) (by kernel_rfl) rfl (ex_app rfl rfl rfl hr121) (hb.trans bq121) ?_
          have hA := kq121 _ _ _ _ hA (by decide)
          have oI := own_keep oI kq121 (by decide)
          have oP := q121
          have hb := hb.trans bq121
          have hs := Nat.le_trans hs sq121
          have hS := hb
          simp only [Act.put, List.setIfInBounds_toArray, List.set_cons_succ, List.set_cons_zero]
          obtain ⟨a122, n122, c122, W122, hr122, q122, bq122, sq122, kq122⟩ := app_step okZ oI (XI.out _ hb) NI1.out hs 24
          rw [List.nil_append] at q122
          refine wpAnyH_one (w1 := W122) 12 (some 42) (.slice a122 n122 c122) rfl (by kernel_rfl) (by kernel_rfl) rfl (ex_app rfl rfl rfl hr122) (hb.trans bq122) ?_
          have hA := kq122 _ _ _ _ hA (by decide)
          have oP := own_keep oP kq122 (by decide)
          have oI := q122
          have hb := hb.trans bq122
          have hs := Nat.le_trans hs sq122
          have hS := hb
          simp only [Act.put, List.setIfInBounds_toArray, List.set_cons_succ, List.set_cons_zero]
          obtain ⟨a123, n123, c123, W123, hr123, q123, bq123, sq123, kq123⟩ := app_step okZ oI (YI.out _ hb) NI2.out hs 24
          refine wpAnyH_one (w1 := W123) 15 (some 45) (.slice a123 n123 c123) rfl (by kernel_rfl) (by kernel_rfl) rfl (ex_app rfl rfl rfl hr123) (hb.trans bq123) ?_
          have hA := kq123 _ _ _ _ hA (by decide)
          have oP := own_keep oP kq123 (by decide)
          have oI := q123
          have hb := hb.trans bq123
          have hs := Nat.le_trans hs sq123
          have hS := hb
          simp only [Act.put, List.setIfInBounds_toArray, List.set_cons_succ, List.set_cons_zero]
          refine wpAnyH_take_d 16 (some 46) (.agg #[.bool true, .slice a121 n121 c121, .slice none 0 0, .slice a123 n123 c123]) rfl (by kernel_rfl) (by kernel_rfl) (by kernel_rfl) (by kernel_rfl) rfl (fun _ _ _ h => h) (fun w' _ => ex_build013 rfl rfl rfl rfl (run_build w' 26 _ _ (by kernel_rfl))) (by exact hS) ?_
          simp only [Act.put, List.setIfInBounds_toArray, List.set_cons_succ, List.set_cons_zero]
          have hb2 := below_setRow' hb hAlo #[.bool true, .slice a121 n121 c121, .slice none 0 0, .slice a123 n123 c123]
          refine wpAnyH_one_skip 18 rfl (by kernel_rfl) (by kernel_rfl) (ex_store_row rfl rfl rfl hA (by kernel_rfl) rfl (by simp [Value.oneCell'])) hb2 ?_
          simp only [Act.put, List.setIfInBounds_toArray]
          refine wpAnyH_done (by kernel_rfl) ?_ _
          have F2 := F.below (hb2.mono F.sz)
          have H0 := setRow_heap _ _ _ #[.bool true, .slice a121 n121 c121, .slice none 0 0, .slice a123 n123 c123] _ _ hA
          have H1 := (oP.ner hA (by decide) (fun k hk => setRow_other _ V0.heap.size k #[.bool true, .slice a121 n121 c121, .slice none 0 0, .slice a123 n123 c123] hk)).base F.sz
          have H2 := (oI.ner hA (by decide) (fun k hk => setRow_other _ V0.heap.size k #[.bool true, .slice a121 n121 c121, .slice none 0 0, .slice a123 n123 c123] hk)).base F.sz
          have H3 := Nat.le_trans F.sz hAlo
          clear hb2 hb hS oP oI hA
          go_wp2
          go_meet
          exact ⟨_, _, _, rfl, .mk _ _ _, .mk _ _ _, F2, H0, H3, H1, H2⟩
    case rest =>
      obtain ⟨A, vp, vi, rfl, ⟨xa, xm, xc, rfl⟩, ⟨za, zm, zc', rfl⟩, F, hA, hAlo, oP, oI⟩ := hcut
      have hAs := lt_of_heap hA
      have HN := Lib.hid (mer_leaf (key := key) (y := y) HLX.out)
      have hxi := HSH.out.1.1 HLX.out
      have hyi := HSH.out.2.1 (HLY.out)
      obtain ⟨V, hV⟩ : ∃ V, wc = V := ⟨_, rfl⟩
      rw [hV] at F hA hAs oP oI ⊢
      clear hV
      rw [hxi, hyi] at oI
      have OO : NdOwn (w.heap.size + 3) V (.agg #[.bool true, .slice xa xm xc, .slice none 0 0, .slice za zm zc']) (merN x key y) := by rw [HN.out]; exact ⟨_, _, _, rfl, oP, OwnR.nil _ _ _, oI⟩
      have NN := OO.at (HSMN.out)
      obtain ⟨q0, q1, q2, q3⟩ := F.c1
      obtain ⟨t0, t1, t2, t3⟩ := NdCells.of hA
      clear oP oI hxi hyi
      have rn := right_any NN
      go_wp2_with fail
      refine rn.mono ?_
      rintro e V2 ⟨rfl, bv⟩
      have F := F.below (bv.mono F.sz)
      have OO := OO.below bv
      have hA := (bv.block A hAs).trans hA
      obtain ⟨t0, t1, t2, t3⟩ := NdCells.of hA
      have hz := F.z
      have fr := F.fr
      have bz2 := bz V2
      clear rn bv NN F bz
      cases hnn : okN (merN x key y)
      · rw [hnn] at HR
        go_wp2_with (with_reducible refine wpList_store_rn (a0 := w) (B := w.heap.size) rfl (.tmp 6) (.tmp 64) rfl (w.heap.size + 2) false (.slice none 0 0) (.slice none 0 0) (.slice none 0 0) rfl rfl #[.bool false, .slice none 0 0, .slice none 0 0, .slice none 0 0] hz rfl (.mk _ _ _) (.mk _ _ _) (.mk _ _ _) fr (by omega) ?_)
        rintro w9 ⟨s0, s1, s2, s3⟩ - B2 -
        go_wp2
        exact bodyPost_ret (v := .tuple #[zNd, .int .i64 2]) (by simp [results, Try.results32, go_sem, s0, s1, s2, s3]) rfl (by rw [← HR.out]; exact zNd_ret rfl B2)
      · rw [hnn] at HR
        go_wp2_with (with_reducible refine wpList_store_rn (a0 := w) (B := w.heap.size) rfl (.tmp 6) (.tmp 65) rfl (w.heap.size + 2) true (.slice xa xm xc) (.slice none 0 0) (.slice za zm zc') rfl rfl #[.bool false, .slice none 0 0, .slice none 0 0, .slice none 0 0] hz rfl (.mk _ _ _) (.mk _ _ _) (.mk _ _ _) fr (by omega) ?_)
        rintro w9 ⟨s0, s1, s2, s3⟩ - B2 hkk
        go_wp2
        exact bodyPost_ret (v := .tuple #[.agg #[.bool true, .slice xa xm xc, .slice none 0 0, .slice za zm zc'], .int .i64 0]) (by simp [results, Try.results32, go_sem, s0, s1, s2, s3]) rfl (by
          rw [← HR.out, if_pos trivial]
          exact ⟨_, rfl, (ownN_keepg OO (Nat.lt_succ_self _) hkk).base (Nat.le_add_right _ 3), B2⟩)
end Go.Proofs.Ytdkmfcmndncmcaa
