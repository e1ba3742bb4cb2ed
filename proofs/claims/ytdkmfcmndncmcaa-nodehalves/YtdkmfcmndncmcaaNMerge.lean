/- The contract of node.Merge. No statement of the seat is proved here. -/
import Derived.Test.YtdkmfcmndncmcaaNSplitI
import Derived.Test.YtdkmfcmndncmcaaNRdL
namespace Go.Proofs.Ytdkmfcmndncmcaa
set_option maxRecDepth 20000
open Go.RowKit

/-- what Merge joins, and what it answers -/
def merN (a : Nd) (key : ByteArray) (b : Nd) : Nd := if a.leaf then ⟨true, a.ps ++ b.ps, [], []⟩ else ⟨false, [], a.ks ++ [key] ++ b.ks, a.is ++ b.is⟩
def mergeN (a : Nd) (key : ByteArray) (b : Nd) : Nd × Int := if okN a && okN b && (a.leaf == b.leaf) && okK key && okN (merN a key b) then (merN a key b, 0) else (.none, 2)
theorem args3 {α : Type} {E : El α} {w : World} {g : Nat} {u v x : Value} {l m r : List α} {t : TypeId} (hg : w.heap[g]? = some (.cells #[u, v, x] t (0, 0))) (hu : SlAt E w.heap.size w u l) (hv : SlAt E w.heap.size w v m) (hx : SlAt E w.heap.size w x r) : ArgsAt E w (.slice (some ⟨g, 0, none⟩) 3 3) [(u, l), (v, m), (x, r)] := by
  refine ⟨g, 0, rfl, lt_of_heap hg, fun i y hy => ?_⟩
  match i, hy with
  | 0, hy => simp at hy; subst hy; exact ⟨by rw [cell_of_row _ _ _ _ _ _ hg]; rfl, hu⟩
  | 1, hy => simp at hy; subst hy; exact ⟨by rw [cell_of_row _ _ _ _ _ _ hg]; rfl, hv⟩
  | 2, hy => simp at hy; subst hy; exact ⟨by rw [cell_of_row _ _ _ _ _ _ hg]; rfl, hx⟩
theorem args2 {α : Type} {E : El α} {w : World} {g : Nat} {u v : Value} {l m : List α} {t : TypeId} (hg : w.heap[g]? = some (.cells #[u, v] t (0, 0))) (hu : SlAt E w.heap.size w u l) (hv : SlAt E w.heap.size w v m) : ArgsAt E w (.slice (some ⟨g, 0, none⟩) 2 2) [(u, l), (v, m)] := by
  refine ⟨g, 0, rfl, lt_of_heap hg, fun i y hy => ?_⟩
  match i, hy with
  | 0, hy => simp at hy; subst hy; exact ⟨by rw [cell_of_row _ _ _ _ _ _ hg]; rfl, hu⟩
  | 1, hy => simp at hy; subst hy; exact ⟨by rw [cell_of_row _ _ _ _ _ _ hg]; rfl, hv⟩
theorem sl_one {w : World} {g : Nat} {s : ByteArray} (hg : w.heap[g]? = some (boxS s)) : SlAt elS w.heap.size w (.slice (some ⟨g, 0, none⟩) 1 1) [s] := by
  refine ⟨_, 1, rfl, Nat.le_refl _, by show 1 * 16 ≤ _; omega, fun _ => ⟨g, 0, rfl, lt_of_heap hg, fun j u hj => ?_⟩⟩
  rw [Nat.zero_add]
  match j, hj with
  | 0, hj => simp [cells] at hj; subst hj; rw [cell_of_row _ _ _ _ _ _ hg]; rfl
theorem build_three_s (u v x : Value) (hu : SlV u) (hv : SlV v) (hx : SlV x) (w : World) : (Instr.buildSlice 107 3 #[(0, u), (1, v), (2, x)]).run Try.prog w = .ok (.slice (some ⟨w.heap.size, 0, none⟩) 3 3) (w.alloc (.cells #[u, v, x] 23)) := by
  obtain ⟨_, _, _, rfl⟩ := hu
  obtain ⟨_, _, _, rfl⟩ := hv
  obtain ⟨_, _, _, rfl⟩ := hx
  kernel_rfl
theorem build_two_i (u v : Value) (hu : SlV u) (hv : SlV v) (w : World) : (Instr.buildSlice 109 2 #[(0, u), (1, v)]).run Try.prog w = .ok (.slice (some ⟨w.heap.size, 0, none⟩) 2 2) (w.alloc (.cells #[u, v] 24)) := by
  obtain ⟨_, _, _, rfl⟩ := hu
  obtain ⟨_, _, _, rfl⟩ := hv
  kernel_rfl
theorem ex_build3s {P : Program} {w w1 : World} {ρ : Operand → Value} {o : Oper} {t : TypeId} {x y z : Operand} {u v q r : Value} (ho : o.op = .buildSlice t 3 #[(0, x), (1, y), (2, z)]) (hx : ρ x = u) (hy : ρ y = v) (hz : ρ z = q) (hrun : (Instr.buildSlice t 3 #[(0, u), (1, v), (2, q)]).run P w = .ok r w1) : (execOp ρ o).run P w = .ok (.value r) w1 := by
  unfold execOp
  simp [ho, hx, hy, hz, hrun]
theorem ex_ext {P : Program} {w : World} {ρ : Operand → Value} {o : Oper} {x : Operand} {l : Array Value} {i : Nat} {v : Value} (ho : o.op = .extract x i) (hx : ρ x = .tuple l) (hv : l[i]? = some v) : (execOp ρ o).run P w = .ok (.value v) w := by
  unfold execOp
  simp [ho, hx, hv, Instr.extract]
/-- Merge's boxes: two arguments, one result -/
structure MrgW (w : World) (lf1 : Bool) (p1 k1 i1 : Value) (lf2 : Bool) (p2 k2 i2 : Value) (w1 : World) : Prop where
  c1 : NdCells w1 w.heap.size lf1 p1 k1 i1
  c2 : NdCells w1 (w.heap.size + 1) lf2 p2 k2 i2
  z : w1.heap[w.heap.size + 2]? = some zNdO
  fr : Below w.heap.size w w1
  sz : w.heap.size + 3 ≤ w1.heap.size
theorem MrgW.below {w w1 w2 : World} {lf1 lf2 : Bool} {p1 k1 i1 p2 k2 i2 : Value} (h : MrgW w lf1 p1 k1 i1 lf2 p2 k2 i2 w1) (b : Below (w.heap.size + 3) w1 w2) : MrgW w lf1 p1 k1 i1 lf2 p2 k2 i2 w2 := by
  have c := fun j => World.cell?_of_block (w := w1) (w' := w2) (a := ⟨w.heap.size, j, none⟩) (b.block w.heap.size (by omega))
  have d := fun j => World.cell?_of_block (w := w1) (w' := w2) (a := ⟨w.heap.size + 1, j, none⟩) (b.block (w.heap.size + 1) (by omega))
  exact ⟨⟨(c 0).trans h.c1.c0, (c 1).trans h.c1.c1, (c 2).trans h.c1.c2, (c 3).trans h.c1.c3⟩, ⟨(d 0).trans h.c2.c0, (d 1).trans h.c2.c1, (d 2).trans h.c2.c2, (d 3).trans h.c2.c3⟩, (b.block _ (by omega)).trans h.z, h.fr.trans (b.mono (by omega)), Nat.le_trans h.sz b.size⟩
theorem mrg_start (w : World) (lf1 lf2 : Bool) (p1 k1 i1 p2 k2 i2 : Value) : MrgW w lf1 p1 k1 i1 lf2 p2 k2 i2 (((w.alloc (ndO lf1 p1 k1 i1)).alloc (ndO lf2 p2 k2 i2)).alloc zNdO) := by
  have s1 : (w.alloc (ndO lf1 p1 k1 i1)).heap.size = w.heap.size + 1 := by simp
  have s2 : ((w.alloc (ndO lf1 p1 k1 i1)).alloc (ndO lf2 p2 k2 i2)).heap.size = w.heap.size + 2 := by simp
  have s3 : (((w.alloc (ndO lf1 p1 k1 i1)).alloc (ndO lf2 p2 k2 i2)).alloc zNdO).heap.size = w.heap.size + 3 := by simp
  have a0 := heap_alloc_new w (ndO lf1 p1 k1 i1)
  have a1 := heap_alloc_new (w.alloc (ndO lf1 p1 k1 i1)) (ndO lf2 p2 k2 i2)
  have a2 := heap_alloc_new ((w.alloc (ndO lf1 p1 k1 i1)).alloc (ndO lf2 p2 k2 i2)) zNdO
  rw [s1] at a1
  rw [s2] at a2
  have b1 : Below (w.heap.size + 1) (w.alloc (ndO lf1 p1 k1 i1)) ((w.alloc (ndO lf1 p1 k1 i1)).alloc (ndO lf2 p2 k2 i2)) := (Below.refl _ _).alloc (by omega) _
  have b2 : Below (w.heap.size + 2) ((w.alloc (ndO lf1 p1 k1 i1)).alloc (ndO lf2 p2 k2 i2)) (((w.alloc (ndO lf1 p1 k1 i1)).alloc (ndO lf2 p2 k2 i2)).alloc zNdO) := (Below.refl _ _).alloc (by omega) _
  exact ⟨NdCells.of ((b2.block _ (by omega)).trans ((b1.block _ (by omega)).trans a0)), NdCells.of ((b2.block _ (by omega)).trans a1), a2, (below_new _ _).trans ((b1.mono (by omega)).trans (b2.mono (by omega))), by omega⟩
set_option maxHeartbeats 6400000 in
theorem merge_no {w : World} {v1 v2 : Value} {a b : Nd} (h1 : NdAt w.heap.size w v1 a) (h2 : NdAt w.heap.size w v2 b) (key : ByteArray) (hk : (okN a && okN b && (a.leaf == b.leaf) && okK key) = false) : Calls Try.prog 33 #[v1, .string key, v2] w (NdRet w (.none, 2)) := by
  have HA := Lib.hid (fun (w' : World) (f : Below w.heap.size w w') => And.intro ((h1.below f).more f.size) ((h2.below f).more f.size))
  obtain ⟨pv, kv, iv, rfl, x1, x2, x3⟩ := h1
  obtain ⟨qv, lv, jv, rfl, y1, y2, y3⟩ := h2
  obtain ⟨pa, pm, pc, rfl, -⟩ := x1.form
  obtain ⟨ka, km, kc, rfl, -⟩ := x2.form
  obtain ⟨ia, im, ic, rfl, -⟩ := x3.form
  obtain ⟨qa, qm, qc, rfl, -⟩ := y1.form
  obtain ⟨la, lm, lc, rfl, -⟩ := y2.form
  obtain ⟨ja, jm, jc, rfl, -⟩ := y3.form
  clear x1 x2 x3 y1 y2 y3
  have F := mrg_start w a.leaf b.leaf (.slice pa pm pc) (.slice ka km kc) (.slice ia im ic) (.slice qa qm qc) (.slice la lm lc) (.slice ja jm jc)
  have fa := formed_any (HA.out _ F.fr).1
  have FB := Lib.hid (fun (w1 w2 : World) (f : Below w.heap.size w w2) => formed_any (HA.out _ f).2)
  have bz := build_nd
  obtain ⟨q0, q1, q2, q3⟩ := F.c1
  obtain ⟨r0, r1, r2, r3⟩ := F.c2
  generalize a.leaf = lf1 at *
  generalize b.leaf = lf2 at *
  cases hka : okN a
  · rw [hka] at fa
    clear hka hk
    go_enter Try.func33, Try.ntmps33
    go_wp2_with fail
    refine fa.mono ?_
    rintro e w4 ⟨rfl, b4⟩
    have F := F.below (b4.mono F.sz)
    clear fa b4 FB HA q0 q1 q2 q3 r0 r1 r2 r3
    have bz1 := bz w4
    have z := F.z
    have fr := F.fr
    clear F bz
    go_wp2_with (with_reducible refine wpList_store_nd (a0 := w) (B := w.heap.size) rfl (.tmp 6) (.tmp 28) rfl (w.heap.size + 2) false (.slice none 0 0) (.slice none 0 0) (.slice none 0 0) rfl rfl #[.bool false, .slice none 0 0, .slice none 0 0, .slice none 0 0] z rfl (.mk _ _ _) (.mk _ _ _) (.mk _ _ _) fr (by omega) ?_)
    rintro w6 ⟨t0, t1, t2, t3⟩ - b6 -
    go_wp2
    exact bodyPost_ret (v := .tuple #[zNd, .int .i64 2]) (by simp [results, Try.results33, go_sem, t0, t1, t2, t3]) rfl (zNd_ret rfl b6)
  · rw [hka] at fa
    cases hkb : okN b
    · clear hka hk
      go_enter Try.func33, Try.ntmps33
      go_wp2_with fail
      refine fa.mono ?_
      rintro e w4 ⟨rfl, b4⟩
      have F := F.below (b4.mono F.sz)
      have fb := FB.out w _ F.fr
      rw [hkb] at fb
      clear fa b4 FB HA q0 q1 q2 q3 r0 r1 r2 r3
      obtain ⟨q0, q1, q2, q3⟩ := F.c1
      obtain ⟨r0, r1, r2, r3⟩ := F.c2
      go_wp2_with fail
      refine fb.mono ?_
      rintro e w5 ⟨rfl, b5⟩
      have F := F.below (b5.mono F.sz)
      clear fb b5 q0 q1 q2 q3 r0 r1 r2 r3
      have bz1 := bz w5
      have z := F.z
      have fr := F.fr
      clear F bz
      go_wp2_with (with_reducible refine wpList_store_nd (a0 := w) (B := w.heap.size) rfl (.tmp 6) (.tmp 28) rfl (w.heap.size + 2) false (.slice none 0 0) (.slice none 0 0) (.slice none 0 0) rfl rfl #[.bool false, .slice none 0 0, .slice none 0 0, .slice none 0 0] z rfl (.mk _ _ _) (.mk _ _ _) (.mk _ _ _) fr (by omega) ?_)
      rintro w6 ⟨t0, t1, t2, t3⟩ - b6 -
      go_wp2
      exact bodyPost_ret (v := .tuple #[zNd, .int .i64 2]) (by simp [results, Try.results33, go_sem, t0, t1, t2, t3]) rfl (zNd_ret rfl b6)
    · cases hlf : (lf1 == lf2)
      · have hne : lf1 ≠ lf2 := by simpa using hlf
        clear hk hlf
        go_enter Try.func33, Try.ntmps33
        go_wp2_with fail
        refine fa.mono ?_
        rintro e w4 ⟨rfl, b4⟩
        have F := F.below (b4.mono F.sz)
        have fb := FB.out w _ F.fr
        rw [hkb] at fb
        clear fa b4 FB HA q0 q1 q2 q3 r0 r1 r2 r3 hka hkb
        obtain ⟨q0, q1, q2, q3⟩ := F.c1
        obtain ⟨r0, r1, r2, r3⟩ := F.c2
        go_wp2_with fail
        refine fb.mono ?_
        rintro e w5 ⟨rfl, b5⟩
        have F := F.below (b5.mono F.sz)
        clear fb b5 q0 q1 q2 q3 r0 r1 r2 r3
        obtain ⟨q0, q1, q2, q3⟩ := F.c1
        obtain ⟨r0, r1, r2, r3⟩ := F.c2
        cases lf1 <;> cases lf2
        · exact absurd rfl hne
        · clear hne
          have bz1 := bz w5
          have z := F.z
          have fr := F.fr
          clear F bz
          go_wp2_with (with_reducible refine wpList_store_nd (a0 := w) (B := w.heap.size) rfl (.tmp 6) (.tmp 28) rfl (w.heap.size + 2) false (.slice none 0 0) (.slice none 0 0) (.slice none 0 0) rfl rfl #[.bool false, .slice none 0 0, .slice none 0 0, .slice none 0 0] z rfl (.mk _ _ _) (.mk _ _ _) (.mk _ _ _) fr (by omega) ?_)
          rintro w6 ⟨t0, t1, t2, t3⟩ - b6 -
          go_wp2
          exact bodyPost_ret (v := .tuple #[zNd, .int .i64 2]) (by simp [results, Try.results33, go_sem, t0, t1, t2, t3]) rfl (zNd_ret rfl b6)
        · clear hne
          have bz1 := bz w5
          have z := F.z
          have fr := F.fr
          clear F bz
          go_wp2_with (with_reducible refine wpList_store_nd (a0 := w) (B := w.heap.size) rfl (.tmp 6) (.tmp 28) rfl (w.heap.size + 2) false (.slice none 0 0) (.slice none 0 0) (.slice none 0 0) rfl rfl #[.bool false, .slice none 0 0, .slice none 0 0, .slice none 0 0] z rfl (.mk _ _ _) (.mk _ _ _) (.mk _ _ _) fr (by omega) ?_)
          rintro w6 ⟨t0, t1, t2, t3⟩ - b6 -
          go_wp2
          exact bodyPost_ret (v := .tuple #[zNd, .int .i64 2]) (by simp [results, Try.results33, go_sem, t0, t1, t2, t3]) rfl (zNd_ret rfl b6)
        · exact absurd rfl hne
      · have hkk : okK key = false := by rw [hka, hkb, hlf] at hk; simpa using hk
        have heq : lf1 = lf2 := by simpa using hlf
        clear hk hlf
        subst heq
        have ik := isKey_any key
        rw [hkk] at ik
        go_enter Try.func33, Try.ntmps33
        go_wp2_with fail
        refine fa.mono ?_
        rintro e w4 ⟨rfl, b4⟩
        have F := F.below (b4.mono F.sz)
        have fb := FB.out w _ F.fr
        rw [hkb] at fb
        clear fa b4 FB HA q0 q1 q2 q3 r0 r1 r2 r3 hka hkb hkk
        obtain ⟨q0, q1, q2, q3⟩ := F.c1
        obtain ⟨r0, r1, r2, r3⟩ := F.c2
        go_wp2_with fail
        refine fb.mono ?_
        rintro e w5 ⟨rfl, b5⟩
        have F := F.below (b5.mono F.sz)
        clear fb b5 q0 q1 q2 q3 r0 r1 r2 r3
        obtain ⟨q0, q1, q2, q3⟩ := F.c1
        obtain ⟨r0, r1, r2, r3⟩ := F.c2
        cases lf1
        · have ik := ik w5
          go_wp2_with fail
          refine ik.mono ?_
          rintro e w5 ⟨rfl, rfl⟩
          clear ik
          have bz1 := bz w5
          have z := F.z
          have fr := F.fr
          clear F bz
          go_wp2_with (with_reducible refine wpList_store_nd (a0 := w) (B := w.heap.size) rfl (.tmp 6) (.tmp 28) rfl (w.heap.size + 2) false (.slice none 0 0) (.slice none 0 0) (.slice none 0 0) rfl rfl #[.bool false, .slice none 0 0, .slice none 0 0, .slice none 0 0] z rfl (.mk _ _ _) (.mk _ _ _) (.mk _ _ _) fr (by omega) ?_)
          rintro w6 ⟨t0, t1, t2, t3⟩ - b6 -
          go_wp2
          exact bodyPost_ret (v := .tuple #[zNd, .int .i64 2]) (by simp [results, Try.results33, go_sem, t0, t1, t2, t3]) rfl (zNd_ret rfl b6)
        · have ik := ik w5
          go_wp2_with fail
          refine ik.mono ?_
          rintro e w5 ⟨rfl, rfl⟩
          clear ik
          have bz1 := bz w5
          have z := F.z
          have fr := F.fr
          clear F bz
          go_wp2_with (with_reducible refine wpList_store_nd (a0 := w) (B := w.heap.size) rfl (.tmp 6) (.tmp 28) rfl (w.heap.size + 2) false (.slice none 0 0) (.slice none 0 0) (.slice none 0 0) rfl rfl #[.bool false, .slice none 0 0, .slice none 0 0, .slice none 0 0] z rfl (.mk _ _ _) (.mk _ _ _) (.mk _ _ _) fr (by omega) ?_)
          rintro w6 ⟨t0, t1, t2, t3⟩ - b6 -
          go_wp2
          exact bodyPost_ret (v := .tuple #[zNd, .int .i64 2]) (by simp [results, Try.results33, go_sem, t0, t1, t2, t3]) rfl (zNd_ret rfl b6)
theorem mergeN_eq {x y : Nd} {key : ByteArray} (hk : okN x = true ∧ okN y = true ∧ okK key = true) (h : x.leaf = y.leaf) : mergeN x key y = if okN (merN x key y) then (merN x key y, 0) else (.none, 2) := by
  unfold mergeN
  rw [hk.1, hk.2.1, hk.2.2, h]
  simp
set_option maxHeartbeats 6400000 in
theorem merge_leaf {w : World} {v1 v2 : Value} {a b : Nd} (h1 : NdAt w.heap.size w v1 a) (h2 : NdAt w.heap.size w v2 b) (key : ByteArray) (hk : okN a = true ∧ okN b = true ∧ okK key = true) (hl1 : a.leaf = true) (hl2 : b.leaf = true) : Calls Try.prog 33 #[v1, .string key, v2] w (NdRet w (mergeN a key b)) := by
  have hL1 := (okL_true ((okN_leaf hl1).symm.trans hk.1)).2.2.1
  have hL2 := (okL_true ((okN_leaf hl2).symm.trans hk.2.1)).2.2.1
  have hR := mergeN_eq hk (hl1.trans hl2.symm)
  obtain ⟨R, hR2⟩ : ∃ R, mergeN a key b = R := ⟨_, rfl⟩
  rw [hR2]
  rw [hR2] at hR
  have hN : merN a key b = ⟨true, a.ps ++ b.ps, [], []⟩ := by unfold merN; rw [hl1]; rfl
  rw [hN] at hR
  have HR := Lib.hid hR
  have HLEN : Hid ((a.ps ++ b.ps).length * elP.bytes ≤ 140737488351232) := Lib.hid (by
    have : (a.ps ++ b.ps).length ≤ 510 := by simp; omega
    show _ * 32 ≤ _; omega)
  have hok1 := hk.1
  have hok2 := hk.2.1
  have HA := Lib.hid (fun (w' : World) (f : Below w.heap.size w w') => And.intro ((h1.below f).more f.size) ((h2.below f).more f.size))
  obtain ⟨pv, kv, iv, rfl, x1, x2, x3⟩ := h1
  obtain ⟨qv, lv, jv, rfl, y1, y2, y3⟩ := h2
  obtain ⟨pa, pm, pc, rfl, -⟩ := x1.form
  obtain ⟨ka, km, kc, rfl, -⟩ := x2.form
  obtain ⟨ia, im, ic, rfl, -⟩ := x3.form
  obtain ⟨qa, qm, qc, rfl, -⟩ := y1.form
  obtain ⟨la, lm, lc, rfl, -⟩ := y2.form
  obtain ⟨ja, jm, jc, rfl, -⟩ := y3.form
  have F := mrg_start w a.leaf b.leaf (.slice pa pm pc) (.slice ka km kc) (.slice ia im ic) (.slice qa qm qc) (.slice la lm lc) (.slice ja jm jc)
  have fa := formed_any (HA.out _ F.fr).1
  have FB := Lib.hid (fun (w2 : World) (f : Below w.heap.size w w2) => formed_any (HA.out _ f).2)
  have ik := isKey_any key
  rw [hk.2.2] at ik
  rw [hok1] at fa
  rw [hok2] at FB
  simp only [hl1, hl2] at F fa FB HA ⊢
  have HC := Lib.hid (fun (W : World) (g : Nat) (f : Below w.heap.size w W) (hg : W.heap[g]? = some (.cells #[.slice pa pm pc, .slice qa qm qc] 22 (0, 0))) => concatP_any (args2 hg ((x1.below f).more f.size) ((y1.below f).more f.size)) (by show 2 ≤ 1000; omega) (by
    have : lensQ [((.slice pa pm pc : Value), a.ps), (.slice qa qm qc, b.ps)] ≤ 510 := by simp [lensQ]; omega
    show _ * 32 ≤ _; omega))
  have hfl : flatQ [((.slice pa pm pc : Value), a.ps), (.slice qa qm qc, b.ps)] = a.ps ++ b.ps := by simp [flatQ]
  rw [hfl] at HC
  clear hfl hN hR hR2 hok1 hok2 hk hl1 hl2 x1 x2 x3 y1 y2 y3 hL1 hL2
  have bl := build_leaf
  obtain ⟨q0, q1, q2, q3⟩ := F.c1
  obtain ⟨r0, r1, r2, r3⟩ := F.c2
  go_enter Try.func33, Try.ntmps33
  go_wp2_with fail
  refine fa.mono ?_
  rintro e w4 ⟨rfl, b4⟩
  have F := F.below (b4.mono F.sz)
  have fb := FB.out _ F.fr
  clear fa b4 FB q0 q1 q2 q3 r0 r1 r2 r3
  obtain ⟨q0, q1, q2, q3⟩ := F.c1
  obtain ⟨r0, r1, r2, r3⟩ := F.c2
  go_wp2_with fail
  refine fb.mono ?_
  rintro e w5 ⟨rfl, b5⟩
  have F := F.below (b5.mono F.sz)
  clear fb b5 q0 q1 q2 q3 r0 r1 r2 r3
  obtain ⟨q0, q1, q2, q3⟩ := F.c1
  obtain ⟨r0, r1, r2, r3⟩ := F.c2
  have ik := ik w5
  go_wp2_with fail
  refine ik.mono ?_
  rintro e w5 ⟨rfl, rfl⟩
  clear ik
  have hg := heap_alloc_new w5 (.cells #[.slice pa pm pc, .slice qa qm qc] 22)
  have F := F.below ((below_new w5 (.cells #[.slice pa pm pc, .slice qa qm qc] 22)).mono F.sz)
  have cc := HC.out _ _ F.fr hg
  clear hg HC
  go_wp2_with fail
  refine cc.mono ?_
  rintro e w7 ⟨v7, rfl, o7, b7⟩
  have o7 := o7.base (b' := w.heap.size + 3) F.sz
  have F := F.below (b7.mono F.sz)
  obtain ⟨va, vm, vc, rfl, hvm⟩ := o7.form'
  have bl := bl (.slice va vm vc) (.mk _ _ _) w7
  have hsz7 : (a.ps ++ b.ps).length * elP.bytes ≤ 140737488351232 := HLEN.out
  have fi := inForm_any (n := ⟨true, a.ps ++ b.ps, [], []⟩) ⟨_, _, _, rfl, o7.at hsz7, SlAt.nil _ _ _, SlAt.nil _ _ _⟩
  clear cc hsz7 q0 q1 q2 q3 r0 r1 r2 r3 b7 hvm
  go_wp2_with fail
  refine fi.mono ?_
  rintro e w8 ⟨rfl, b8⟩
  have o8 := o7.below b8
  have F := F.below (b8.mono F.sz)
  have hz := F.z
  have fr := F.fr
  clear fi o7 b8 bl F
  cases hok : okN ⟨true, a.ps ++ b.ps, [], []⟩
  · rw [hok] at HR
    simp only [Bool.false_eq_true, if_false]
    go_wp2_with (with_reducible refine wpList_store_nd (a0 := w) (B := w.heap.size) rfl (.tmp 6) (.tmp 39) rfl (w.heap.size + 2) false (.slice none 0 0) (.slice none 0 0) (.slice none 0 0) rfl rfl #[.bool false, .slice none 0 0, .slice none 0 0, .slice none 0 0] hz rfl (.mk _ _ _) (.mk _ _ _) (.mk _ _ _) fr (by omega) ?_)
    rintro w9 ⟨s0, s1, s2, s3⟩ - B2 -
    go_wp2
    exact bodyPost_ret (v := .tuple #[zNd, .int .i64 2]) (by simp [results, Try.results33, go_sem, s0, s1, s2, s3]) rfl (by rw [HR.out]; exact zNd_ret rfl B2)
  · rw [hok] at HR
    simp only [if_true]
    go_wp2_with (with_reducible refine wpList_store_nd (a0 := w) (B := w.heap.size) rfl (.tmp 6) (.tmp 39) rfl (w.heap.size + 2) true (.slice va vm vc) (.slice none 0 0) (.slice none 0 0) rfl rfl #[.bool false, .slice none 0 0, .slice none 0 0, .slice none 0 0] hz rfl (.mk _ _ _) (.mk _ _ _) (.mk _ _ _) fr (by omega) ?_)
    rintro w9 ⟨s0, s1, s2, s3⟩ - B2 hkk
    go_wp2
    exact bodyPost_ret (v := .tuple #[.agg #[.bool true, .slice va vm vc, .slice none 0 0, .slice none 0 0], .int .i64 0]) (by simp [results, Try.results33, go_sem, s0, s1, s2, s3]) rfl (by rw [HR.out]; exact ⟨_, rfl, ⟨_, _, _, rfl, (o8.keepg (Nat.lt_succ_self _) hkk).base (by omega), OwnR.nil _ _ _, OwnR.nil _ _ _⟩, B2⟩)
set_option maxHeartbeats 12800000 in
theorem merge_in {w : World} {v1 v2 : Value} {x y : Nd} (h1 : NdAt w.heap.size w v1 x) (h2 : NdAt w.heap.size w v2 y) (key : ByteArray) (hk : okN x = true ∧ okN y = true ∧ okK key = true) (hl1 : x.leaf = false) (hl2 : y.leaf = false) : Calls Try.prog 33 #[v1, .string key, v2] w (NdRet w (mergeN x key y)) := by
  have hL1 := okI_true ((okN_inner hl1).symm.trans hk.1)
  have hL2 := okI_true ((okN_inner hl2).symm.trans hk.2.1)
  have hR := mergeN_eq hk (hl1.trans hl2.symm)
  obtain ⟨R, hR2⟩ : ∃ R, mergeN x key y = R := ⟨_, rfl⟩
  rw [hR2]
  rw [hR2] at hR
  have hN : merN x key y = ⟨false, [], x.ks ++ [key] ++ y.ks, x.is ++ y.is⟩ := by unfold merN; rw [hl1]; rfl
  have HR := Lib.hid hR.symm
  have HN := Lib.hid hN
  have hok1 := hk.1
  have hok2 := hk.2.1
  have HA := Lib.hid (fun (w' : World) (f : Below w.heap.size w w') => And.intro ((h1.below f).more f.size) ((h2.below f).more f.size))
  obtain ⟨pv, kv, iv, rfl, x1, x2, x3⟩ := h1
  obtain ⟨qv, lv, jv, rfl, y1, y2, y3⟩ := h2
  obtain ⟨pa, pm, pc, rfl, -⟩ := x1.form
  obtain ⟨ka, km, kc, rfl, -⟩ := x2.form
  obtain ⟨ia, im, ic, rfl, -⟩ := x3.form
  obtain ⟨qa, qm, qc, rfl, -⟩ := y1.form
  obtain ⟨la, lm, lc, rfl, -⟩ := y2.form
  obtain ⟨ja, jm, jc, rfl, -⟩ := y3.form
  have F := mrg_start w x.leaf y.leaf (.slice pa pm pc) (.slice ka km kc) (.slice ia im ic) (.slice qa qm qc) (.slice la lm lc) (.slice ja jm jc)
  have fa := formed_any (HA.out _ F.fr).1
  have FB := Lib.hid (fun (w2 : World) (f : Below w.heap.size w w2) => formed_any (HA.out _ f).2)
  have ik := isKey_any key
  rw [hk.2.2] at ik
  rw [hok1] at fa
  rw [hok2] at FB
  simp only [hl1, hl2] at F fa FB HA ⊢
  have C1 := Lib.hid (fun (W : World) (g1 g2 : Nat) (f : Below (w.heap.size + 3) (((w.alloc (ndO false (.slice pa pm pc) (.slice ka km kc) (.slice ia im ic))).alloc (ndO false (.slice qa qm qc) (.slice la lm lc) (.slice ja jm jc))).alloc zNdO) W) (q1 : W.heap[g1]? = some (boxS key)) (hg : W.heap[g2]? = some (.cells #[.slice ka km kc, .slice (some ⟨g1, 0, none⟩) 1 1, .slice la lm lc] 23 (0, 0))) => concatS_any (args3 hg ((x2.below (F.below f).fr).more (F.below f).fr.size) (sl_one q1) ((y2.below (F.below f).fr).more (F.below f).fr.size)) (by show 3 ≤ 1000; omega) (by
    have : lensQ [((.slice ka km kc : Value), x.ks), (.slice (some ⟨g1, 0, none⟩) 1 1, [key]), (.slice la lm lc, y.ks)] ≤ 510 := by simp [lensQ]; omega
    show _ * 16 ≤ _; omega))
  have C2 := Lib.hid (fun (W : World) (g2 : Nat) (f : Below (w.heap.size + 3) (((w.alloc (ndO false (.slice pa pm pc) (.slice ka km kc) (.slice ia im ic))).alloc (ndO false (.slice qa qm qc) (.slice la lm lc) (.slice ja jm jc))).alloc zNdO) W) (hg : W.heap[g2]? = some (.cells #[.slice ia im ic, .slice ja jm jc] 24 (0, 0))) => concatI_any (args2 hg ((x3.below (F.below f).fr).more (F.below f).fr.size) ((y3.below (F.below f).fr).more (F.below f).fr.size)) (by show 2 ≤ 1000; omega) (by
    have : lensQ [((.slice ia im ic : Value), x.is), (.slice ja jm jc, y.is)] ≤ 510 := by simp [lensQ]; omega
    show _ * 8 ≤ _; omega))
  have hf1 : ∀ g1, flatQ [((.slice ka km kc : Value), x.ks), (.slice (some ⟨g1, 0, none⟩) 1 1, [key]), (.slice la lm lc, y.ks)] = x.ks ++ [key] ++ y.ks := by intro g1; simp [flatQ]
  have hf2 : flatQ [((.slice ia im ic : Value), x.is), (.slice ja jm jc, y.is)] = x.is ++ y.is := by simp [flatQ]
  simp only [hf1] at C1
  rw [hf2] at C2
  have hl3 : (x.ks ++ [key] ++ y.ks).length * elS.bytes ≤ 140737488351232 := by
    have : (x.ks ++ [key] ++ y.ks).length ≤ 510 := by simp; omega
    show _ * 16 ≤ _; omega
  have hl4 : (x.is ++ y.is).length * elI.bytes ≤ 140737488351232 := by
    have : (x.is ++ y.is).length ≤ 510 := by simp; omega
    show _ * 8 ≤ _; omega
  have C3 := Lib.hid (fun (W : World) (vk vi : Value) (o1 : OwnR elS (w.heap.size + 3) W vk (x.ks ++ [key] ++ y.ks)) (o2 : OwnR elI (w.heap.size + 3) W vi (x.is ++ y.is)) => inForm_any (n := ⟨false, [], x.ks ++ [key] ++ y.ks, x.is ++ y.is⟩) (w := W) (v := .agg #[.bool false, .slice none 0 0, vk, vi]) ⟨_, _, _, rfl, SlAt.nil _ _ _, o1.at hl3, o2.at hl4⟩)
  rw [← hN] at C3
  have HB := Lib.hid (fun (W W0 : World) (G : MrgW w false (.slice pa pm pc) (.slice ka km kc) (.slice ia im ic) false (.slice qa qm qc) (.slice la lm lc) (.slice ja jm jc) W0) (f : Below (w.heap.size + 2) W0 W) => And.intro ((World.cell?_of_block (w := W0) (w' := W) (a := ⟨w.heap.size, 2, none⟩) (f.block w.heap.size (by omega))).trans G.c1.c2) (And.intro ((World.cell?_of_block (w := W0) (w' := W) (a := ⟨w.heap.size, 3, none⟩) (f.block w.heap.size (by omega))).trans G.c1.c3) (And.intro ((World.cell?_of_block (w := W0) (w' := W) (a := ⟨w.heap.size + 1, 2, none⟩) (f.block (w.heap.size + 1) (by omega))).trans G.c2.c2) ((World.cell?_of_block (w := W0) (w' := W) (a := ⟨w.heap.size + 1, 3, none⟩) (f.block (w.heap.size + 1) (by omega))).trans G.c2.c3))))
  obtain ⟨W0, hW0⟩ : ∃ W0, (((w.alloc (ndO false (.slice pa pm pc) (.slice ka km kc) (.slice ia im ic))).alloc (ndO false (.slice qa qm qc) (.slice la lm lc) (.slice ja jm jc))).alloc zNdO) = W0 := ⟨_, rfl⟩
  rw [hW0] at C1 C2
  have F0 := F
  rw [hW0] at F0
  have HW := Lib.hid hW0
  have HB := Lib.hid (fun (W : World) => HB.out W W0 F0)
  have HZ := Lib.hid (fun (W : World) (f : Below (w.heap.size + 3) W0 W) => (F0.below f).z)
  have HA := Lib.hid (fun (W : World) (f : Below (w.heap.size + 2) W0 W) => F0.fr.trans (f.mono (Nat.le_add_right _ 2)))
  have bb : Below (w.heap.size + 3) (((w.alloc (ndO false (.slice pa pm pc) (.slice ka km kc) (.slice ia im ic))).alloc (ndO false (.slice qa qm qc) (.slice la lm lc) (.slice ja jm jc))).alloc zNdO) (((w.alloc (ndO false (.slice pa pm pc) (.slice ka km kc) (.slice ia im ic))).alloc (ndO false (.slice qa qm qc) (.slice la lm lc) (.slice ja jm jc))).alloc zNdO) := Below.refl _ _
  clear hW0 hf1 hf2 hl3 hl4 hN hR hR2 hok1 hok2 hk hl1 hl2 x1 x2 x3 y1 y2 y3 hL1 hL2 F0
  obtain ⟨q0, q1, q2, q3⟩ := F.c1
  obtain ⟨r0, r1, r2, r3⟩ := F.c2
  go_enter Try.func33, Try.ntmps33
  go_wp2_with fail
  refine fa.mono ?_
  rintro e w4 ⟨rfl, b4⟩
  have bb := bb.trans (b4.mono F.sz)
  have F := F.below (b4.mono F.sz)
  have fb := FB.out _ F.fr
  clear fa b4 FB q0 q1 q2 q3 r0 r1 r2 r3
  obtain ⟨q0, q1, q2, q3⟩ := F.c1
  obtain ⟨r0, r1, r2, r3⟩ := F.c2
  go_wp2_with fail
  refine fb.mono ?_
  rintro e w5 ⟨rfl, b5⟩
  have bb := bb.trans (b5.mono F.sz)
  have F := F.below (b5.mono F.sz)
  clear fb b5 q0 q1 q2 q3 r0 r1 r2 r3
  obtain ⟨q0, q1, q2, q3⟩ := F.c1
  obtain ⟨r0, r1, r2, r3⟩ := F.c2
  have ik := ik w5
  go_wp2_with fail
  refine ik.mono ?_
  rintro e w5 ⟨rfl, rfl⟩
  clear ik
  go_upto_region 5 with fail
  have hb := bb.drew
  rw [HW.out] at hb
  have hs : w.heap.size + 3 ≤ w5.drew.heap.size := F.sz
  have hS := hb.mono (Nat.le_succ (w.heap.size + 2))
  clear bb HW F q0 q1 q2 q3 r0 r1 r2 r3
  refine wp_region_held_drew (S := fun w' => Below (w.heap.size + 2) W0 w') mixed hS (fun _ => ?_)
  show wpAnyH _ _ _ _ _ 20 (Array.replicate 20 false) _ _
  refine wpAnyH_take_d 0 (some 41) (.pointer (some ⟨w.heap.size, 2, none⟩)) rfl (by kernel_rfl) (by kernel_rfl) (by kernel_rfl) (by kernel_rfl) rfl (fun _ _ _ h => h) (fun _ _ => by kernel_rfl) (by exact hS) ?_
  simp only [Act.put, List.setIfInBounds_toArray, List.set_cons_succ, List.set_cons_zero]
  refine wpAnyH_take_d 1 (some 42) (.slice ka km kc) rfl (by kernel_rfl) (by kernel_rfl) (by kernel_rfl) (by kernel_rfl) rfl (fun _ _ _ h => h) (fun w' h => exec_load_cell rfl rfl (HB.out _ h).1 Try.underlying23 rfl) (by exact hS) ?_
  simp only [Act.put, List.setIfInBounds_toArray, List.set_cons_succ, List.set_cons_zero]
  refine wpAnyH_take_d 2 (some 43) (.string key) rfl (by kernel_rfl) (by kernel_rfl) (by kernel_rfl) (by kernel_rfl) rfl (fun _ _ _ h => h) (fun _ _ => by kernel_rfl) (by exact hS) ?_
  simp only [Act.put, List.setIfInBounds_toArray, List.set_cons_succ, List.set_cons_zero]
  refine wpAnyH_take_d 4 (some 45) (.pointer (some ⟨w.heap.size + 1, 2, none⟩)) rfl (by kernel_rfl) (by kernel_rfl) (by kernel_rfl) (by kernel_rfl) rfl (fun _ _ _ h => h) (fun _ _ => by kernel_rfl) (by exact hS) ?_
  simp only [Act.put, List.setIfInBounds_toArray, List.set_cons_succ, List.set_cons_zero]
  refine wpAnyH_take_d 5 (some 46) (.slice la lm lc) rfl (by kernel_rfl) (by kernel_rfl) (by kernel_rfl) (by kernel_rfl) rfl (fun _ _ _ h => h) (fun w' h => exec_load_cell rfl rfl (HB.out _ h).2.2.1 Try.underlying23 rfl) (by exact hS) ?_
  simp only [Act.put, List.setIfInBounds_toArray, List.set_cons_succ, List.set_cons_zero]
  refine wpAnyH_take_d 8 (some 49) (.pointer (some ⟨w.heap.size, 3, none⟩)) rfl (by kernel_rfl) (by kernel_rfl) (by kernel_rfl) (by kernel_rfl) rfl (fun _ _ _ h => h) (fun _ _ => by kernel_rfl) (by exact hS) ?_
  simp only [Act.put, List.setIfInBounds_toArray, List.set_cons_succ, List.set_cons_zero]
  refine wpAnyH_take_d 9 (some 50) (.slice ia im ic) rfl (by kernel_rfl) (by kernel_rfl) (by kernel_rfl) (by kernel_rfl) rfl (fun _ _ _ h => h) (fun w' h => exec_load_cell rfl rfl (HB.out _ h).2.1 Try.underlying24 rfl) (by exact hS) ?_
  simp only [Act.put, List.setIfInBounds_toArray, List.set_cons_succ, List.set_cons_zero]
  refine wpAnyH_take_d 10 (some 51) (.pointer (some ⟨w.heap.size + 1, 3, none⟩)) rfl (by kernel_rfl) (by kernel_rfl) (by kernel_rfl) (by kernel_rfl) rfl (fun _ _ _ h => h) (fun _ _ => by kernel_rfl) (by exact hS) ?_
  simp only [Act.put, List.setIfInBounds_toArray, List.set_cons_succ, List.set_cons_zero]
  refine wpAnyH_take_d 11 (some 52) (.slice ja jm jc) rfl (by kernel_rfl) (by kernel_rfl) (by kernel_rfl) (by kernel_rfl) rfl (fun _ _ _ h => h) (fun w' h => exec_load_cell rfl rfl (HB.out _ h).2.2.2 Try.underlying24 rfl) (by exact hS) ?_
  simp only [Act.put, List.setIfInBounds_toArray, List.set_cons_succ, List.set_cons_zero]
  -- left: [(3, ('44', 'Op.buildSlice 23 1 #[(0, t43)]', None)), (6, ('47', 'Op.buildSlice 107 3 #[(0, t42), (1, t44), (2, t46)]', None)), (7, ('48', 'Op.call { value (Operand.func 54), args := #[t47], argTypes := #[107] }', None)), (12, ('53', 'Op.buildSlice 109 2 #[(0, t50), (1, t52)]', None)), (13, ('54', 'Op.call { value (Operand.func 55), args := #[t53], argTypes := #[109] }', None)), (14, ('55', 'Op.build 32 #[(2, t48), (3, t54)]', None)), (15, ('56', 'Op.call { value (Operand.func 48), args := #[t55], argTypes := #[32] }', None)), (16, ('57', 'Op.extract t56 0', None)), (17, ('58', 'Op.extract t56 1', None)), (18, ('none', 'Op.store 32 t6 t57', None)), (19, ('7', 'Op.assign t58', None))]
  obtain ⟨V0, hV0⟩ : ∃ V0, w5.drew = V0 := ⟨_, rfl⟩
  rw [hV0] at hS hs hb ⊢
  clear hV0
  refine wpAnyH_two (w1 := V0.alloc (boxS key)) (w2 := V0.alloc (.cells #[.slice ia im ic, .slice ja jm jc] 24)) 3 12 (some 44) (some 53) (.slice (some ⟨V0.heap.size, 0, none⟩) 1 1) (.slice (some ⟨V0.heap.size, 0, none⟩) 2 2) rfl rfl (by kernel_rfl) (by kernel_rfl) (by kernel_rfl) rfl rfl (ex_b1 rfl rfl (build_s key V0)) (ex_build2s rfl rfl rfl (build_two_i _ _ (.mk _ _ _) (.mk _ _ _) V0)) ((hb.mono (Nat.le_succ _)).trans ((below_new V0 (boxS key)).mono (Nat.le_trans (Nat.le_succ _) hs))) ((hb.mono (Nat.le_succ _)).trans ((below_new V0 (.cells #[.slice ia im ic, .slice ja jm jc] 24)).mono (Nat.le_trans (Nat.le_succ _) hs))) ?_ ?_
  · skip
    obtain ⟨X1, hV⟩ : ∃ x, V0.alloc (boxS key) = x := ⟨_, rfl⟩
    have bx : Below V0.heap.size V0 X1 := by rw [← hV]; exact below_new V0 _
    have p1 : X1.heap[V0.heap.size]? = some (boxS key) := by rw [← hV]; exact heap_alloc_new V0 _
    have hb := hb.trans (bx.mono hs)
    have hs := Nat.le_trans hs bx.size
    have hS := hb.mono (Nat.le_succ (w.heap.size + 2))
    rw [hV]
    clear hV bx
    simp only [Act.put, List.setIfInBounds_toArray, List.set_cons_succ, List.set_cons_zero]
    refine wpAnyH_two (w1 := X1.alloc (.cells #[.slice ka km kc, .slice (some ⟨V0.heap.size, 0, none⟩) 1 1, .slice la lm lc] 23)) (w2 := X1.alloc (.cells #[.slice ia im ic, .slice ja jm jc] 24)) 6 12 (some 47) (some 53) (.slice (some ⟨X1.heap.size, 0, none⟩) 3 3) (.slice (some ⟨X1.heap.size, 0, none⟩) 2 2) rfl rfl (by kernel_rfl) (by kernel_rfl) (by kernel_rfl) rfl rfl (ex_build3s rfl rfl rfl rfl (build_three_s _ _ _ (.mk _ _ _) (.mk _ _ _) (.mk _ _ _) X1)) (ex_build2s rfl rfl rfl (build_two_i _ _ (.mk _ _ _) (.mk _ _ _) X1)) ((hb.mono (Nat.le_succ _)).trans ((below_new X1 (.cells #[.slice ka km kc, .slice (some ⟨V0.heap.size, 0, none⟩) 1 1, .slice la lm lc] 23)).mono (Nat.le_trans (Nat.le_succ _) hs))) ((hb.mono (Nat.le_succ _)).trans ((below_new X1 (.cells #[.slice ia im ic, .slice ja jm jc] 24)).mono (Nat.le_trans (Nat.le_succ _) hs))) ?_ ?_
    · skip
      obtain ⟨X3, hV⟩ : ∃ x, X1.alloc (.cells #[.slice ka km kc, .slice (some ⟨V0.heap.size, 0, none⟩) 1 1, .slice la lm lc] 23) = x := ⟨_, rfl⟩
      have bx : Below X1.heap.size X1 X3 := by rw [← hV]; exact below_new X1 _
      have p1 := (bx.block _ (lt_of_heap p1)).trans p1
      have p2 : X3.heap[X1.heap.size]? = some (.cells #[.slice ka km kc, .slice (some ⟨V0.heap.size, 0, none⟩) 1 1, .slice la lm lc] 23) := by rw [← hV]; exact heap_alloc_new X1 _
      have hb := hb.trans (bx.mono hs)
      have hs := Nat.le_trans hs bx.size
      have hS := hb.mono (Nat.le_succ (w.heap.size + 2))
      rw [hV]
      clear hV bx
      simp only [Act.put, List.setIfInBounds_toArray, List.set_cons_succ, List.set_cons_zero]
      refine wpAnyH_cor (w2 := X3.alloc (.cells #[.slice ia im ic, .slice ja jm jc] 24)) 7 12 (some 48) (some 53) 54 #[.slice (some ⟨X1.heap.size, 0, none⟩) 3 3] (.slice (some ⟨X3.heap.size, 0, none⟩) 2 2) rfl rfl (by kernel_rfl) (by kernel_rfl) (by kernel_rfl) rfl rfl (by kernel_rfl) (C1.out _ _ _ hb p1 p2) (ex_build2s rfl rfl rfl (build_two_i _ _ (.mk _ _ _) (.mk _ _ _) X3)) ((hb.mono (Nat.le_succ _)).trans ((below_new X3 (.cells #[.slice ia im ic, .slice ja jm jc] 24)).mono (Nat.le_trans (Nat.le_succ _) hs))) ?_ ?_
      · skip
        rintro e X5 ⟨vk, rfl, ok, bx⟩
        have ok := ok.base hs
        have p1 := (bx.block _ (lt_of_heap p1)).trans p1
        have p2 := (bx.block _ (lt_of_heap p2)).trans p2
        have hb := hb.trans (bx.mono hs)
        have hs := Nat.le_trans hs bx.size
        have hS := hb.mono (Nat.le_succ (w.heap.size + 2))
        obtain ⟨xka, xkm, xkc, rfl, -⟩ := ok.form'
        refine ⟨_, rfl, hS, ?_⟩
        clear bx
        simp only [Act.put, List.setIfInBounds_toArray, List.set_cons_succ, List.set_cons_zero]
        refine wpAnyH_one (w1 := X5.alloc (.cells #[.slice ia im ic, .slice ja jm jc] 24)) 12 (some 53) (.slice (some ⟨X5.heap.size, 0, none⟩) 2 2) rfl (by kernel_rfl) (by kernel_rfl) rfl (ex_build2s rfl rfl rfl (build_two_i _ _ (.mk _ _ _) (.mk _ _ _) X5)) ((hb.mono (Nat.le_succ _)).trans ((below_new X5 (.cells #[.slice ia im ic, .slice ja jm jc] 24)).mono (Nat.le_trans (Nat.le_succ _) hs))) ?_
        obtain ⟨X7, hV⟩ : ∃ x, X5.alloc (.cells #[.slice ia im ic, .slice ja jm jc] 24) = x := ⟨_, rfl⟩
        have bx : Below X5.heap.size X5 X7 := by rw [← hV]; exact below_new X5 _
        have p1 := (bx.block _ (lt_of_heap p1)).trans p1
        have p2 := (bx.block _ (lt_of_heap p2)).trans p2
        have ok := ok.below bx
        have p3 : X7.heap[X5.heap.size]? = some (.cells #[.slice ia im ic, .slice ja jm jc] 24) := by rw [← hV]; exact heap_alloc_new X5 _
        have hb := hb.trans (bx.mono hs)
        have hs := Nat.le_trans hs bx.size
        have hS := hb.mono (Nat.le_succ (w.heap.size + 2))
        rw [hV]
        clear hV bx
        simp only [Act.put, List.setIfInBounds_toArray, List.set_cons_succ, List.set_cons_zero]
        refine wpAnyH_call 13 (some 54) 55 #[.slice (some ⟨X5.heap.size, 0, none⟩) 2 2] rfl (by kernel_rfl) (by kernel_rfl) rfl (by kernel_rfl) (C2.out _ _ hb p3) ?_
        rintro e X8 ⟨vi, rfl, oi, bx⟩
        have oi := oi.base hs
        have p1 := (bx.block _ (lt_of_heap p1)).trans p1
        have p2 := (bx.block _ (lt_of_heap p2)).trans p2
        have p3 := (bx.block _ (lt_of_heap p3)).trans p3
        have ok := ok.below bx
        have hb := hb.trans (bx.mono hs)
        have hs := Nat.le_trans hs bx.size
        have hS := hb.mono (Nat.le_succ (w.heap.size + 2))
        obtain ⟨xia, xim, xic, rfl, -⟩ := oi.form'
        refine ⟨_, rfl, hS, ?_⟩
        clear bx
        simp only [Act.put, List.setIfInBounds_toArray, List.set_cons_succ, List.set_cons_zero]
        refine wpAnyH_take_d 14 (some 55) (.agg #[.bool false, .slice none 0 0, .slice xka xkm xkc, .slice xia xim xic]) rfl (by kernel_rfl) (by kernel_rfl) (by kernel_rfl) (by kernel_rfl) rfl (fun _ _ _ h => h) (fun w' _ => ex_build23 rfl rfl rfl (run_build w' 32 _ _ (by kernel_rfl))) (by exact hS) ?_
        simp only [Act.put, List.setIfInBounds_toArray, List.set_cons_succ, List.set_cons_zero]
        refine wpAnyH_call 15 (some 56) 48 #[.agg #[.bool false, .slice none 0 0, .slice xka xkm xkc, .slice xia xim xic]] rfl (by kernel_rfl) (by kernel_rfl) rfl (by kernel_rfl) (C3.out _ _ _ ok oi) ?_
        rintro e X9 ⟨rfl, bx⟩
        have ok := ok.below bx
        have oi := oi.below bx
        have hb := hb.trans (bx.mono hs)
        have hs := Nat.le_trans hs bx.size
        have hS := hb.mono (Nat.le_succ (w.heap.size + 2))
        have hz := HZ.out _ hb
        clear bx p1 p2 p3
        cases hnn : okN (merN x key y)
        · skip
          rw [hnn] at HR
          simp only [Bool.false_eq_true, if_false]
          refine ⟨_, rfl, hS, ?_⟩
          simp only [Act.put, List.setIfInBounds_toArray, List.set_cons_succ, List.set_cons_zero]
          refine wpAnyH_take_d 16 (some 57) (zNd) rfl (by kernel_rfl) (by kernel_rfl) (by kernel_rfl) (by kernel_rfl) rfl (fun _ _ _ h => h) (fun _ _ => ex_ext rfl rfl rfl) (by exact hS) ?_
          simp only [Act.put, List.setIfInBounds_toArray, List.set_cons_succ, List.set_cons_zero]
          refine wpAnyH_take_d 17 (some 58) (.int .i64 2) rfl (by kernel_rfl) (by kernel_rfl) (by kernel_rfl) (by kernel_rfl) rfl (fun _ _ _ h => h) (fun _ _ => ex_ext rfl rfl rfl) (by exact hS) ?_
          simp only [Act.put, List.setIfInBounds_toArray, List.set_cons_succ, List.set_cons_zero]
          refine wpAnyH_one_skip 18 rfl (by kernel_rfl) (by kernel_rfl) (ex_store_row rfl rfl rfl hz (by kernel_rfl) rfl (by simp [Value.oneCell'])) (below_setRow' hS (Nat.le_refl _) #[.bool false, .slice none 0 0, .slice none 0 0, .slice none 0 0]) ?_
          simp only [Act.put, List.setIfInBounds_toArray]
          have hS := below_setRow' hS (Nat.le_refl _) #[.bool false, .slice none 0 0, .slice none 0 0, .slice none 0 0]
          refine wpAnyH_take_d 19 (some 7) (.int .i64 2) rfl (by kernel_rfl) (by kernel_rfl) (by kernel_rfl) (by kernel_rfl) rfl (fun _ _ _ h => h) (fun _ _ => by kernel_rfl) (by exact hS) ?_
          refine wpAnyH_done (by kernel_rfl) ?_ _
          obtain ⟨s0, s1, s2, s3⟩ := NdCells.of (setRow_heap X9 (w.heap.size + 2) _ #[.bool false, .slice none 0 0, .slice none 0 0, .slice none 0 0] _ _ hz)
          have FF : Hid (NdRet w R (.returned (.tuple #[zNd, .int .i64 2])) (X9.setRow (w.heap.size + 2) #[.bool false, .slice none 0 0, .slice none 0 0, .slice none 0 0])) := Lib.hid (by
            rw [← HR.out]
            exact ⟨_, rfl, NdOwn.none _ _, HA.out _ hS⟩)
          clear hS hz ok oi hb hs
          go_wp2
          exact bodyPost_ret (v := .tuple #[zNd, .int .i64 2]) (by simp [results, Try.results33, go_sem, s0, s1, s2, s3]) rfl FF.out
        · skip
          rw [hnn] at HR
          simp only [if_true]
          refine ⟨_, rfl, hS, ?_⟩
          simp only [Act.put, List.setIfInBounds_toArray, List.set_cons_succ, List.set_cons_zero]
          refine wpAnyH_take_d 16 (some 57) (.agg #[.bool false, .slice none 0 0, .slice xka xkm xkc, .slice xia xim xic]) rfl (by kernel_rfl) (by kernel_rfl) (by kernel_rfl) (by kernel_rfl) rfl (fun _ _ _ h => h) (fun _ _ => ex_ext rfl rfl rfl) (by exact hS) ?_
          simp only [Act.put, List.setIfInBounds_toArray, List.set_cons_succ, List.set_cons_zero]
          refine wpAnyH_take_d 17 (some 58) (.int .i64 0) rfl (by kernel_rfl) (by kernel_rfl) (by kernel_rfl) (by kernel_rfl) rfl (fun _ _ _ h => h) (fun _ _ => ex_ext rfl rfl rfl) (by exact hS) ?_
          simp only [Act.put, List.setIfInBounds_toArray, List.set_cons_succ, List.set_cons_zero]
          refine wpAnyH_one_skip 18 rfl (by kernel_rfl) (by kernel_rfl) (ex_store_row rfl rfl rfl hz (by kernel_rfl) rfl (by simp [Value.oneCell'])) (below_setRow' hS (Nat.le_refl _) #[.bool false, .slice none 0 0, .slice xka xkm xkc, .slice xia xim xic]) ?_
          simp only [Act.put, List.setIfInBounds_toArray]
          have hS := below_setRow' hS (Nat.le_refl _) #[.bool false, .slice none 0 0, .slice xka xkm xkc, .slice xia xim xic]
          refine wpAnyH_take_d 19 (some 7) (.int .i64 0) rfl (by kernel_rfl) (by kernel_rfl) (by kernel_rfl) (by kernel_rfl) rfl (fun _ _ _ h => h) (fun _ _ => by kernel_rfl) (by exact hS) ?_
          refine wpAnyH_done (by kernel_rfl) ?_ _
          obtain ⟨s0, s1, s2, s3⟩ := NdCells.of (setRow_heap X9 (w.heap.size + 2) _ #[.bool false, .slice none 0 0, .slice xka xkm xkc, .slice xia xim xic] _ _ hz)
          have FF : Hid (NdRet w R (.returned (.tuple #[.agg #[.bool false, .slice none 0 0, .slice xka xkm xkc, .slice xia xim xic], .int .i64 0])) (X9.setRow (w.heap.size + 2) #[.bool false, .slice none 0 0, .slice xka xkm xkc, .slice xia xim xic])) := Lib.hid (by
            rw [← HR.out, if_pos rfl, HN.out]
            exact ⟨_, rfl, ⟨_, _, _, rfl, OwnR.nil _ _ _, (ok.keepg (Nat.lt_succ_self _) (fun k hk => setRow_other _ (w.heap.size + 2) k #[.bool false, .slice none 0 0, .slice xka xkm xkc, .slice xia xim xic] hk)).base (Nat.le_add_right _ 3), (oi.keepg (Nat.lt_succ_self _) (fun k hk => setRow_other _ (w.heap.size + 2) k #[.bool false, .slice none 0 0, .slice xka xkm xkc, .slice xia xim xic] hk)).base (Nat.le_add_right _ 3)⟩, HA.out _ hS⟩)
          clear hS hz ok oi hb hs
          go_wp2
          exact bodyPost_ret (v := .tuple #[.agg #[.bool false, .slice none 0 0, .slice xka xkm xkc, .slice xia xim xic], .int .i64 0]) (by simp [results, Try.results33, go_sem, s0, s1, s2, s3]) rfl FF.out
      · skip
        obtain ⟨X6, hV⟩ : ∃ x, X3.alloc (.cells #[.slice ia im ic, .slice ja jm jc] 24) = x := ⟨_, rfl⟩
        have bx : Below X3.heap.size X3 X6 := by rw [← hV]; exact below_new X3 _
        have p1 := (bx.block _ (lt_of_heap p1)).trans p1
        have p2 := (bx.block _ (lt_of_heap p2)).trans p2
        have p3 : X6.heap[X3.heap.size]? = some (.cells #[.slice ia im ic, .slice ja jm jc] 24) := by rw [← hV]; exact heap_alloc_new X3 _
        have hb := hb.trans (bx.mono hs)
        have hs := Nat.le_trans hs bx.size
        have hS := hb.mono (Nat.le_succ (w.heap.size + 2))
        rw [hV]
        clear hV bx
        simp only [Act.put, List.setIfInBounds_toArray, List.set_cons_succ, List.set_cons_zero]
        refine wpAnyH_call 7 (some 48) 54 #[.slice (some ⟨X1.heap.size, 0, none⟩) 3 3] rfl (by kernel_rfl) (by kernel_rfl) rfl (by kernel_rfl) (C1.out _ _ _ hb p1 p2) ?_
        rintro e X10 ⟨vk, rfl, ok, bx⟩
        have ok := ok.base hs
        have p1 := (bx.block _ (lt_of_heap p1)).trans p1
        have p2 := (bx.block _ (lt_of_heap p2)).trans p2
        have p3 := (bx.block _ (lt_of_heap p3)).trans p3
        have hb := hb.trans (bx.mono hs)
        have hs := Nat.le_trans hs bx.size
        have hS := hb.mono (Nat.le_succ (w.heap.size + 2))
        obtain ⟨xka, xkm, xkc, rfl, -⟩ := ok.form'
        refine ⟨_, rfl, hS, ?_⟩
        clear bx
        simp only [Act.put, List.setIfInBounds_toArray, List.set_cons_succ, List.set_cons_zero]
        refine wpAnyH_call 13 (some 54) 55 #[.slice (some ⟨X3.heap.size, 0, none⟩) 2 2] rfl (by kernel_rfl) (by kernel_rfl) rfl (by kernel_rfl) (C2.out _ _ hb p3) ?_
        rintro e X11 ⟨vi, rfl, oi, bx⟩
        have oi := oi.base hs
        have p1 := (bx.block _ (lt_of_heap p1)).trans p1
        have p2 := (bx.block _ (lt_of_heap p2)).trans p2
        have p3 := (bx.block _ (lt_of_heap p3)).trans p3
        have ok := ok.below bx
        have hb := hb.trans (bx.mono hs)
        have hs := Nat.le_trans hs bx.size
        have hS := hb.mono (Nat.le_succ (w.heap.size + 2))
        obtain ⟨xia, xim, xic, rfl, -⟩ := oi.form'
        refine ⟨_, rfl, hS, ?_⟩
        clear bx
        simp only [Act.put, List.setIfInBounds_toArray, List.set_cons_succ, List.set_cons_zero]
        refine wpAnyH_take_d 14 (some 55) (.agg #[.bool false, .slice none 0 0, .slice xka xkm xkc, .slice xia xim xic]) rfl (by kernel_rfl) (by kernel_rfl) (by kernel_rfl) (by kernel_rfl) rfl (fun _ _ _ h => h) (fun w' _ => ex_build23 rfl rfl rfl (run_build w' 32 _ _ (by kernel_rfl))) (by exact hS) ?_
        simp only [Act.put, List.setIfInBounds_toArray, List.set_cons_succ, List.set_cons_zero]
        refine wpAnyH_call 15 (some 56) 48 #[.agg #[.bool false, .slice none 0 0, .slice xka xkm xkc, .slice xia xim xic]] rfl (by kernel_rfl) (by kernel_rfl) rfl (by kernel_rfl) (C3.out _ _ _ ok oi) ?_
        rintro e X12 ⟨rfl, bx⟩
        have ok := ok.below bx
        have oi := oi.below bx
        have hb := hb.trans (bx.mono hs)
        have hs := Nat.le_trans hs bx.size
        have hS := hb.mono (Nat.le_succ (w.heap.size + 2))
        have hz := HZ.out _ hb
        clear bx p1 p2 p3
        cases hnn : okN (merN x key y)
        · skip
          rw [hnn] at HR
          simp only [Bool.false_eq_true, if_false]
          refine ⟨_, rfl, hS, ?_⟩
          simp only [Act.put, List.setIfInBounds_toArray, List.set_cons_succ, List.set_cons_zero]
          refine wpAnyH_take_d 16 (some 57) (zNd) rfl (by kernel_rfl) (by kernel_rfl) (by kernel_rfl) (by kernel_rfl) rfl (fun _ _ _ h => h) (fun _ _ => ex_ext rfl rfl rfl) (by exact hS) ?_
          simp only [Act.put, List.setIfInBounds_toArray, List.set_cons_succ, List.set_cons_zero]
          refine wpAnyH_take_d 17 (some 58) (.int .i64 2) rfl (by kernel_rfl) (by kernel_rfl) (by kernel_rfl) (by kernel_rfl) rfl (fun _ _ _ h => h) (fun _ _ => ex_ext rfl rfl rfl) (by exact hS) ?_
          simp only [Act.put, List.setIfInBounds_toArray, List.set_cons_succ, List.set_cons_zero]
          refine wpAnyH_one_skip 18 rfl (by kernel_rfl) (by kernel_rfl) (ex_store_row rfl rfl rfl hz (by kernel_rfl) rfl (by simp [Value.oneCell'])) (below_setRow' hS (Nat.le_refl _) #[.bool false, .slice none 0 0, .slice none 0 0, .slice none 0 0]) ?_
          simp only [Act.put, List.setIfInBounds_toArray]
          have hS := below_setRow' hS (Nat.le_refl _) #[.bool false, .slice none 0 0, .slice none 0 0, .slice none 0 0]
          refine wpAnyH_take_d 19 (some 7) (.int .i64 2) rfl (by kernel_rfl) (by kernel_rfl) (by kernel_rfl) (by kernel_rfl) rfl (fun _ _ _ h => h) (fun _ _ => by kernel_rfl) (by exact hS) ?_
          refine wpAnyH_done (by kernel_rfl) ?_ _
          obtain ⟨s0, s1, s2, s3⟩ := NdCells.of (setRow_heap X12 (w.heap.size + 2) _ #[.bool false, .slice none 0 0, .slice none 0 0, .slice none 0 0] _ _ hz)
          have FF : Hid (NdRet w R (.returned (.tuple #[zNd, .int .i64 2])) (X12.setRow (w.heap.size + 2) #[.bool false, .slice none 0 0, .slice none 0 0, .slice none 0 0])) := Lib.hid (by
            rw [← HR.out]
            exact ⟨_, rfl, NdOwn.none _ _, HA.out _ hS⟩)
          clear hS hz ok oi hb hs
          go_wp2
          exact bodyPost_ret (v := .tuple #[zNd, .int .i64 2]) (by simp [results, Try.results33, go_sem, s0, s1, s2, s3]) rfl FF.out
        · skip
          rw [hnn] at HR
          simp only [if_true]
          refine ⟨_, rfl, hS, ?_⟩
          simp only [Act.put, List.setIfInBounds_toArray, List.set_cons_succ, List.set_cons_zero]
          refine wpAnyH_take_d 16 (some 57) (.agg #[.bool false, .slice none 0 0, .slice xka xkm xkc, .slice xia xim xic]) rfl (by kernel_rfl) (by kernel_rfl) (by kernel_rfl) (by kernel_rfl) rfl (fun _ _ _ h => h) (fun _ _ => ex_ext rfl rfl rfl) (by exact hS) ?_
          simp only [Act.put, List.setIfInBounds_toArray, List.set_cons_succ, List.set_cons_zero]
          refine wpAnyH_take_d 17 (some 58) (.int .i64 0) rfl (by kernel_rfl) (by kernel_rfl) (by kernel_rfl) (by kernel_rfl) rfl (fun _ _ _ h => h) (fun _ _ => ex_ext rfl rfl rfl) (by exact hS) ?_
          simp only [Act.put, List.setIfInBounds_toArray, List.set_cons_succ, List.set_cons_zero]
          refine wpAnyH_one_skip 18 rfl (by kernel_rfl) (by kernel_rfl) (ex_store_row rfl rfl rfl hz (by kernel_rfl) rfl (by simp [Value.oneCell'])) (below_setRow' hS (Nat.le_refl _) #[.bool false, .slice none 0 0, .slice xka xkm xkc, .slice xia xim xic]) ?_
          simp only [Act.put, List.setIfInBounds_toArray]
          have hS := below_setRow' hS (Nat.le_refl _) #[.bool false, .slice none 0 0, .slice xka xkm xkc, .slice xia xim xic]
          refine wpAnyH_take_d 19 (some 7) (.int .i64 0) rfl (by kernel_rfl) (by kernel_rfl) (by kernel_rfl) (by kernel_rfl) rfl (fun _ _ _ h => h) (fun _ _ => by kernel_rfl) (by exact hS) ?_
          refine wpAnyH_done (by kernel_rfl) ?_ _
          obtain ⟨s0, s1, s2, s3⟩ := NdCells.of (setRow_heap X12 (w.heap.size + 2) _ #[.bool false, .slice none 0 0, .slice xka xkm xkc, .slice xia xim xic] _ _ hz)
          have FF : Hid (NdRet w R (.returned (.tuple #[.agg #[.bool false, .slice none 0 0, .slice xka xkm xkc, .slice xia xim xic], .int .i64 0])) (X12.setRow (w.heap.size + 2) #[.bool false, .slice none 0 0, .slice xka xkm xkc, .slice xia xim xic])) := Lib.hid (by
            rw [← HR.out, if_pos rfl, HN.out]
            exact ⟨_, rfl, ⟨_, _, _, rfl, OwnR.nil _ _ _, (ok.keepg (Nat.lt_succ_self _) (fun k hk => setRow_other _ (w.heap.size + 2) k #[.bool false, .slice none 0 0, .slice xka xkm xkc, .slice xia xim xic] hk)).base (Nat.le_add_right _ 3), (oi.keepg (Nat.lt_succ_self _) (fun k hk => setRow_other _ (w.heap.size + 2) k #[.bool false, .slice none 0 0, .slice xka xkm xkc, .slice xia xim xic] hk)).base (Nat.le_add_right _ 3)⟩, HA.out _ hS⟩)
          clear hS hz ok oi hb hs
          go_wp2
          exact bodyPost_ret (v := .tuple #[.agg #[.bool false, .slice none 0 0, .slice xka xkm xkc, .slice xia xim xic], .int .i64 0]) (by simp [results, Try.results33, go_sem, s0, s1, s2, s3]) rfl FF.out
    · skip
      obtain ⟨X4, hV⟩ : ∃ x, X1.alloc (.cells #[.slice ia im ic, .slice ja jm jc] 24) = x := ⟨_, rfl⟩
      have bx : Below X1.heap.size X1 X4 := by rw [← hV]; exact below_new X1 _
      have p1 := (bx.block _ (lt_of_heap p1)).trans p1
      have p3 : X4.heap[X1.heap.size]? = some (.cells #[.slice ia im ic, .slice ja jm jc] 24) := by rw [← hV]; exact heap_alloc_new X1 _
      have hb := hb.trans (bx.mono hs)
      have hs := Nat.le_trans hs bx.size
      have hS := hb.mono (Nat.le_succ (w.heap.size + 2))
      rw [hV]
      clear hV bx
      simp only [Act.put, List.setIfInBounds_toArray, List.set_cons_succ, List.set_cons_zero]
      refine wpAnyH_one (w1 := X4.alloc (.cells #[.slice ka km kc, .slice (some ⟨V0.heap.size, 0, none⟩) 1 1, .slice la lm lc] 23)) 6 (some 47) (.slice (some ⟨X4.heap.size, 0, none⟩) 3 3) rfl (by kernel_rfl) (by kernel_rfl) rfl (ex_build3s rfl rfl rfl rfl (build_three_s _ _ _ (.mk _ _ _) (.mk _ _ _) (.mk _ _ _) X4)) ((hb.mono (Nat.le_succ _)).trans ((below_new X4 (.cells #[.slice ka km kc, .slice (some ⟨V0.heap.size, 0, none⟩) 1 1, .slice la lm lc] 23)).mono (Nat.le_trans (Nat.le_succ _) hs))) ?_
      obtain ⟨X13, hV⟩ : ∃ x, X4.alloc (.cells #[.slice ka km kc, .slice (some ⟨V0.heap.size, 0, none⟩) 1 1, .slice la lm lc] 23) = x := ⟨_, rfl⟩
      have bx : Below X4.heap.size X4 X13 := by rw [← hV]; exact below_new X4 _
      have p1 := (bx.block _ (lt_of_heap p1)).trans p1
      have p3 := (bx.block _ (lt_of_heap p3)).trans p3
      have p2 : X13.heap[X4.heap.size]? = some (.cells #[.slice ka km kc, .slice (some ⟨V0.heap.size, 0, none⟩) 1 1, .slice la lm lc] 23) := by rw [← hV]; exact heap_alloc_new X4 _
      have hb := hb.trans (bx.mono hs)
      have hs := Nat.le_trans hs bx.size
      have hS := hb.mono (Nat.le_succ (w.heap.size + 2))
      rw [hV]
      clear hV bx
      simp only [Act.put, List.setIfInBounds_toArray, List.set_cons_succ, List.set_cons_zero]
      refine wpAnyH_call 7 (some 48) 54 #[.slice (some ⟨X4.heap.size, 0, none⟩) 3 3] rfl (by kernel_rfl) (by kernel_rfl) rfl (by kernel_rfl) (C1.out _ _ _ hb p1 p2) ?_
      rintro e X14 ⟨vk, rfl, ok, bx⟩
      have ok := ok.base hs
      have p1 := (bx.block _ (lt_of_heap p1)).trans p1
      have p2 := (bx.block _ (lt_of_heap p2)).trans p2
      have p3 := (bx.block _ (lt_of_heap p3)).trans p3
      have hb := hb.trans (bx.mono hs)
      have hs := Nat.le_trans hs bx.size
      have hS := hb.mono (Nat.le_succ (w.heap.size + 2))
      obtain ⟨xka, xkm, xkc, rfl, -⟩ := ok.form'
      refine ⟨_, rfl, hS, ?_⟩
      clear bx
      simp only [Act.put, List.setIfInBounds_toArray, List.set_cons_succ, List.set_cons_zero]
      refine wpAnyH_call 13 (some 54) 55 #[.slice (some ⟨X1.heap.size, 0, none⟩) 2 2] rfl (by kernel_rfl) (by kernel_rfl) rfl (by kernel_rfl) (C2.out _ _ hb p3) ?_
      rintro e X15 ⟨vi, rfl, oi, bx⟩
      have oi := oi.base hs
      have p1 := (bx.block _ (lt_of_heap p1)).trans p1
      have p2 := (bx.block _ (lt_of_heap p2)).trans p2
      have p3 := (bx.block _ (lt_of_heap p3)).trans p3
      have ok := ok.below bx
      have hb := hb.trans (bx.mono hs)
      have hs := Nat.le_trans hs bx.size
      have hS := hb.mono (Nat.le_succ (w.heap.size + 2))
      obtain ⟨xia, xim, xic, rfl, -⟩ := oi.form'
      refine ⟨_, rfl, hS, ?_⟩
      clear bx
      simp only [Act.put, List.setIfInBounds_toArray, List.set_cons_succ, List.set_cons_zero]
      refine wpAnyH_take_d 14 (some 55) (.agg #[.bool false, .slice none 0 0, .slice xka xkm xkc, .slice xia xim xic]) rfl (by kernel_rfl) (by kernel_rfl) (by kernel_rfl) (by kernel_rfl) rfl (fun _ _ _ h => h) (fun w' _ => ex_build23 rfl rfl rfl (run_build w' 32 _ _ (by kernel_rfl))) (by exact hS) ?_
      simp only [Act.put, List.setIfInBounds_toArray, List.set_cons_succ, List.set_cons_zero]
      refine wpAnyH_call 15 (some 56) 48 #[.agg #[.bool false, .slice none 0 0, .slice xka xkm xkc, .slice xia xim xic]] rfl (by kernel_rfl) (by kernel_rfl) rfl (by kernel_rfl) (C3.out _ _ _ ok oi) ?_
      rintro e X16 ⟨rfl, bx⟩
      have ok := ok.below bx
      have oi := oi.below bx
      have hb := hb.trans (bx.mono hs)
      have hs := Nat.le_trans hs bx.size
      have hS := hb.mono (Nat.le_succ (w.heap.size + 2))
      have hz := HZ.out _ hb
      clear bx p1 p2 p3
      cases hnn : okN (merN x key y)
      · skip
        rw [hnn] at HR
        simp only [Bool.false_eq_true, if_false]
        refine ⟨_, rfl, hS, ?_⟩
        simp only [Act.put, List.setIfInBounds_toArray, List.set_cons_succ, List.set_cons_zero]
        refine wpAnyH_take_d 16 (some 57) (zNd) rfl (by kernel_rfl) (by kernel_rfl) (by kernel_rfl) (by kernel_rfl) rfl (fun _ _ _ h => h) (fun _ _ => ex_ext rfl rfl rfl) (by exact hS) ?_
        simp only [Act.put, List.setIfInBounds_toArray, List.set_cons_succ, List.set_cons_zero]
        refine wpAnyH_take_d 17 (some 58) (.int .i64 2) rfl (by kernel_rfl) (by kernel_rfl) (by kernel_rfl) (by kernel_rfl) rfl (fun _ _ _ h => h) (fun _ _ => ex_ext rfl rfl rfl) (by exact hS) ?_
        simp only [Act.put, List.setIfInBounds_toArray, List.set_cons_succ, List.set_cons_zero]
        refine wpAnyH_one_skip 18 rfl (by kernel_rfl) (by kernel_rfl) (ex_store_row rfl rfl rfl hz (by kernel_rfl) rfl (by simp [Value.oneCell'])) (below_setRow' hS (Nat.le_refl _) #[.bool false, .slice none 0 0, .slice none 0 0, .slice none 0 0]) ?_
        simp only [Act.put, List.setIfInBounds_toArray]
        have hS := below_setRow' hS (Nat.le_refl _) #[.bool false, .slice none 0 0, .slice none 0 0, .slice none 0 0]
        refine wpAnyH_take_d 19 (some 7) (.int .i64 2) rfl (by kernel_rfl) (by kernel_rfl) (by kernel_rfl) (by kernel_rfl) rfl (fun _ _ _ h => h) (fun _ _ => by kernel_rfl) (by exact hS) ?_
        refine wpAnyH_done (by kernel_rfl) ?_ _
        obtain ⟨s0, s1, s2, s3⟩ := NdCells.of (setRow_heap X16 (w.heap.size + 2) _ #[.bool false, .slice none 0 0, .slice none 0 0, .slice none 0 0] _ _ hz)
        have FF : Hid (NdRet w R (.returned (.tuple #[zNd, .int .i64 2])) (X16.setRow (w.heap.size + 2) #[.bool false, .slice none 0 0, .slice none 0 0, .slice none 0 0])) := Lib.hid (by
          rw [← HR.out]
          exact ⟨_, rfl, NdOwn.none _ _, HA.out _ hS⟩)
        clear hS hz ok oi hb hs
        go_wp2
        exact bodyPost_ret (v := .tuple #[zNd, .int .i64 2]) (by simp [results, Try.results33, go_sem, s0, s1, s2, s3]) rfl FF.out
      · skip
        rw [hnn] at HR
        simp only [if_true]
        refine ⟨_, rfl, hS, ?_⟩
        simp only [Act.put, List.setIfInBounds_toArray, List.set_cons_succ, List.set_cons_zero]
        refine wpAnyH_take_d 16 (some 57) (.agg #[.bool false, .slice none 0 0, .slice xka xkm xkc, .slice xia xim xic]) rfl (by kernel_rfl) (by kernel_rfl) (by kernel_rfl) (by kernel_rfl) rfl (fun _ _ _ h => h) (fun _ _ => ex_ext rfl rfl rfl) (by exact hS) ?_
        simp only [Act.put, List.setIfInBounds_toArray, List.set_cons_succ, List.set_cons_zero]
        refine wpAnyH_take_d 17 (some 58) (.int .i64 0) rfl (by kernel_rfl) (by kernel_rfl) (by kernel_rfl) (by kernel_rfl) rfl (fun _ _ _ h => h) (fun _ _ => ex_ext rfl rfl rfl) (by exact hS) ?_
        simp only [Act.put, List.setIfInBounds_toArray, List.set_cons_succ, List.set_cons_zero]
        refine wpAnyH_one_skip 18 rfl (by kernel_rfl) (by kernel_rfl) (ex_store_row rfl rfl rfl hz (by kernel_rfl) rfl (by simp [Value.oneCell'])) (below_setRow' hS (Nat.le_refl _) #[.bool false, .slice none 0 0, .slice xka xkm xkc, .slice xia xim xic]) ?_
        simp only [Act.put, List.setIfInBounds_toArray]
        have hS := below_setRow' hS (Nat.le_refl _) #[.bool false, .slice none 0 0, .slice xka xkm xkc, .slice xia xim xic]
        refine wpAnyH_take_d 19 (some 7) (.int .i64 0) rfl (by kernel_rfl) (by kernel_rfl) (by kernel_rfl) (by kernel_rfl) rfl (fun _ _ _ h => h) (fun _ _ => by kernel_rfl) (by exact hS) ?_
        refine wpAnyH_done (by kernel_rfl) ?_ _
        obtain ⟨s0, s1, s2, s3⟩ := NdCells.of (setRow_heap X16 (w.heap.size + 2) _ #[.bool false, .slice none 0 0, .slice xka xkm xkc, .slice xia xim xic] _ _ hz)
        have FF : Hid (NdRet w R (.returned (.tuple #[.agg #[.bool false, .slice none 0 0, .slice xka xkm xkc, .slice xia xim xic], .int .i64 0])) (X16.setRow (w.heap.size + 2) #[.bool false, .slice none 0 0, .slice xka xkm xkc, .slice xia xim xic])) := Lib.hid (by
          rw [← HR.out, if_pos rfl, HN.out]
          exact ⟨_, rfl, ⟨_, _, _, rfl, OwnR.nil _ _ _, (ok.keepg (Nat.lt_succ_self _) (fun k hk => setRow_other _ (w.heap.size + 2) k #[.bool false, .slice none 0 0, .slice xka xkm xkc, .slice xia xim xic] hk)).base (Nat.le_add_right _ 3), (oi.keepg (Nat.lt_succ_self _) (fun k hk => setRow_other _ (w.heap.size + 2) k #[.bool false, .slice none 0 0, .slice xka xkm xkc, .slice xia xim xic] hk)).base (Nat.le_add_right _ 3)⟩, HA.out _ hS⟩)
        clear hS hz ok oi hb hs
        go_wp2
        exact bodyPost_ret (v := .tuple #[.agg #[.bool false, .slice none 0 0, .slice xka xkm xkc, .slice xia xim xic], .int .i64 0]) (by simp [results, Try.results33, go_sem, s0, s1, s2, s3]) rfl FF.out
  · skip
    obtain ⟨X2, hV⟩ : ∃ x, V0.alloc (.cells #[.slice ia im ic, .slice ja jm jc] 24) = x := ⟨_, rfl⟩
    have bx : Below V0.heap.size V0 X2 := by rw [← hV]; exact below_new V0 _
    have p3 : X2.heap[V0.heap.size]? = some (.cells #[.slice ia im ic, .slice ja jm jc] 24) := by rw [← hV]; exact heap_alloc_new V0 _
    have hb := hb.trans (bx.mono hs)
    have hs := Nat.le_trans hs bx.size
    have hS := hb.mono (Nat.le_succ (w.heap.size + 2))
    rw [hV]
    clear hV bx
    simp only [Act.put, List.setIfInBounds_toArray, List.set_cons_succ, List.set_cons_zero]
    refine wpAnyH_one (w1 := X2.alloc (boxS key)) 3 (some 44) (.slice (some ⟨X2.heap.size, 0, none⟩) 1 1) rfl (by kernel_rfl) (by kernel_rfl) rfl (ex_b1 rfl rfl (build_s key X2)) ((hb.mono (Nat.le_succ _)).trans ((below_new X2 (boxS key)).mono (Nat.le_trans (Nat.le_succ _) hs))) ?_
    obtain ⟨X17, hV⟩ : ∃ x, X2.alloc (boxS key) = x := ⟨_, rfl⟩
    have bx : Below X2.heap.size X2 X17 := by rw [← hV]; exact below_new X2 _
    have p3 := (bx.block _ (lt_of_heap p3)).trans p3
    have p1 : X17.heap[X2.heap.size]? = some (boxS key) := by rw [← hV]; exact heap_alloc_new X2 _
    have hb := hb.trans (bx.mono hs)
    have hs := Nat.le_trans hs bx.size
    have hS := hb.mono (Nat.le_succ (w.heap.size + 2))
    rw [hV]
    clear hV bx
    simp only [Act.put, List.setIfInBounds_toArray, List.set_cons_succ, List.set_cons_zero]
    refine wpAnyH_one (w1 := X17.alloc (.cells #[.slice ka km kc, .slice (some ⟨X2.heap.size, 0, none⟩) 1 1, .slice la lm lc] 23)) 6 (some 47) (.slice (some ⟨X17.heap.size, 0, none⟩) 3 3) rfl (by kernel_rfl) (by kernel_rfl) rfl (ex_build3s rfl rfl rfl rfl (build_three_s _ _ _ (.mk _ _ _) (.mk _ _ _) (.mk _ _ _) X17)) ((hb.mono (Nat.le_succ _)).trans ((below_new X17 (.cells #[.slice ka km kc, .slice (some ⟨X2.heap.size, 0, none⟩) 1 1, .slice la lm lc] 23)).mono (Nat.le_trans (Nat.le_succ _) hs))) ?_
    obtain ⟨X18, hV⟩ : ∃ x, X17.alloc (.cells #[.slice ka km kc, .slice (some ⟨X2.heap.size, 0, none⟩) 1 1, .slice la lm lc] 23) = x := ⟨_, rfl⟩
    have bx : Below X17.heap.size X17 X18 := by rw [← hV]; exact below_new X17 _
    have p1 := (bx.block _ (lt_of_heap p1)).trans p1
    have p3 := (bx.block _ (lt_of_heap p3)).trans p3
    have p2 : X18.heap[X17.heap.size]? = some (.cells #[.slice ka km kc, .slice (some ⟨X2.heap.size, 0, none⟩) 1 1, .slice la lm lc] 23) := by rw [← hV]; exact heap_alloc_new X17 _
    have hb := hb.trans (bx.mono hs)
    have hs := Nat.le_trans hs bx.size
    have hS := hb.mono (Nat.le_succ (w.heap.size + 2))
    rw [hV]
    clear hV bx
    simp only [Act.put, List.setIfInBounds_toArray, List.set_cons_succ, List.set_cons_zero]
    refine wpAnyH_call 7 (some 48) 54 #[.slice (some ⟨X17.heap.size, 0, none⟩) 3 3] rfl (by kernel_rfl) (by kernel_rfl) rfl (by kernel_rfl) (C1.out _ _ _ hb p1 p2) ?_
    rintro e X19 ⟨vk, rfl, ok, bx⟩
    have ok := ok.base hs
    have p1 := (bx.block _ (lt_of_heap p1)).trans p1
    have p2 := (bx.block _ (lt_of_heap p2)).trans p2
    have p3 := (bx.block _ (lt_of_heap p3)).trans p3
    have hb := hb.trans (bx.mono hs)
    have hs := Nat.le_trans hs bx.size
    have hS := hb.mono (Nat.le_succ (w.heap.size + 2))
    obtain ⟨xka, xkm, xkc, rfl, -⟩ := ok.form'
    refine ⟨_, rfl, hS, ?_⟩
    clear bx
    simp only [Act.put, List.setIfInBounds_toArray, List.set_cons_succ, List.set_cons_zero]
    refine wpAnyH_call 13 (some 54) 55 #[.slice (some ⟨V0.heap.size, 0, none⟩) 2 2] rfl (by kernel_rfl) (by kernel_rfl) rfl (by kernel_rfl) (C2.out _ _ hb p3) ?_
    rintro e X20 ⟨vi, rfl, oi, bx⟩
    have oi := oi.base hs
    have p1 := (bx.block _ (lt_of_heap p1)).trans p1
    have p2 := (bx.block _ (lt_of_heap p2)).trans p2
    have p3 := (bx.block _ (lt_of_heap p3)).trans p3
    have ok := ok.below bx
    have hb := hb.trans (bx.mono hs)
    have hs := Nat.le_trans hs bx.size
    have hS := hb.mono (Nat.le_succ (w.heap.size + 2))
    obtain ⟨xia, xim, xic, rfl, -⟩ := oi.form'
    refine ⟨_, rfl, hS, ?_⟩
    clear bx
    simp only [Act.put, List.setIfInBounds_toArray, List.set_cons_succ, List.set_cons_zero]
    refine wpAnyH_take_d 14 (some 55) (.agg #[.bool false, .slice none 0 0, .slice xka xkm xkc, .slice xia xim xic]) rfl (by kernel_rfl) (by kernel_rfl) (by kernel_rfl) (by kernel_rfl) rfl (fun _ _ _ h => h) (fun w' _ => ex_build23 rfl rfl rfl (run_build w' 32 _ _ (by kernel_rfl))) (by exact hS) ?_
    simp only [Act.put, List.setIfInBounds_toArray, List.set_cons_succ, List.set_cons_zero]
    refine wpAnyH_call 15 (some 56) 48 #[.agg #[.bool false, .slice none 0 0, .slice xka xkm xkc, .slice xia xim xic]] rfl (by kernel_rfl) (by kernel_rfl) rfl (by kernel_rfl) (C3.out _ _ _ ok oi) ?_
    rintro e X21 ⟨rfl, bx⟩
    have ok := ok.below bx
    have oi := oi.below bx
    have hb := hb.trans (bx.mono hs)
    have hs := Nat.le_trans hs bx.size
    have hS := hb.mono (Nat.le_succ (w.heap.size + 2))
    have hz := HZ.out _ hb
    clear bx p1 p2 p3
    cases hnn : okN (merN x key y)
    · skip
      rw [hnn] at HR
      simp only [Bool.false_eq_true, if_false]
      refine ⟨_, rfl, hS, ?_⟩
      simp only [Act.put, List.setIfInBounds_toArray, List.set_cons_succ, List.set_cons_zero]
      refine wpAnyH_take_d 16 (some 57) (zNd) rfl (by kernel_rfl) (by kernel_rfl) (by kernel_rfl) (by kernel_rfl) rfl (fun _ _ _ h => h) (fun _ _ => ex_ext rfl rfl rfl) (by exact hS) ?_
      simp only [Act.put, List.setIfInBounds_toArray, List.set_cons_succ, List.set_cons_zero]
      refine wpAnyH_take_d 17 (some 58) (.int .i64 2) rfl (by kernel_rfl) (by kernel_rfl) (by kernel_rfl) (by kernel_rfl) rfl (fun _ _ _ h => h) (fun _ _ => ex_ext rfl rfl rfl) (by exact hS) ?_
      simp only [Act.put, List.setIfInBounds_toArray, List.set_cons_succ, List.set_cons_zero]
      refine wpAnyH_one_skip 18 rfl (by kernel_rfl) (by kernel_rfl) (ex_store_row rfl rfl rfl hz (by kernel_rfl) rfl (by simp [Value.oneCell'])) (below_setRow' hS (Nat.le_refl _) #[.bool false, .slice none 0 0, .slice none 0 0, .slice none 0 0]) ?_
      simp only [Act.put, List.setIfInBounds_toArray]
      have hS := below_setRow' hS (Nat.le_refl _) #[.bool false, .slice none 0 0, .slice none 0 0, .slice none 0 0]
      refine wpAnyH_take_d 19 (some 7) (.int .i64 2) rfl (by kernel_rfl) (by kernel_rfl) (by kernel_rfl) (by kernel_rfl) rfl (fun _ _ _ h => h) (fun _ _ => by kernel_rfl) (by exact hS) ?_
      refine wpAnyH_done (by kernel_rfl) ?_ _
      obtain ⟨s0, s1, s2, s3⟩ := NdCells.of (setRow_heap X21 (w.heap.size + 2) _ #[.bool false, .slice none 0 0, .slice none 0 0, .slice none 0 0] _ _ hz)
      have FF : Hid (NdRet w R (.returned (.tuple #[zNd, .int .i64 2])) (X21.setRow (w.heap.size + 2) #[.bool false, .slice none 0 0, .slice none 0 0, .slice none 0 0])) := Lib.hid (by
        rw [← HR.out]
        exact ⟨_, rfl, NdOwn.none _ _, HA.out _ hS⟩)
      clear hS hz ok oi hb hs
      go_wp2
      exact bodyPost_ret (v := .tuple #[zNd, .int .i64 2]) (by simp [results, Try.results33, go_sem, s0, s1, s2, s3]) rfl FF.out
    · skip
      rw [hnn] at HR
      simp only [if_true]
      refine ⟨_, rfl, hS, ?_⟩
      simp only [Act.put, List.setIfInBounds_toArray, List.set_cons_succ, List.set_cons_zero]
      refine wpAnyH_take_d 16 (some 57) (.agg #[.bool false, .slice none 0 0, .slice xka xkm xkc, .slice xia xim xic]) rfl (by kernel_rfl) (by kernel_rfl) (by kernel_rfl) (by kernel_rfl) rfl (fun _ _ _ h => h) (fun _ _ => ex_ext rfl rfl rfl) (by exact hS) ?_
      simp only [Act.put, List.setIfInBounds_toArray, List.set_cons_succ, List.set_cons_zero]
      refine wpAnyH_take_d 17 (some 58) (.int .i64 0) rfl (by kernel_rfl) (by kernel_rfl) (by kernel_rfl) (by kernel_rfl) rfl (fun _ _ _ h => h) (fun _ _ => ex_ext rfl rfl rfl) (by exact hS) ?_
      simp only [Act.put, List.setIfInBounds_toArray, List.set_cons_succ, List.set_cons_zero]
      refine wpAnyH_one_skip 18 rfl (by kernel_rfl) (by kernel_rfl) (ex_store_row rfl rfl rfl hz (by kernel_rfl) rfl (by simp [Value.oneCell'])) (below_setRow' hS (Nat.le_refl _) #[.bool false, .slice none 0 0, .slice xka xkm xkc, .slice xia xim xic]) ?_
      simp only [Act.put, List.setIfInBounds_toArray]
      have hS := below_setRow' hS (Nat.le_refl _) #[.bool false, .slice none 0 0, .slice xka xkm xkc, .slice xia xim xic]
      refine wpAnyH_take_d 19 (some 7) (.int .i64 0) rfl (by kernel_rfl) (by kernel_rfl) (by kernel_rfl) (by kernel_rfl) rfl (fun _ _ _ h => h) (fun _ _ => by kernel_rfl) (by exact hS) ?_
      refine wpAnyH_done (by kernel_rfl) ?_ _
      obtain ⟨s0, s1, s2, s3⟩ := NdCells.of (setRow_heap X21 (w.heap.size + 2) _ #[.bool false, .slice none 0 0, .slice xka xkm xkc, .slice xia xim xic] _ _ hz)
      have FF : Hid (NdRet w R (.returned (.tuple #[.agg #[.bool false, .slice none 0 0, .slice xka xkm xkc, .slice xia xim xic], .int .i64 0])) (X21.setRow (w.heap.size + 2) #[.bool false, .slice none 0 0, .slice xka xkm xkc, .slice xia xim xic])) := Lib.hid (by
        rw [← HR.out, if_pos rfl, HN.out]
        exact ⟨_, rfl, ⟨_, _, _, rfl, OwnR.nil _ _ _, (ok.keepg (Nat.lt_succ_self _) (fun k hk => setRow_other _ (w.heap.size + 2) k #[.bool false, .slice none 0 0, .slice xka xkm xkc, .slice xia xim xic] hk)).base (Nat.le_add_right _ 3), (oi.keepg (Nat.lt_succ_self _) (fun k hk => setRow_other _ (w.heap.size + 2) k #[.bool false, .slice none 0 0, .slice xka xkm xkc, .slice xia xim xic] hk)).base (Nat.le_add_right _ 3)⟩, HA.out _ hS⟩)
      clear hS hz ok oi hb hs
      go_wp2
      exact bodyPost_ret (v := .tuple #[.agg #[.bool false, .slice none 0 0, .slice xka xkm xkc, .slice xia xim xic], .int .i64 0]) (by simp [results, Try.results33, go_sem, s0, s1, s2, s3]) rfl FF.out
end Go.Proofs.Ytdkmfcmndncmcaa
