/- The contract of node.Split, case by case. No statement of the seat is proved here. -/
import Derived.Test.YtdkmfcmndncmcaaNSplM
import Derived.Test.YtdkmfcmndncmcaaNRet
import Derived.Test.YtdkmfcmndncmcaaNEncode
import Derived.Test.YtdkmfcmndncmcaaNHalf
namespace Go.Proofs.Ytdkmfcmndncmcaa
set_option maxRecDepth 20000
open Go.RowKit

structure SplW (w : World) (lf : Bool) (pv kv iv : Value) (n : Nd) (w1 : World) : Prop where
  at_ : NdAt w1.heap.size w1 (.agg #[.bool lf, pv, kv, iv]) n
  cs : NdCells w1 w.heap.size lf pv kv iv
  z1 : w1.heap[w.heap.size + 1]? = some zNdO
  z2 : w1.heap[w.heap.size + 2]? = some zNdO
  fr : Below w.heap.size w w1
  sz : w.heap.size + 3 ≤ w1.heap.size
theorem SplW.below {w w1 w2 : World} {lf : Bool} {pv kv iv : Value} {n : Nd} (h : SplW w lf pv kv iv n w1) (b : Below (w.heap.size + 3) w1 w2) (hn : NdAt w.heap.size w (.agg #[.bool lf, pv, kv, iv]) n) : SplW w lf pv kv iv n w2 := by
  have fr := h.fr.trans (b.mono (by omega))
  have c := fun j => World.cell?_of_block (w := w1) (w' := w2) (a := ⟨w.heap.size, j, none⟩) (b.block w.heap.size (by omega))
  exact ⟨(hn.below fr).more fr.size, ⟨(c 0).trans h.cs.c0, (c 1).trans h.cs.c1, (c 2).trans h.cs.c2, (c 3).trans h.cs.c3⟩, (b.block _ (by omega)).trans h.z1, (b.block _ (by omega)).trans h.z2, fr, Nat.le_trans h.sz b.size⟩
theorem spl_start {w : World} {lf : Bool} {pv kv iv : Value} {n : Nd} (hn : NdAt w.heap.size w (.agg #[.bool lf, pv, kv, iv]) n) : SplW w lf pv kv iv n (((w.alloc (ndO lf pv kv iv)).alloc zNdO).alloc zNdO) := by
  have s1 : (w.alloc (ndO lf pv kv iv)).heap.size = w.heap.size + 1 := by simp
  have s2 : ((w.alloc (ndO lf pv kv iv)).alloc zNdO).heap.size = w.heap.size + 2 := by simp
  have s3 : (((w.alloc (ndO lf pv kv iv)).alloc zNdO).alloc zNdO).heap.size = w.heap.size + 3 := by simp
  have a0 := heap_alloc_new w (ndO lf pv kv iv)
  have a1 := heap_alloc_new (w.alloc (ndO lf pv kv iv)) zNdO
  have a2 := heap_alloc_new ((w.alloc (ndO lf pv kv iv)).alloc zNdO) zNdO
  rw [s1] at a1
  rw [s2] at a2
  have b1 : Below (w.heap.size + 1) (w.alloc (ndO lf pv kv iv)) ((w.alloc (ndO lf pv kv iv)).alloc zNdO) := (Below.refl _ _).alloc (by omega) _
  have b2 : Below (w.heap.size + 2) ((w.alloc (ndO lf pv kv iv)).alloc zNdO) (((w.alloc (ndO lf pv kv iv)).alloc zNdO).alloc zNdO) := (Below.refl _ _).alloc (by omega) _
  have fr : Below w.heap.size w (((w.alloc (ndO lf pv kv iv)).alloc zNdO).alloc zNdO) := (below_new _ _).trans ((b1.mono (by omega)).trans (b2.mono (by omega)))
  exact ⟨(hn.below fr).more fr.size, NdCells.of ((b2.block _ (by omega)).trans ((b1.block _ (by omega)).trans a0)), (b2.block _ (by omega)).trans a1, a2, fr, by omega⟩
/-- what Split answers -/
def SplRet (w : World) (a : Nd) (k : ByteArray) (b : Nd) (er : Int) (e : Ending) (w' : World) : Prop := ∃ v1 v2, e = .returned (.tuple #[v1, .string k, v2, .int .i64 er]) ∧ NdOwn w.heap.size w' v1 a ∧ NdOwn w.heap.size w' v2 b ∧ Below w.heap.size w w'
set_option maxHeartbeats 3200000 in
theorem split_no {w : World} {v : Value} {n : Nd} (h : NdAt w.heap.size w v n) (hk : okN n = false) : Calls Try.prog 31 #[v] w (SplRet w .none ⟨#[]⟩ .none 2) := by
  have HN := Lib.hid h
  obtain ⟨pv, kv, iv, rfl, h1, h2, h3⟩ := h
  obtain ⟨pa, pm, pc, rfl, hpm⟩ := h1.form
  obtain ⟨ka, km, kc, rfl, hkm⟩ := h2.form
  obtain ⟨ia, im, ic, rfl, him⟩ := h3.form
  have F := spl_start (w := w) (lf := n.leaf) (n := n) ⟨_, _, _, rfl, h1, h2, h3⟩
  have FB := Lib.hid (fun (w1 w2 : World) (f : SplW w n.leaf (.slice pa pm pc) (.slice ka km kc) (.slice ia im ic) n w1) (b : Below w1.heap.size w1 w2) => f.below (b.mono f.sz) ⟨_, _, _, rfl, h1, h2, h3⟩)
  have fc := formed_any F.at_
  obtain ⟨q0, q1, q2, q3⟩ := F.cs
  have bz := build_nd
  rw [hk] at fc
  clear h1 h2 h3 hpm hkm him hk HN
  generalize n.leaf = lf at *
  go_enter Try.func31, Try.ntmps31
  go_wp2_with fail
  refine fc.mono ?_
  rintro e w4 ⟨rfl, b4⟩
  have F := FB.out _ _ F b4
  clear fc b4 FB q0 q1 q2 q3
  have bz1 := bz w4
  have z1 := F.z1
  have z2 := F.z2
  have fr := F.fr
  clear F
  go_wp2_with (with_reducible refine wpList_store_nd (a0 := w) (B := w.heap.size) rfl (.tmp 2) (.tmp 15) rfl (w.heap.size + 1) false (.slice none 0 0) (.slice none 0 0) (.slice none 0 0) rfl rfl #[.bool false, .slice none 0 0, .slice none 0 0, .slice none 0 0] z1 rfl (.mk _ _ _) (.mk _ _ _) (.mk _ _ _) fr (Nat.le_succ _) ?_)
  rintro w5 - hn5 b5 k5
  have z2 := (k5 (w.heap.size + 2) (by omega)).trans z2
  go_wp2_with (with_reducible refine wpList_store_nd (a0 := w) (B := w.heap.size) rfl (.tmp 4) (.tmp 16) rfl (w.heap.size + 2) false (.slice none 0 0) (.slice none 0 0) (.slice none 0 0) rfl rfl #[.bool false, .slice none 0 0, .slice none 0 0, .slice none 0 0] z2 rfl (.mk _ _ _) (.mk _ _ _) (.mk _ _ _) b5 (by omega) ?_)
  rintro w6 ⟨t0, t1, t2, t3⟩ - b6 k6
  obtain ⟨r0, r1, r2, r3⟩ := NdCells.of ((k6 (w.heap.size + 1) (by omega)).trans hn5)
  go_wp2
  exact bodyPost_ret (v := .tuple #[zNd, .string ⟨#[]⟩, zNd, .int .i64 2]) (by simp [results, Try.results31, go_sem, r0, r1, r2, r3, t0, t1, t2, t3]) rfl ⟨_, _, rfl, NdOwn.none _ _, NdOwn.none _ _, b6⟩
set_option maxHeartbeats 3200000 in
theorem split_few {w : World} {v : Value} {n : Nd} (h : NdAt w.heap.size w v n) (hk : okN n = true) (hf : if n.leaf then n.ps.length < 2 else n.is.length < 4) : Calls Try.prog 31 #[v] w (SplRet w .none ⟨#[]⟩ .none 7) := by
  obtain ⟨pv, kv, iv, rfl, h1, h2, h3⟩ := h
  obtain ⟨pa, pm, pc, rfl, hpm⟩ := h1.form
  obtain ⟨ka, km, kc, rfl, hkm⟩ := h2.form
  obtain ⟨ia, im, ic, rfl, him⟩ := h3.form
  have F := spl_start (w := w) (lf := n.leaf) (n := n) ⟨_, _, _, rfl, h1, h2, h3⟩
  have FB := Lib.hid (fun (w1 w2 : World) (f : SplW w n.leaf (.slice pa pm pc) (.slice ka km kc) (.slice ia im ic) n w1) (b : Below w1.heap.size w1 w2) => f.below (b.mono f.sz) ⟨_, _, _, rfl, h1, h2, h3⟩)
  have fc := formed_any F.at_
  obtain ⟨q0, q1, q2, q3⟩ := F.cs
  have bz := build_nd
  rw [hk] at fc
  rw [← hpm.out, ← him.out] at hf
  clear h1 h2 h3 hpm hkm him hk
  generalize n.leaf = lf at *
  cases lf
  · have hf : im < 4 := hf
    have d1 : (im : Int) < 4 := by omega
    go_enter Try.func31, Try.ntmps31
    go_wp2_with fail
    refine fc.mono ?_
    rintro e w4 ⟨rfl, b4⟩
    have F := FB.out _ _ F b4
    obtain ⟨q0, q1, q2, q3⟩ := F.cs
    clear fc b4 FB
    have bz1 := bz w4
    have z1 := F.z1
    have z2 := F.z2
    have fr := F.fr
    clear F
    go_wp2_with (with_reducible refine wpList_store_nd (a0 := w) (B := w.heap.size) rfl (.tmp 2) (.tmp 36) rfl (w.heap.size + 1) false (.slice none 0 0) (.slice none 0 0) (.slice none 0 0) rfl rfl #[.bool false, .slice none 0 0, .slice none 0 0, .slice none 0 0] z1 rfl (.mk _ _ _) (.mk _ _ _) (.mk _ _ _) fr (Nat.le_succ _) ?_)
    rintro w5 - hn5 b5 k5
    have z2 := (k5 (w.heap.size + 2) (by omega)).trans z2
    go_wp2_with (with_reducible refine wpList_store_nd (a0 := w) (B := w.heap.size) rfl (.tmp 4) (.tmp 37) rfl (w.heap.size + 2) false (.slice none 0 0) (.slice none 0 0) (.slice none 0 0) rfl rfl #[.bool false, .slice none 0 0, .slice none 0 0, .slice none 0 0] z2 rfl (.mk _ _ _) (.mk _ _ _) (.mk _ _ _) b5 (by omega) ?_)
    rintro w6 ⟨t0, t1, t2, t3⟩ - b6 k6
    obtain ⟨r0, r1, r2, r3⟩ := NdCells.of ((k6 (w.heap.size + 1) (by omega)).trans hn5)
    go_wp2
    exact bodyPost_ret (v := .tuple #[zNd, .string ⟨#[]⟩, zNd, .int .i64 7]) (by simp [results, Try.results31, go_sem, r0, r1, r2, r3, t0, t1, t2, t3]) rfl ⟨_, _, rfl, NdOwn.none _ _, NdOwn.none _ _, b6⟩
  · have hf : pm < 2 := hf
    have d1 : (pm : Int) < 2 := by omega
    go_enter Try.func31, Try.ntmps31
    go_wp2_with fail
    refine fc.mono ?_
    rintro e w4 ⟨rfl, b4⟩
    have F := FB.out _ _ F b4
    obtain ⟨q0, q1, q2, q3⟩ := F.cs
    clear fc b4 FB
    have bz1 := bz w4
    have z1 := F.z1
    have z2 := F.z2
    have fr := F.fr
    clear F
    go_wp2_with (with_reducible refine wpList_store_nd (a0 := w) (B := w.heap.size) rfl (.tmp 2) (.tmp 36) rfl (w.heap.size + 1) false (.slice none 0 0) (.slice none 0 0) (.slice none 0 0) rfl rfl #[.bool false, .slice none 0 0, .slice none 0 0, .slice none 0 0] z1 rfl (.mk _ _ _) (.mk _ _ _) (.mk _ _ _) fr (Nat.le_succ _) ?_)
    rintro w5 - hn5 b5 k5
    have z2 := (k5 (w.heap.size + 2) (by omega)).trans z2
    go_wp2_with (with_reducible refine wpList_store_nd (a0 := w) (B := w.heap.size) rfl (.tmp 4) (.tmp 37) rfl (w.heap.size + 2) false (.slice none 0 0) (.slice none 0 0) (.slice none 0 0) rfl rfl #[.bool false, .slice none 0 0, .slice none 0 0, .slice none 0 0] z2 rfl (.mk _ _ _) (.mk _ _ _) (.mk _ _ _) b5 (by omega) ?_)
    rintro w6 ⟨t0, t1, t2, t3⟩ - b6 k6
    obtain ⟨r0, r1, r2, r3⟩ := NdCells.of ((k6 (w.heap.size + 1) (by omega)).trans hn5)
    go_wp2
    exact bodyPost_ret (v := .tuple #[zNd, .string ⟨#[]⟩, zNd, .int .i64 7]) (by simp [results, Try.results31, go_sem, r0, r1, r2, r3, t0, t1, t2, t3]) rfl ⟨_, _, rfl, NdOwn.none _ _, NdOwn.none _ _, b6⟩
end Go.Proofs.Ytdkmfcmndncmcaa
