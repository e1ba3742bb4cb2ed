/- The contract of node.Drop. No statement of the seat is proved here. -/
import Derived.Test.YtdkmfcmndncmcaaNPut
namespace Go.Proofs.Ytdkmfcmndncmcaa
set_option maxRecDepth 20000
open Go.RowKit

def hasL (l : List Pr) (x : ByteArray) : Bool := l.any fun p => eqS p.k x
theorem there_has {l : List Pr} (hr : risB (ksOf l) = true) {x : ByteArray} {i : Nat} (h : PlaceAt (ksOf l) x i) : thereB (ksOf l) x i = hasL l x := by
  have hle := h.le
  rw [ksOf_length] at hle
  cases e : hasL l x with
  | true =>
    unfold hasL at e
    rw [List.any_eq_true] at e
    obtain ⟨p, hp, hx⟩ := e
    obtain ⟨m, hm, rfl⟩ := mem_prAt hp
    have hml : m < (ksOf l).length := by rw [ksOf_length]; exact hm
    have hk : kAt (ksOf l) m = x := by rw [ksOf_at l hm]; exact eqS_iff.1 hx
    have : m = i := by
      rcases Nat.lt_trichotomy m i with c | c | c
      · have := h.below m c; rw [hk, ltS_irrefl] at this; cases this
      · exact c
      · have := h.gt hr c hml; rw [hk, ltS_irrefl] at this; cases this
    subst this
    unfold thereB
    rw [decide_eq_true hml, hk, Bool.true_and]
    exact eqS_iff.2 rfl
  | false =>
    unfold thereB
    by_cases c : i < (ksOf l).length
    · rw [decide_eq_true c, Bool.true_and]
      have hi : i < l.length := by rwa [ksOf_length] at c
      unfold hasL at e
      rw [List.any_eq_false] at e
      have := e _ (prAt_mem hi)
      rw [ksOf_at l hi]; simpa using this
    · rw [decide_eq_false c]; rfl
theorem slP_from (a : Option Addr) {n c k : Nat} (hk : k ≤ n) : ∃ bo : Option Addr, (∀ w, (Instr.sliceAt 22 (.slice a n c) (some (.int .i64 ((k : Nat) : Int))) none none).run Try.prog w = .ok (.slice bo (n - k) (c - k)) w) ∧ ∀ b off, a = some ⟨b, off, none⟩ → c ≠ k → bo = some ⟨b, off + k * 2, none⟩ := by
  refine ⟨if c = k then a else a.map (·.add (k * 2)), fun w => ?_, fun b off ha hc => ?_⟩
  · rw [run_sliceAt_slice (P := Try.prog) w 22 _ _ _ _ uP, run_slice_l (P := Try.prog) w 22 a n c uP .i64 ((k : Nat) : Int) (by omega) (by omega), szP]
    have e : ((k : Nat) : Int).toNat = k := by omega
    simp only [Result.andThen, e, sliced]
  · rw [if_neg hc, ha, Option.map_some, Addr.add_mid]
theorem slP_to (a : Option Addr) {n c k : Nat} (hk : k ≤ c) (w : World) : (Instr.sliceAt 22 (.slice a n c) none (some (.int .i64 ((k : Nat) : Int))) none).run Try.prog w = .ok (.slice a k c) w := by
  rw [run_sliceAt_slice (P := Try.prog) w 22 _ _ _ _ uP, run_slice_h (P := Try.prog) w 22 a n c uP .i64 ((k : Nat) : Int) (by omega) (by omega), szP]
  have e : ((k : Nat) : Int).toNat = k := by omega
  simp only [Result.andThen, e, sliced, Nat.zero_mul, Nat.sub_zero]
  congr 2
  split
  · rfl
  · cases a with
    | none => rfl
    | some a => simp [Addr.add]
theorem two_args {α : Type} {E : El α} {w w5 : World} {g : Nat} {u v : Value} {l m : List α} {t : TypeId} (hg : w5.heap[g]? = some (.cells #[u, v] t (0, 0))) (hb : Below w.heap.size w w5) (hu : SlAt E w.heap.size w u l) (hv : SlAt E w.heap.size w v m) : ArgsAt E w5 (.slice (some ⟨g, 0, none⟩) 2 2) [(u, l), (v, m)] := by
  refine ⟨g, 0, rfl, lt_of_heap hg, fun i x hx => ?_⟩
  match i, hx with
  | 0, hx => simp at hx; subst hx; exact ⟨by rw [cell_of_row _ _ _ _ _ _ hg]; rfl, (hu.below hb).more hb.size⟩
  | 1, hx => simp at hx; subst hx; exact ⟨by rw [cell_of_row _ _ _ _ _ _ hg]; rfl, (hv.below hb).more hb.size⟩
def dropN (n : Nd) (key : ByteArray) : Nd × Int := if n.leaf && okN n then (if hasL n.ps key then (⟨true, delL n.ps key, [], []⟩, 0) else (.none, 7)) else (.none, 2)
theorem build_two (u v : Value) (hu : SlV u) (hv : SlV v) (w : World) : (Instr.buildSlice 105 2 #[(0, u), (1, v)]).run Try.prog w = .ok (.slice (some ⟨w.heap.size, 0, none⟩) 2 2) (w.alloc (.cells #[u, v] 22)) := by
  obtain ⟨_, _, _, rfl⟩ := hu
  obtain ⟨_, _, _, rfl⟩ := hv
  kernel_rfl
theorem ex_build2s {P : Program} {w w1 : World} {ρ : Operand → Value} {o : Oper} {t : TypeId} {x y : Operand} {u v r : Value} (ho : o.op = .buildSlice t 2 #[(0, x), (1, y)]) (hx : ρ x = u) (hy : ρ y = v) (hrun : (Instr.buildSlice t 2 #[(0, u), (1, v)]).run P w = .ok r w1) : (execOp ρ o).run P w = .ok (.value r) w1 := by
  unfold execOp
  simp [ho, hx, hy, hrun]
theorem ex_buildl {P : Program} {w : World} {ρ : Operand → Value} {o : Oper} {t : TypeId} {x0 x1 : Operand} {v0 v1 v : Value} (ho : o.op = .build t #[(0, x0), (1, x1)]) (h0 : ρ x0 = v0) (h1 : ρ x1 = v1) (hrun : (Instr.build t #[(0, v0), (1, v1)]).run P w = .ok v w) : (execOp ρ o).run P w = .ok (.value v) w := by
  unfold execOp
  simp [ho, h0, h1, hrun]
set_option maxHeartbeats 6400000 in
theorem drop_any {w : World} {v : Value} {n : Nd} (h : NdAt w.heap.size w v n) (key : ByteArray) : Calls Try.prog 29 #[v, .string key] w (NdRet w (dropN n key)) := by
  have H := Lib.hid h
  obtain ⟨pv, kv, iv, rfl, h1, h2, h3⟩ := h
  obtain ⟨pa, pm, pc, rfl, hpm⟩ := h1.form
  obtain ⟨ka, km, kc, rfl, hkm⟩ := h2.form
  obtain ⟨ia, im, ic, rfl, him⟩ := h3.form
  generalize hlf : n.leaf = lf at *
  have hW : ∃ W0, (w.alloc (ndO lf (.slice pa pm pc) (.slice ka km kc) (.slice ia im ic))).alloc zNdO = W0 := ⟨_, rfl⟩
  obtain ⟨W0, hW0⟩ := hW
  have hz : W0.heap.size = w.heap.size + 2 := by rw [← hW0]; simp
  have hb0 : Below (w.heap.size + 1) (w.alloc (ndO lf (.slice pa pm pc) (.slice ka km kc) (.slice ia im ic))) W0 := by
    rw [← hW0]; exact (Below.refl _ _).alloc (by simp) _
  have hg2 : W0.heap[w.heap.size + 1]? = some zNdO := by
    rw [← hW0]
    have := heap_alloc_new (w.alloc (ndO lf (.slice pa pm pc) (.slice ka km kc) (.slice ia im ic))) zNdO
    rwa [show (w.alloc (ndO lf (.slice pa pm pc) (.slice ka km kc) (.slice ia im ic))).heap.size = w.heap.size + 1 by simp] at this
  have BF := Lib.hid (fun (w1 : World) (b : Below (w.heap.size + 2) W0 w1) => box_facts H.out (hb0.trans (b.mono (by omega))))
  have BZ := Lib.hid (fun (w1 : World) (b : Below (w.heap.size + 2) W0 w1) => (b.block (w.heap.size + 1) (by omega)).trans hg2)
  have bb : Below (w.heap.size + 2) W0 W0 := Below.refl _ _
  have fc := formed_any (BF.out _ bb).1
  obtain ⟨q0, q1, q2, q3⟩ := (BF.out _ bb).2.1
  have bz := build_nd
  have HZ := Lib.hid hz
  have H1 := Lib.hid h1
  clear h1 h2 h3 hb0 hg2 hz
  cases lf
  · have hp : dropN n key = (.none, 2) := by unfold dropN; rw [hlf]; rfl
    rw [hp]
    have hgz := BZ.out _ bb
    have B0 := (BF.out _ bb).2.2.1
    have bz1 := bz W0
    clear hp fc bz
    go_enter Try.func29, Try.ntmps29
    go_wp2_with (with_reducible refine wpList_store_nd rfl (.tmp 4) (.tmp 16) rfl (w.heap.size + 1) false (.slice none 0 0) (.slice none 0 0) (.slice none 0 0) rfl rfl #[.bool false, .slice none 0 0, .slice none 0 0, .slice none 0 0] hgz rfl (.mk _ _ _) (.mk _ _ _) (.mk _ _ _) B0 (by omega) ?_)
    rintro w2 ⟨s0, s1, s2, s3⟩ - B2 -
    go_wp2
    exact bodyPost_ret (v := .tuple #[zNd, .int .i64 2]) (by simp [results, Try.results29, go_sem, s0, s1, s2, s3]) rfl (zNd_ret rfl B2)
  · cases hk : okN n
    · have hp : dropN n key = (.none, 2) := by unfold dropN; rw [hlf, hk]; rfl
      rw [hp]
      rw [hk] at fc
      clear hp hk
      go_enter Try.func29, Try.ntmps29
      go_wp2_with fail
      refine Calls.mono fc ?_
      rintro e w1 ⟨rfl, b1⟩
      have b2 : Below (w.heap.size + 2) W0 w1 := bb.trans (b1.mono (by rw [HZ.out]; omega))
      have hgz := BZ.out _ b2
      have B0 := (BF.out _ b2).2.2.1
      have bz1 := bz w1
      clear fc bz b1 b2 q0 q1 q2 q3
      go_wp2_with (with_reducible refine wpList_store_nd rfl (.tmp 4) (.tmp 16) rfl (w.heap.size + 1) false (.slice none 0 0) (.slice none 0 0) (.slice none 0 0) rfl rfl #[.bool false, .slice none 0 0, .slice none 0 0, .slice none 0 0] hgz rfl (.mk _ _ _) (.mk _ _ _) (.mk _ _ _) B0 (by omega) ?_)
      rintro w2 ⟨s0, s1, s2, s3⟩ - B2 -
      go_wp2
      exact bodyPost_ret (v := .tuple #[zNd, .int .i64 2]) (by simp [results, Try.results29, go_sem, s0, s1, s2, s3]) rfl (zNd_ret rfl B2)
    · have hr := (okL_true ((okN_leaf hlf).symm.trans hk)).2.2.2.1
      have hl255 := (okL_true ((okN_leaf hlf).symm.trans hk)).2.2.1
      have hp : dropN n key = if hasL n.ps key then (⟨true, delL n.ps key, [], []⟩, 0) else (.none, 7) := by unfold dropN; rw [hlf, hk]; rfl
      obtain ⟨R, hR⟩ : ∃ R, (if hasL n.ps key then ((⟨true, delL n.ps key, [], []⟩ : Nd), (0 : Int)) else (.none, 7)) = R := ⟨_, rfl⟩
      rw [hp, hR]
      have HR := Lib.hid hR
      rw [hk] at fc
      clear hp hk hR
      go_enter Try.func29, Try.ntmps29
      go_wp2_with fail
      refine Calls.mono fc ?_
      rintro e w1 ⟨rfl, b1⟩
      have b2 : Below (w.heap.size + 2) W0 w1 := bb.trans (b1.mono (by rw [HZ.out]; omega))
      have hs1 : w.heap.size + 2 ≤ w1.heap.size := by have := b2.size; rw [HZ.out] at this; exact this
      obtain ⟨q0, q1, q2, q3⟩ := (BF.out _ b2).2.1
      have B1 := (BF.out _ b2).2.2.1
      have pl := placeP_any ((H1.out.below B1).more B1.size) hr key
      clear fc b1 B1 bb
      go_wp2_with fail
      refine Calls.mono pl ?_
      rintro e w4 ⟨i, rfl, hpa, b5⟩
      have b6 : Below (w.heap.size + 2) W0 w4 := b2.trans (b5.mono hs1)
      have hs4 : w.heap.size + 2 ≤ w4.heap.size := Nat.le_trans hs1 b5.size
      have HPA := Lib.hid hpa
      have B4 := (BF.out _ b6).2.2.1
      have hgz := BZ.out _ b6
      rw [there_has hr hpa]
      clear pl b5 b2 hs1 hpa q0 q1 q2 q3
      cases ht : hasL n.ps key
      · rw [ht] at HR
        have bz1 := bz w4
        clear bz
        go_wp2_with (with_reducible refine wpList_store_nd rfl (.tmp 4) (.tmp 26) rfl (w.heap.size + 1) false (.slice none 0 0) (.slice none 0 0) (.slice none 0 0) rfl rfl #[.bool false, .slice none 0 0, .slice none 0 0, .slice none 0 0] hgz rfl (.mk _ _ _) (.mk _ _ _) (.mk _ _ _) B4 (by omega) ?_)
        rintro w7 ⟨s0, s1, s2, s3⟩ - B2 -
        go_wp2
        exact bodyPost_ret (v := .tuple #[zNd, .int .i64 7]) (by simp [results, Try.results29, go_sem, s0, s1, s2, s3]) rfl (by rw [← HR.out]; exact zNd_ret rfl B2)
      · rw [ht] at HR
        have htb := (there_has hr HPA.out).trans ht
        have hdel := del_eq hr HPA.out htb
        have hil : i < n.ps.length := by
          unfold thereB at htb
          simp only [Bool.and_eq_true, decide_eq_true_eq] at htb
          have := htb.1; rwa [ksOf_length] at this
        obtain ⟨pb, poff, pc', hv, hB, -, -⟩ := H1.out.getP hil
        obtain ⟨rfl, -, rfl⟩ : pa = some ⟨pb, poff, none⟩ ∧ pm = n.ps.length ∧ pc = pc' := by cases hv; exact ⟨rfl, rfl, rfl⟩
        have hcap : n.ps.length ≤ pc := by obtain ⟨_, _, hv2, hc2, _⟩ := H1.out; cases hv2; exact hc2
        have s1 := H1.out.take okP (i := i) (by omega)
        obtain ⟨bo, hr2, hbo⟩ := slP_from (some ⟨pb, poff, none⟩) (n := pm) (c := pc) (k := i + 1) (by rw [hpm.out]; omega)
        have s2 := H1.out.drop okP (i := i + 1) (by omega) (bo := bo) (cap' := pc - (i + 1)) (fun b off e hlt => hbo b off e (by omega)) (by omega)
        rw [← hpm.out] at s2
        have hw : IntKind.i64.wrap ((i : Int) + 1) = ((i + 1 : Nat) : Int) := by rw [IntKind.wrap_i64]; omega
        have R1 := Lib.hid (fun w' => slP_to (some ⟨pb, poff, none⟩) (n := pm) (c := pc) (k := i) (by omega) w')
        have R2 := Lib.hid hr2
        have BR := Lib.hid (fun (w' : World) (b : Below (w.heap.size + 1) W0 w') => NdCells.of (w := w') (g := w.heap.size) (lf := true) (pv := .slice (some ⟨pb, poff, none⟩) pm pc) (kv := .slice ka km kc) (iv := .slice ia im ic) (t := 32) (fz := (0, 0)) ((b.block w.heap.size (Nat.lt_succ_self _)).trans (by rw [← hW0, Below.heap_alloc _ _ _ (by simp)]; exact heap_alloc_new _ _)))
        have hbt := build_two (.slice (some ⟨pb, poff, none⟩) i pc) (.slice bo (pm - (i + 1)) (pc - (i + 1))) (.mk _ _ _) (.mk _ _ _) w4.drew
        obtain ⟨w5, hw5⟩ : ∃ w5, w4.drew.alloc (.cells #[.slice (some ⟨pb, poff, none⟩) i pc, .slice bo (pm - (i + 1)) (pc - (i + 1))] 22) = w5 := ⟨_, rfl⟩
        have hg5 : w5.heap[w4.heap.size]? = some (.cells #[.slice (some ⟨pb, poff, none⟩) i pc, .slice bo (pm - (i + 1)) (pc - (i + 1))] 22 (0, 0)) := by rw [← hw5]; exact heap_alloc_new w4.drew _
        have b45 : Below w4.heap.size w4 w5 := by rw [← hw5]; exact ((Below.refl _ _).drew).alloc (by simp) _
        have b5 : Below (w.heap.size + 2) W0 w5 := b6.trans (b45.mono hs4)
        have hs5 : w.heap.size + 2 ≤ w5.heap.size := Nat.le_trans hs4 b45.size
        have B5 := (BF.out _ b5).2.2.1
        rw [hw5] at hbt
        have cc := concatP_any (two_args hg5 B5 s1 s2) (by show 2 ≤ 1000; omega) (by
          have : lensQ [((.slice (some ⟨pb, poff, none⟩) i pc : Value), n.ps.take i), (.slice bo (pm - (i + 1)) (pc - (i + 1)), n.ps.drop (i + 1))] ≤ 255 := by simp [lensQ]; omega
          show _ * 32 ≤ _; omega)
        have hfl : flatQ [((.slice (some ⟨pb, poff, none⟩) i pc : Value), n.ps.take i), (.slice bo (pm - (i + 1)) (pc - (i + 1)), n.ps.drop (i + 1))] = delL n.ps key := by rw [← hdel]; simp [flatQ]
        rw [hfl] at cc
        have CC := Lib.hid cc
        have HBT := Lib.hid hbt
        have hS0 : Below (w.heap.size + 1) W0 w4.drew := (b6.mono (Nat.le_succ _)).drew
        clear hfl cc hbt s1 s2 hr2 hbo hB hv hg5 b45 hw5 hcap hil hdel htb HPA
        go_wp2_with fail
        have hS := hS0
        refine wp_region_held_drew (S := fun w' => Below (w.heap.size + 1) W0 w') mixed hS (fun _ => ?_)
        show wpAnyH _ _ _ _ _ 14 (Array.replicate 14 false) _ _
        refine wpAnyH_take_d 0 (some 27) (.pointer (some ⟨w.heap.size, 1, none⟩)) rfl (by kernel_rfl) (by kernel_rfl) (by kernel_rfl) (by kernel_rfl) rfl (fun _ _ _ h => h) (fun _ _ => by kernel_rfl) (by exact hS) ?_
        simp only [Act.put, List.setIfInBounds_toArray, List.set_cons_succ, List.set_cons_zero]
        refine wpAnyH_take_d 1 (some 28) (.slice (some ⟨pb, poff, none⟩) pm pc) rfl (by kernel_rfl) (by kernel_rfl) (by kernel_rfl) (by kernel_rfl) rfl (fun _ _ _ h => h) (fun w' h => exec_load_cell rfl rfl (BR.out _ h).c1 Try.underlying22 rfl) (by exact hS) ?_
        simp only [Act.put, List.setIfInBounds_toArray, List.set_cons_succ, List.set_cons_zero]
        refine wpAnyH_take_d 2 (some 29) (.int .i64 i) rfl (by kernel_rfl) (by kernel_rfl) (by kernel_rfl) (by kernel_rfl) rfl (fun _ _ _ h => h) (fun _ _ => by kernel_rfl) (by exact hS) ?_
        simp only [Act.put, List.setIfInBounds_toArray, List.set_cons_succ, List.set_cons_zero]
        refine wpAnyH_take_d 3 (some 30) (.slice (some ⟨pb, poff, none⟩) i pc) rfl (by kernel_rfl) (by kernel_rfl) (by kernel_rfl) (by kernel_rfl) rfl (fun _ _ _ h => h) (fun w' _ => ex_slice rfl rfl rfl rfl (R1.out w')) (by exact hS) ?_
        simp only [Act.put, List.setIfInBounds_toArray, List.set_cons_succ, List.set_cons_zero]
        refine wpAnyH_take_d 4 (some 31) (.pointer (some ⟨w.heap.size, 1, none⟩)) rfl (by kernel_rfl) (by kernel_rfl) (by kernel_rfl) (by kernel_rfl) rfl (fun _ _ _ h => h) (fun _ _ => by kernel_rfl) (by exact hS) ?_
        simp only [Act.put, List.setIfInBounds_toArray, List.set_cons_succ, List.set_cons_zero]
        refine wpAnyH_take_d 5 (some 32) (.slice (some ⟨pb, poff, none⟩) pm pc) rfl (by kernel_rfl) (by kernel_rfl) (by kernel_rfl) (by kernel_rfl) rfl (fun _ _ _ h => h) (fun w' h => exec_load_cell rfl rfl (BR.out _ h).c1 Try.underlying22 rfl) (by exact hS) ?_
        simp only [Act.put, List.setIfInBounds_toArray, List.set_cons_succ, List.set_cons_zero]
        refine wpAnyH_take_d 6 (some 33) (.int .i64 i) rfl (by kernel_rfl) (by kernel_rfl) (by kernel_rfl) (by kernel_rfl) rfl (fun _ _ _ h => h) (fun _ _ => by kernel_rfl) (by exact hS) ?_
        simp only [Act.put, List.setIfInBounds_toArray, List.set_cons_succ, List.set_cons_zero]
        refine wpAnyH_take_d 7 (some 34) (.int .i64 (i + 1 : Nat)) rfl (by kernel_rfl) (by kernel_rfl) (by kernel_rfl) (by kernel_rfl) rfl (fun _ _ _ h => h) (fun _ _ => ex_add rfl rfl rfl hw) (by exact hS) ?_
        simp only [Act.put, List.setIfInBounds_toArray, List.set_cons_succ, List.set_cons_zero]
        refine wpAnyH_take_d 8 (some 35) (.slice bo (pm - (i + 1)) (pc - (i + 1))) rfl (by kernel_rfl) (by kernel_rfl) (by kernel_rfl) (by kernel_rfl) rfl (fun _ _ _ h => h) (fun w' _ => ex_slice rfl rfl rfl rfl (R2.out w')) (by exact hS) ?_
        simp only [Act.put, List.setIfInBounds_toArray, List.set_cons_succ, List.set_cons_zero]
        have hS : Below (w.heap.size + 1) W0 w5 := b5.mono (Nat.le_succ _)
        refine wpAnyH_one 9 (some 36) (.slice (some ⟨w4.heap.size, 0, none⟩) 2 2) rfl (by kernel_rfl) (by kernel_rfl) rfl (ex_build2s rfl rfl rfl HBT.out) (by exact hS) ?_
        simp only [Act.put, List.setIfInBounds_toArray, List.set_cons_succ, List.set_cons_zero]
        refine wpAnyH_call 10 (some 37) 49 #[.slice (some ⟨w4.heap.size, 0, none⟩) 2 2] rfl (by kernel_rfl) (by kernel_rfl) rfl (by kernel_rfl) (CC.out) ?_
        rintro e w7 ⟨v7, rfl, o7, b7⟩
        obtain ⟨va, vm, vc, rfl, hvm⟩ := o7.form'
        have b8 : Below (w.heap.size + 2) W0 w7 := b5.trans (b7.mono hs5)
        have hS : Below (w.heap.size + 1) W0 w7 := b8.mono (Nat.le_succ _)
        refine ⟨_, rfl, hS, ?_⟩
        simp only [Act.put, List.setIfInBounds_toArray, List.set_cons_succ, List.set_cons_zero]
        refine wpAnyH_take_d 11 (some 38) (.agg #[.bool true, .slice va vm vc, .slice none 0 0, .slice none 0 0]) rfl (by kernel_rfl) (by kernel_rfl) (by kernel_rfl) (by kernel_rfl) rfl (fun _ _ _ h => h) (fun w' _ => ex_buildl rfl rfl rfl (build_leaf _ (.mk _ _ _) w')) (by exact hS) ?_
        simp only [Act.put, List.setIfInBounds_toArray, List.set_cons_succ, List.set_cons_zero]
        -- left: [(12, ('none', 'Op.store 32 t4 t38', None)), (13, ('5', 'Op.assign (const (0:i64))', None))]
        have hgz7 := BZ.out _ b8
        have B7 := (BF.out _ b8).2.2.1
        have o8 : OwnR elP (w.heap.size + 2) w7 (.slice va vm vc) (delL n.ps key) := o7.base hs5
        refine wpAnyH_one_skip 12 rfl (by kernel_rfl) (by kernel_rfl) (ex_store_row rfl rfl rfl hgz7 (by kernel_rfl) rfl (by simp [Value.oneCell'])) (below_setRow' hS (Nat.le_refl _) _) ?_
        simp only [Act.put, List.setIfInBounds_toArray]
        have hS := below_setRow' hS (Nat.le_refl _) #[.bool true, .slice va vm vc, .slice none 0 0, .slice none 0 0]
        refine wpAnyH_take_d 13 (some 5) (.int .i64 0) rfl (by kernel_rfl) (by kernel_rfl) (by kernel_rfl) (by kernel_rfl) rfl (fun _ _ _ h => h) (fun _ _ => by kernel_rfl) (by exact hS) ?_
        refine wpAnyH_done (by kernel_rfl) ?_ _
        have hn := setRow_heap w7 (w.heap.size + 1) _ #[.bool true, .slice va vm vc, .slice none 0 0, .slice none 0 0] _ _ hgz7
        obtain ⟨s0, s1, s2, s3⟩ := NdCells.of hn
        have FF : Hid (NdRet w R (.returned (.tuple #[.agg #[.bool true, .slice va vm vc, .slice none 0 0, .slice none 0 0], .int .i64 0])) (w7.setRow (w.heap.size + 1) #[.bool true, .slice va vm vc, .slice none 0 0, .slice none 0 0])) := Lib.hid (by
          have hR2 := HR.out
          simp only [if_true] at hR2
          rw [← hR2]
          exact ⟨_, rfl, ⟨_, _, _, rfl, (o8.keepg (Nat.lt_succ_self _) (fun k hk => setRow_other w7 (w.heap.size + 1) k _ hk)).base (by omega), OwnR.nil _ _ _, OwnR.nil _ _ _⟩, below_setRow' B7 (by omega) _⟩)
        clear hn hS hgz7 B7 o8 o7
        go_wp2
        exact bodyPost_ret (v := .tuple #[.agg #[.bool true, .slice va vm vc, .slice none 0 0, .slice none 0 0], .int .i64 0]) (by simp [results, Try.results29, go_sem, s0, s1, s2, s3]) rfl FF.out
end Go.Proofs.Ytdkmfcmndncmcaa
