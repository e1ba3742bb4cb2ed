/- The contract of the document's DocPut. No statement of the seat is proved here. -/
import Derived.Test.YtjjdpclobkdbjaaNDocD
namespace Go.Proofs.Ytjjdpclobkdbjaa
set_option maxRecDepth 20000
open Go.RowKit

theorem put_ok {l : List Pr} (h : okN (lf l) = true) (x : Pr) : okN (lf (putL l x)) = (okK x.k && decide (x.v.size ≤ 48) && decide ((putL l x).length ≤ 255)) := by
  obtain ⟨-, -, -, hr, hv⟩ := okL_true h
  have hr' : risB (ksOf l) = true := hr
  show okL (lf (putL l x)) = _
  cases hk : okK x.k with
  | true =>
    by_cases h48 : x.v.size ≤ 48
    · rw [decide_eq_true h48]
      by_cases h255 : (putL l x).length ≤ 255
      · rw [decide_eq_true h255]
        refine okL_of rfl rfl h255 (ris_put hr' hk) ?_
        intro p hp
        rcases List.mem_append.1 hp with hp | hp
        · exact hv p (lo_mem hp).1
        · rcases List.mem_cons.1 hp with rfl | hp
          · exact h48
          · exact hv p (hi_mem hp).1
      · rw [decide_eq_false h255]
        cases q : okL (lf (putL l x)) with
        | false => rfl
        | true => exact absurd (okL_true q).2.2.1 h255
    · rw [decide_eq_false h48]
      cases q : okL (lf (putL l x)) with
      | false => rfl
      | true => exact absurd ((okL_true q).2.2.2.2 x (by show x ∈ putL l x; unfold putL; simp)) h48
  | false =>
    cases q : okL (lf (putL l x)) with
    | false => rfl
    | true =>
      have := (risB_mem (okL_true q).2.2.2.1).1 x.k (by show x.k ∈ ksOf (putL l x); unfold putL ksOf; simp)
      rw [hk] at this; cases this
theorem putN_alt {n : Nd} (hl : n.leaf = true) (h : okN n = true) (x : Pr) : putN n x = if okK x.k && decide (x.v.size ≤ 48) && decide ((putL n.ps x).length ≤ 255) then (lf (putL n.ps x), 0) else (.none, 2) := by
  have hlf : okN (lf n.ps) = true := by
    obtain ⟨-, -, h3, h4, h5⟩ := okL_true ((okN_leaf hl).symm.trans h)
    exact okL_of rfl rfl h3 h4 h5
  unfold putN
  rw [hl, h]
  show (if okN (lf (putL n.ps x)) then _ else _) = _
  rw [put_ok hlf]; rfl
theorem keep_lt {k : ByteArray} {p : Pr} (h : ltS p.k k = true) : keep k p = true := by
  unfold keep
  cases q : eqS p.k k
  · rfl
  · have := eqS_iff.1 q
    rw [this, ltS_irrefl] at h; cases h
theorem keep_gt {k : ByteArray} {p : Pr} (h : ltS k p.k = true) : keep k p = true := by
  unfold keep
  cases q : eqS p.k k
  · rfl
  · have := eqS_iff.1 q
    rw [this, ltS_irrefl] at h; cases h
theorem put_split {l : List Pr} (hr : risB (ksOf l) = true) {x : Pr} {i : Nat} (h : PlaceAt (ksOf (l.filter (keep x.k))) x.k i) : (l.filter (keep x.k)).take i ++ x :: (l.filter (keep x.k)).drop i = putL l x := by
  have hd := del_filter (x := x.k) (ris_pair hr)
  have hr' : risB (ksOf (l.filter (keep x.k))) = true := by rw [← hd]; exact ris_del hr _
  have h1 := lo_take h
  have h2 := hi_drop hr' h
  have h3 : thereB (ksOf (l.filter (keep x.k))) x.k i = false := by
    rw [there_has hr' h, ← hd]; exact has_del hr _
  rw [h3] at h2
  simp only [Bool.false_eq_true, if_false] at h2
  have e1 : loL (l.filter (keep x.k)) x.k = loL l x.k := by
    unfold loL
    rw [List.filter_filter]
    congr 1; funext p
    cases q : ltS p.k x.k
    · rfl
    · rw [keep_lt q]; rfl
  have e2 : hiL (l.filter (keep x.k)) x.k = hiL l x.k := by
    unfold hiL
    rw [List.filter_filter]
    congr 1; funext p
    cases q : ltS x.k p.k
    · rfl
    · rw [keep_gt q]; rfl
  rw [h1, h2, e1, e2]; rfl
theorem ex_build1 {P : Program} {w w1 : World} {ρ : Operand → Value} {o : Oper} {t : TypeId} {x : Operand} {u r : Value} (ho : o.op = .buildSlice t 1 #[(0, x)]) (hx : ρ x = u) (hrun : (Instr.buildSlice t 1 #[(0, u)]).run P w = .ok r w1) : (execOp ρ o).run P w = .ok (.value r) w1 := by
  unfold execOp
  simp [ho, hx, hrun]
abbrev prBO (x : Pr) : Obj := .cells #[.string x.k, .string x.v] 50
structure Three (w w1 : World) (lf : Bool) (pv kv iv : Value) (x : Pr) : Prop where
  cs : NdCells w1 w.heap.size lf pv kv iv
  k : w1.cell? ⟨w.heap.size + 1, 0, none⟩ = some (.string x.k)
  v : w1.cell? ⟨w.heap.size + 1, 1, none⟩ = some (.string x.v)
  z : w1.heap[w.heap.size + 2]? = some zrbO
  fr : Below w.heap.size w w1
  sz : w.heap.size + 3 ≤ w1.heap.size
theorem three_ex (w : World) (lf : Bool) (pv kv iv : Value) (x : Pr) : ∃ SB : World → Prop, SB (((w.alloc (rbO lf pv kv iv)).alloc (prBO x)).alloc zrbO) ∧ (∀ w1 w2, SB w1 → Below w1.heap.size w1 w2 → SB w2) ∧ (∀ w1, SB w1 → SB w1.drew) ∧ (∀ w1, SB w1 → Three w w1 lf pv kv iv x) ∧ ∀ w1 w2, SB w1 → Below (w.heap.size + 3) w1 w2 → SB w2 := by
  have h1 : (w.alloc (rbO lf pv kv iv)).heap.size = w.heap.size + 1 := by simp
  have h2 : ((w.alloc (rbO lf pv kv iv)).alloc (prBO x)).heap.size = w.heap.size + 2 := by simp
  have hz : (((w.alloc (rbO lf pv kv iv)).alloc (prBO x)).alloc zrbO).heap.size = w.heap.size + 3 := by simp
  have hg := heap_alloc_new ((w.alloc (rbO lf pv kv iv)).alloc (prBO x)) zrbO
  rw [h2] at hg
  have hp := heap_alloc_new (w.alloc (rbO lf pv kv iv)) (prBO x)
  rw [h1] at hp
  have hb1 : Below (w.heap.size + 2) ((w.alloc (rbO lf pv kv iv)).alloc (prBO x)) (((w.alloc (rbO lf pv kv iv)).alloc (prBO x)).alloc zrbO) := (Below.refl _ _).alloc (by simp) _
  have hb0 : Below (w.heap.size + 1) (w.alloc (rbO lf pv kv iv)) ((w.alloc (rbO lf pv kv iv)).alloc (prBO x)) := (Below.refl _ _).alloc (by simp) _
  refine ⟨fun w1 => Below (w.heap.size + 3) (((w.alloc (rbO lf pv kv iv)).alloc (prBO x)).alloc zrbO) w1, Below.refl _ _, fun w1 w2 h k => h.trans (k.mono (by have := h.size; omega)), fun _ h => h.drew, fun w1 h => ?_, fun w1 w2 h k => h.trans k⟩
  have hb2 := hb1.trans (h.mono (by omega))
  have hb3 := hb0.trans (hb2.mono (by omega))
  obtain ⟨c, b, -⟩ := rbox_facts hb3
  have hpp := (hb2.block (w.heap.size + 1) (by omega)).trans hp
  exact ⟨c, by rw [cell_of_row _ _ _ _ _ _ hpp]; rfl, by rw [cell_of_row _ _ _ _ _ _ hpp]; rfl, (h.block (w.heap.size + 2) (by omega)).trans hg, b, by have := h.size; omega⟩
set_option maxHeartbeats 6400000 in
theorem docPut_any {w : World} {v : Value} {n : Nd} (h : NdAt w.heap.size w v n) (x : Pr) : Calls Try.prog 26 #[v, prV x] w (NdRet w (putN n x)) := by
  have HN := h
  obtain ⟨pv, kv, iv, rfl, h1, h2, h3⟩ := h
  obtain ⟨pa, pm, pc, rfl, hpm⟩ := h1.form
  obtain ⟨ka, km, kc, rfl, -⟩ := h2.form
  obtain ⟨ia, im, ic, rfl, -⟩ := h3.form
  generalize hlf : n.leaf = lf at *
  obtain ⟨SB, hb0, SBc, SBd, two, SB2⟩ := three_ex w lf (.slice pa pm pc) (.slice ka km kc) (.slice ia im ic) x
  have TW := Lib.hid two
  have hT := two _ hb0
  have rc := right_any (((HN.below hT.fr)).more hT.fr.size)
  obtain ⟨⟨q0, q1, q2, q3⟩, qk, qv, -, -, -⟩ := hT
  have bz := build_rz
  have H1 := Lib.hid h1
  have KEY := Lib.hid (fun w' => refKey_any x.k w')
  have HPA := Lib.hid (fun (a : n.leaf = true) (b : okN n = true) => putN_alt a b x)
  clear h1 h2 h3 two
  cases hk : okN n
  · have hp : putN n x = (.none, 2) := by unfold putN; rw [hk]; simp
    rw [hp]
    rw [hk] at rc
    obtain ⟨xk, xv⟩ := x
    clear hp hk hlf
    go_enter Try.func26, Try.ntmps26
    go_wp2_with fail
    refine Calls.mono rc ?_
    rintro e w1 ⟨rfl, b1⟩
    have hb := SBc _ _ hb0 b1
    obtain ⟨-, -, -, hgz, B0, -⟩ := TW.out _ hb
    have bz1 := bz w1
    clear rc bz b1 q0 q1 q2 q3 qk qv
    go_wp2_with (with_reducible refine wpList_store_rn rfl (.tmp 4) (.tmp 29) rfl (w.heap.size + 2) false (.slice none 0 0) (.slice none 0 0) (.slice none 0 0) rfl rfl #[.bool false, .slice none 0 0, .slice none 0 0, .slice none 0 0] hgz rfl (.mk _ _ _) (.mk _ _ _) (.mk _ _ _) B0 (by omega) ?_)
    rintro w5 ⟨s0, s1, s2, s3⟩ - B2 -
    go_wp2
    exact bodyPost_ret (v := .tuple #[zNd, .int .i64 2]) (by simp [results, Try.results26, go_sem, s0, s1, s2, s3]) rfl (zNd_ret rfl B2)
  · rw [hk] at rc
    cases lf
    · have hp : putN n x = (.none, 2) := by unfold putN; rw [hlf]; rfl
      rw [hp]
      obtain ⟨xk, xv⟩ := x
      clear hp hk hlf
      go_enter Try.func26, Try.ntmps26
      go_wp2_with fail
      refine Calls.mono rc ?_
      rintro e w1 ⟨rfl, b1⟩
      have hb := SBc _ _ hb0 b1
      obtain ⟨⟨q0, q1, q2, q3⟩, qk, qv, hgz, B0, -⟩ := TW.out _ hb
      have bz1 := bz w1
      clear rc bz b1
      go_wp2_with (with_reducible refine wpList_store_rn rfl (.tmp 4) (.tmp 29) rfl (w.heap.size + 2) false (.slice none 0 0) (.slice none 0 0) (.slice none 0 0) rfl rfl #[.bool false, .slice none 0 0, .slice none 0 0, .slice none 0 0] hgz rfl (.mk _ _ _) (.mk _ _ _) (.mk _ _ _) B0 (by omega) ?_)
      rintro w5 ⟨s0, s1, s2, s3⟩ - B2 -
      go_wp2
      exact bodyPost_ret (v := .tuple #[zNd, .int .i64 2]) (by simp [results, Try.results26, go_sem, s0, s1, s2, s3]) rfl (zNd_ret rfl B2)
    · have hok := okL_true ((okN_leaf hlf).symm.trans hk)
      have hr := hok.2.2.2.1
      have hl255 := hok.2.2.1
      have hp := HPA.out hlf hk
      rw [hp]
      have HSP := Lib.hid (fun (i : Nat) h => put_split (x := x) (i := i) hr h)
      have HRR := Lib.hid (show risB (ksOf (n.ps.filter (keep x.k))) = true by rw [← del_filter (ris_pair hr)]; exact ris_del hr _)
      have hrl : (n.ps.filter (keep x.k)).length ≤ 255 := Nat.le_trans (List.length_filter_le _ _) hl255
      have HW := Lib.hid (fun (w1 : World) (b : Below w.heap.size w w1) => without_any ((H1.out.below b).more b.size) x.k (by omega))
      obtain ⟨R, hR⟩ : ∃ R, (if okK x.k && decide (x.v.size ≤ 48) && decide ((putL n.ps x).length ≤ 255) then (lf (putL n.ps x), (0 : Int)) else (.none, 2)) = R := ⟨_, rfl⟩
      rw [hR]
      have HR := Lib.hid hR
      have HRL := Lib.hid hrl
      clear hp hR hok hr hk hlf hrl HPA
      cases hkk : okK x.k
      · have HE := Lib.hid (show R = (.none, 2) by rw [← HR.out, hkk]; rfl)
        rw [hkk] at KEY
        obtain ⟨xk, xv⟩ := x
        clear hkk
        go_enter Try.func26, Try.ntmps26
        go_wp2_with fail
        refine Calls.mono rc ?_
        rintro e w1 ⟨rfl, b1⟩
        have hb := SBc _ _ hb0 b1
        obtain ⟨⟨q0, q1, q2, q3⟩, qk, qv, hgz, B0, -⟩ := TW.out _ hb
        have bz1 := bz w1
        clear rc bz b1
        go_wp2_with fail
        refine Calls.mono (KEY.out _) ?_
        rintro e _ ⟨rfl, rfl⟩
        go_wp2_with (with_reducible refine wpList_store_rn rfl (.tmp 4) (.tmp 29) rfl (w.heap.size + 2) false (.slice none 0 0) (.slice none 0 0) (.slice none 0 0) rfl rfl #[.bool false, .slice none 0 0, .slice none 0 0, .slice none 0 0] hgz rfl (.mk _ _ _) (.mk _ _ _) (.mk _ _ _) B0 (by omega) ?_)
        rintro w5 ⟨s0, s1, s2, s3⟩ - B2 -
        go_wp2
        exact bodyPost_ret (v := .tuple #[zNd, .int .i64 2]) (by simp [results, Try.results26, go_sem, s0, s1, s2, s3]) rfl (by rw [HE.out]; exact zNd_ret rfl B2)
      · rw [hkk] at KEY
        cases h48' : decide (x.v.size ≤ 48)
        · have h48 : decide ((48 : Int) < (x.v.size : Int)) = true := by simp only [decide_eq_false_iff_not, decide_eq_true_eq] at h48' ⊢; omega
          have HE := Lib.hid (show R = (.none, 2) by rw [← HR.out, h48']; simp)
          obtain ⟨xk, xv⟩ := x
          simp only at h48
          clear hkk h48'
          go_enter Try.func26, Try.ntmps26
          go_wp2_with fail
          refine Calls.mono rc ?_
          rintro e w1 ⟨rfl, b1⟩
          have hb := SBc _ _ hb0 b1
          obtain ⟨⟨q0, q1, q2, q3⟩, qk, qv, hgz, B0, -⟩ := TW.out _ hb
          have bz1 := bz w1
          clear rc bz b1
          go_wp2_with fail
          refine Calls.mono (KEY.out _) ?_
          rintro e _ ⟨rfl, rfl⟩
          go_wp2_with (with_reducible refine wpList_store_rn rfl (.tmp 4) (.tmp 29) rfl (w.heap.size + 2) false (.slice none 0 0) (.slice none 0 0) (.slice none 0 0) rfl rfl #[.bool false, .slice none 0 0, .slice none 0 0, .slice none 0 0] hgz rfl (.mk _ _ _) (.mk _ _ _) (.mk _ _ _) B0 (by omega) ?_)
          rintro w5 ⟨s0, s1, s2, s3⟩ - B2 -
          go_wp2
          exact bodyPost_ret (v := .tuple #[zNd, .int .i64 2]) (by simp [results, Try.results26, go_sem, s0, s1, s2, s3]) rfl (by rw [HE.out]; exact zNd_ret rfl B2)
        · have h48 : decide ((48 : Int) < (x.v.size : Int)) = false := by simp only [decide_eq_false_iff_not, decide_eq_true_eq] at h48' ⊢; omega
          have HE := Lib.hid (show R = if decide ((putL n.ps x).length ≤ 255) then (lf (putL n.ps x), (0 : Int)) else (.none, 2) by rw [← HR.out, hkk, h48']; rfl)
          have HX := Lib.hid (show ∃ r, r = n.ps.filter (keep x.k) from ⟨_, rfl⟩)
          obtain ⟨r, hr⟩ := HX.out
          rw [← hr] at HSP HRR HRL HW
          generalize putL n.ps x = PL at *
          obtain ⟨xk, xv⟩ := x
          simp only at h48
          clear hkk h48' HX hr HR
          go_enter Try.func26, Try.ntmps26
          go_wp2_with fail
          refine Calls.mono rc ?_
          rintro e w1 ⟨rfl, b1⟩
          have hb := SBc _ _ hb0 b1
          obtain ⟨⟨q0, q1, q2, q3⟩, qk, qv, -, B0, -⟩ := TW.out _ hb
          have wo := HW.out _ B0
          clear rc b1
          go_wp2_with fail
          refine Calls.mono (KEY.out _) ?_
          rintro e _ ⟨rfl, rfl⟩
          go_wp2_with fail
          refine Calls.mono wo ?_
          rintro e w2 ⟨v2, rfl, o2, b2⟩
          have hb2 := SBc _ _ hb b2
          have sr := o2.at (by show r.length * 32 ≤ _; have := HRL.out; omega)
          obtain ⟨ra, rm, rcc, rfl, hrm⟩ := sr.form
          have SR := Lib.hid sr
          have hrm255 : rm ≤ 255 := by rw [hrm.out]; exact HRL.out
          have hrc : rm ≤ rcc := by
            obtain ⟨_, c', e, h, _⟩ := sr
            have e3 : rcc = c' := by injection e
            rw [e3, hrm.out]; exact h
          have HS2 := Lib.hid (TW.out _ hb2).sz
          clear wo b2 o2 sr hb B0 q0 q1 q2 q3 qk qv
          go_wp2
          go_loopw [7, 8] (fun ov iv wr => ∃ (i : Nat) (oa : Option Addr) (om oc : Nat), i ≤ rm ∧ iv = .int .i64 i ∧ ov = .slice oa om oc ∧ Hid (OwnR elP w2.heap.size wr ov (r.take i)) ∧ Hid (∀ q, q < i → ltS (kAt (ksOf r) q) xk = true) ∧ Below w2.heap.size w2 wr) (fun _ iv _ => rm - (intOf iv).toNat)
          case atStart => exact ⟨0, _, _, _, Nat.zero_le _, rfl, rfl, Lib.hid (OwnR.nil _ _ _), Lib.hid (fun q h => by omega), Below.refl _ _⟩
          case round =>
            obtain ⟨i, oa, om, oc, hi, rfl, rfl, HO, hf, hb⟩ := hrel
            have hbS := SBc _ _ hb2 hb
            by_cases hlt : i < rm
            · have hlt' : i < r.length := by rw [← hrm.out]; exact hlt
              have hltk : i < (ksOf r).length := by rw [ksOf_length]; exact hlt'
              obtain ⟨rb, roff, cap', hv, hB, hc1, hc2⟩ := SR.out.getP hlt'
              obtain ⟨rfl, rfl⟩ : ra = some ⟨rb, roff, none⟩ ∧ rcc = cap' := by injection hv with h1 _ h3; exact ⟨h1, h3⟩
              have D1 := Lib.hid (fun w' (h : Below w2.heap.size w2 w') => (h.cell (p := ⟨rb, roff + i * 2, none⟩) hB).trans hc1)
              have D2 := Lib.hid (fun w' (h : Below w2.heap.size w2 w') => (h.cell (p := ⟨rb, roff + i * 2 + 1, none⟩) hB).trans hc2)
              have DK := Lib.hid (fun w' (h : Below w2.heap.size w2 w') => (TW.out _ (SBc _ _ hb2 h)).k)
              have HKA := Lib.hid (ksOf_at r hlt')
              clear hv hc1 hc2
              cases hq : ltS (prAt r i).k xk
              · have HPL := Lib.hid (show PlaceAt (ksOf r) xk i from ⟨Nat.le_of_lt hltk, hf.out, fun m h1 h2 => ge_of_ris HRR.out h1 h2 (by rw [HKA.out]; exact hq)⟩)
                obtain ⟨y, hy⟩ : ∃ y, (prAt r i).k = y := ⟨_, rfl⟩
                rw [hy] at D1 hq
                have hge : Op.bytesLess y.toList xk.toList = false := hq
                clear hq hy D2 HKA
                go_wp2_with fail
                have hS := hb.drew
                refine wp_region_held_drew (S := fun w' => Below w2.heap.size w2 w') mixed hS (fun _ => ?_)
                show wpAnyH _ _ _ _ _ 14 (Array.replicate 14 false) _ _
                refine wpAnyH_take_d 0 (some 35) (.int .i64 i) rfl (by kernel_rfl) (by kernel_rfl) (by kernel_rfl) (by kernel_rfl) rfl (fun _ _ _ h => h) (fun _ _ => by kernel_rfl) (by exact hS) ?_
                simp only [Act.put, List.setIfInBounds_toArray, List.set_cons_succ, List.set_cons_zero]
                refine wpAnyH_take_d 1 (some 36) (.slice (some ⟨rb, roff, none⟩) rm rcc) rfl (by kernel_rfl) (by kernel_rfl) (by kernel_rfl) (by kernel_rfl) rfl (fun _ _ _ h => h) (fun _ _ => by kernel_rfl) (by exact hS) ?_
                simp only [Act.put, List.setIfInBounds_toArray, List.set_cons_succ, List.set_cons_zero]
                refine wpAnyH_take_d 2 (some 37) (.int .i64 rm) rfl (by kernel_rfl) (by kernel_rfl) (by kernel_rfl) (by kernel_rfl) rfl (fun _ _ _ h => h) (fun _ _ => ex_len rfl rfl Try.underlying22) (by exact hS) ?_
                simp only [Act.put, List.setIfInBounds_toArray, List.set_cons_succ, List.set_cons_zero]
                refine wpAnyH_take_d 3 (some 38) (.bool true) rfl (by kernel_rfl) (by kernel_rfl) (by kernel_rfl) (by kernel_rfl) rfl (fun _ _ _ h => h) (fun _ _ => ex_lt rfl rfl rfl (by rw [decide_eq_true_iff]; omega)) (by exact hS) ?_
                simp only [Act.put, List.setIfInBounds_toArray, List.set_cons_succ, List.set_cons_zero]
                refine wpAnyH_take_d 4 (some 39) (.bool true) rfl (by kernel_rfl) (by kernel_rfl) (by kernel_rfl) (by kernel_rfl) rfl (fun _ _ _ h => h) (fun _ _ => by kernel_rfl) (by exact hS) ?_
                simp only [Act.put, List.setIfInBounds_toArray, List.set_cons_succ, List.set_cons_zero]
                refine wpAnyH_take_d 5 (some 40) (.slice (some ⟨rb, roff, none⟩) rm rcc) rfl (by kernel_rfl) (by kernel_rfl) (by kernel_rfl) (by kernel_rfl) rfl (fun _ _ _ h => h) (fun _ _ => by kernel_rfl) (by exact hS) ?_
                simp only [Act.put, List.setIfInBounds_toArray, List.set_cons_succ, List.set_cons_zero]
                refine wpAnyH_take_d 6 (some 41) (.int .i64 i) rfl (by kernel_rfl) (by kernel_rfl) (by kernel_rfl) (by kernel_rfl) rfl (fun _ _ _ h => h) (fun _ _ => by kernel_rfl) (by exact hS) ?_
                simp only [Act.put, List.setIfInBounds_toArray, List.set_cons_succ, List.set_cons_zero]
                refine wpAnyH_take_d 7 (some 42) (.pointer (some ⟨rb, roff + i * 2, none⟩)) rfl (by kernel_rfl) (by kernel_rfl) (by kernel_rfl) (by kernel_rfl) rfl (fun _ _ _ h => h) (fun _ _ => ex_index 2 rfl rfl rfl hlt Try.underlying22 szPr) (by exact hS) ?_
                simp only [Act.put, List.setIfInBounds_toArray, List.set_cons_succ, List.set_cons_zero]
                refine wpAnyH_take_d 8 (some 43) (.pointer (some ⟨rb, roff + i * 2, none⟩)) rfl (by kernel_rfl) (by kernel_rfl) (by kernel_rfl) (by kernel_rfl) rfl (fun _ _ _ h => h) (fun _ _ => by kernel_rfl) (by exact hS) ?_
                simp only [Act.put, List.setIfInBounds_toArray, List.set_cons_succ, List.set_cons_zero]
                refine wpAnyH_take_d 9 (some 44) (.string y) rfl (by kernel_rfl) (by kernel_rfl) (by kernel_rfl) (by kernel_rfl) rfl (fun _ _ _ h => h) (fun w' h => exec_load_cell rfl rfl (D1.out _ h) Try.underlying9 rfl) (by exact hS) ?_
                simp only [Act.put, List.setIfInBounds_toArray, List.set_cons_succ, List.set_cons_zero]
                refine wpAnyH_take_d 10 (some 45) (.pointer (some ⟨w.heap.size + 1, 0, none⟩)) rfl (by kernel_rfl) (by kernel_rfl) (by kernel_rfl) (by kernel_rfl) rfl (fun _ _ _ h => h) (fun _ _ => by kernel_rfl) (by exact hS) ?_
                simp only [Act.put, List.setIfInBounds_toArray, List.set_cons_succ, List.set_cons_zero]
                refine wpAnyH_take_d 11 (some 46) (.string xk) rfl (by kernel_rfl) (by kernel_rfl) (by kernel_rfl) (by kernel_rfl) rfl (fun _ _ _ h => h) (fun w' h => exec_load_cell rfl rfl (DK.out _ h) Try.underlying9 rfl) (by exact hS) ?_
                simp only [Act.put, List.setIfInBounds_toArray, List.set_cons_succ, List.set_cons_zero]
                refine wpAnyH_take_d 12 (some 47) (.bool false) rfl (by kernel_rfl) (by kernel_rfl) (by kernel_rfl) (by kernel_rfl) rfl (fun _ _ _ h => h) (fun _ _ => ex_slt rfl rfl rfl hge) (by exact hS) ?_
                simp only [Act.put, List.setIfInBounds_toArray, List.set_cons_succ, List.set_cons_zero]
                refine wpAnyH_take_d 13 (some 48) (.bool false) rfl (by kernel_rfl) (by kernel_rfl) (by kernel_rfl) (by kernel_rfl) rfl (fun _ _ _ h => h) (fun _ _ => by kernel_rfl) (by exact hS) ?_
                simp only [Act.put, List.setIfInBounds_toArray, List.set_cons_succ, List.set_cons_zero]
                refine wpAnyH_done (by kernel_rfl) ?_ _
                have hb := hS
                clear hS D1 DK hbS hf
                have hwz : Below wr.heap.size wr wr.drew.drew := ((Below.refl _ _).drew).drew
                have hbz : Below w2.heap.size w2 wr.drew.drew := hb.drew
                have hoq : om = i := by
                  obtain ⟨_, _, e, _⟩ := HO.out.form
                  injection e with _ e _
                  rw [e, List.length_take, ← hrm.out]; omega
                have oz := HO.out.below hwz
                have hl1 : (r.take i).length ≤ 255 := by rw [List.length_take]; omega
                have hl2 : (r.drop i).length ≤ 255 := by rw [List.length_drop, ← hrm.out]; omega
                obtain ⟨v5, w5, hr5, o5, b5, -, -⟩ := own_app okP (oz.below (below_new wr.drew.drew (prO ⟨xk, xv⟩))) (one_pr wr.drew.drew ⟨xk, xv⟩) (by show (_ + 1) * 32 ≤ _; omega) (by simp; have : w2.heap.size ≤ wr.heap.size := hb.size; omega) 22
                have hbA := hbz.alloc hbz.size (prO ⟨xk, xv⟩)
                have hb5 := hbA.trans b5
                obtain ⟨bo, hr2, hbo⟩ := slP_from (some ⟨rb, roff, none⟩) (n := rm) (c := rcc) (k := i) (by omega)
                have sD := SR.out.drop okP (i := i) (by rw [← hrm.out]; omega) (bo := bo) (cap' := rcc - i) (fun b off e hlt => hbo b off e (by have := hrm.out; omega)) (by have := hrm.out; omega)
                rw [← hrm.out] at sD
                obtain ⟨v6, w6, hr6, o6, b6, -, -⟩ := own_app okP o5 (sD.below hb5) (by rw [List.length_append]; show (_ + 1 + _) * 32 ≤ _; omega) hb5.size 22
                have hb6 := hb5.trans b6
                rw [List.append_assoc, List.singleton_append, HSP.out i HPL.out] at o6
                obtain ⟨xa, xm, xc, rfl, -⟩ := o5.form'
                obtain ⟨ya, ym, yc, rfl, hym⟩ := o6.form'
                have hbs := build_prs ⟨xk, xv⟩ wr.drew.drew
                have HBS := Lib.hid hbs
                have HR5 := Lib.hid hr5
                have HR6 := Lib.hid hr6
                have R2 := Lib.hid hr2
                have CX := Lib.hid (fun w' (h : Below w2.heap.size w2 w') => range2 ((TW.out _ (SBc _ _ hb2 h)).k) ((TW.out _ (SBc _ _ hb2 h)).v))
                have hb7 := SBc _ _ hb2 hb6
                obtain ⟨-, -, -, hgz, B0, -⟩ := TW.out _ hb7
                have HO6 := Lib.hid (o6.base (b' := w.heap.size + 3) HS2.out)
                have hpl : PL.length ≤ 511 := by
                  have e := congrArg List.length (HSP.out i HPL.out)
                  rw [List.length_append, List.length_cons] at e; omega
                clear hwz oz hr5 o5 b5 hr2 hbo sD hr6 o6 b6 hbs hoq hl1 hl2 HO
                go_wp2_with fail
                have hS := hbz
                refine wp_region_held_drew (S := fun w' => Below w2.heap.size w2 w') mixed hS (fun _ => ?_)
                show wpAnyH _ _ _ _ _ 9 (Array.replicate 9 false) _ _
                refine wpAnyH_take_d 0 (some 58) (.slice oa om oc) rfl (by kernel_rfl) (by kernel_rfl) (by kernel_rfl) (by kernel_rfl) rfl (fun _ _ _ h => h) (fun _ _ => by kernel_rfl) (by exact hS) ?_
                simp only [Act.put, List.setIfInBounds_toArray, List.set_cons_succ, List.set_cons_zero]
                refine wpAnyH_take_d 1 (some 59) (prV ⟨xk, xv⟩) rfl (by kernel_rfl) (by kernel_rfl) (by kernel_rfl) (by kernel_rfl) rfl (fun _ _ _ h => h) (fun w' h => ex_row rfl rfl (CX.out _ h) Try.underlying50 rfl (by kernel_rfl)) (by exact hS) ?_
                simp only [Act.put, List.setIfInBounds_toArray, List.set_cons_succ, List.set_cons_zero]
                refine wpAnyH_take_d 4 (some 62) (.slice (some ⟨rb, roff, none⟩) rm rcc) rfl (by kernel_rfl) (by kernel_rfl) (by kernel_rfl) (by kernel_rfl) rfl (fun _ _ _ h => h) (fun _ _ => by kernel_rfl) (by exact hS) ?_
                simp only [Act.put, List.setIfInBounds_toArray, List.set_cons_succ, List.set_cons_zero]
                refine wpAnyH_take_d 5 (some 63) (.int .i64 i) rfl (by kernel_rfl) (by kernel_rfl) (by kernel_rfl) (by kernel_rfl) rfl (fun _ _ _ h => h) (fun _ _ => by kernel_rfl) (by exact hS) ?_
                simp only [Act.put, List.setIfInBounds_toArray, List.set_cons_succ, List.set_cons_zero]
                refine wpAnyH_take_d 6 (some 64) (.slice bo (rm - i) (rcc - i)) rfl (by kernel_rfl) (by kernel_rfl) (by kernel_rfl) (by kernel_rfl) rfl (fun _ _ _ h => h) (fun w' _ => ex_slice rfl rfl rfl rfl (R2.out w')) (by exact hS) ?_
                simp only [Act.put, List.setIfInBounds_toArray, List.set_cons_succ, List.set_cons_zero]
                have hS := hbA
                refine wpAnyH_one 2 (some 60) (.slice (some ⟨wr.heap.size, 0, none⟩) 1 1) rfl (by kernel_rfl) (by kernel_rfl) rfl (ex_build1 rfl rfl HBS.out) (by exact hS) ?_
                simp only [Act.put, List.setIfInBounds_toArray, List.set_cons_succ, List.set_cons_zero]
                have hS := hb5
                refine wpAnyH_one 3 (some 61) (.slice xa xm xc) rfl (by kernel_rfl) (by kernel_rfl) rfl (ex_app rfl rfl rfl HR5.out) (by exact hS) ?_
                simp only [Act.put, List.setIfInBounds_toArray, List.set_cons_succ, List.set_cons_zero]
                have hS := hb6
                refine wpAnyH_one 7 (some 65) (.slice ya ym yc) rfl (by kernel_rfl) (by kernel_rfl) rfl (ex_app rfl rfl rfl HR6.out) (by exact hS) ?_
                simp only [Act.put, List.setIfInBounds_toArray, List.set_cons_succ, List.set_cons_zero]
                refine wpAnyH_take_d 8 (some 7) (.slice ya ym yc) rfl (by kernel_rfl) (by kernel_rfl) (by kernel_rfl) (by kernel_rfl) rfl (fun _ _ _ h => h) (fun _ _ => by kernel_rfl) (by exact hS) ?_
                simp only [Act.put, List.setIfInBounds_toArray, List.set_cons_succ, List.set_cons_zero]
                refine wpAnyH_done (by kernel_rfl) ?_ _
                clear hS hbz hbA hb5 hb6 CX HBS HR5 HR6 R2
                by_cases h255 : 255 < ym
                · have d255 : (255 : Int) < (ym : Int) := by omega
                  have HE2 := Lib.hid (show R = (.none, 2) by rw [HE.out, decide_eq_false (by rw [← hym.out]; omega)]; rfl)
                  have bz1 := bz w6
                  clear bz h255
                  go_wp2_with (with_reducible refine wpList_store_rn rfl (.tmp 4) (.tmp 69) rfl (w.heap.size + 2) false (.slice none 0 0) (.slice none 0 0) (.slice none 0 0) rfl rfl #[.bool false, .slice none 0 0, .slice none 0 0, .slice none 0 0] hgz rfl (.mk _ _ _) (.mk _ _ _) (.mk _ _ _) B0 (by omega) ?_)
                  rintro w8 ⟨s0, s1, s2, s3⟩ - B2 -
                  go_wp2
                  exact bodyPost_ret (v := .tuple #[zNd, .int .i64 2]) (by simp [results, Try.results26, go_sem, s0, s1, s2, s3]) rfl (by rw [HE2.out]; exact zNd_ret rfl B2)
                · have d255 : ¬ (255 : Int) < (ym : Int) := by omega
                  have HE2 := Lib.hid (show R = (lf PL, 0) by rw [HE.out, decide_eq_true (by rw [← hym.out]; omega)]; rfl)
                  have bl := build_rl (.slice ya ym yc) (.mk _ _ _) w6
                  clear bz h255
                  go_wp2_with (with_reducible refine wpList_store_rn rfl (.tmp 4) (.tmp 71) rfl (w.heap.size + 2) true (.slice ya ym yc) (.slice none 0 0) (.slice none 0 0) rfl rfl #[.bool false, .slice none 0 0, .slice none 0 0, .slice none 0 0] hgz rfl (.mk _ _ _) (.mk _ _ _) (.mk _ _ _) B0 (by omega) ?_)
                  rintro w8 ⟨s0, s1, s2, s3⟩ - B2 hoth
                  have FF : Hid (NdRet w R (.returned (.tuple #[.agg #[.bool true, .slice ya ym yc, .slice none 0 0, .slice none 0 0], .int .i64 0])) w8) := Lib.hid (by
                    rw [HE2.out]
                    exact ⟨_, rfl, ⟨_, _, _, rfl, (HO6.out.keepg (Nat.lt_succ_self _) hoth).base (by omega), OwnR.nil _ _ _, OwnR.nil _ _ _⟩, B2⟩)
                  clear hoth
                  go_wp2
                  exact bodyPost_ret (v := .tuple #[.agg #[.bool true, .slice ya ym yc, .slice none 0 0, .slice none 0 0], .int .i64 0]) (by simp [results, Try.results26, go_sem, s0, s1, s2, s3]) rfl FF.out
              · have HF2 := Lib.hid (show ∀ q, q < i + 1 → ltS (kAt (ksOf r) q) xk = true from fun q h => by
                  by_cases e : q = i
                  · subst e; rw [HKA.out]; exact hq
                  · exact hf.out q (by omega))
                have hoq : om = i := by
                  obtain ⟨_, _, e, _⟩ := HO.out.form
                  injection e with _ e _
                  rw [e, List.length_take]; omega
                have HTK := Lib.hid (show r.take (i + 1) = r.take i ++ [prAt r i] by
                  rw [List.take_add_one, List.getElem?_eq_getElem hlt']
                  unfold prAt
                  rw [List.getD_eq_getElem?_getD, List.getElem?_eq_getElem hlt']; rfl)
                have hs := hb.drew.size
                obtain ⟨v9, w9, hr9, o9, b9, -, -⟩ := own_app okP ((HO.out.below (Below.refl _ _).drew).below (below_new wr.drew (prO (prAt r i)))) (one_pr wr.drew (prAt r i)) (by rw [List.length_take]; show (_ + 1) * 32 ≤ _; omega) (by simp; have := hb.size; omega) 22
                rw [← HTK.out] at o9
                have hbs := build_prs (prAt r i) wr.drew
                have hb9 := (hb.drew.alloc hs (prO (prAt r i))).trans b9
                obtain ⟨ya, ym, yc, rfl, -⟩ := o9.form'
                have HRR9 := Lib.hid (show (Builtin.append_ #[22, 22] 22 #[.slice oa om oc, .slice (some ⟨wr.heap.size, 0, none⟩) 1 1]).run Try.prog (wr.alloc (prO (prAt r i))).drew = .ok (.slice ya ym yc) w9 from hr9)
                have HO9 := Lib.hid o9
                have hge : Op.bytesLess (prAt r i).k.toList xk.toList = true := hq
                clear hr9 o9 b9 hq HKA HTK hoq
                obtain ⟨y, hy⟩ : ∃ y, prAt r i = y := ⟨_, rfl⟩
                rw [hy] at D1 D2 hge hbs HRR9
                obtain ⟨yk, yv⟩ := y
                simp only at D1 D2 hge hbs
                clear hy
                go_wp2_with fail
                have hS := hb.drew
                have e1 := D1.out _ hS
                have e2 := D2.out _ hS
                refine wp_region_held_drew (S := fun w' => w' = wr.drew) mixed rfl (fun _ => ?_)
                have hS : wr.drew = wr.drew := rfl
                show wpAnyH _ _ _ _ _ 14 (Array.replicate 14 false) _ _
                refine wpAnyH_take_d 0 (some 35) (.int .i64 i) rfl (by kernel_rfl) (by kernel_rfl) (by kernel_rfl) (by kernel_rfl) rfl (fun _ _ _ h => h) (fun _ _ => by kernel_rfl) (by exact hS) ?_
                simp only [Act.put, List.setIfInBounds_toArray, List.set_cons_succ, List.set_cons_zero]
                refine wpAnyH_take_d 1 (some 36) (.slice (some ⟨rb, roff, none⟩) rm rcc) rfl (by kernel_rfl) (by kernel_rfl) (by kernel_rfl) (by kernel_rfl) rfl (fun _ _ _ h => h) (fun _ _ => by kernel_rfl) (by exact hS) ?_
                simp only [Act.put, List.setIfInBounds_toArray, List.set_cons_succ, List.set_cons_zero]
                refine wpAnyH_take_d 2 (some 37) (.int .i64 rm) rfl (by kernel_rfl) (by kernel_rfl) (by kernel_rfl) (by kernel_rfl) rfl (fun _ _ _ h => h) (fun _ _ => ex_len rfl rfl Try.underlying22) (by exact hS) ?_
                simp only [Act.put, List.setIfInBounds_toArray, List.set_cons_succ, List.set_cons_zero]
                refine wpAnyH_take_d 3 (some 38) (.bool true) rfl (by kernel_rfl) (by kernel_rfl) (by kernel_rfl) (by kernel_rfl) rfl (fun _ _ _ h => h) (fun _ _ => ex_lt rfl rfl rfl (by rw [decide_eq_true_iff]; omega)) (by exact hS) ?_
                simp only [Act.put, List.setIfInBounds_toArray, List.set_cons_succ, List.set_cons_zero]
                refine wpAnyH_take_d 4 (some 39) (.bool true) rfl (by kernel_rfl) (by kernel_rfl) (by kernel_rfl) (by kernel_rfl) rfl (fun _ _ _ h => h) (fun _ _ => by kernel_rfl) (by exact hS) ?_
                simp only [Act.put, List.setIfInBounds_toArray, List.set_cons_succ, List.set_cons_zero]
                refine wpAnyH_take_d 5 (some 40) (.slice (some ⟨rb, roff, none⟩) rm rcc) rfl (by kernel_rfl) (by kernel_rfl) (by kernel_rfl) (by kernel_rfl) rfl (fun _ _ _ h => h) (fun _ _ => by kernel_rfl) (by exact hS) ?_
                simp only [Act.put, List.setIfInBounds_toArray, List.set_cons_succ, List.set_cons_zero]
                refine wpAnyH_take_d 6 (some 41) (.int .i64 i) rfl (by kernel_rfl) (by kernel_rfl) (by kernel_rfl) (by kernel_rfl) rfl (fun _ _ _ h => h) (fun _ _ => by kernel_rfl) (by exact hS) ?_
                simp only [Act.put, List.setIfInBounds_toArray, List.set_cons_succ, List.set_cons_zero]
                refine wpAnyH_take_d 7 (some 42) (.pointer (some ⟨rb, roff + i * 2, none⟩)) rfl (by kernel_rfl) (by kernel_rfl) (by kernel_rfl) (by kernel_rfl) rfl (fun _ _ _ h => h) (fun _ _ => ex_index 2 rfl rfl rfl hlt Try.underlying22 szPr) (by exact hS) ?_
                simp only [Act.put, List.setIfInBounds_toArray, List.set_cons_succ, List.set_cons_zero]
                refine wpAnyH_take_d 8 (some 43) (.pointer (some ⟨rb, roff + i * 2, none⟩)) rfl (by kernel_rfl) (by kernel_rfl) (by kernel_rfl) (by kernel_rfl) rfl (fun _ _ _ h => h) (fun _ _ => by kernel_rfl) (by exact hS) ?_
                simp only [Act.put, List.setIfInBounds_toArray, List.set_cons_succ, List.set_cons_zero]
                refine wpAnyH_take_d 9 (some 44) (.string yk) rfl (by kernel_rfl) (by kernel_rfl) (by kernel_rfl) (by kernel_rfl) rfl (fun _ _ _ h => h) (fun w' h => exec_load_cell rfl rfl (h ▸ D1.out _ hb.drew) Try.underlying9 rfl) (by exact hS) ?_
                simp only [Act.put, List.setIfInBounds_toArray, List.set_cons_succ, List.set_cons_zero]
                refine wpAnyH_take_d 10 (some 45) (.pointer (some ⟨w.heap.size + 1, 0, none⟩)) rfl (by kernel_rfl) (by kernel_rfl) (by kernel_rfl) (by kernel_rfl) rfl (fun _ _ _ h => h) (fun _ _ => by kernel_rfl) (by exact hS) ?_
                simp only [Act.put, List.setIfInBounds_toArray, List.set_cons_succ, List.set_cons_zero]
                refine wpAnyH_take_d 11 (some 46) (.string xk) rfl (by kernel_rfl) (by kernel_rfl) (by kernel_rfl) (by kernel_rfl) rfl (fun _ _ _ h => h) (fun w' h => exec_load_cell rfl rfl (h ▸ DK.out _ hb.drew) Try.underlying9 rfl) (by exact hS) ?_
                simp only [Act.put, List.setIfInBounds_toArray, List.set_cons_succ, List.set_cons_zero]
                refine wpAnyH_take_d 12 (some 47) (.bool true) rfl (by kernel_rfl) (by kernel_rfl) (by kernel_rfl) (by kernel_rfl) rfl (fun _ _ _ h => h) (fun _ _ => ex_slt rfl rfl rfl hge) (by exact hS) ?_
                simp only [Act.put, List.setIfInBounds_toArray, List.set_cons_succ, List.set_cons_zero]
                refine wpAnyH_take_d 13 (some 48) (.bool true) rfl (by kernel_rfl) (by kernel_rfl) (by kernel_rfl) (by kernel_rfl) rfl (fun _ _ _ h => h) (fun _ _ => by kernel_rfl) (by exact hS) ?_
                simp only [Act.put, List.setIfInBounds_toArray, List.set_cons_succ, List.set_cons_zero]
                refine wpAnyH_done (by kernel_rfl) ?_ _
                clear hS D1 D2 DK hbS hf HO
                go_wp2_with (with_reducible refine wpList_append_own rfl (.tmp 49) (.tmp 54) 22 22 rfl (.slice oa om oc) (.slice (some ⟨wr.heap.size, 0, none⟩) 1 1) (.slice ya ym yc) rfl rfl HRR9.out ?_)
                go_roundw
                case rel => exact ⟨i + 1, ya, ym, yc, by omega, by go_num, rfl, HO9, HF2, hb9⟩
                case measure => simp [intOf]; omega
            · have hli : i = r.length := by rw [← hrm.out]; omega
              have HPL := Lib.hid (show PlaceAt (ksOf r) xk i from ⟨by rw [ksOf_length]; omega, hf.out, fun m h1 h2 => by rw [ksOf_length] at h2; omega⟩)
              clear hli
              go_wp2_with fail
              have hS := hb.drew
              refine wp_region_held_drew (S := fun w' => Below w2.heap.size w2 w') mixed hS (fun _ => ?_)
              show wpAnyH _ _ _ _ _ 14 (Array.replicate 14 false) _ _
              refine wpAnyH_take_d 0 (some 35) (.int .i64 i) rfl (by kernel_rfl) (by kernel_rfl) (by kernel_rfl) (by kernel_rfl) rfl (fun _ _ _ h => h) (fun _ _ => by kernel_rfl) (by exact hS) ?_
              simp only [Act.put, List.setIfInBounds_toArray, List.set_cons_succ, List.set_cons_zero]
              refine wpAnyH_take_d 1 (some 36) (.slice ra rm rcc) rfl (by kernel_rfl) (by kernel_rfl) (by kernel_rfl) (by kernel_rfl) rfl (fun _ _ _ h => h) (fun _ _ => by kernel_rfl) (by exact hS) ?_
              simp only [Act.put, List.setIfInBounds_toArray, List.set_cons_succ, List.set_cons_zero]
              refine wpAnyH_take_d 2 (some 37) (.int .i64 rm) rfl (by kernel_rfl) (by kernel_rfl) (by kernel_rfl) (by kernel_rfl) rfl (fun _ _ _ h => h) (fun _ _ => ex_len rfl rfl Try.underlying22) (by exact hS) ?_
              simp only [Act.put, List.setIfInBounds_toArray, List.set_cons_succ, List.set_cons_zero]
              refine wpAnyH_take_d 3 (some 38) (.bool false) rfl (by kernel_rfl) (by kernel_rfl) (by kernel_rfl) (by kernel_rfl) rfl (fun _ _ _ h => h) (fun _ _ => ex_lt rfl rfl rfl (by rw [decide_eq_false_iff_not]; omega)) (by exact hS) ?_
              simp only [Act.put, List.setIfInBounds_toArray, List.set_cons_succ, List.set_cons_zero]
              refine wpAnyH_take_d 4 (some 39) (.bool false) rfl (by kernel_rfl) (by kernel_rfl) (by kernel_rfl) (by kernel_rfl) rfl (fun _ _ _ h => h) (fun _ _ => by kernel_rfl) (by exact hS) ?_
              simp only [Act.put, List.setIfInBounds_toArray, List.set_cons_succ, List.set_cons_zero]
              refine wpAnyH_skip_d 5 (some 40) rfl (by kernel_rfl) (by kernel_rfl) (by kernel_rfl) (by kernel_rfl) rfl (fun _ _ _ h => h) (by exact hS) ?_
              simp only [Act.put, List.setIfInBounds_toArray, List.set_cons_succ, List.set_cons_zero]
              refine wpAnyH_skip_d 6 (some 41) rfl (by kernel_rfl) (by kernel_rfl) (by kernel_rfl) (by kernel_rfl) rfl (fun _ _ _ h => h) (by exact hS) ?_
              simp only [Act.put, List.setIfInBounds_toArray, List.set_cons_succ, List.set_cons_zero]
              refine wpAnyH_skip_d 7 (some 42) rfl (by kernel_rfl) (by kernel_rfl) (by kernel_rfl) (by kernel_rfl) rfl (fun _ _ _ h => h) (by exact hS) ?_
              simp only [Act.put, List.setIfInBounds_toArray, List.set_cons_succ, List.set_cons_zero]
              refine wpAnyH_skip_d 8 (some 43) rfl (by kernel_rfl) (by kernel_rfl) (by kernel_rfl) (by kernel_rfl) rfl (fun _ _ _ h => h) (by exact hS) ?_
              simp only [Act.put, List.setIfInBounds_toArray, List.set_cons_succ, List.set_cons_zero]
              refine wpAnyH_skip_d 9 (some 44) rfl (by kernel_rfl) (by kernel_rfl) (by kernel_rfl) (by kernel_rfl) rfl (fun _ _ _ h => h) (by exact hS) ?_
              simp only [Act.put, List.setIfInBounds_toArray, List.set_cons_succ, List.set_cons_zero]
              refine wpAnyH_skip_d 10 (some 45) rfl (by kernel_rfl) (by kernel_rfl) (by kernel_rfl) (by kernel_rfl) rfl (fun _ _ _ h => h) (by exact hS) ?_
              simp only [Act.put, List.setIfInBounds_toArray, List.set_cons_succ, List.set_cons_zero]
              refine wpAnyH_skip_d 11 (some 46) rfl (by kernel_rfl) (by kernel_rfl) (by kernel_rfl) (by kernel_rfl) rfl (fun _ _ _ h => h) (by exact hS) ?_
              simp only [Act.put, List.setIfInBounds_toArray, List.set_cons_succ, List.set_cons_zero]
              refine wpAnyH_skip_d 12 (some 47) rfl (by kernel_rfl) (by kernel_rfl) (by kernel_rfl) (by kernel_rfl) rfl (fun _ _ _ h => h) (by exact hS) ?_
              simp only [Act.put, List.setIfInBounds_toArray, List.set_cons_succ, List.set_cons_zero]
              refine wpAnyH_take_d 13 (some 48) (.bool false) rfl (by kernel_rfl) (by kernel_rfl) (by kernel_rfl) (by kernel_rfl) rfl (fun _ _ _ h => h) (fun _ _ => by kernel_rfl) (by exact hS) ?_
              simp only [Act.put, List.setIfInBounds_toArray, List.set_cons_succ, List.set_cons_zero]
              refine wpAnyH_done (by kernel_rfl) ?_ _
              have hb := hS
              clear hS hbS hf
              have hwz : Below wr.heap.size wr wr.drew.drew := ((Below.refl _ _).drew).drew
              have hbz : Below w2.heap.size w2 wr.drew.drew := hb.drew
              have hoq : om = i := by
                obtain ⟨_, _, e, _⟩ := HO.out.form
                injection e with _ e _
                rw [e, List.length_take, ← hrm.out]; omega
              have oz := HO.out.below hwz
              have hl1 : (r.take i).length ≤ 255 := by rw [List.length_take]; omega
              have hl2 : (r.drop i).length ≤ 255 := by rw [List.length_drop, ← hrm.out]; omega
              obtain ⟨v5, w5, hr5, o5, b5, -, -⟩ := own_app okP (oz.below (below_new wr.drew.drew (prO ⟨xk, xv⟩))) (one_pr wr.drew.drew ⟨xk, xv⟩) (by show (_ + 1) * 32 ≤ _; omega) (by simp; have : w2.heap.size ≤ wr.heap.size := hb.size; omega) 22
              have hbA := hbz.alloc hbz.size (prO ⟨xk, xv⟩)
              have hb5 := hbA.trans b5
              obtain ⟨bo, hr2, hbo⟩ := slP_from ra (n := rm) (c := rcc) (k := i) (by omega)
              have sD := SR.out.drop okP (i := i) (by rw [← hrm.out]; omega) (bo := bo) (cap' := rcc - i) (fun b off e hlt => hbo b off e (by have := hrm.out; omega)) (by have := hrm.out; omega)
              rw [← hrm.out] at sD
              obtain ⟨v6, w6, hr6, o6, b6, -, -⟩ := own_app okP o5 (sD.below hb5) (by rw [List.length_append]; show (_ + 1 + _) * 32 ≤ _; omega) hb5.size 22
              have hb6 := hb5.trans b6
              rw [List.append_assoc, List.singleton_append, HSP.out i HPL.out] at o6
              obtain ⟨xa, xm, xc, rfl, -⟩ := o5.form'
              obtain ⟨ya, ym, yc, rfl, hym⟩ := o6.form'
              have hbs := build_prs ⟨xk, xv⟩ wr.drew.drew
              have HBS := Lib.hid hbs
              have HR5 := Lib.hid hr5
              have HR6 := Lib.hid hr6
              have R2 := Lib.hid hr2
              have CX := Lib.hid (fun w' (h : Below w2.heap.size w2 w') => range2 ((TW.out _ (SBc _ _ hb2 h)).k) ((TW.out _ (SBc _ _ hb2 h)).v))
              have hb7 := SBc _ _ hb2 hb6
              obtain ⟨-, -, -, hgz, B0, -⟩ := TW.out _ hb7
              have HO6 := Lib.hid (o6.base (b' := w.heap.size + 3) HS2.out)
              have hpl : PL.length ≤ 511 := by
                have e := congrArg List.length (HSP.out i HPL.out)
                rw [List.length_append, List.length_cons] at e; omega
              clear hwz oz hr5 o5 b5 hr2 hbo sD hr6 o6 b6 hbs hoq hl1 hl2 HO
              go_wp2_with fail
              have hS := hbz
              refine wp_region_held_drew (S := fun w' => Below w2.heap.size w2 w') mixed hS (fun _ => ?_)
              show wpAnyH _ _ _ _ _ 9 (Array.replicate 9 false) _ _
              refine wpAnyH_take_d 0 (some 58) (.slice oa om oc) rfl (by kernel_rfl) (by kernel_rfl) (by kernel_rfl) (by kernel_rfl) rfl (fun _ _ _ h => h) (fun _ _ => by kernel_rfl) (by exact hS) ?_
              simp only [Act.put, List.setIfInBounds_toArray, List.set_cons_succ, List.set_cons_zero]
              refine wpAnyH_take_d 1 (some 59) (prV ⟨xk, xv⟩) rfl (by kernel_rfl) (by kernel_rfl) (by kernel_rfl) (by kernel_rfl) rfl (fun _ _ _ h => h) (fun w' h => ex_row rfl rfl (CX.out _ h) Try.underlying50 rfl (by kernel_rfl)) (by exact hS) ?_
              simp only [Act.put, List.setIfInBounds_toArray, List.set_cons_succ, List.set_cons_zero]
              refine wpAnyH_take_d 4 (some 62) (.slice ra rm rcc) rfl (by kernel_rfl) (by kernel_rfl) (by kernel_rfl) (by kernel_rfl) rfl (fun _ _ _ h => h) (fun _ _ => by kernel_rfl) (by exact hS) ?_
              simp only [Act.put, List.setIfInBounds_toArray, List.set_cons_succ, List.set_cons_zero]
              refine wpAnyH_take_d 5 (some 63) (.int .i64 i) rfl (by kernel_rfl) (by kernel_rfl) (by kernel_rfl) (by kernel_rfl) rfl (fun _ _ _ h => h) (fun _ _ => by kernel_rfl) (by exact hS) ?_
              simp only [Act.put, List.setIfInBounds_toArray, List.set_cons_succ, List.set_cons_zero]
              refine wpAnyH_take_d 6 (some 64) (.slice bo (rm - i) (rcc - i)) rfl (by kernel_rfl) (by kernel_rfl) (by kernel_rfl) (by kernel_rfl) rfl (fun _ _ _ h => h) (fun w' _ => ex_slice rfl rfl rfl rfl (R2.out w')) (by exact hS) ?_
              simp only [Act.put, List.setIfInBounds_toArray, List.set_cons_succ, List.set_cons_zero]
              have hS := hbA
              refine wpAnyH_one 2 (some 60) (.slice (some ⟨wr.heap.size, 0, none⟩) 1 1) rfl (by kernel_rfl) (by kernel_rfl) rfl (ex_build1 rfl rfl HBS.out) (by exact hS) ?_
              simp only [Act.put, List.setIfInBounds_toArray, List.set_cons_succ, List.set_cons_zero]
              have hS := hb5
              refine wpAnyH_one 3 (some 61) (.slice xa xm xc) rfl (by kernel_rfl) (by kernel_rfl) rfl (ex_app rfl rfl rfl HR5.out) (by exact hS) ?_
              simp only [Act.put, List.setIfInBounds_toArray, List.set_cons_succ, List.set_cons_zero]
              have hS := hb6
              refine wpAnyH_one 7 (some 65) (.slice ya ym yc) rfl (by kernel_rfl) (by kernel_rfl) rfl (ex_app rfl rfl rfl HR6.out) (by exact hS) ?_
              simp only [Act.put, List.setIfInBounds_toArray, List.set_cons_succ, List.set_cons_zero]
              refine wpAnyH_take_d 8 (some 7) (.slice ya ym yc) rfl (by kernel_rfl) (by kernel_rfl) (by kernel_rfl) (by kernel_rfl) rfl (fun _ _ _ h => h) (fun _ _ => by kernel_rfl) (by exact hS) ?_
              simp only [Act.put, List.setIfInBounds_toArray, List.set_cons_succ, List.set_cons_zero]
              refine wpAnyH_done (by kernel_rfl) ?_ _
              clear hS hbz hbA hb5 hb6 CX HBS HR5 HR6 R2
              by_cases h255 : 255 < ym
              · have d255 : (255 : Int) < (ym : Int) := by omega
                have HE2 := Lib.hid (show R = (.none, 2) by rw [HE.out, decide_eq_false (by rw [← hym.out]; omega)]; rfl)
                have bz1 := bz w6
                clear bz h255
                go_wp2_with (with_reducible refine wpList_store_rn rfl (.tmp 4) (.tmp 69) rfl (w.heap.size + 2) false (.slice none 0 0) (.slice none 0 0) (.slice none 0 0) rfl rfl #[.bool false, .slice none 0 0, .slice none 0 0, .slice none 0 0] hgz rfl (.mk _ _ _) (.mk _ _ _) (.mk _ _ _) B0 (by omega) ?_)
                rintro w8 ⟨s0, s1, s2, s3⟩ - B2 -
                go_wp2
                exact bodyPost_ret (v := .tuple #[zNd, .int .i64 2]) (by simp [results, Try.results26, go_sem, s0, s1, s2, s3]) rfl (by rw [HE2.out]; exact zNd_ret rfl B2)
              · have d255 : ¬ (255 : Int) < (ym : Int) := by omega
                have HE2 := Lib.hid (show R = (lf PL, 0) by rw [HE.out, decide_eq_true (by rw [← hym.out]; omega)]; rfl)
                have bl := build_rl (.slice ya ym yc) (.mk _ _ _) w6
                clear bz h255
                go_wp2_with (with_reducible refine wpList_store_rn rfl (.tmp 4) (.tmp 71) rfl (w.heap.size + 2) true (.slice ya ym yc) (.slice none 0 0) (.slice none 0 0) rfl rfl #[.bool false, .slice none 0 0, .slice none 0 0, .slice none 0 0] hgz rfl (.mk _ _ _) (.mk _ _ _) (.mk _ _ _) B0 (by omega) ?_)
                rintro w8 ⟨s0, s1, s2, s3⟩ - B2 hoth
                have FF : Hid (NdRet w R (.returned (.tuple #[.agg #[.bool true, .slice ya ym yc, .slice none 0 0, .slice none 0 0], .int .i64 0])) w8) := Lib.hid (by
                  rw [HE2.out]
                  exact ⟨_, rfl, ⟨_, _, _, rfl, (HO6.out.keepg (Nat.lt_succ_self _) hoth).base (by omega), OwnR.nil _ _ _, OwnR.nil _ _ _⟩, B2⟩)
                clear hoth
                go_wp2
                exact bodyPost_ret (v := .tuple #[.agg #[.bool true, .slice ya ym yc, .slice none 0 0, .slice none 0 0], .int .i64 0]) (by simp [results, Try.results26, go_sem, s0, s1, s2, s3]) rfl FF.out
end Go.Proofs.Ytjjdpclobkdbjaa
