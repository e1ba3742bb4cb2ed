/- The contract of node.Put. No statement of the seat is proved here. -/
import Derived.Test.YtdkmfcmndncmcaaNIns2
namespace Go.Proofs.Ytdkmfcmndncmcaa
set_option maxRecDepth 20000
open Go.RowKit

theorem cells_set : ∀ (l : List Pr) (k : Nat) (x : Pr), k < l.length → cells elP (l.set k x) = ((cells elP l).set (k * 2) (.string x.k)).set (k * 2 + 1) (.string x.v)
  | [], k, x, h => by simp at h
  | a :: r, 0, x, _ => rfl
  | a :: r, k + 1, x, h => by
    have ih := cells_set r k x (by simpa using h)
    have e : ∀ (q : List Pr), cells elP (a :: q) = .string a.k :: .string a.v :: cells elP q := fun _ => rfl
    rw [List.set_cons_succ, e, e, ih, show (k + 1) * 2 = (k * 2 + 1) + 1 by omega]
    simp only [List.set_cons_succ]
/-- a pair stored into a row of one's own -/
theorem OwnR.setP {base : Nat} {w : World} {ao : Option Addr} {m cap : Nat} {l : List Pr} (h : OwnR elP base w (.slice ao m cap) l) {k : Nat} (hk : k < l.length) (x : Pr) : ∃ g u u', ao = some ⟨g, 0, none⟩ ∧ m = l.length ∧ base ≤ g ∧ w.cell? ⟨g, k * 2, none⟩ = some u ∧ w.frozen? ⟨g, k * 2, none⟩ = false ∧ (w.setCell ⟨g, k * 2, none⟩ (.string x.k)).cell? ⟨g, k * 2 + 1, none⟩ = some u' ∧ (w.setCell ⟨g, k * 2, none⟩ (.string x.k)).frozen? ⟨g, k * 2 + 1, none⟩ = false ∧
    OwnR elP base ((w.setCell ⟨g, k * 2, none⟩ (.string x.k)).setCell ⟨g, k * 2 + 1, none⟩ (.string x.v)) (.slice (some ⟨g, 0, none⟩) m cap) (l.set k x) ∧ Below base w ((w.setCell ⟨g, k * 2, none⟩ (.string x.k)).setCell ⟨g, k * 2 + 1, none⟩ (.string x.v)) := by
  have hl : (cells elP l).length = l.length * 2 := cells_length okP l
  rcases h.2 with ⟨hv, hz⟩ | ⟨g, cap', cur, hv, hbg, hg, hr⟩
  · omega
  · obtain ⟨rfl, rfl, rfl⟩ : ao = some ⟨g, 0, none⟩ ∧ m = l.length ∧ cap = cap' := by cases hv; exact ⟨rfl, rfl, rfl⟩
    have ho : w.ownsRow base 50 2 (.slice (some ⟨g, 0, none⟩) l.length cap) l.length (cells elP l) := h
    have c0 := World.ownsRow.cellAt ho (k * 2) (by omega)
    have h2 := (World.ownsRow.stored ho (k * 2) (.string x.k)).1
    have c1 := World.ownsRow.cellAt h2 (k * 2 + 1) (by omega)
    rw [List.getElem?_set_ne (by omega)] at c1
    have h3 := (World.ownsRow.stored h2 (k * 2 + 1) (.string x.v)).1
    refine ⟨g, (cells elP l)[k * 2]'(by omega), (cells elP l)[k * 2 + 1]'(by omega), rfl, rfl, hbg, c0.trans (List.getElem?_eq_getElem (by omega)), World.ownsRow.frozenAt ho (k * 2), c1.trans (List.getElem?_eq_getElem (by omega)), World.ownsRow.frozenAt h2 (k * 2 + 1), ?_, ?_⟩
    · unfold OwnR
      rw [List.length_set, cells_set l k x hk]
      exact h3
    · have e1 : Below base w (w.setCell ⟨g, k * 2, none⟩ (.string x.k)) := ⟨rfl, rfl, rfl, by simp [World.setCell], fun j hj => Below.heap_setCell w _ _ j (by simp; omega)⟩
      exact e1.trans ⟨rfl, rfl, rfl, by simp [World.setCell], fun j hj => Below.heap_setCell _ _ _ j (by simp; omega)⟩
def putN (n : Nd) (x : Pr) : Nd × Int := if n.leaf && okN n && okN ⟨true, putL n.ps x, [], []⟩ then (⟨true, putL n.ps x, [], []⟩, 0) else (.none, 2)
def NdRet (w : World) (r : Nd × Int) (e : Ending) (w' : World) : Prop := ∃ v, e = .returned (.tuple #[v, .int .i64 r.2]) ∧ NdOwn w.heap.size w' v r.1 ∧ Below w.heap.size w w'
theorem put_small {n : Nd} (h : okN n = true) (hl : n.leaf = true) (x : Pr) : (putL n.ps x).length ≤ 256 := by
  obtain ⟨-, -, h3, h4, -⟩ := okL_true ((okN_leaf hl).symm.trans h)
  rw [put_length h4]
  split <;> omega
theorem leaf_small {l : List Pr} (h : l.length ≤ 1000) : (⟨true, l, [], []⟩ : Nd).small := ⟨by show l.length * 32 ≤ _; omega, by show 0 * 16 ≤ _; omega, by show 0 * 8 ≤ _; omega⟩
theorem zNd_ret {w w' : World} {E : Int} {e : Ending} (he : e = .returned (.tuple #[zNd, .int .i64 E])) (hb : Below w.heap.size w w') : NdRet w (.none, E) e w' := ⟨zNd, he, NdOwn.none _ _, hb⟩
set_option maxHeartbeats 6400000 in
theorem put_any {w : World} {v : Value} {n : Nd} (h : NdAt w.heap.size w v n) (x : Pr) : Calls Try.prog 27 #[v, prV x] w (NdRet w (putN n x)) := by
  have H := Lib.hid h
  obtain ⟨pv, kv, iv, rfl, h1, h2, h3⟩ := h
  obtain ⟨pa, pm, pc, rfl, hpm⟩ := h1.form
  obtain ⟨ka, km, kc, rfl, hkm⟩ := h2.form
  obtain ⟨ia, im, ic, rfl, him⟩ := h3.form
  generalize hlf : n.leaf = lf at *
  obtain ⟨xk, xv⟩ := x
  have hW : ∃ W0, ((w.alloc (ndO lf (.slice pa pm pc) (.slice ka km kc) (.slice ia im ic))).alloc (prO ⟨xk, xv⟩)).alloc zNdO = W0 := ⟨_, rfl⟩
  obtain ⟨W0, hW0⟩ := hW
  have hz : W0.heap.size = w.heap.size + 3 := by rw [← hW0]; simp
  have hb0 : Below (w.heap.size + 1) (w.alloc (ndO lf (.slice pa pm pc) (.slice ka km kc) (.slice ia im ic))) W0 := by
    rw [← hW0]; exact ((Below.refl _ _).alloc (by simp) _).alloc (by simp) _
  have hg1 : W0.heap[w.heap.size + 1]? = some (prO ⟨xk, xv⟩) := by
    rw [← hW0, Below.heap_alloc _ _ _ (by simp)]
    have := heap_alloc_new (w.alloc (ndO lf (.slice pa pm pc) (.slice ka km kc) (.slice ia im ic))) (prO ⟨xk, xv⟩)
    rwa [show (w.alloc (ndO lf (.slice pa pm pc) (.slice ka km kc) (.slice ia im ic))).heap.size = w.heap.size + 1 by simp] at this
  have hg2 : W0.heap[w.heap.size + 2]? = some zNdO := by
    rw [← hW0]
    have := heap_alloc_new ((w.alloc (ndO lf (.slice pa pm pc) (.slice ka km kc) (.slice ia im ic))).alloc (prO ⟨xk, xv⟩)) zNdO
    rwa [show ((w.alloc (ndO lf (.slice pa pm pc) (.slice ka km kc) (.slice ia im ic))).alloc (prO ⟨xk, xv⟩)).heap.size = w.heap.size + 2 by simp] at this
  -- what holds in every world that leaves the first three boxes
  have BF := Lib.hid (fun (w1 : World) (b : Below (w.heap.size + 3) W0 w1) => box_facts H.out (hb0.trans (b.mono (by omega))))
  have BP := Lib.hid (fun (w1 : World) (b : Below (w.heap.size + 3) W0 w1) => (b.block (w.heap.size + 1) (by omega)).trans hg1)
  have BZ := Lib.hid (fun (w1 : World) (b : Below (w.heap.size + 3) W0 w1) => (b.block (w.heap.size + 2) (by omega)).trans hg2)
  have bb : Below (w.heap.size + 3) W0 W0 := Below.refl _ _
  have fc := formed_any (BF.out _ bb).1
  obtain ⟨q0, q1, q2, q3⟩ := (BF.out _ bb).2.1
  have bz := build_nd
  have HZ := Lib.hid hz
  have H1 := Lib.hid h1
  clear h1 h2 h3 hb0 hg1 hg2 hz
  cases lf
  · have hp : putN n ⟨xk, xv⟩ = (.none, 2) := by unfold putN; rw [hlf]; rfl
    rw [hp]
    have hgz := BZ.out _ bb
    have B0 := (BF.out _ bb).2.2.1
    have bz1 := bz W0
    clear hp fc bz
    go_enter Try.func27, Try.ntmps27
    go_wp2_with (with_reducible refine wpList_store_nd rfl (.tmp 4) (.tmp 17) rfl (w.heap.size + 2) false (.slice none 0 0) (.slice none 0 0) (.slice none 0 0) rfl rfl #[.bool false, .slice none 0 0, .slice none 0 0, .slice none 0 0] hgz rfl (.mk _ _ _) (.mk _ _ _) (.mk _ _ _) B0 (by omega) ?_)
    rintro w2 ⟨s0, s1, s2, s3⟩ - B2 -
    go_wp2
    exact bodyPost_ret (v := .tuple #[zNd, .int .i64 2]) (by simp [results, Try.results27, go_sem, s0, s1, s2, s3]) rfl (zNd_ret rfl B2)
  · cases hk : okN n
    · have hp : putN n ⟨xk, xv⟩ = (.none, 2) := by unfold putN; rw [hlf, hk]; rfl
      rw [hp]
      rw [hk] at fc
      clear hp hk
      go_enter Try.func27, Try.ntmps27
      go_wp2_with fail
      refine Calls.mono fc ?_
      rintro e w1 ⟨rfl, b1⟩
      have b2 : Below (w.heap.size + 3) W0 w1 := bb.trans (b1.mono (by rw [HZ.out]; omega))
      have hgz := BZ.out _ b2
      have B0 := (BF.out _ b2).2.2.1
      have bz1 := bz w1
      clear fc bz b1 b2 q0 q1 q2 q3
      go_wp2_with (with_reducible refine wpList_store_nd rfl (.tmp 4) (.tmp 17) rfl (w.heap.size + 2) false (.slice none 0 0) (.slice none 0 0) (.slice none 0 0) rfl rfl #[.bool false, .slice none 0 0, .slice none 0 0, .slice none 0 0] hgz rfl (.mk _ _ _) (.mk _ _ _) (.mk _ _ _) B0 (by omega) ?_)
      rintro w2 ⟨s0, s1, s2, s3⟩ - B2 -
      go_wp2
      exact bodyPost_ret (v := .tuple #[zNd, .int .i64 2]) (by simp [results, Try.results27, go_sem, s0, s1, s2, s3]) rfl (zNd_ret rfl B2)
    · have hr := (okL_true ((okN_leaf hlf).symm.trans hk)).2.2.2.1
      have hl255 := (okL_true ((okN_leaf hlf).symm.trans hk)).2.2.1
      have hps := put_small hk hlf ⟨xk, xv⟩
      have hp : putN n ⟨xk, xv⟩ = if okN ⟨true, putL n.ps ⟨xk, xv⟩, [], []⟩ then (⟨true, putL n.ps ⟨xk, xv⟩, [], []⟩, 0) else (.none, 2) := by unfold putN; rw [hlf, hk]; rfl
      obtain ⟨R, hR⟩ : ∃ R, (if okN ⟨true, putL n.ps ⟨xk, xv⟩, [], []⟩ then ((⟨true, putL n.ps ⟨xk, xv⟩, [], []⟩ : Nd), (0 : Int)) else (.none, 2)) = R := ⟨_, rfl⟩
      rw [hp, hR]
      have HR := Lib.hid hR
      rw [hk] at fc
      clear hp hk hR
      go_enter Try.func27, Try.ntmps27
      go_wp2_with fail
      refine Calls.mono fc ?_
      rintro e w1 ⟨rfl, b1⟩
      have b2 : Below (w.heap.size + 3) W0 w1 := bb.trans (b1.mono (by rw [HZ.out]; omega))
      have hs1 : w.heap.size + 3 ≤ w1.heap.size := by have := b2.size; rw [HZ.out] at this; exact this
      obtain ⟨q0, q1, q2, q3⟩ := (BF.out _ b2).2.1
      have B1 := (BF.out _ b2).2.2.1
      have cl := cloneP_any ((H1.out.below B1).more B1.size)
      clear fc b1 B1 bb
      go_wp2_with fail
      refine Calls.mono cl ?_
      rintro e w3 ⟨vc, rfl, oc, b3⟩
      have b4 : Below (w.heap.size + 3) W0 w3 := b2.trans (b3.mono hs1)
      have hs3 : w.heap.size + 3 ≤ w3.heap.size := Nat.le_trans hs1 b3.size
      have pl := placeP_any (oc.at (by show n.ps.length * 32 ≤ _; omega)) hr xk
      have oc' : OwnR elP (w.heap.size + 3) w3 vc n.ps := oc.base hs1
      obtain ⟨ca, cm, cc, rfl, hcm⟩ := oc.form'
      obtain ⟨p0, p1⟩ := And.intro (show w3.cell? ⟨w.heap.size + 1, 0, none⟩ = some (.string xk) by rw [cell_of_row _ _ _ _ _ _ (BP.out _ b4)]; rfl) (show w3.cell? ⟨w.heap.size + 1, 1, none⟩ = some (.string xv) by rw [cell_of_row _ _ _ _ _ _ (BP.out _ b4)]; rfl)
      clear cl oc b3 b2 hs1 q0 q1 q2 q3
      go_wp2_with fail
      refine Calls.mono pl ?_
      rintro e w4 ⟨i, rfl, hpa, b5⟩
      have b6 : Below (w.heap.size + 3) W0 w4 := b4.trans (b5.mono hs3)
      have hs4 : w.heap.size + 3 ≤ w4.heap.size := Nat.le_trans hs3 b5.size
      have o4 := oc'.below b5
      have HPA := Lib.hid hpa
      have hil : i ≤ n.ps.length := by have := hpa.le; rwa [ksOf_length] at this
      obtain ⟨p0, p1⟩ := And.intro (show w4.cell? ⟨w.heap.size + 1, 0, none⟩ = some (.string xk) by rw [cell_of_row _ _ _ _ _ _ (BP.out _ b6)]; rfl) (show w4.cell? ⟨w.heap.size + 1, 1, none⟩ = some (.string xv) by rw [cell_of_row _ _ _ _ _ _ (BP.out _ b6)]; rfl)
      have FIN : Hid (∀ (w5 : World) (v5 : Value), Below (w.heap.size + 3) W0 w5 → OwnR elP (w.heap.size + 3) w5 v5 (putL n.ps ⟨xk, xv⟩) → Calls Try.prog 48 #[.agg #[.bool true, v5, .slice none 0 0, .slice none 0 0]] w5 fun e w' => e = .returned (.tuple #[if okN ⟨true, putL n.ps ⟨xk, xv⟩, [], []⟩ then .agg #[.bool true, v5, .slice none 0 0, .slice none 0 0] else zNd, .int .i64 (if okN ⟨true, putL n.ps ⟨xk, xv⟩, [], []⟩ then 0 else 2)]) ∧ Below w5.heap.size w5 w') := Lib.hid (fun w5 v5 _ o5 => inForm_any ⟨v5, _, _, rfl, o5.at (by show (putL n.ps ⟨xk, xv⟩).length * 32 ≤ _; omega), SlAt.nil _ _ _, SlAt.nil _ _ _⟩)
      clear pl oc' b5 b4 hs3 hpa
      obtain ⟨NN, hNN⟩ : ∃ NN : Nd, (⟨true, putL n.ps ⟨xk, xv⟩, [], []⟩ : Nd) = NN := ⟨_, rfl⟩
      rw [hNN] at FIN HR
      have HNN := Lib.hid hNN
      clear hNN
      cases ht : thereB (ksOf n.ps) xk i
      · have hput := ins_eq (p := ⟨xk, xv⟩) hr HPA.out ht
        have hbs := build_prs ⟨xk, xv⟩ w4
        have hvb := heap_alloc_new w4 (prO ⟨xk, xv⟩)
        have b7 := b6.alloc hs4 (prO ⟨xk, xv⟩)
        have ins := insP_any (o4.below (below_new w4 (prO ⟨xk, xv⟩))) hil hvb (fun e => by have := (World.ownsRow.lt o4 _ e.symm).2; omega) (by omega) (Nat.le_trans hs4 (by simp))
        rw [hput] at ins
        have hs7 : w.heap.size + 3 ≤ (w4.alloc (prO ⟨xk, xv⟩)).heap.size := Nat.le_trans hs4 (by simp)
        have HS7 := Lib.hid hs7
        simp only at hbs
        clear o4 hvb hput HPA hil ht b6 hs7
        go_wp2_with fail
        refine Calls.mono ins ?_
        rintro e w5 ⟨v5, rfl, o5, b8⟩
        have b9 : Below (w.heap.size + 3) W0 w5 := b7.trans b8
        have hb5 := build_leaf v5 o5.slv w5
        have fi := FIN.out w5 v5 b9 o5
        obtain ⟨va, vm, vc, rfl, hvm⟩ := o5.form'
        have hs5 : w.heap.size + 3 ≤ w5.heap.size := by have := b9.size; rw [HZ.out] at this; exact this
        clear ins b7 b8 hbs hs4 p0 p1
        go_wp2_with fail
        refine Calls.mono fi ?_
        rintro e w6 ⟨rfl, b10⟩
        have b11 : Below (w.heap.size + 3) W0 w6 := b9.trans (b10.mono hs5)
        have o6 := o5.below b10
        have hgz := BZ.out _ b11
        have B0 := (BF.out _ b11).2.2.1
        clear fi b9 b10 o5 hb5 bz hs5
        cases hok : okN NN
        · simp only [Bool.false_eq_true, if_false]
          go_wp2_with (with_reducible refine wpList_store_nd rfl (.tmp 4) (.tmp 41) rfl (w.heap.size + 2) false (.slice none 0 0) (.slice none 0 0) (.slice none 0 0) rfl rfl #[.bool false, .slice none 0 0, .slice none 0 0, .slice none 0 0] hgz rfl (.mk _ _ _) (.mk _ _ _) (.mk _ _ _) B0 (by omega) ?_)
          rintro w7 ⟨s0, s1, s2, s3⟩ - B2 -
          go_wp2
          exact bodyPost_ret (v := .tuple #[zNd, .int .i64 2]) (by simp [results, Try.results27, go_sem, s0, s1, s2, s3]) rfl (by rw [← HR.out, hok]; exact zNd_ret rfl B2)
        · simp only [if_true]
          go_wp2_with (with_reducible refine wpList_store_nd rfl (.tmp 4) (.tmp 41) rfl (w.heap.size + 2) true (.slice va vm vc) (.slice none 0 0) (.slice none 0 0) rfl rfl #[.bool false, .slice none 0 0, .slice none 0 0, .slice none 0 0] hgz rfl (.mk _ _ _) (.mk _ _ _) (.mk _ _ _) B0 (by omega) ?_)
          rintro w7 ⟨s0, s1, s2, s3⟩ - B2 hkk
          go_wp2
          exact bodyPost_ret (v := .tuple #[.agg #[.bool true, .slice va vm vc, .slice none 0 0, .slice none 0 0], .int .i64 0]) (by simp [results, Try.results27, go_sem, s0, s1, s2, s3]) rfl (by
            rw [← HR.out, hok, if_pos rfl, ← HNN.out]
            exact ⟨_, rfl, ⟨_, _, _, rfl, (o6.keepg (Nat.lt_succ_self _) hkk).base (by omega), OwnR.nil _ _ _, OwnR.nil _ _ _⟩, B2⟩)
      · have hput := set_eq (p := ⟨xk, xv⟩) hr HPA.out ht
        have hil2 : i < n.ps.length := by
          unfold thereB at ht
          simp only [Bool.and_eq_true, decide_eq_true_eq] at ht
          have := ht.1; rwa [ksOf_length] at this
        obtain ⟨g, u, u', rfl, rfl, hbg, k0, k1, k2, k3, o5, b7⟩ := o4.setP hil2 ⟨xk, xv⟩
        rw [hput] at o5
        have b9 : Below (w.heap.size + 3) W0 _ := b6.trans b7
        have hb5 := build_leaf (.slice (some ⟨g, 0, none⟩) n.ps.length cc) (.mk _ _ _) ((w4.setCell ⟨g, i * 2, none⟩ (.string xk)).setCell ⟨g, i * 2 + 1, none⟩ (.string xv))
        have fi := FIN.out _ _ b9 o5
        have hs5 := b9.size
        have HS5 := Lib.hid hs5
        have HO5 := Lib.hid o5
        have HB9 := Lib.hid b9
        simp only at k0 k1 k2 k3 hb5 fi
        obtain ⟨w5, hw5⟩ : ∃ w5, (w4.setCell ⟨g, i * 2, none⟩ (.string xk)).setCell ⟨g, i * 2 + 1, none⟩ (.string xv) = w5 := ⟨_, rfl⟩
        have o5' : OwnR elP (w.heap.size + 3) w5 (.slice (some ⟨g, 0, none⟩) n.ps.length cc) (putL n.ps ⟨xk, xv⟩) := by rw [← hw5]; exact o5
        have b9' : Below (w.heap.size + 3) W0 w5 := by rw [← hw5]; exact b9
        rw [hw5] at fi hb5
        obtain ⟨N, hN⟩ : ∃ N, n.ps.length = N := ⟨_, rfl⟩
        rw [hN] at fi hb5 o5' hil2 ⊢
        have hsz5 : w.heap.size + 3 ≤ w5.heap.size := by have := b9'.size; rw [HZ.out] at this; exact this
        clear o4 hput HPA hil ht b6 b7 b9 o5 HS5 HO5 HB9 hs5 hN
        go_wp2_with fail
        refine Calls.mono fi ?_
        rintro e w6 ⟨rfl, b10⟩
        have b11 : Below (w.heap.size + 3) W0 w6 := b9'.trans (b10.mono hsz5)
        have o6 := o5'.below b10
        have hgz := BZ.out _ b11
        have B0 := (BF.out _ b11).2.2.1
        clear fi b10 o5' hb5 bz
        cases hok : okN NN
        · simp only [Bool.false_eq_true, if_false]
          go_wp2_with (with_reducible refine wpList_store_nd rfl (.tmp 4) (.tmp 41) rfl (w.heap.size + 2) false (.slice none 0 0) (.slice none 0 0) (.slice none 0 0) rfl rfl #[.bool false, .slice none 0 0, .slice none 0 0, .slice none 0 0] hgz rfl (.mk _ _ _) (.mk _ _ _) (.mk _ _ _) B0 (by omega) ?_)
          rintro w7 ⟨s0, s1, s2, s3⟩ - B2 -
          go_wp2
          exact bodyPost_ret (v := .tuple #[zNd, .int .i64 2]) (by simp [results, Try.results27, go_sem, s0, s1, s2, s3]) rfl (by rw [← HR.out, hok]; exact zNd_ret rfl B2)
        · simp only [if_true]
          go_wp2_with (with_reducible refine wpList_store_nd rfl (.tmp 4) (.tmp 41) rfl (w.heap.size + 2) true (.slice (some ⟨g, 0, none⟩) N cc) (.slice none 0 0) (.slice none 0 0) rfl rfl #[.bool false, .slice none 0 0, .slice none 0 0, .slice none 0 0] hgz rfl (.mk _ _ _) (.mk _ _ _) (.mk _ _ _) B0 (by omega) ?_)
          rintro w7 ⟨s0, s1, s2, s3⟩ - B2 hkk
          go_wp2
          exact bodyPost_ret (v := .tuple #[.agg #[.bool true, .slice (some ⟨g, 0, none⟩) N cc, .slice none 0 0, .slice none 0 0], .int .i64 0]) (by simp [results, Try.results27, go_sem, s0, s1, s2, s3]) rfl (by
            rw [← HR.out, hok, if_pos rfl, ← HNN.out]
            exact ⟨_, rfl, ⟨_, _, _, rfl, (o6.keepg (Nat.lt_succ_self _) hkk).base (by omega), OwnR.nil _ _ _, OwnR.nil _ _ _⟩, B2⟩)
end Go.Proofs.Ytdkmfcmndncmcaa
