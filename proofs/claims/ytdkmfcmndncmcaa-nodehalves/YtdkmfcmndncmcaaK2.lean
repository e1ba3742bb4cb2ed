/- Texts that belong together, joined. No statement of the seat is proved here. -/
import Derived.Test.YtdkmfcmndncmcaaNDocF
import Derived.Test.YtdkmfcmndncmcaaK1
import Derived.Test.YtdkmfcmndncmcaaNWithout
import Derived.Test.YtdkmfcmndncmcaaNRight
import Derived.Test.YtdkmfcmndncmcaaNSplitI
/- The contract of the document's DocDrop. No statement of the seat is proved here. -/
namespace Go.Proofs.Ytdkmfcmndncmcaa
set_option maxRecDepth 20000
open Go.RowKit

theorem build_rz (w : World) : (Instr.build 26 #[]).run Try.prog w = .ok zNd w := run_build w 26 _ _ (by kernel_rfl)
theorem build_rl (v : Value) (hv : SlV v) (w : World) : (Instr.build 26 #[(0, .bool true), (1, v)]).run Try.prog w = .ok (.agg #[.bool true, v, .slice none 0 0, .slice none 0 0]) w := by
  obtain ⟨_, _, _, rfl⟩ := hv
  exact run_build w 26 _ _ (by kernel_rfl)
abbrev zrbO : Obj := rbO false (.slice none 0 0) (.slice none 0 0) (.slice none 0 0)
/-- what holds in each world behind a call's two boxes: its argument, and its result -/
structure Two (w w1 : World) (lf : Bool) (pv kv iv : Value) : Prop where
  cs : NdCells w1 w.heap.size lf pv kv iv
  z : w1.heap[w.heap.size + 1]? = some zrbO
  fr : Below w.heap.size w w1
  sz : w.heap.size + 2 ≤ w1.heap.size
theorem two_ex (w : World) (lf : Bool) (pv kv iv : Value) : ∃ SB : World → Prop, SB ((w.alloc (rbO lf pv kv iv)).alloc zrbO) ∧ (∀ w1 w2, SB w1 → Below w1.heap.size w1 w2 → SB w2) ∧ (∀ w1, SB w1 → SB w1.drew) ∧ (∀ w1, SB w1 → Two w w1 lf pv kv iv) ∧ ∀ w1 w2, SB w1 → Below (w.heap.size + 2) w1 w2 → SB w2 := by
  have hz : ((w.alloc (rbO lf pv kv iv)).alloc zrbO).heap.size = w.heap.size + 2 := by simp
  have h1 : (w.alloc (rbO lf pv kv iv)).heap.size = w.heap.size + 1 := by simp
  have hg := heap_alloc_new (w.alloc (rbO lf pv kv iv)) zrbO
  rw [h1] at hg
  have hb0 : Below (w.heap.size + 1) (w.alloc (rbO lf pv kv iv)) ((w.alloc (rbO lf pv kv iv)).alloc zrbO) := (Below.refl _ _).alloc (by simp) _
  refine ⟨fun w1 => Below (w.heap.size + 2) ((w.alloc (rbO lf pv kv iv)).alloc zrbO) w1, Below.refl _ _, fun w1 w2 h k => h.trans (k.mono (by have := h.size; omega)), fun _ h => h.drew, fun w1 h => ?_, fun w1 w2 h k => h.trans k⟩
  obtain ⟨c, b, -⟩ := rbox_facts (hb0.trans (h.mono (by omega)))
  exact ⟨c, (h.block (w.heap.size + 1) (by omega)).trans hg, b, by have := h.size; omega⟩
theorem len_has (l : List Pr) (x : ByteArray) : (l.filter (keep x)).length = l.length ↔ hasL l x = false := by
  rw [List.length_filter_eq_length_iff]
  unfold hasL keep
  rw [List.any_eq_false]
  constructor
  · intro h p hp
    have := h p hp
    simpa using this
  · intro h p hp
    have := h p hp
    simpa using this
set_option maxHeartbeats 6400000 in
theorem docDrop_any {w : World} {v : Value} {n : Nd} (h : NdAt w.heap.size w v n) (key : ByteArray) : Calls Try.prog 28 #[v, .string key] w (NdRet w (dropN n key)) := by
  have HN := h
  obtain ⟨pv, kv, iv, rfl, h1, h2, h3⟩ := h
  obtain ⟨pa, pm, pc, rfl, hpm⟩ := h1.form
  obtain ⟨ka, km, kc, rfl, -⟩ := h2.form
  obtain ⟨ia, im, ic, rfl, -⟩ := h3.form
  generalize hlf : n.leaf = lf at *
  obtain ⟨SB, hb0, SBc, -, two, SB2⟩ := two_ex w lf (.slice pa pm pc) (.slice ka km kc) (.slice ia im ic)
  have TW := Lib.hid two
  have hT := two _ hb0
  have rc := right_any (((HN.below hT.fr)).more hT.fr.size)
  obtain ⟨q0, q1, q2, q3⟩ := hT.cs
  have bz := build_rz
  have H1 := Lib.hid h1
  clear h1 h2 h3 two hT
  cases hk : okN n
  · have hp : dropN n key = (.none, 2) := by unfold dropN; rw [hk]; simp
    rw [hp]
    rw [hk] at rc
    clear hp hk hlf
    go_enter Try.func28, Try.ntmps28
    go_wp2_with fail
    refine Calls.mono rc ?_
    rintro e w1 ⟨rfl, b1⟩
    have hb := SBc _ _ hb0 b1
    obtain ⟨-, hgz, B0, -⟩ := TW.out _ hb
    have bz1 := bz w1
    clear rc bz b1 q0 q1 q2 q3
    go_wp2_with (with_reducible refine wpList_store_rn rfl (.tmp 4) (.tmp 15) rfl (w.heap.size + 1) false (.slice none 0 0) (.slice none 0 0) (.slice none 0 0) rfl rfl #[.bool false, .slice none 0 0, .slice none 0 0, .slice none 0 0] hgz rfl (.mk _ _ _) (.mk _ _ _) (.mk _ _ _) B0 (Nat.le_succ _) ?_)
    rintro w2 ⟨s0, s1, s2, s3⟩ - B2 -
    go_wp2
    exact bodyPost_ret (v := .tuple #[zNd, .int .i64 2]) (by simp [results, Try.results28, go_sem, s0, s1, s2, s3]) rfl (zNd_ret rfl B2)
  · rw [hk] at rc
    cases lf
    · have hp : dropN n key = (.none, 2) := by unfold dropN; rw [hlf]; rfl
      rw [hp]
      clear hp hk hlf
      go_enter Try.func28, Try.ntmps28
      go_wp2_with fail
      refine Calls.mono rc ?_
      rintro e w1 ⟨rfl, b1⟩
      have hb := SBc _ _ hb0 b1
      obtain ⟨⟨q0, q1, q2, q3⟩, hgz, B0, -⟩ := TW.out _ hb
      have bz1 := bz w1
      clear rc bz b1
      go_wp2_with (with_reducible refine wpList_store_rn rfl (.tmp 4) (.tmp 15) rfl (w.heap.size + 1) false (.slice none 0 0) (.slice none 0 0) (.slice none 0 0) rfl rfl #[.bool false, .slice none 0 0, .slice none 0 0, .slice none 0 0] hgz rfl (.mk _ _ _) (.mk _ _ _) (.mk _ _ _) B0 (Nat.le_succ _) ?_)
      rintro w2 ⟨s0, s1, s2, s3⟩ - B2 -
      go_wp2
      exact bodyPost_ret (v := .tuple #[zNd, .int .i64 2]) (by simp [results, Try.results28, go_sem, s0, s1, s2, s3]) rfl (zNd_ret rfl B2)
    · have hok := okL_true ((okN_leaf hlf).symm.trans hk)
      have hr := hok.2.2.2.1
      have hl255 := hok.2.2.1
      have hp : dropN n key = if hasL n.ps key then (⟨true, n.ps.filter (keep key), [], []⟩, 0) else (.none, 7) := by
        unfold dropN; rw [hlf, hk, del_filter (ris_pair hr)]; rfl
      obtain ⟨R, hR⟩ : ∃ R, (if hasL n.ps key then ((⟨true, n.ps.filter (keep key), [], []⟩ : Nd), (0 : Int)) else (.none, 7)) = R := ⟨_, rfl⟩
      rw [hp, hR]
      have HR := Lib.hid hR
      have HL := Lib.hid (len_has n.ps key)
      have HW := Lib.hid (fun (w1 : World) (b : Below w.heap.size w w1) => without_any ((H1.out.below b).more b.size) key (by omega))
      clear hp hR hok hr hk hlf
      go_enter Try.func28, Try.ntmps28
      go_wp2_with fail
      refine Calls.mono rc ?_
      rintro e w1 ⟨rfl, b1⟩
      have hb := SBc _ _ hb0 b1
      obtain ⟨⟨q0, q1, q2, q3⟩, -, B0, -⟩ := TW.out _ hb
      have hw1 := HW.out _ B0
      clear rc b1
      go_wp2_with fail
      refine Calls.mono hw1 ?_
      rintro e w2 ⟨v2, rfl, o2, b2⟩
      have hb2 := SBc _ _ hb b2
      have hsz := (TW.out _ hb).sz
      obtain ⟨⟨q0, q1, q2, q3⟩, hgz, B0, -⟩ := TW.out _ hb2
      obtain ⟨va, vm, vc, rfl, hvm⟩ := o2.form'
      have o3 : OwnR elP (w.heap.size + 2) w2 (.slice va vm vc) (n.ps.filter (keep key)) := o2.base hsz
      have HO := Lib.hid o3
      clear hw1 b2 o2 o3 hb hsz
      by_cases hq : vm = pm
      · have hh := HL.out.1 (by rw [← hvm.out, hq, hpm.out])
        have HE := Lib.hid (show R = (.none, 7) by rw [← HR.out, hh]; rfl)
        have dq : (((vm : Nat) : Int) == (pm : Int)) = true := by rw [beq_iff_eq]; omega
        have bz1 := bz w2
        clear hh bz hq
        go_wp2_with (with_reducible refine wpList_store_rn rfl (.tmp 4) (.tmp 26) rfl (w.heap.size + 1) false (.slice none 0 0) (.slice none 0 0) (.slice none 0 0) rfl rfl #[.bool false, .slice none 0 0, .slice none 0 0, .slice none 0 0] hgz rfl (.mk _ _ _) (.mk _ _ _) (.mk _ _ _) B0 (Nat.le_succ _) ?_)
        rintro w3 ⟨s0, s1, s2, s3⟩ - B2 -
        go_wp2
        exact bodyPost_ret (v := .tuple #[zNd, .int .i64 7]) (by simp [results, Try.results28, go_sem, s0, s1, s2, s3]) rfl (by rw [HE.out]; exact zNd_ret rfl B2)
      · have hh : hasL n.ps key = true := by
          cases h : hasL n.ps key
          · exact absurd (by rw [hvm.out, hpm.out]; exact HL.out.2 h) hq
          · rfl
        have HE := Lib.hid (show R = (⟨true, n.ps.filter (keep key), [], []⟩, 0) by rw [← HR.out, hh]; rfl)
        have dq : (((vm : Nat) : Int) == (pm : Int)) = false := by rw [beq_eq_false_iff_ne]; omega
        have bl := build_rl (.slice va vm vc) (.mk _ _ _) w2
        clear hh bz hq
        go_wp2_with (with_reducible refine wpList_store_rn rfl (.tmp 4) (.tmp 28) rfl (w.heap.size + 1) true (.slice va vm vc) (.slice none 0 0) (.slice none 0 0) rfl rfl #[.bool false, .slice none 0 0, .slice none 0 0, .slice none 0 0] hgz rfl (.mk _ _ _) (.mk _ _ _) (.mk _ _ _) B0 (Nat.le_succ _) ?_)
        rintro w3 ⟨s0, s1, s2, s3⟩ - B2 hoth
        have FF : Hid (NdRet w R (.returned (.tuple #[.agg #[.bool true, .slice va vm vc, .slice none 0 0, .slice none 0 0], .int .i64 0])) w3) := Lib.hid (by
          rw [HE.out]
          exact ⟨_, rfl, ⟨_, _, _, rfl, (HO.out.keepg (Nat.lt_succ_self _) hoth).base (by omega), OwnR.nil _ _ _, OwnR.nil _ _ _⟩, B2⟩)
        clear hoth
        go_wp2
        exact bodyPost_ret (v := .tuple #[.agg #[.bool true, .slice va vm vc, .slice none 0 0, .slice none 0 0], .int .i64 0]) (by simp [results, Try.results28, go_sem, s0, s1, s2, s3]) rfl FF.out
end Go.Proofs.Ytdkmfcmndncmcaa

/- The contract of the document's Size. No statement of the seat is proved here. -/
namespace Go.Proofs.Ytdkmfcmndncmcaa
set_option maxRecDepth 20000
open Go.RowKit

theorem w64 (z : Int) : wrap64 z = IntKind.i64.wrap z := by
  first
    | rfl
    | (rw [IntKind.wrap_i64]; unfold wrap64; omega)
set_option maxHeartbeats 3200000 in
theorem refSize_any {w : World} {v : Value} {n : Nd} (h : NdAt w.heap.size w v n) (hok : n.ok) : Calls Try.prog 21 #[v] w fun e w' => e = .returned (.int .i64 (IntKind.i64.wrap (sizN n : Nat))) ∧ Below w.heap.size w w' := by
  obtain ⟨pv, kv, iv, rfl, h1, h2, h3⟩ := h
  obtain ⟨pa, pm, pc, rfl, hpm⟩ := h1.form
  obtain ⟨ka, km, kc, rfl, hkm⟩ := h2.form
  obtain ⟨ia, im, ic, rfl, him⟩ := h3.form
  have i1 := h1.len okP
  have i2 := h2.len okS
  have i3 := h3.len okZ
  have HP := Lib.hid h1
  have HK2 := Lib.hid h2
  have HO1 := Lib.hid hok.1
  have HO := Lib.hid hok.2
  have RB := Lib.hid (fun (w1 : World) b => rbox_facts (W := w) (lf := n.leaf) (pv := .slice pa pm pc) (kv := .slice ka km kc) (iv := .slice ia im ic) (w1 := w1) b)
  have hsN : sizN n = if n.leaf then 2 + sizPs n.ps else 2 + 2 * n.is.length + sizKs n.ks := rfl
  obtain ⟨lf, hlf⟩ : ∃ b, n.leaf = b := ⟨_, rfl⟩
  rw [hlf] at RB hsN
  obtain ⟨SB, hb0, SBd, br, fin⟩ : ∃ SB : World → Prop, SB (w.alloc (rbO lf (.slice pa pm pc) (.slice ka km kc) (.slice ia im ic))) ∧ (∀ w', SB w' → SB w'.drew) ∧ (∀ w', SB w' → NdCells w' w.heap.size lf (.slice pa pm pc) (.slice ka km kc) (.slice ia im ic)) ∧ ∀ w', SB w' → Below w.heap.size w w' :=
    ⟨fun w' => Below (w.heap.size + 1) (w.alloc (rbO lf (.slice pa pm pc) (.slice ka km kc) (.slice ia im ic))) w', Below.refl _ _, fun _ h => h.drew, fun _ h => (RB.out _ h).1, fun _ h => (RB.out _ h).2.1⟩
  have BR := Lib.hid br
  have FIN := Lib.hid fin
  obtain ⟨q0, q1, q2, q3⟩ := br _ hb0
  rw [hlf]
  clear h1 h2 h3 RB br fin hok hlf
  cases lf
  · simp only [Bool.false_eq_true, if_false] at hsN
    rw [← him.out] at hsN i3
    rw [← hkm.out] at i2
    have HN := Lib.hid hsN
    have e1 : IntKind.i64.wrap (2 * (im : Int)) = 2 * im := wrap_small (by omega) (by omega)
    have e2 : IntKind.i64.wrap (2 + 2 * (im : Int)) = 2 + 2 * im := wrap_small (by omega) (by omega)
    clear hsN him hpm
    go_enter Try.func21, Try.ntmps21
    go_wp2
    clear q0 q1 q2 q3
    go_loopw [3, 5] (fun sv iv wr => ∃ (k : Nat) (s : Int), k ≤ km ∧ iv = .int .i64 k ∧ sv = .int .i64 s ∧ Hid (s = IntKind.i64.wrap ((2 + 2 * im + sizKs (n.ks.take k) : Nat) : Int)) ∧ SB wr) (fun _ iv _ => km - (intOf iv).toNat)
    case atStart => exact ⟨0, 2 + 2 * (im : Int), Nat.zero_le _, rfl, rfl, Lib.hid (by rw [wrap_small (by omega) (by simp [sizKs]; omega)]; simp [sizKs]), hb0⟩
    case round =>
      obtain ⟨k, s, hk, rfl, rfl, hs, hb⟩ := hrel
      obtain ⟨q0, q1, q2, q3⟩ := BR.out _ hb
      by_cases hlt : k < km
      · have hlt' : k < n.ks.length := by rw [← hkm.out]; exact hlt
        obtain ⟨b, off, cap', hv, hB, hc1⟩ := HK2.out.getS hlt'
        obtain ⟨rfl, -, rfl⟩ : ka = some ⟨b, off, none⟩ ∧ km = n.ks.length ∧ kc = cap' := by cases hv; exact ⟨rfl, rfl, rfl⟩
        have d1 := ((FIN.out _ hb).cell (p := ⟨b, off + k, none⟩) hB).trans hc1
        clear hv hc1
        have hst := sizKs_take n.ks hlt'
        have hxo := HO.out _ (kAt_mem hlt')
        generalize kAt n.ks k = x at *
        obtain ⟨s', hs'⟩ : ∃ s', wrap64 (wrap64 (s + 1) + (x.size : Int)) = s' := ⟨_, rfl⟩
        have HS : Hid (s' = IntKind.i64.wrap ((2 + 2 * im + sizKs (n.ks.take (k + 1)) : Nat) : Int)) := Lib.hid (by
          rw [hst, ← hs', hs.out]
          rw [w64, w64, wrap_idem ((2 + 2 * im + sizKs (n.ks.take k) : Nat) : Int) 1, wrap_idem]
          congr 1; push_cast; omega)
        clear hs hst e1 e2
        go_wp2
        go_roundw
        case rel => exact ⟨k + 1, s', by omega, by go_num, by first | rfl | exact congrArg (Value.int .i64) hs', HS, hb⟩
        case measure => simp [intOf]; omega
      · have HS : Hid (s = IntKind.i64.wrap (sizN n : Nat)) := Lib.hid (by rw [hs.out, HN.out, List.take_of_length_le (by have := hkm.out; omega)])
        clear hs
        go_wp2
        go_ret
        exact ⟨by rw [← HS.out]; rfl, FIN.out _ hb⟩
  · simp only [if_true] at hsN
    rw [← hpm.out] at i1
    have HN := Lib.hid hsN
    clear hsN
    go_enter Try.func21, Try.ntmps21
    go_wp2
    clear q0 q1 q2 q3
    go_loopw [3, 4] (fun sv iv wr => ∃ (k : Nat) (s : Int), k ≤ pm ∧ iv = .int .i64 k ∧ sv = .int .i64 s ∧ Hid (s = IntKind.i64.wrap ((2 + sizPs (n.ps.take k) : Nat) : Int)) ∧ SB wr) (fun _ iv _ => pm - (intOf iv).toNat)
    case atStart => exact ⟨0, 2, Nat.zero_le _, rfl, rfl, Lib.hid (by simp [sizPs]; rfl), hb0⟩
    case round =>
      obtain ⟨k, s, hk, rfl, rfl, hs, hb⟩ := hrel
      obtain ⟨q0, q1, q2, q3⟩ := BR.out _ hb
      by_cases hlt : k < pm
      · have hlt' : k < n.ps.length := by rw [← hpm.out]; exact hlt
        obtain ⟨pb, poff, cap', hv, hB, hc1, hc2⟩ := HP.out.getP hlt'
        obtain ⟨rfl, -, rfl⟩ : pa = some ⟨pb, poff, none⟩ ∧ pm = n.ps.length ∧ pc = cap' := by cases hv; exact ⟨rfl, rfl, rfl⟩
        have D1 := Lib.hid (fun w' (h : SB w') => ((FIN.out _ h).cell (p := ⟨pb, poff + k * 2, none⟩) hB).trans hc1)
        have D2 := Lib.hid (fun w' (h : SB w') => ((FIN.out _ h).cell (p := ⟨pb, poff + k * 2 + 1, none⟩) hB).trans hc2)
        have hst := sizPs_take n.ps hlt'
        have hxo := HO1.out _ (prAt_mem hlt')
        clear hv hc1 hc2
        generalize prAt n.ps k = x at *
        obtain ⟨xk, xv⟩ := x
        obtain ⟨o1, o2⟩ := hxo
        simp only at o1 o2 hst
        obtain ⟨s1, hs1⟩ : ∃ s1, IntKind.i64.wrap (s + 2) = s1 := ⟨_, rfl⟩
        obtain ⟨s2, hs2⟩ : ∃ s2, IntKind.i64.wrap (s1 + (xk.size : Int)) = s2 := ⟨_, rfl⟩
        obtain ⟨s3, hs3⟩ : ∃ s3, IntKind.i64.wrap (s2 + (xv.size : Int)) = s3 := ⟨_, rfl⟩
        have HS : Hid (s3 = IntKind.i64.wrap ((2 + sizPs (n.ps.take (k + 1)) : Nat) : Int)) := Lib.hid (by
          rw [hst, ← hs3, ← hs2, ← hs1, hs.out, wrap_idem ((2 + sizPs (n.ps.take k) : Nat) : Int) 2, wrap_idem (((2 + sizPs (n.ps.take k) : Nat) : Int) + 2) (xk.size : Int), wrap_idem]
          congr 1; push_cast; omega)
        clear hs hst
        go_wp2_with fail
        clear q0 q1 q2 q3
        have hS := SBd _ hb
        refine wp_region_held_drew (S := SB) mixed hS (fun _ => ?_)
        show wpAnyH _ _ _ _ _ 19 (Array.replicate 19 false) _ _
        refine wpAnyH_take_d 0 (some 15) (.int .i64 s) rfl (by kernel_rfl) (by kernel_rfl) (by kernel_rfl) (by kernel_rfl) rfl (fun _ _ _ h => h) (fun _ _ => by kernel_rfl) (by exact hS) ?_
        simp only [Act.put, List.setIfInBounds_toArray, List.set_cons_succ, List.set_cons_zero]
        refine wpAnyH_take_d 1 (some 16) (.int .i64 s1) rfl (by kernel_rfl) (by kernel_rfl) (by kernel_rfl) (by kernel_rfl) rfl (fun _ _ _ h => h) (fun _ _ => ex_add rfl rfl rfl hs1) (by exact hS) ?_
        simp only [Act.put, List.setIfInBounds_toArray, List.set_cons_succ, List.set_cons_zero]
        refine wpAnyH_take_d 2 (some 17) (.pointer (some ⟨w.heap.size, 1, none⟩)) rfl (by kernel_rfl) (by kernel_rfl) (by kernel_rfl) (by kernel_rfl) rfl (fun _ _ _ h => h) (fun _ _ => by kernel_rfl) (by exact hS) ?_
        simp only [Act.put, List.setIfInBounds_toArray, List.set_cons_succ, List.set_cons_zero]
        refine wpAnyH_take_d 3 (some 18) (.slice (some ⟨pb, poff, none⟩) pm pc) rfl (by kernel_rfl) (by kernel_rfl) (by kernel_rfl) (by kernel_rfl) rfl (fun _ _ _ h => h) (fun w' h => exec_load_cell rfl rfl (BR.out _ h).c1 Try.underlying22 rfl) (by exact hS) ?_
        simp only [Act.put, List.setIfInBounds_toArray, List.set_cons_succ, List.set_cons_zero]
        refine wpAnyH_take_d 4 (some 19) (.int .i64 k) rfl (by kernel_rfl) (by kernel_rfl) (by kernel_rfl) (by kernel_rfl) rfl (fun _ _ _ h => h) (fun _ _ => by kernel_rfl) (by exact hS) ?_
        simp only [Act.put, List.setIfInBounds_toArray, List.set_cons_succ, List.set_cons_zero]
        refine wpAnyH_take_d 5 (some 20) (.pointer (some ⟨pb, poff + k * 2, none⟩)) rfl (by kernel_rfl) (by kernel_rfl) (by kernel_rfl) (by kernel_rfl) rfl (fun _ _ _ h => h) (fun _ _ => ex_index 2 rfl rfl rfl hlt Try.underlying22 szPr) (by exact hS) ?_
        simp only [Act.put, List.setIfInBounds_toArray, List.set_cons_succ, List.set_cons_zero]
        refine wpAnyH_take_d 6 (some 21) (.pointer (some ⟨pb, poff + k * 2, none⟩)) rfl (by kernel_rfl) (by kernel_rfl) (by kernel_rfl) (by kernel_rfl) rfl (fun _ _ _ h => h) (fun _ _ => by kernel_rfl) (by exact hS) ?_
        simp only [Act.put, List.setIfInBounds_toArray, List.set_cons_succ, List.set_cons_zero]
        refine wpAnyH_take_d 7 (some 22) (.string xk) rfl (by kernel_rfl) (by kernel_rfl) (by kernel_rfl) (by kernel_rfl) rfl (fun _ _ _ h => h) (fun w' h => exec_load_cell rfl rfl (D1.out _ h) Try.underlying9 rfl) (by exact hS) ?_
        simp only [Act.put, List.setIfInBounds_toArray, List.set_cons_succ, List.set_cons_zero]
        refine wpAnyH_take_d 8 (some 23) (.int .i64 (xk.size : Nat)) rfl (by kernel_rfl) (by kernel_rfl) (by kernel_rfl) (by kernel_rfl) rfl (fun _ _ _ h => h) (fun _ _ => ex_slen rfl rfl Try.underlying9) (by exact hS) ?_
        simp only [Act.put, List.setIfInBounds_toArray, List.set_cons_succ, List.set_cons_zero]
        refine wpAnyH_take_d 9 (some 24) (.int .i64 s2) rfl (by kernel_rfl) (by kernel_rfl) (by kernel_rfl) (by kernel_rfl) rfl (fun _ _ _ h => h) (fun _ _ => ex_add rfl rfl rfl hs2) (by exact hS) ?_
        simp only [Act.put, List.setIfInBounds_toArray, List.set_cons_succ, List.set_cons_zero]
        refine wpAnyH_take_d 10 (some 25) (.pointer (some ⟨w.heap.size, 1, none⟩)) rfl (by kernel_rfl) (by kernel_rfl) (by kernel_rfl) (by kernel_rfl) rfl (fun _ _ _ h => h) (fun _ _ => by kernel_rfl) (by exact hS) ?_
        simp only [Act.put, List.setIfInBounds_toArray, List.set_cons_succ, List.set_cons_zero]
        refine wpAnyH_take_d 11 (some 26) (.slice (some ⟨pb, poff, none⟩) pm pc) rfl (by kernel_rfl) (by kernel_rfl) (by kernel_rfl) (by kernel_rfl) rfl (fun _ _ _ h => h) (fun w' h => exec_load_cell rfl rfl (BR.out _ h).c1 Try.underlying22 rfl) (by exact hS) ?_
        simp only [Act.put, List.setIfInBounds_toArray, List.set_cons_succ, List.set_cons_zero]
        refine wpAnyH_take_d 12 (some 27) (.int .i64 k) rfl (by kernel_rfl) (by kernel_rfl) (by kernel_rfl) (by kernel_rfl) rfl (fun _ _ _ h => h) (fun _ _ => by kernel_rfl) (by exact hS) ?_
        simp only [Act.put, List.setIfInBounds_toArray, List.set_cons_succ, List.set_cons_zero]
        refine wpAnyH_take_d 13 (some 28) (.pointer (some ⟨pb, poff + k * 2, none⟩)) rfl (by kernel_rfl) (by kernel_rfl) (by kernel_rfl) (by kernel_rfl) rfl (fun _ _ _ h => h) (fun _ _ => ex_index 2 rfl rfl rfl hlt Try.underlying22 szPr) (by exact hS) ?_
        simp only [Act.put, List.setIfInBounds_toArray, List.set_cons_succ, List.set_cons_zero]
        refine wpAnyH_take_d 14 (some 29) (.pointer (some ⟨pb, poff + k * 2 + 1, none⟩)) rfl (by kernel_rfl) (by kernel_rfl) (by kernel_rfl) (by kernel_rfl) rfl (fun _ _ _ h => h) (fun _ _ => by kernel_rfl) (by exact hS) ?_
        simp only [Act.put, List.setIfInBounds_toArray, List.set_cons_succ, List.set_cons_zero]
        refine wpAnyH_take_d 15 (some 30) (.string xv) rfl (by kernel_rfl) (by kernel_rfl) (by kernel_rfl) (by kernel_rfl) rfl (fun _ _ _ h => h) (fun w' h => exec_load_cell rfl rfl (D2.out _ h) Try.underlying9 rfl) (by exact hS) ?_
        simp only [Act.put, List.setIfInBounds_toArray, List.set_cons_succ, List.set_cons_zero]
        refine wpAnyH_take_d 16 (some 31) (.int .i64 (xv.size : Nat)) rfl (by kernel_rfl) (by kernel_rfl) (by kernel_rfl) (by kernel_rfl) rfl (fun _ _ _ h => h) (fun _ _ => ex_slen rfl rfl Try.underlying9) (by exact hS) ?_
        simp only [Act.put, List.setIfInBounds_toArray, List.set_cons_succ, List.set_cons_zero]
        refine wpAnyH_take_d 17 (some 32) (.int .i64 s3) rfl (by kernel_rfl) (by kernel_rfl) (by kernel_rfl) (by kernel_rfl) rfl (fun _ _ _ h => h) (fun _ _ => ex_add rfl rfl rfl hs3) (by exact hS) ?_
        simp only [Act.put, List.setIfInBounds_toArray, List.set_cons_succ, List.set_cons_zero]
        refine wpAnyH_take_d 18 (some 3) (.int .i64 s3) rfl (by kernel_rfl) (by kernel_rfl) (by kernel_rfl) (by kernel_rfl) rfl (fun _ _ _ h => h) (fun _ _ => by kernel_rfl) (by exact hS) ?_
        simp only [Act.put, List.setIfInBounds_toArray, List.set_cons_succ, List.set_cons_zero]
        refine wpAnyH_done (by kernel_rfl) ?_ _
        clear hs1 hs2 hs3 D1 D2
        go_wp2
        go_roundw
        case rel => exact ⟨k + 1, s3, by omega, by go_num, rfl, HS, hS⟩
        case measure => simp [intOf]; omega
      · have HS : Hid (s = IntKind.i64.wrap (sizN n : Nat)) := Lib.hid (by rw [hs.out, HN.out, List.take_of_length_le (by have := hpm.out; omega)])
        clear hs
        go_wp2
        go_ret
        exact ⟨by rw [← HS.out]; rfl, FIN.out _ hb⟩
end Go.Proofs.Ytdkmfcmndncmcaa

/- The contract of the document's DocSplit: its refusals. No statement of the seat is proved here. -/
namespace Go.Proofs.Ytdkmfcmndncmcaa
set_option maxRecDepth 20000
open Go.RowKit

structure RplW (w : World) (lf : Bool) (pv kv iv : Value) (n : Nd) (w1 : World) : Prop where
  at_ : NdAt w1.heap.size w1 (.agg #[.bool lf, pv, kv, iv]) n
  cs : NdCells w1 w.heap.size lf pv kv iv
  z1 : w1.heap[w.heap.size + 1]? = some zrbO
  z2 : w1.heap[w.heap.size + 2]? = some zrbO
  fr : Below w.heap.size w w1
  sz : w.heap.size + 3 ≤ w1.heap.size
theorem RplW.below {w w1 w2 : World} {lf : Bool} {pv kv iv : Value} {n : Nd} (h : RplW w lf pv kv iv n w1) (b : Below (w.heap.size + 3) w1 w2) (hn : NdAt w.heap.size w (.agg #[.bool lf, pv, kv, iv]) n) : RplW w lf pv kv iv n w2 := by
  have fr := h.fr.trans (b.mono (by omega))
  have c := fun j => World.cell?_of_block (w := w1) (w' := w2) (a := ⟨w.heap.size, j, none⟩) (b.block w.heap.size (by omega))
  exact ⟨(hn.below fr).more fr.size, ⟨(c 0).trans h.cs.c0, (c 1).trans h.cs.c1, (c 2).trans h.cs.c2, (c 3).trans h.cs.c3⟩, (b.block _ (by omega)).trans h.z1, (b.block _ (by omega)).trans h.z2, fr, Nat.le_trans h.sz b.size⟩
theorem rpl_start {w : World} {lf : Bool} {pv kv iv : Value} {n : Nd} (hn : NdAt w.heap.size w (.agg #[.bool lf, pv, kv, iv]) n) : RplW w lf pv kv iv n (((w.alloc (rbO lf pv kv iv)).alloc zrbO).alloc zrbO) := by
  have s1 : (w.alloc (rbO lf pv kv iv)).heap.size = w.heap.size + 1 := by simp
  have s2 : ((w.alloc (rbO lf pv kv iv)).alloc zrbO).heap.size = w.heap.size + 2 := by simp
  have s3 : (((w.alloc (rbO lf pv kv iv)).alloc zrbO).alloc zrbO).heap.size = w.heap.size + 3 := by simp
  have a0 := heap_alloc_new w (rbO lf pv kv iv)
  have a1 := heap_alloc_new (w.alloc (rbO lf pv kv iv)) zrbO
  have a2 := heap_alloc_new ((w.alloc (rbO lf pv kv iv)).alloc zrbO) zrbO
  rw [s1] at a1
  rw [s2] at a2
  have b1 : Below (w.heap.size + 1) (w.alloc (rbO lf pv kv iv)) ((w.alloc (rbO lf pv kv iv)).alloc zrbO) := (Below.refl _ _).alloc (by omega) _
  have b2 : Below (w.heap.size + 2) ((w.alloc (rbO lf pv kv iv)).alloc zrbO) (((w.alloc (rbO lf pv kv iv)).alloc zrbO).alloc zrbO) := (Below.refl _ _).alloc (by omega) _
  have fr : Below w.heap.size w (((w.alloc (rbO lf pv kv iv)).alloc zrbO).alloc zrbO) := (below_new _ _).trans ((b1.mono (by omega)).trans (b2.mono (by omega)))
  exact ⟨(hn.below fr).more fr.size, NdCells.of ((b2.block _ (by omega)).trans ((b1.block _ (by omega)).trans a0)), (b2.block _ (by omega)).trans a1, a2, fr, by omega⟩
set_option maxHeartbeats 3200000 in
theorem docSplit_no {w : World} {v : Value} {n : Nd} (h : NdAt w.heap.size w v n) (hk : okN n = false) : Calls Try.prog 30 #[v] w (SplRet w .none ⟨#[]⟩ .none 2) := by
  have HN := Lib.hid h
  obtain ⟨pv, kv, iv, rfl, h1, h2, h3⟩ := h
  obtain ⟨pa, pm, pc, rfl, hpm⟩ := h1.form
  obtain ⟨ka, km, kc, rfl, hkm⟩ := h2.form
  obtain ⟨ia, im, ic, rfl, him⟩ := h3.form
  have F := rpl_start (w := w) (lf := n.leaf) (n := n) ⟨_, _, _, rfl, h1, h2, h3⟩
  have FB := Lib.hid (fun (w1 w2 : World) (f : RplW w n.leaf (.slice pa pm pc) (.slice ka km kc) (.slice ia im ic) n w1) (b : Below w1.heap.size w1 w2) => f.below (b.mono f.sz) ⟨_, _, _, rfl, h1, h2, h3⟩)
  have fc := right_any F.at_
  obtain ⟨q0, q1, q2, q3⟩ := F.cs
  have bz := build_rz
  rw [hk] at fc
  clear h1 h2 h3 hpm hkm him hk HN
  generalize n.leaf = lf at *
  go_enter Try.func30, Try.ntmps30
  go_wp2_with fail
  refine fc.mono ?_
  rintro e w4 ⟨rfl, b4⟩
  have F := FB.out _ _ F b4
  clear fc b4 FB q0 q1 q2 q3
  have bz1 := bz w4
  have z1 := F.z1
  have z2 := F.z2
  have fr := F.fr
  clear F
  go_wp2_with (with_reducible refine wpList_store_rn (a0 := w) (B := w.heap.size) rfl (.tmp 2) (.tmp 15) rfl (w.heap.size + 1) false (.slice none 0 0) (.slice none 0 0) (.slice none 0 0) rfl rfl #[.bool false, .slice none 0 0, .slice none 0 0, .slice none 0 0] z1 rfl (.mk _ _ _) (.mk _ _ _) (.mk _ _ _) fr (Nat.le_succ _) ?_)
  rintro w5 - hn5 b5 k5
  have z2 := (k5 (w.heap.size + 2) (by omega)).trans z2
  go_wp2_with (with_reducible refine wpList_store_rn (a0 := w) (B := w.heap.size) rfl (.tmp 4) (.tmp 16) rfl (w.heap.size + 2) false (.slice none 0 0) (.slice none 0 0) (.slice none 0 0) rfl rfl #[.bool false, .slice none 0 0, .slice none 0 0, .slice none 0 0] z2 rfl (.mk _ _ _) (.mk _ _ _) (.mk _ _ _) b5 (by omega) ?_)
  rintro w6 ⟨t0, t1, t2, t3⟩ - b6 k6
  obtain ⟨r0, r1, r2, r3⟩ := NdCells.of ((k6 (w.heap.size + 1) (by omega)).trans hn5)
  go_wp2
  exact bodyPost_ret (v := .tuple #[zNd, .string ⟨#[]⟩, zNd, .int .i64 2]) (by simp [results, Try.results30, go_sem, r0, r1, r2, r3, t0, t1, t2, t3]) rfl ⟨_, _, rfl, NdOwn.none _ _, NdOwn.none _ _, b6⟩
set_option maxHeartbeats 3200000 in
theorem docSplit_few {w : World} {v : Value} {n : Nd} (h : NdAt w.heap.size w v n) (hk : okN n = true) (hf : if n.leaf then n.ps.length < 2 else n.is.length < 4) : Calls Try.prog 30 #[v] w (SplRet w .none ⟨#[]⟩ .none 7) := by
  obtain ⟨pv, kv, iv, rfl, h1, h2, h3⟩ := h
  obtain ⟨pa, pm, pc, rfl, hpm⟩ := h1.form
  obtain ⟨ka, km, kc, rfl, hkm⟩ := h2.form
  obtain ⟨ia, im, ic, rfl, him⟩ := h3.form
  have F := rpl_start (w := w) (lf := n.leaf) (n := n) ⟨_, _, _, rfl, h1, h2, h3⟩
  have FB := Lib.hid (fun (w1 w2 : World) (f : RplW w n.leaf (.slice pa pm pc) (.slice ka km kc) (.slice ia im ic) n w1) (b : Below w1.heap.size w1 w2) => f.below (b.mono f.sz) ⟨_, _, _, rfl, h1, h2, h3⟩)
  have fc := right_any F.at_
  obtain ⟨q0, q1, q2, q3⟩ := F.cs
  have bz := build_rz
  rw [hk] at fc
  rw [← hpm.out, ← him.out] at hf
  clear h1 h2 h3 hpm hkm him hk
  generalize n.leaf = lf at *
  cases lf
  · have hf : im < 4 := hf
    have d1 : (im : Int) < 4 := by omega
    go_enter Try.func30, Try.ntmps30
    go_wp2_with fail
    refine fc.mono ?_
    rintro e w4 ⟨rfl, b4⟩
    have F := FB.out _ _ F b4
    obtain ⟨q0, q1, q2, q3⟩ := F.cs
    clear fc b4 FB
    have bz1 := bz w4
    have z1 := F.z1
    have z2 := F.z2
    have fr := F.fr
    clear F
    go_wp2_with (with_reducible refine wpList_store_rn (a0 := w) (B := w.heap.size) rfl (.tmp 2) (.tmp 36) rfl (w.heap.size + 1) false (.slice none 0 0) (.slice none 0 0) (.slice none 0 0) rfl rfl #[.bool false, .slice none 0 0, .slice none 0 0, .slice none 0 0] z1 rfl (.mk _ _ _) (.mk _ _ _) (.mk _ _ _) fr (Nat.le_succ _) ?_)
    rintro w5 - hn5 b5 k5
    have z2 := (k5 (w.heap.size + 2) (by omega)).trans z2
    go_wp2_with (with_reducible refine wpList_store_rn (a0 := w) (B := w.heap.size) rfl (.tmp 4) (.tmp 37) rfl (w.heap.size + 2) false (.slice none 0 0) (.slice none 0 0) (.slice none 0 0) rfl rfl #[.bool false, .slice none 0 0, .slice none 0 0, .slice none 0 0] z2 rfl (.mk _ _ _) (.mk _ _ _) (.mk _ _ _) b5 (by omega) ?_)
    rintro w6 ⟨t0, t1, t2, t3⟩ - b6 k6
    obtain ⟨r0, r1, r2, r3⟩ := NdCells.of ((k6 (w.heap.size + 1) (by omega)).trans hn5)
    go_wp2
    exact bodyPost_ret (v := .tuple #[zNd, .string ⟨#[]⟩, zNd, .int .i64 7]) (by simp [results, Try.results30, go_sem, r0, r1, r2, r3, t0, t1, t2, t3]) rfl ⟨_, _, rfl, NdOwn.none _ _, NdOwn.none _ _, b6⟩
  · have hf : pm < 2 := hf
    have d1 : (pm : Int) < 2 := by omega
    go_enter Try.func30, Try.ntmps30
    go_wp2_with fail
    refine fc.mono ?_
    rintro e w4 ⟨rfl, b4⟩
    have F := FB.out _ _ F b4
    obtain ⟨q0, q1, q2, q3⟩ := F.cs
    clear fc b4 FB
    have bz1 := bz w4
    have z1 := F.z1
    have z2 := F.z2
    have fr := F.fr
    clear F
    go_wp2_with (with_reducible refine wpList_store_rn (a0 := w) (B := w.heap.size) rfl (.tmp 2) (.tmp 36) rfl (w.heap.size + 1) false (.slice none 0 0) (.slice none 0 0) (.slice none 0 0) rfl rfl #[.bool false, .slice none 0 0, .slice none 0 0, .slice none 0 0] z1 rfl (.mk _ _ _) (.mk _ _ _) (.mk _ _ _) fr (Nat.le_succ _) ?_)
    rintro w5 - hn5 b5 k5
    have z2 := (k5 (w.heap.size + 2) (by omega)).trans z2
    go_wp2_with (with_reducible refine wpList_store_rn (a0 := w) (B := w.heap.size) rfl (.tmp 4) (.tmp 37) rfl (w.heap.size + 2) false (.slice none 0 0) (.slice none 0 0) (.slice none 0 0) rfl rfl #[.bool false, .slice none 0 0, .slice none 0 0, .slice none 0 0] z2 rfl (.mk _ _ _) (.mk _ _ _) (.mk _ _ _) b5 (by omega) ?_)
    rintro w6 ⟨t0, t1, t2, t3⟩ - b6 k6
    obtain ⟨r0, r1, r2, r3⟩ := NdCells.of ((k6 (w.heap.size + 1) (by omega)).trans hn5)
    go_wp2
    exact bodyPost_ret (v := .tuple #[zNd, .string ⟨#[]⟩, zNd, .int .i64 7]) (by simp [results, Try.results30, go_sem, r0, r1, r2, r3, t0, t1, t2, t3]) rfl ⟨_, _, rfl, NdOwn.none _ _, NdOwn.none _ _, b6⟩
/-- a list's own block is no node's block -/
theorem OwnR.ner {α : Type} {E : El α} {base A : Nat} {w w1 : World} {v : Value} {l : List α} {cs : Array Value} (h : OwnR E base w v l) (hA : w.heap[A]? = some (.cells cs 26 (0, 0))) (ht : E.t ≠ 26) (hk : ∀ k, k ≠ A → w1.heap[k]? = w.heap[k]?) : OwnR E base w1 v l := by
  refine ⟨h.1, ?_⟩
  rcases h.2 with h2 | ⟨g, cap, cur, hv, hg, hh, r⟩
  · exact .inl h2
  · refine .inr ⟨g, cap, cur, hv, hg, (hk g ?_).trans hh, r⟩
    rintro rfl
    rw [hA] at hh
    injection hh with e
    injection e with _ e2 _
    exact ht e2.symm
theorem OwnR.made {α : Type} (E : El α) (w : World) : OwnR E w.heap.size (w.alloc (.cells #[] E.t)) (.slice (some ⟨w.heap.size, 0, none⟩) 0 0) [] := World.ownsRow_made w #[] 0 (Nat.le_refl _) (by simp [maxLen]) (by simp)
/-- an append beside other rows and blocks: those of another kind stay -/
theorem app_step {α : Type} {E : El α} (hE : ElOk E) {base : Nat} {w : World} {v : Value} {l : List α} (h : OwnR E base w v l) {B : Nat} {x : Value} {m : List α} (hx : SlAt E B w x m) (hlen : (l.length + m.length) * E.bytes ≤ 140737488355328) (hb : base ≤ w.heap.size) (ty : TypeId) :
    ∃ a n c w', (Builtin.append_ #[E.st, E.st] ty #[v, x]).run Try.prog w = .ok (.slice a n c) w' ∧ OwnR E base w' (.slice a n c) (l ++ m) ∧ Below base w w' ∧ w.heap.size ≤ w'.heap.size ∧ ∀ (k : Nat) cs t fz, w.heap[k]? = some (.cells cs t fz) → t ≠ E.t → w'.heap[k]? = some (.cells cs t fz) := by
  obtain ⟨v', w', hr, ho, hb', hs, hg⟩ := own_app hE h hx hlen hb ty
  obtain ⟨a, n, c, rfl⟩ := ho.slv
  refine ⟨a, n, c, w', hr, ho, hb', hs, fun k cs t fz hk ht => (hg.1 k (lt_of_heap hk) fun e => ?_).trans hk⟩
  rcases h.2 with ⟨hv, -⟩ | ⟨g, cap, cur, hv, -, hh, -⟩
  · rw [hv] at e; cases e
  · rw [hv] at e
    have e : k = g := by simpa [Value.ownBlock] using e
    rw [e, hh] at hk
    injection hk with e1
    injection e1 with _ e2 _
    exact ht e2.symm
theorem own_keep {α β : Type} {E : El α} {F : El β} {base : Nat} {w w' : World} {u : Value} {m : List β} (h : OwnR F base w u m) (hk : ∀ (k : Nat) cs t fz, w.heap[k]? = some (.cells cs t fz) → t ≠ E.t → w'.heap[k]? = some (.cells cs t fz)) (ht : F.t ≠ E.t) : OwnR F base w' u m := by
  refine ⟨h.1, ?_⟩
  rcases h.2 with h2 | ⟨g, cap, cur, hv, hg, hh, r⟩
  · exact .inl h2
  · exact .inr ⟨g, cap, cur, hv, hg, hk g _ _ _ hh ht, r⟩
theorem ex_b0 {P : Program} {w w1 : World} {ρ : Operand → Value} {o : Oper} {t : TypeId} {r : Value} (ho : o.op = .buildSlice t 0 #[]) (hrun : (Instr.buildSlice t 0 #[]).run P w = .ok r w1) : (execOp ρ o).run P w = .ok (.value r) w1 := by
  unfold execOp
  simp [ho, hrun]
theorem mk0P (w : World) : (Instr.buildSlice 22 0 #[]).run Try.prog w = .ok (.slice (some ⟨w.heap.size, 0, none⟩) 0 0) (w.alloc (.cells #[] 50)) := by kernel_rfl
theorem mk0S (w : World) : (Instr.buildSlice 23 0 #[]).run Try.prog w = .ok (.slice (some ⟨w.heap.size, 0, none⟩) 0 0) (w.alloc (.cells #[] 9)) := by kernel_rfl
theorem mk0I (w : World) : (Instr.buildSlice 24 0 #[]).run Try.prog w = .ok (.slice (some ⟨w.heap.size, 0, none⟩) 0 0) (w.alloc (.cells #[] 3)) := by kernel_rfl
theorem zero_rnd (w : World) : (zeroValue 26).run Try.prog w = .ok (.agg #[.bool false, .slice none 0 0, .slice none 0 0, .slice none 0 0]) w := (zero_of_info (n := 4) (by kernel_rfl)).1 w
theorem ex_build32 {P : Program} {w : World} {ρ : Operand → Value} {o : Oper} {t : TypeId} {x0 x1 : Operand} {v0 v1 v : Value} (ho : o.op = .build t #[(3, x0), (2, x1)]) (h0 : ρ x0 = v0) (h1 : ρ x1 = v1) (hrun : (Instr.build t #[(3, v0), (2, v1)]).run P w = .ok v w) : (execOp ρ o).run P w = .ok (.value v) w := by
  unfold execOp
  simp [ho, h0, h1, hrun]
theorem ex_build013 {P : Program} {w : World} {ρ : Operand → Value} {o : Oper} {t : TypeId} {x0 x1 x2 : Operand} {v0 v1 v2 v : Value} (ho : o.op = .build t #[(0, x0), (1, x1), (3, x2)]) (h0 : ρ x0 = v0) (h1 : ρ x1 = v1) (h2 : ρ x2 = v2) (hrun : (Instr.build t #[(0, v0), (1, v1), (3, v2)]).run P w = .ok v w) : (execOp ρ o).run P w = .ok (.value v) w := by
  unfold execOp
  simp [ho, h0, h1, h2, hrun]
/-- a half under way: its block, its two lists -/
structure RlfW (b0 : Nat) (W : World) (A : Nat) (cs : Array Value) (kv iv : Value) (ks : List ByteArray) (is : List Int) : Prop where
  a : W.heap[A]? = some (.cells cs 26 (0, 0))
  lo : b0 ≤ A
  k : OwnR elS b0 W kv ks
  i : OwnR elI b0 W iv is
theorem RlfW.below {b0 : Nat} {W W' : World} {A : Nat} {cs : Array Value} {kv iv : Value} {ks : List ByteArray} {is : List Int} (h : RlfW b0 W A cs kv iv ks is) (b : Below W.heap.size W W') : RlfW b0 W' A cs kv iv ks is :=
  ⟨(b.block A (lt_of_heap h.a)).trans h.a, h.lo, h.k.below b, h.i.below b⟩
end Go.Proofs.Ytdkmfcmndncmcaa
