/- The contract of the document's DocDrop. No statement of the seat is proved here. -/
import Derived.Test.YtjjdpclobkdbjaaNDocF
import Derived.Test.YtjjdpclobkdbjaaNBack
import Derived.Test.YtjjdpclobkdbjaaNWithout
namespace Go.Proofs.Ytjjdpclobkdbjaa
set_option maxRecDepth 20000
open Go.RowKit

theorem build_rz (w : World) : (Instr.build 26 #[]).run Try.prog w = .ok zNd w := run_build w 26 _ _ (by kernel_rfl)
theorem build_rl (v : Value) (hv : SlV v) (w : World) : (Instr.build 26 #[(0, .bool true), (1, v)]).run Try.prog w = .ok (.agg #[.bool true, v, .slice none 0 0, .slice none 0 0]) w := by
  obtain ⟨_, _, _, rfl⟩ := hv
  exact run_build w 26 _ _ (by kernel_rfl)
abbrev zrbO : Obj := rbO false (.slice none 0 0) (.slice none 0 0) (.slice none 0 0)
/-- what holds in each world behind a call's two boxes: its argument, and its result -/
structure Two (w w1 : World) (lf : Bool) (pv kv iv : Value) : Prop where
  cs : NdCells w1 w.heap.size lf pv kv iv
  z : w1.heap[w.heap.size + 1]? = some zrbO
  fr : Below w.heap.size w w1
  sz : w.heap.size + 2 ≤ w1.heap.size
theorem two_ex (w : World) (lf : Bool) (pv kv iv : Value) : ∃ SB : World → Prop, SB ((w.alloc (rbO lf pv kv iv)).alloc zrbO) ∧ (∀ w1 w2, SB w1 → Below w1.heap.size w1 w2 → SB w2) ∧ (∀ w1, SB w1 → SB w1.drew) ∧ (∀ w1, SB w1 → Two w w1 lf pv kv iv) ∧ ∀ w1 w2, SB w1 → Below (w.heap.size + 2) w1 w2 → SB w2 := by
  have hz : ((w.alloc (rbO lf pv kv iv)).alloc zrbO).heap.size = w.heap.size + 2 := by simp
  have h1 : (w.alloc (rbO lf pv kv iv)).heap.size = w.heap.size + 1 := by simp
  have hg := heap_alloc_new (w.alloc (rbO lf pv kv iv)) zrbO
  rw [h1] at hg
  have hb0 : Below (w.heap.size + 1) (w.alloc (rbO lf pv kv iv)) ((w.alloc (rbO lf pv kv iv)).alloc zrbO) := (Below.refl _ _).alloc (by simp) _
  refine ⟨fun w1 => Below (w.heap.size + 2) ((w.alloc (rbO lf pv kv iv)).alloc zrbO) w1, Below.refl _ _, fun w1 w2 h k => h.trans (k.mono (by have := h.size; omega)), fun _ h => h.drew, fun w1 h => ?_, fun w1 w2 h k => h.trans k⟩
  obtain ⟨c, b, -⟩ := rbox_facts (hb0.trans (h.mono (by omega)))
  exact ⟨c, (h.block (w.heap.size + 1) (by omega)).trans hg, b, by have := h.size; omega⟩
theorem len_has (l : List Pr) (x : ByteArray) : (l.filter (keep x)).length = l.length ↔ hasL l x = false := by
  rw [List.length_filter_eq_length_iff]
  unfold hasL keep
  rw [List.any_eq_false]
  constructor
  · intro h p hp
    have := h p hp
    simpa using this
  · intro h p hp
    have := h p hp
    simpa using this
set_option maxHeartbeats 6400000 in
theorem docDrop_any {w : World} {v : Value} {n : Nd} (h : NdAt w.heap.size w v n) (key : ByteArray) : Calls Try.prog 28 #[v, .string key] w (NdRet w (dropN n key)) := by
  have HN := h
  obtain ⟨pv, kv, iv, rfl, h1, h2, h3⟩ := h
  obtain ⟨pa, pm, pc, rfl, hpm⟩ := h1.form
  obtain ⟨ka, km, kc, rfl, -⟩ := h2.form
  obtain ⟨ia, im, ic, rfl, -⟩ := h3.form
  generalize hlf : n.leaf = lf at *
  obtain ⟨SB, hb0, SBc, -, two, SB2⟩ := two_ex w lf (.slice pa pm pc) (.slice ka km kc) (.slice ia im ic)
  have TW := Lib.hid two
  have hT := two _ hb0
  have rc := right_any (((HN.below hT.fr)).more hT.fr.size)
  obtain ⟨q0, q1, q2, q3⟩ := hT.cs
  have bz := build_rz
  have H1 := Lib.hid h1
  clear h1 h2 h3 two hT
  cases hk : okN n
  · have hp : dropN n key = (.none, 2) := by unfold dropN; rw [hk]; simp
    rw [hp]
    rw [hk] at rc
    clear hp hk hlf
    go_enter Try.func28, Try.ntmps28
    go_wp2_with fail
    refine Calls.mono rc ?_
    rintro e w1 ⟨rfl, b1⟩
    have hb := SBc _ _ hb0 b1
    obtain ⟨-, hgz, B0, -⟩ := TW.out _ hb
    have bz1 := bz w1
    clear rc bz b1 q0 q1 q2 q3
    go_wp2_with (with_reducible refine wpList_store_rn rfl (.tmp 4) (.tmp 15) rfl (w.heap.size + 1) false (.slice none 0 0) (.slice none 0 0) (.slice none 0 0) rfl rfl #[.bool false, .slice none 0 0, .slice none 0 0, .slice none 0 0] hgz rfl (.mk _ _ _) (.mk _ _ _) (.mk _ _ _) B0 (Nat.le_succ _) ?_)
    rintro w2 ⟨s0, s1, s2, s3⟩ - B2 -
    go_wp2
    exact bodyPost_ret (v := .tuple #[zNd, .int .i64 2]) (by simp [results, Try.results28, go_sem, s0, s1, s2, s3]) rfl (zNd_ret rfl B2)
  · rw [hk] at rc
    cases lf
    · have hp : dropN n key = (.none, 2) := by unfold dropN; rw [hlf]; rfl
      rw [hp]
      clear hp hk hlf
      go_enter Try.func28, Try.ntmps28
      go_wp2_with fail
      refine Calls.mono rc ?_
      rintro e w1 ⟨rfl, b1⟩
      have hb := SBc _ _ hb0 b1
      obtain ⟨⟨q0, q1, q2, q3⟩, hgz, B0, -⟩ := TW.out _ hb
      have bz1 := bz w1
      clear rc bz b1
      go_wp2_with (with_reducible refine wpList_store_rn rfl (.tmp 4) (.tmp 15) rfl (w.heap.size + 1) false (.slice none 0 0) (.slice none 0 0) (.slice none 0 0) rfl rfl #[.bool false, .slice none 0 0, .slice none 0 0, .slice none 0 0] hgz rfl (.mk _ _ _) (.mk _ _ _) (.mk _ _ _) B0 (Nat.le_succ _) ?_)
      rintro w2 ⟨s0, s1, s2, s3⟩ - B2 -
      go_wp2
      exact bodyPost_ret (v := .tuple #[zNd, .int .i64 2]) (by simp [results, Try.results28, go_sem, s0, s1, s2, s3]) rfl (zNd_ret rfl B2)
    · have hok := okL_true ((okN_leaf hlf).symm.trans hk)
      have hr := hok.2.2.2.1
      have hl255 := hok.2.2.1
      have hp : dropN n key = if hasL n.ps key then (⟨true, n.ps.filter (keep key), [], []⟩, 0) else (.none, 7) := by
        unfold dropN; rw [hlf, hk, del_filter (ris_pair hr)]; rfl
      obtain ⟨R, hR⟩ : ∃ R, (if hasL n.ps key then ((⟨true, n.ps.filter (keep key), [], []⟩ : Nd), (0 : Int)) else (.none, 7)) = R := ⟨_, rfl⟩
      rw [hp, hR]
      have HR := Lib.hid hR
      have HL := Lib.hid (len_has n.ps key)
      have HW := Lib.hid (fun (w1 : World) (b : Below w.heap.size w w1) => without_any ((H1.out.below b).more b.size) key (by omega))
      clear hp hR hok hr hk hlf
      go_enter Try.func28, Try.ntmps28
      go_wp2_with fail
      refine Calls.mono rc ?_
      rintro e w1 ⟨rfl, b1⟩
      have hb := SBc _ _ hb0 b1
      obtain ⟨⟨q0, q1, q2, q3⟩, -, B0, -⟩ := TW.out _ hb
      have hw1 := HW.out _ B0
      clear rc b1
      go_wp2_with fail
      refine Calls.mono hw1 ?_
      rintro e w2 ⟨v2, rfl, o2, b2⟩
      have hb2 := SBc _ _ hb b2
      have hsz := (TW.out _ hb).sz
      obtain ⟨⟨q0, q1, q2, q3⟩, hgz, B0, -⟩ := TW.out _ hb2
      obtain ⟨va, vm, vc, rfl, hvm⟩ := o2.form'
      have o3 : OwnR elP (w.heap.size + 2) w2 (.slice va vm vc) (n.ps.filter (keep key)) := o2.base hsz
      have HO := Lib.hid o3
      clear hw1 b2 o2 o3 hb hsz
      by_cases hq : vm = pm
      · have hh := HL.out.1 (by rw [← hvm.out, hq, hpm.out])
        have HE := Lib.hid (show R = (.none, 7) by rw [← HR.out, hh]; rfl)
        have dq : (((vm : Nat) : Int) == (pm : Int)) = true := by rw [beq_iff_eq]; omega
        have bz1 := bz w2
        clear hh bz hq
        go_wp2_with (with_reducible refine wpList_store_rn rfl (.tmp 4) (.tmp 26) rfl (w.heap.size + 1) false (.slice none 0 0) (.slice none 0 0) (.slice none 0 0) rfl rfl #[.bool false, .slice none 0 0, .slice none 0 0, .slice none 0 0] hgz rfl (.mk _ _ _) (.mk _ _ _) (.mk _ _ _) B0 (Nat.le_succ _) ?_)
        rintro w3 ⟨s0, s1, s2, s3⟩ - B2 -
        go_wp2
        exact bodyPost_ret (v := .tuple #[zNd, .int .i64 7]) (by simp [results, Try.results28, go_sem, s0, s1, s2, s3]) rfl (by rw [HE.out]; exact zNd_ret rfl B2)
      · have hh : hasL n.ps key = true := by
          cases h : hasL n.ps key
          · exact absurd (by rw [hvm.out, hpm.out]; exact HL.out.2 h) hq
          · rfl
        have HE := Lib.hid (show R = (⟨true, n.ps.filter (keep key), [], []⟩, 0) by rw [← HR.out, hh]; rfl)
        have dq : (((vm : Nat) : Int) == (pm : Int)) = false := by rw [beq_eq_false_iff_ne]; omega
        have bl := build_rl (.slice va vm vc) (.mk _ _ _) w2
        clear hh bz hq
        go_wp2_with (with_reducible refine wpList_store_rn rfl (.tmp 4) (.tmp 28) rfl (w.heap.size + 1) true (.slice va vm vc) (.slice none 0 0) (.slice none 0 0) rfl rfl #[.bool false, .slice none 0 0, .slice none 0 0, .slice none 0 0] hgz rfl (.mk _ _ _) (.mk _ _ _) (.mk _ _ _) B0 (Nat.le_succ _) ?_)
        rintro w3 ⟨s0, s1, s2, s3⟩ - B2 hoth
        have FF : Hid (NdRet w R (.returned (.tuple #[.agg #[.bool true, .slice va vm vc, .slice none 0 0, .slice none 0 0], .int .i64 0])) w3) := Lib.hid (by
          rw [HE.out]
          exact ⟨_, rfl, ⟨_, _, _, rfl, (HO.out.keepg (Nat.lt_succ_self _) hoth).base (by omega), OwnR.nil _ _ _, OwnR.nil _ _ _⟩, B2⟩)
        clear hoth
        go_wp2
        exact bodyPost_ret (v := .tuple #[.agg #[.bool true, .slice va vm vc, .slice none 0 0, .slice none 0 0], .int .i64 0]) (by simp [results, Try.results28, go_sem, s0, s1, s2, s3]) rfl FF.out
end Go.Proofs.Ytjjdpclobkdbjaa
