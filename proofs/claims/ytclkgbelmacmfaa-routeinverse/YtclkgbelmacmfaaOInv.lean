/- What is parsed is joined to the same path, what is joined is parsed to the same names: the law cisternlaw13.RouteInverse returns true at every input. No condition. -/
import Derived.Test.YtclkgbelmacmfaaOKnown
import Derived.Test.YtclkgbelmacmfaaOArgs
namespace Go.Proofs.Ytclkgbelmacmfaa.routeInverse
set_option maxRecDepth 20000
open Go.RowKit Go.ChangeShapes Go.WideShapes Go.ChangeAt

theorem own : ownKnob Try.prog.godebug = none := by kernel_rfl
theorem ns_path {ns : List ByteArray} (h : okNs ns = true) : nsOf (txt (pathL ns)) = ns ∧ erOf (txt (pathL ns)) = 0 := by
  unfold nsOf erOf; rw [bl_txt, parse_path h]; exact ⟨rfl, rfl⟩
theorem jo_bad {l : List ByteArray} (h : okNs l = false) : joE l = 6 := by unfold joE; rw [h]; rfl
theorem build0 (w : World) : (Instr.buildSlice 23 0 #[]).run Try.prog w = .ok (.slice (some ⟨w.heap.size, 0, none⟩) 0 0) (w.alloc (.cells #[] 9)) := by kernel_rfl
theorem own_none (w : World) : OwnR elS w.heap.size (w.alloc (.cells #[] 9)) (.slice (some ⟨w.heap.size, 0, none⟩) 0 0) [] := ⟨rfl, .inr ⟨w.heap.size, 0, #[], rfl, Nat.le_refl _, heap_alloc_new w _, Nat.le_refl _, Nat.zero_le _, rfl, rfl⟩⟩
theorem below_path {ns : List ByteArray} (h : okNs ns = true) {i : Nat} (hi : i < ns.length) : unB (txt (pathL ns)) (txt (pathL (ns.take i))) = true ∧ unE (txt (pathL ns)) (txt (pathL (ns.take i))) = 0 := by
  obtain ⟨a1, a2⟩ := ns_path h
  obtain ⟨b1, b2⟩ := ns_path (okNs_take h i)
  obtain ⟨c1, c2⟩ := un_both a2 b2
  refine ⟨?_, c2⟩
  rw [c1, a1, b1]
  have hl : (ns.take i).length = i := by rw [List.length_take]; omega
  unfold isUnder
  rw [hl, decide_eq_true hi, decide_eq_true rfl]; rfl
/-- what holds of a path with names -/
structure PFacts (p : ByteArray) (ns : List ByteArray) (k : Nat) (U x : ByteArray) : Prop where
  len : ns.length = k + 1
  k9 : k ≤ 9
  join : joS ns = p ∧ joE ns = 0
  up : paUp p = U ∧ paNm p = x ∧ paE p = 0
  un : unB p U = true ∧ unE p U = 0
  pu : nsOf U = ns.take k ∧ erOf U = 0
  sn : ns.take k ++ [x] = ns
  nm : nm x = true
theorem pfacts {p : ByteArray} (hok : okNs (nsOf p) = true) (hp : p = txt (pathL (nsOf p))) {k : Nat} (hk : (nsOf p).length = k + 1) : PFacts p (nsOf p) k (txt (pathL ((nsOf p).take k))) (kAt (nsOf p) k) := by
  have h10 := ok10 hok
  have hb := below_path hok (i := k) (by omega)
  rw [← hp] at hb
  refine ⟨hk, by omega, ⟨by rw [joS_ok hok]; exact hp.symm, joE_ok hok⟩, pa_some hk, hb, ns_path (okNs_take hok k), ?_, ?_⟩
  · rw [← take_succ (by omega), List.take_of_length_le (by omega)]
  · exact (okNs_iff.1 hok).2 _ (kAt_mem (by omega))
set_option maxHeartbeats 6400000 in
theorem walk (p : ByteArray) (_ : p.size ≤ maxLen) (v1 : Value) (z1 : List ByteArray) (W : World) (w1 : StrlArg W v1 z1) :
    Calls Try.prog 5 #[.string p, v1] W fun e w' => e = .returned (.bool true) ∧ Below W.heap.size W w' := by
  have kn := known_any W
  have jo := Lib.hid (fun (w : World) (hb : Below W.heap.size W w) => join_any (w1.1.below hb) hb.size)
  have SL := Lib.hid w1.1
  have pp := Lib.hid (fun w => parse_any p w)
  have pa := Lib.hid (fun w => parent_any p w)
  have HC := Lib.hid (erOf_cases p)
  obtain ⟨ao, am, ac, rfl, -⟩ := w1.1.form
  clear w1
  have hpp : (p.toList == p.toList) = true := by simp
  cases hok : okNs z1
  · rw [jo_bad hok] at jo
    generalize joS z1 = S at *
    clear SL hok
    go_enter Try.func5, Try.ntmps5
    go_wp2_with fail
    refine Calls.mono kn ?_
    rintro e w1 ⟨rfl, hb⟩
    clear kn
    go_wp2_with fail
    refine Calls.mono (jo.out _ hb) ?_
    rintro e w2 ⟨rfl, b2⟩
    have hb := Below.then hb b2 (Nat.le_refl _)
    clear b2 jo
    go_wp2_with fail
    rcases HC.out with ⟨he, -, hok, hp⟩ | ⟨he, -, hn⟩
    · have pp := pp.out
      rw [he] at pp
      clear he
      by_cases hns : nsOf p = []
      · obtain ⟨q1, q2, q3⟩ := pa_none hns
        rw [q1, q2, q3] at pa
        have hj := joE_ok hok
        have hs : joS (nsOf p) = p := by rw [joS_ok hok]; exact hp.symm
        have h47 : p = ⟨#[47]⟩ := by rw [hp, hns]; rfl
        have h47' : (p.toList == [47]) = true := by rw [h47, toL]; rfl
        rw [hns] at hj hs
        rw [hns] at pp
        clear hns hok hp q1 q2 q3 HC h47
        refine Calls.mono (pp _) ?_
        rintro e wa ⟨v, rfl, ho, ba⟩
        have hb := Below.then hb ba (Nat.le_refl _)
        have s2 := own_sl ho (by simp)
        have jn := join_any s2 (Nat.le_refl _)
        rw [hj, hs] at jn
        obtain ⟨bo, bm, bc, rfl, hm⟩ := s2.form
        obtain rfl : bm = 0 := hm.out
        clear ba pp ho s2 hj hs
        go_wp2_with fail
        refine Calls.mono jn ?_
        rintro e wb ⟨rfl, bb⟩
        have hb := Below.then hb bb (Nat.le_refl _)
        clear bb jn
        go_wp2_with fail
        refine Calls.mono (pa.out _) ?_
        rintro e wc ⟨rfl, bc'⟩
        have hb := Below.then hb bc' (Nat.le_refl _)
        clear bc' pa
        go_wp2
        go_ret
        exact ⟨rfl, hb⟩
      · obtain ⟨k, hk⟩ : ∃ k, (nsOf p).length = k + 1 := ⟨(nsOf p).length - 1, by
          cases hq : nsOf p with
          | nil => exact absurd hq hns
          | cons a r => simp⟩
        have F := pfacts hok hp hk
        generalize txt (pathL ((nsOf p).take k)) = U at F
        generalize kAt (nsOf p) k = x at F
        generalize nsOf p = ns at *
        have HF := Lib.hid F
        obtain ⟨q1, q2, q3⟩ := F.up
        rw [q1, q2, q3] at pa
        obtain ⟨q1, q2⟩ := F.un
        have un := Lib.hid (fun w => under_any p U w)
        rw [q1, q2] at un
        obtain ⟨q1, q2⟩ := F.pu
        have pu := Lib.hid (fun w => parse_any U w)
        rw [q1, q2] at pu
        have nme := Lib.hid (fun w => name_any x w)
        rw [F.nm] at nme
        clear hns hok hp hk q1 q2 q3 HC F
        refine Calls.mono (pp _) ?_
        rintro e wa ⟨v, rfl, ho, ba⟩
        have hb := Below.then hb ba (Nat.le_refl _)
        have s2 := own_sl ho (by have h1 := HF.out.len; have h2 := HF.out.k9; omega)
        have jn := join_any s2 (Nat.le_refl _)
        rw [HF.out.join.1, HF.out.join.2] at jn
        obtain ⟨bo, bm, bc, rfl, hm⟩ := s2.form
        obtain rfl : bm = k + 1 := by rw [hm.out, HF.out.len]
        clear ba pp ho s2
        go_wp2_with fail
        refine Calls.mono jn ?_
        rintro e wb ⟨rfl, bb⟩
        have hb := Below.then hb bb (Nat.le_refl _)
        clear bb jn
        go_wp2_with fail
        refine Calls.mono (pa.out _) ?_
        rintro e wc ⟨rfl, bc'⟩
        have hb := Below.then hb bc' (Nat.le_refl _)
        clear bc' pa
        go_wp2_with fail
        refine Calls.mono (un.out _) ?_
        rintro e wd ⟨rfl, bd⟩
        have hb := Below.then hb bd (Nat.le_refl _)
        clear bd un
        go_wp2_with fail
        refine Calls.mono (pu.out _) ?_
        rintro e we ⟨v, rfl, ho, be⟩
        have hb := Below.then hb be (Nat.le_refl _)
        have hln : (ns.take k).length = k := by rw [List.length_take, HF.out.len]; omega
        have s3 := own_sl ho (by rw [hln]; have := HF.out.k9; omega)
        obtain ⟨uo, um, uc, rfl, -⟩ := s3.form
        have bn := below_new we (.cells #[] 9)
        obtain ⟨v5, w5, hr5, h5, b5, -, -⟩ := own_app okS (own_none we) (s3.below bn) (by rw [hln]; have := HF.out.k9; simp; omega) (by simp) 23
        have hb5 := hb.trans ((bn.trans b5).mono hb.size)
        have bn6 := below_new w5 (.cells #[.string x] 9)
        obtain ⟨v6, w6, hr6, h6, b6, -, -⟩ := own_app okS (h5.below bn6) (one_at w5 x) (by rw [List.nil_append, hln]; have := HF.out.k9; simp; omega) (by have := (bn.trans b5).size; simp at *; omega) 23
        have hb6 := (hb5.trans (bn6.mono hb5.size)).trans (b6.mono (by have := hb.size; omega))
        rw [List.nil_append, HF.out.sn] at h6
        have s6 := own_sl h6 (by have h1 := HF.out.len; have h2 := HF.out.k9; omega)
        have jn := join_any s6 (Nat.le_refl _)
        rw [HF.out.join.1, HF.out.join.2] at jn
        have hb0 := build0 we
        obtain ⟨xa, xm, xc, rfl, -⟩ := h5.form'
        obtain ⟨ya, ym, yc, rfl, -⟩ := s6.form
        have HR5 := Lib.hid hr5
        have HR6 := Lib.hid hr6
        clear be pu ho s3 bn b5 b6 bn6 hr5 hr6 h5 h6 s6 hb hb5 hln
        go_wp2_with (first | (with_reducible refine wpList_append_own rfl (.tmp 96) (.tmp 97) 23 23 rfl (.slice (some ⟨we.heap.size, 0, none⟩) 0 0) (.slice uo um uc) (.slice xa xm xc) rfl rfl HR5.out ?_) | (with_reducible refine wpList_append_own rfl (.tmp 98) (.tmp 100) 23 23 rfl (.slice xa xm xc) (.slice (some ⟨w5.heap.size, 0, none⟩) 1 1) (.slice ya ym yc) rfl rfl HR6.out ?_))
        refine Calls.mono jn ?_
        rintro e w7 ⟨rfl, b7⟩
        have hb := Below.then hb6 b7 (Nat.le_refl _)
        clear b7 jn hb6 hb0
        go_wp2_with fail
        refine Calls.mono (nme.out _) ?_
        rintro e w8 ⟨rfl, b8⟩
        have hb := Below.then hb b8 (Nat.le_refl _)
        clear b8 nme
        go_wp2
        go_ret
        exact ⟨rfl, hb⟩
    · have pp := pp.out
      rw [he, hn] at pp
      clear he hn HC
      refine Calls.mono (pp _) ?_
      rintro e wa ⟨v, rfl, ho, ba⟩
      have hb := Below.then hb ba (Nat.le_refl _)
      obtain ⟨bo, bm, bc, rfl, hm⟩ := ho.form'
      obtain rfl : bm = 0 := hm.out
      clear ba pp ho
      go_wp2
      go_ret
      exact ⟨rfl, hb⟩
  · obtain ⟨n1, n2⟩ := ns_path hok
    have PJ := Lib.hid (fun w => parse_any (txt (pathL z1)) w)
    rw [n1, n2] at PJ
    rw [joE_ok hok, joS_ok hok] at jo
    have K1 := Lib.hid (ok10 hok)
    generalize txt (pathL z1) = S at *
    clear n1 n2 hok
    go_enter Try.func5, Try.ntmps5
    go_wp2_with fail
    refine Calls.mono kn ?_
    rintro e w1 ⟨rfl, hb⟩
    clear kn
    go_wp2_with fail
    refine Calls.mono (jo.out _ hb) ?_
    rintro e w2 ⟨rfl, b2⟩
    have hb := Below.then hb b2 (Nat.le_refl _)
    clear b2 jo
    go_wp2_with fail
    refine Calls.mono (PJ.out _) ?_
    rintro e w3 ⟨v, rfl, ho, b3⟩
    have hb := Below.then hb b3 (Nat.le_refl _)
    have s1 := own_sl ho K1.out
    obtain ⟨co, cm, cc, rfl, -⟩ := s1.form
    have sm := refSame_any s1 (SL.out.below hb) (Nat.le_refl _) hb.size
    rw [decide_eq_true (rfl : z1 = z1)] at sm
    clear b3 PJ ho s1 SL
    go_wp2_with fail
    refine Calls.mono sm ?_
    rintro e w4 ⟨rfl, b4⟩
    have hb := Below.then hb b4 (Nat.le_refl _)
    clear b4 sm
    go_wp2_with fail
    rcases HC.out with ⟨he, -, hok, hp⟩ | ⟨he, -, hn⟩
    · have pp := pp.out
      rw [he] at pp
      clear he
      by_cases hns : nsOf p = []
      · obtain ⟨q1, q2, q3⟩ := pa_none hns
        rw [q1, q2, q3] at pa
        have hj := joE_ok hok
        have hs : joS (nsOf p) = p := by rw [joS_ok hok]; exact hp.symm
        have h47 : p = ⟨#[47]⟩ := by rw [hp, hns]; rfl
        have h47' : (p.toList == [47]) = true := by rw [h47, toL]; rfl
        rw [hns] at hj hs
        rw [hns] at pp
        clear hns hok hp q1 q2 q3 HC h47
        refine Calls.mono (pp _) ?_
        rintro e wa ⟨v, rfl, ho, ba⟩
        have hb := Below.then hb ba (Nat.le_refl _)
        have s2 := own_sl ho (by simp)
        have jn := join_any s2 (Nat.le_refl _)
        rw [hj, hs] at jn
        obtain ⟨bo, bm, bc, rfl, hm⟩ := s2.form
        obtain rfl : bm = 0 := hm.out
        clear ba pp ho s2 hj hs
        go_wp2_with fail
        refine Calls.mono jn ?_
        rintro e wb ⟨rfl, bb⟩
        have hb := Below.then hb bb (Nat.le_refl _)
        clear bb jn
        go_wp2_with fail
        refine Calls.mono (pa.out _) ?_
        rintro e wc ⟨rfl, bc'⟩
        have hb := Below.then hb bc' (Nat.le_refl _)
        clear bc' pa
        go_wp2
        go_ret
        exact ⟨rfl, hb⟩
      · obtain ⟨k, hk⟩ : ∃ k, (nsOf p).length = k + 1 := ⟨(nsOf p).length - 1, by
          cases hq : nsOf p with
          | nil => exact absurd hq hns
          | cons a r => simp⟩
        have F := pfacts hok hp hk
        generalize txt (pathL ((nsOf p).take k)) = U at F
        generalize kAt (nsOf p) k = x at F
        generalize nsOf p = ns at *
        have HF := Lib.hid F
        obtain ⟨q1, q2, q3⟩ := F.up
        rw [q1, q2, q3] at pa
        obtain ⟨q1, q2⟩ := F.un
        have un := Lib.hid (fun w => under_any p U w)
        rw [q1, q2] at un
        obtain ⟨q1, q2⟩ := F.pu
        have pu := Lib.hid (fun w => parse_any U w)
        rw [q1, q2] at pu
        have nme := Lib.hid (fun w => name_any x w)
        rw [F.nm] at nme
        clear hns hok hp hk q1 q2 q3 HC F
        refine Calls.mono (pp _) ?_
        rintro e wa ⟨v, rfl, ho, ba⟩
        have hb := Below.then hb ba (Nat.le_refl _)
        have s2 := own_sl ho (by have h1 := HF.out.len; have h2 := HF.out.k9; omega)
        have jn := join_any s2 (Nat.le_refl _)
        rw [HF.out.join.1, HF.out.join.2] at jn
        obtain ⟨bo, bm, bc, rfl, hm⟩ := s2.form
        obtain rfl : bm = k + 1 := by rw [hm.out, HF.out.len]
        clear ba pp ho s2
        go_wp2_with fail
        refine Calls.mono jn ?_
        rintro e wb ⟨rfl, bb⟩
        have hb := Below.then hb bb (Nat.le_refl _)
        clear bb jn
        go_wp2_with fail
        refine Calls.mono (pa.out _) ?_
        rintro e wc ⟨rfl, bc'⟩
        have hb := Below.then hb bc' (Nat.le_refl _)
        clear bc' pa
        go_wp2_with fail
        refine Calls.mono (un.out _) ?_
        rintro e wd ⟨rfl, bd⟩
        have hb := Below.then hb bd (Nat.le_refl _)
        clear bd un
        go_wp2_with fail
        refine Calls.mono (pu.out _) ?_
        rintro e we ⟨v, rfl, ho, be⟩
        have hb := Below.then hb be (Nat.le_refl _)
        have hln : (ns.take k).length = k := by rw [List.length_take, HF.out.len]; omega
        have s3 := own_sl ho (by rw [hln]; have := HF.out.k9; omega)
        obtain ⟨uo, um, uc, rfl, -⟩ := s3.form
        have bn := below_new we (.cells #[] 9)
        obtain ⟨v5, w5, hr5, h5, b5, -, -⟩ := own_app okS (own_none we) (s3.below bn) (by rw [hln]; have := HF.out.k9; simp; omega) (by simp) 23
        have hb5 := hb.trans ((bn.trans b5).mono hb.size)
        have bn6 := below_new w5 (.cells #[.string x] 9)
        obtain ⟨v6, w6, hr6, h6, b6, -, -⟩ := own_app okS (h5.below bn6) (one_at w5 x) (by rw [List.nil_append, hln]; have := HF.out.k9; simp; omega) (by have := (bn.trans b5).size; simp at *; omega) 23
        have hb6 := (hb5.trans (bn6.mono hb5.size)).trans (b6.mono (by have := hb.size; omega))
        rw [List.nil_append, HF.out.sn] at h6
        have s6 := own_sl h6 (by have h1 := HF.out.len; have h2 := HF.out.k9; omega)
        have jn := join_any s6 (Nat.le_refl _)
        rw [HF.out.join.1, HF.out.join.2] at jn
        have hb0 := build0 we
        obtain ⟨xa, xm, xc, rfl, -⟩ := h5.form'
        obtain ⟨ya, ym, yc, rfl, -⟩ := s6.form
        have HR5 := Lib.hid hr5
        have HR6 := Lib.hid hr6
        clear be pu ho s3 bn b5 b6 bn6 hr5 hr6 h5 h6 s6 hb hb5 hln
        go_wp2_with (first | (with_reducible refine wpList_append_own rfl (.tmp 96) (.tmp 97) 23 23 rfl (.slice (some ⟨we.heap.size, 0, none⟩) 0 0) (.slice uo um uc) (.slice xa xm xc) rfl rfl HR5.out ?_) | (with_reducible refine wpList_append_own rfl (.tmp 98) (.tmp 100) 23 23 rfl (.slice xa xm xc) (.slice (some ⟨w5.heap.size, 0, none⟩) 1 1) (.slice ya ym yc) rfl rfl HR6.out ?_))
        refine Calls.mono jn ?_
        rintro e w7 ⟨rfl, b7⟩
        have hb := Below.then hb6 b7 (Nat.le_refl _)
        clear b7 jn hb6 hb0
        go_wp2_with fail
        refine Calls.mono (nme.out _) ?_
        rintro e w8 ⟨rfl, b8⟩
        have hb := Below.then hb b8 (Nat.le_refl _)
        clear b8 nme
        go_wp2
        go_ret
        exact ⟨rfl, hb⟩
    · have pp := pp.out
      rw [he, hn] at pp
      clear he hn HC
      refine Calls.mono (pp _) ?_
      rintro e wa ⟨v, rfl, ho, ba⟩
      have hb := Below.then hb ba (Nat.le_refl _)
      obtain ⟨bo, bm, bc, rfl, hm⟩ := ho.form'
      obtain rfl : bm = 0 := hm.out
      clear ba pp ho
      go_wp2
      go_ret
      exact ⟨rfl, hb⟩

/-! ### the row -/
theorem laidOut : laidOutB Try.prog = true := by kernel_rfl
theorem bytesInt : Try.prog.bytesOf 3 = 8 := by kernel_rfl
set_option maxRecDepth 100000 in
theorem lifted (os : Os) (started : os.Started) (H : Type) (enc : TypeId × Value → H) :
    ReturnsInHanded {} Try.checked os 5 .any (Rows.routeInverseSpec.pre6 enc Try.prog Try.f5 Rows.routeInverseRow.domain false) (Rows.routeInverseSpec.post enc Try.prog Try.f5 false true false false) := by
  refine returnsInHanded_of_change_sized (C := Try.checked) own started (by kernel_rfl) Try.func5
    (ChangeSpec.witness6 (enc := enc) (C := Try.checked) false ⟨#[], #[.string ByteArray.empty, .slice none 0 0], []⟩ 8 (by kernel_rfl) (by kernel_rfl) (by kernel_rfl) (by kernel_rfl)) ?_
  intro W base args ds gs before hval0 hW hcnd hsz0 _
  have hval : ∀ (j : Nat) t v, Try.f5.params[j]? = some t → args[j]? = some v → Value.okWide Try.prog W .any base t v := hval0
  have hW' := hW
  obtain ⟨p, q, hA0, hV, rfl, hfz, hnd⟩ := hW
  have hA : DataW.TrodAll enc Try.prog W 0 (fun _ => true) true Try.f5.params.toList args.toList ds p := hA0
  have hsz : (DataW.weightsEach Try.prog (Try.f5.params.toList ++ Rows.routeInverseSpec.plain.varTypes Try.prog) (ds ++ gs)).all (· ≤ reachBytes) = true := hsz0
  rw [Try.params5] at hA hval hsz
  obtain ⟨v0, vs0, d0, ds0, p0, q0, hargs, rfl, rfl, h0, r0⟩ := trodAll_cons hA
  obtain ⟨v1, vs1, d1, ds1, p1, q1, rfl, rfl, rfl, h1, r1⟩ := trodAll_cons r0
  obtain ⟨rfl, rfl, rfl⟩ := trodAll_nil r1
  obtain rfl : args = #[v0, v1] := by cases args; simp_all
  obtain ⟨rfl, rfl⟩ := trodVars_none hV
  obtain ⟨a0, rfl, rfl, rfl, w0⟩ := Go.ChangeMaps.open_string Try.underlying9 (hval 0 9 v0 rfl rfl) h0
  have k1 := h1
  have lt1 := args_lt k1
  obtain ⟨z1, w1⟩ := strl_arg (hval 1 23 v1 rfl rfl) (fun k hk => of_decide_eq_true (List.all_eq_true.1 hsz _ (DataW.weights_mem_each (j := 1) (t := 23) (d := d1) rfl rfl k hk))) h1
  clear hA0 hval0 hsz0
  refine (walk a0 w0 v1 z1 W w1).mono fun e W' ⟨he, bel⟩ => ?_
  subst he
  exact ⟨_, rfl, _, _, _, [], _, [], hW', trodAll_mk1 (shut_bool Try.underlying4 _), (trodAll_cons_mk (Go.ChangeMaps.shut_string Try.underlying9 w0) (trodAll_cons_mk (Below.trod laidOut (by kernel_rfl) (of_decide_eq_true (by kernel_rfl)) k1 bel lt1) trodAll_mk0)), rfl, bel.frame _, fun h => by cases h⟩

theorem over : Rows.routeInverseRow.holds Try.pinned (OpenSpec.ofChange Rows.routeInverseSpec) :=
  OpenClaim.holds_of_wide 5 Try.f5 rfl rfl rfl rfl rfl rfl rfl ⟨rfl, rfl, rfl, rfl, rfl⟩ rfl rfl rfl rfl rfl (by kernel_rfl) Try.func5 (by kernel_rfl)
    (of_decide_eq_true (by kernel_rfl)) (by unfold Func.isWrapper; first | (rw [if_pos (by decide +kernel)]; kernel_rfl) | (rw [if_neg (by decide +kernel)]; exact ⟨rfl, rfl⟩))
    (fun os started H enc _ => lifted os started H enc)
end Go.Proofs.Ytclkgbelmacmfaa.routeInverse

namespace Go.Proofs.Ytclkgbelmacmfaa
/-- The law returns true at every input. -/
theorem routeInverse_holds : Rows.RouteInverseSaid := routeInverse.over
end Go.Proofs.Ytclkgbelmacmfaa

