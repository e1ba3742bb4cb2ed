/- The contract of record's unsector. No statement of the seat is proved here. -/
import Derived.Test.YtmkomhdlcbimoaaRUn
namespace Go.Proofs.Ytmkomhdlcbimoaa
set_option maxRecDepth 20000
open Go.RowKit

theorem unR_length (bs : List UInt8) : (unR bs).length ≤ 60000 := by
  unfold unR
  split
  · rename_i h
    unfold unOk at h
    simp only [Bool.and_eq_true, decide_eq_true_eq] at h
    rw [List.length_take, List.length_drop]; omega
  · simp
set_option maxHeartbeats 400000 in
theorem unsector_any {w : World} {v : Value} {bs : List UInt8} (h : ByC w v bs) (hcap : capOk v) (mark hi ti : Int) (hd t : Nat) (hhi : hi = hd) (hti : ti = t) (hd0 : 0 < hd) (hd9 : hd ≤ 9) (ht9 : t ≤ 9) : Calls Try.prog 36 #[v, .int .i64 mark, .int .i64 hi, .int .i64 ti] w (ItRetE w.heap.size w (secR bs mark hd t) (secE bs mark hd t)) := by
  have hu := unframe_any h hcap
  obtain ⟨ao, m, cap, hv, hm⟩ : ∃ ao m cap, v = .slice ao m cap ∧ Hid (m = bs.length) := by
    obtain ⟨ao, cap, hv, _⟩ := h
    exact ⟨ao, _, cap, hv, Lib.hid rfl⟩
  have hmb : m ≤ 9223372036854775807 := by rw [hm.out]; obtain ⟨_, _, _, hh⟩ := h.form; exact hh
  subst hv
  subst hhi
  subst hti
  by_cases h0 : unE bs = 0
  · have hul := unR_length bs
    by_cases h1 : unsE (unR bs) = 0
    · have e1 : secE bs mark hd t = if secOk bs mark hd t then 0 else 2 := by unfold secE; rw [h0, h1]; simp
      rw [h0] at hu
      have hok := (unsE_zero h1).2.2
      by_cases c1 : m = 256
      · subst c1
        by_cases c2 : (unsR (unR bs)).length = hd + t
        · have e2 : secOk bs mark hd t = shapeB (unsR (unR bs)) mark hd := by unfold secOk; rw [← hm.out, c2]; simp
          have e3 : secR bs mark hd t = if shapeB (unsR (unR bs)) mark hd then unsR (unR bs) else [] := by
            unfold secR; rw [e1, e2]; cases shapeB (unsR (unR bs)) mark hd <;> rfl
          have H1 := Lib.hid h1
          have C2 := Lib.hid c2
          clear h0 h1 c2
          cases hsb : shapeB (unsR (unR bs)) mark hd
          all_goals
            rw [hsb] at e2 e3
            rw [e1, e2, e3]
            have HSB := Lib.hid hsb
            clear e1 e2 e3 hsb
            go_enter Try.func36, Try.ntmps36
            go_wp2_with fail
            refine hu.mono ?_
            rintro e w1 ⟨v1, rfl, h1, b1⟩
            have hs := unseal_any h1.at h1.cap (Nat.le_trans hul (by decide))
            rw [H1.out] at hs
            obtain ⟨ao1, m1, cap1, hv1, hm1⟩ := h1.form'
            subst hv1
            clear hu h1
            go_wp2_with fail
            refine hs.mono ?_
            rintro e w2 ⟨v2, rfl, h2, b2⟩
            have bb2 := b1.trans (b2.mono b1.size)
            have hsh := shaped_any (h2.items hok) mark hd hd0 hd9
            rw [HSB.out] at hsh
            obtain ⟨ao2, cap2, hv2, _, _⟩ := h2.form
            rw [C2.out] at hv2
            have h2' := h2
            subst hv2
            have hq : (((hd + t : Nat) : Int) != (hd : Int) + (t : Int)) = false := by simp
            clear hs h2
            go_wp2_with fail
            refine hsh.mono ?_
            rintro e w3 ⟨rfl, b3⟩
            have bb3 := bb2.trans (b3.mono bb2.size)
            have h3 := (h2'.below b3).base b1.size
            clear hsh
            go_wp2
            go_ret2
            first | exact ⟨_, rfl, OwnI.nil _ _, bb3⟩ | exact ⟨_, rfl, h3, bb3⟩
        · have e2 : secOk bs mark hd t = false := by unfold secOk; rw [decide_eq_false c2]; simp
          have e3 : secR bs mark hd t = [] := by unfold secR; rw [e1, e2]; rfl
          rw [e1, e2, e3]
          have H1 := Lib.hid h1
          have C2 := Lib.hid c2
          clear e1 e2 e3 h0 h1 c2
          go_enter Try.func36, Try.ntmps36
          go_wp2_with fail
          refine hu.mono ?_
          rintro e w1 ⟨v1, rfl, h1, b1⟩
          have hs := unseal_any h1.at h1.cap (Nat.le_trans hul (by decide))
          rw [H1.out] at hs
          obtain ⟨ao1, m1, cap1, hv1, hm1⟩ := h1.form'
          subst hv1
          clear hu h1
          go_wp2_with fail
          refine hs.mono ?_
          rintro e w2 ⟨v2, rfl, h2, b2⟩
          have bb2 := b1.trans (b2.mono b1.size)
          obtain ⟨ao2, m2, cap2, hv2, hm2⟩ := h2.form'
          subst hv2
          have hq : ((m2 : Int) != (hd : Int) + (t : Int)) = true := by
            have := hm2.out
            have := C2.out
            simp; omega
          have hml : m2 ≤ 9223372036854775807 := by
            have := h2.form
            obtain ⟨_, _, hx, _, hy⟩ := this
            have := hm2.out
            unfold maxLen at hy
            omega
          clear hs h2
          go_wp2
          go_ret2
          exact ⟨_, rfl, OwnI.nil _ _, bb2⟩
      · have e2 : secOk bs mark hd t = false := by unfold secOk; rw [decide_eq_false (by rw [← hm.out]; exact c1)]; simp
        have e3 : secR bs mark hd t = [] := by unfold secR; rw [e1, e2]; rfl
        rw [e1, e2, e3]
        have H1 := Lib.hid h1
        have hq : ((m : Int) != 256) = true := by simp; omega
        clear e1 e2 e3 h0 h1 c1
        go_enter Try.func36, Try.ntmps36
        go_wp2_with fail
        refine hu.mono ?_
        rintro e w1 ⟨v1, rfl, h1, b1⟩
        have hs := unseal_any h1.at h1.cap (Nat.le_trans hul (by decide))
        rw [H1.out] at hs
        obtain ⟨ao1, m1, cap1, hv1, hm1⟩ := h1.form'
        subst hv1
        clear hu h1
        go_wp2_with fail
        refine hs.mono ?_
        rintro e w2 ⟨v2, rfl, h2, b2⟩
        have bb2 := b1.trans (b2.mono b1.size)
        obtain ⟨ao2, m2, cap2, hv2, hm2⟩ := h2.form'
        subst hv2
        clear hs h2
        go_wp2
        go_ret2
        exact ⟨_, rfl, OwnI.nil _ _, bb2⟩
    · have e1 : secE bs mark hd t = unsE (unR bs) := by unfold secE; rw [h0]; simp [h1]
      have e3 : secR bs mark hd t = [] := by unfold secR; rw [e1, if_neg h1]
      rw [e1, e3]
      rw [h0] at hu
      have hq : (unsE (unR bs) != 0) = true := by simpa using h1
      clear e1 e3 h0 h1
      generalize hEq : unsE (unR bs) = E at hq ⊢
      have HEQ := Lib.hid hEq
      clear hEq
      go_enter Try.func36, Try.ntmps36
      go_wp2_with fail
      refine hu.mono ?_
      rintro e w1 ⟨v1, rfl, h1, b1⟩
      have hs := unseal_any h1.at h1.cap (Nat.le_trans hul (by decide))
      rw [HEQ.out] at hs
      obtain ⟨ao1, m1, cap1, hv1, hm1⟩ := h1.form'
      subst hv1
      clear hu h1
      go_wp2_with fail
      refine hs.mono ?_
      rintro e w2 ⟨v2, rfl, h2, b2⟩
      have bb2 := b1.trans (b2.mono b1.size)
      obtain ⟨ao2, m2, cap2, hv2, hm2⟩ := h2.form'
      subst hv2
      clear hs h2
      go_wp2
      go_ret2
      exact ⟨_, rfl, OwnI.nil _ _, bb2⟩
  · have e1 : secE bs mark hd t = unE bs := by unfold secE; simp [h0]
    have e3 : secR bs mark hd t = [] := by unfold secR; rw [e1, if_neg h0]
    rw [e1, e3]
    have hq : (unE bs != 0) = true := by simpa using h0
    generalize unE bs = E at hq hu
    clear e1 e3 h0
    go_enter Try.func36, Try.ntmps36
    go_wp2_with fail
    refine hu.mono ?_
    rintro e w1 ⟨v1, rfl, h1, b1⟩
    obtain ⟨ao1, m1, cap1, hv1, hm1⟩ := h1.form'
    subst hv1
    clear hu h1
    go_wp2
    go_ret2
    exact ⟨_, rfl, OwnI.nil _ _, b1⟩

end Go.Proofs.Ytmkomhdlcbimoaa
