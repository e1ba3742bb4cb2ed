/- The contracts of formed, Check, Size. No statement of the seat is proved here. -/
import Derived.Test.YtdkmfcmndncmcaaNPlaceS
namespace Go.Proofs.Ytdkmfcmndncmcaa
set_option maxRecDepth 20000
open Go.RowKit

abbrev ndV (n : Nd) (pv kv iv : Value) : Value := .agg #[.bool n.leaf, pv, kv, iv]
set_option maxHeartbeats 1200000 in
theorem formed_any {w : World} {v : Value} {n : Nd} (h : NdAt w.heap.size w v n) : Calls Try.prog 36 #[v] w fun e w' => e = .returned (.bool (okN n)) ∧ Below w.heap.size w w' := by
  obtain ⟨pv, kv, iv, rfl, h1, h2, h3⟩ := h
  obtain ⟨pa, pm, pc, rfl, hpm⟩ := h1.form
  obtain ⟨ka, km, kc, rfl, hkm⟩ := h2.form
  obtain ⟨ia, im, ic, rfl, him⟩ := h3.form
  generalize hl : n.leaf = lf
  have hbn := below_new w (.cells #[.bool lf, .slice pa pm pc, .slice ka km kc, .slice ia im ic] 32)
  have hsz : (w.alloc (.cells #[.bool lf, .slice pa pm pc, .slice ka km kc, .slice ia im ic] 32)).heap.size = w.heap.size + 1 := by simp
  have rp := risingP_any ((h1.below hbn).more hbn.size)
  have rk := risingS_any ((h2.below hbn).more hbn.size)
  have cp := fun w1 (b1 : Below (w.heap.size + 1) (w.alloc (.cells #[.bool lf, .slice pa pm pc, .slice ka km kc, .slice ia im ic] 32)) w1) => containsP_any (((h1.below hbn).below (b1.mono (by omega))).more (Nat.le_trans (by rw [hsz]; omega) b1.size))
  have ck := fun w1 (b1 : Below (w.heap.size + 1) (w.alloc (.cells #[.bool lf, .slice pa pm pc, .slice ka km kc, .slice ia im ic] 32)) w1) => containsI_any (((h3.below hbn).below (b1.mono (by omega))).more (Nat.le_trans (by rw [hsz]; omega) b1.size))
  have c1 := cell_new w #[.bool lf, .slice pa pm pc, .slice ka km kc, .slice ia im ic] 32 1 _ rfl
  have c3 := cell_new w #[.bool lf, .slice pa pm pc, .slice ka km kc, .slice ia im ic] 32 3 _ rfl
  have i1 := h1.len okP
  have i2 := h2.len okS
  have i3 := h3.len okZ
  have CP := Lib.hid cp
  have CK := Lib.hid ck
  have HSZ := Lib.hid hsz
  clear h1 h2 h3 cp ck hsz
  cases lf
  · have hk : okN n = okI n := okN_inner hl
    unfold okI at hk
    rw [← hpm.out, ← him.out, ← hkm.out] at hk
    rw [← hpm.out] at i1
    rw [← hkm.out] at i2
    rw [← him.out] at i3
    clear hpm hkm him hl
    by_cases q1 : pm = 0
    · rw [decide_eq_true q1, Bool.true_and] at hk
      subst q1
      by_cases q2 : 1 ≤ im
      · rw [decide_eq_true q2, Bool.true_and] at hk
        by_cases q3 : im ≤ 255
        · rw [decide_eq_true q3, Bool.true_and] at hk
          have hw : IntKind.i64.wrap ((im : Int) - 1) = ((im - 1 : Nat) : Int) := by rw [IntKind.wrap_i64]; omega
          by_cases q4 : km = im - 1
          · rw [decide_eq_true q4, Bool.true_and] at hk
            subst q4
            cases q5 : risB n.ks
            · rw [q5] at hk rk
              have HK := Lib.hid hk
              clear hk q5
              go_enter Try.func36, Try.ntmps36
              go_wp2_with fail
              refine Calls.mono rk ?_
              rintro e w1 ⟨rfl, b1⟩
              have hb2 := Below.then hbn b1 (Nat.le_refl _)
              clear rk rp CP CK hbn
              go_wp2
              go_ret
              exact ⟨by rw [HK.out]; rfl, hb2⟩
            · rw [q5, Bool.true_and] at hk
              rw [q5] at rk
              have HK := Lib.hid hk
              clear hk q5
              go_enter Try.func36, Try.ntmps36
              go_wp2_with fail
              refine Calls.mono rk ?_
              rintro e w1 ⟨rfl, b1⟩
              rw [HSZ.out] at b1
              have b1c := (b1.cell (p := ⟨w.heap.size, 3, none⟩) (Nat.lt_succ_self _)).trans c3
              have hb2 := hbn.trans (b1.mono (Nat.le_succ _))
              have ck := CK.out w1 b1
              clear rk rp CP CK c1 c3
              go_wp2_with fail
              refine Calls.mono ck ?_
              rintro e w2 ⟨rfl, b2⟩
              have hb3 := Below.then hb2 b2 (Nat.le_refl _)
              clear ck b2 hb2 b1 hbn b1c
              go_wp2
              go_ret
              exact ⟨by rw [HK.out]; simp, hb3⟩
          · rw [decide_eq_false q4] at hk
            have e4 : ¬ (km : Int) = ((im - 1 : Nat) : Int) := by omega
            have HK := Lib.hid hk
            clear hk
            go_enter Try.func36, Try.ntmps36
            go_wp2
            go_ret
            exact ⟨by rw [HK.out]; rfl, hbn⟩
        · rw [decide_eq_false q3] at hk
          have HK := Lib.hid hk
          clear hk
          go_enter Try.func36, Try.ntmps36
          go_wp2
          go_ret
          exact ⟨by rw [HK.out]; rfl, hbn⟩
      · rw [decide_eq_false q2] at hk
        have HK := Lib.hid hk
        clear hk
        go_enter Try.func36, Try.ntmps36
        go_wp2
        go_ret
        exact ⟨by rw [HK.out]; rfl, hbn⟩
    · rw [decide_eq_false q1] at hk
      have HK := Lib.hid hk
      clear hk
      go_enter Try.func36, Try.ntmps36
      go_wp2
      go_ret
      exact ⟨by rw [HK.out]; rfl, hbn⟩
  · have hk : okN n = okL n := okN_leaf hl
    unfold okL at hk
    rw [← hpm.out, ← him.out, ← hkm.out] at hk
    rw [← hpm.out] at i1
    rw [← hkm.out] at i2
    rw [← him.out] at i3
    clear hpm hkm him hl
    by_cases q1 : km = 0
    · rw [decide_eq_true q1, Bool.true_and] at hk
      subst q1
      by_cases q2 : im = 0
      · rw [decide_eq_true q2, Bool.true_and] at hk
        subst q2
        by_cases q3 : pm ≤ 255
        · rw [decide_eq_true q3, Bool.true_and] at hk
          cases q5 : risB (ksOf n.ps)
          · rw [q5] at hk rp
            have HK := Lib.hid hk
            clear hk q5
            go_enter Try.func36, Try.ntmps36
            go_wp2_with fail
            refine Calls.mono rp ?_
            rintro e w1 ⟨rfl, b1⟩
            have hb2 := Below.then hbn b1 (Nat.le_refl _)
            clear rk rp CP CK hbn
            go_wp2
            go_ret
            exact ⟨by rw [HK.out]; rfl, hb2⟩
          · rw [q5, Bool.true_and] at hk
            rw [q5] at rp
            have HK := Lib.hid hk
            clear hk q5
            go_enter Try.func36, Try.ntmps36
            go_wp2_with fail
            refine Calls.mono rp ?_
            rintro e w1 ⟨rfl, b1⟩
            rw [HSZ.out] at b1
            have b1c := (b1.cell (p := ⟨w.heap.size, 1, none⟩) (Nat.lt_succ_self _)).trans c1
            have hb2 := hbn.trans (b1.mono (Nat.le_succ _))
            have cp := CP.out w1 b1
            clear rk rp CP CK c1 c3
            go_wp2_with fail
            refine Calls.mono cp ?_
            rintro e w2 ⟨rfl, b2⟩
            have hb3 := Below.then hb2 b2 (Nat.le_refl _)
            clear cp b2 hb2 b1 hbn b1c
            go_wp2
            go_ret
            exact ⟨by rw [HK.out]; simp, hb3⟩
        · rw [decide_eq_false q3] at hk
          have HK := Lib.hid hk
          clear hk
          go_enter Try.func36, Try.ntmps36
          go_wp2
          go_ret
          exact ⟨by rw [HK.out]; rfl, hbn⟩
      · rw [decide_eq_false q2] at hk
        have HK := Lib.hid hk
        clear hk
        go_enter Try.func36, Try.ntmps36
        go_wp2
        go_ret
        exact ⟨by rw [HK.out]; rfl, hbn⟩
    · rw [decide_eq_false q1] at hk
      have HK := Lib.hid hk
      clear hk
      go_enter Try.func36, Try.ntmps36
      go_wp2
      go_ret
      exact ⟨by rw [HK.out]; rfl, hbn⟩
end Go.Proofs.Ytdkmfcmndncmcaa
