/- The contract of node.Find. No statement of the seat is proved here. -/
import Derived.Test.YtdkmfcmndncmcaaNIns2
namespace Go.Proofs.Ytdkmfcmndncmcaa
set_option maxRecDepth 20000
open Go.RowKit

def FindAt (n : Nd) (key : ByteArray) (i : Nat) : Prop := if n.leaf then PlaceAt (ksOf n.ps) key i else ∃ j, PlaceAt n.ks key j ∧ i = if thereB n.ks key j then j + 1 else j
def FindPost (n : Nd) (key : ByteArray) (i : Nat) (E : Int) : Prop := if okN n then E = 0 ∧ FindAt n key i else E = 2 ∧ i = 0
set_option maxHeartbeats 3200000 in
theorem find_any {w : World} {v : Value} {n : Nd} (h : NdAt w.heap.size w v n) (key : ByteArray) : Calls Try.prog 25 #[v, .string key] w fun e w' => ∃ (i : Nat) (E : Int), e = .returned (.tuple #[.int .i64 i, .int .i64 E]) ∧ FindPost n key i E ∧ Below w.heap.size w w' := by
  have H := Lib.hid h
  obtain ⟨pv, kv, iv, rfl, h1, h2, h3⟩ := h
  obtain ⟨pa, pm, pc, rfl, hpm⟩ := h1.form
  obtain ⟨ka, km, kc, rfl, hkm⟩ := h2.form
  obtain ⟨ia, im, ic, rfl, him⟩ := h3.form
  have i2 := h2.len okS
  generalize hlf : n.leaf = lf at *
  have BF := Lib.hid (fun w1 b => box_facts H.out (w1 := w1) b)
  have hz : (w.alloc (ndO lf (.slice pa pm pc) (.slice ka km kc) (.slice ia im ic))).heap.size = w.heap.size + 1 := by simp
  have HZ := Lib.hid hz
  have b0 : Below (w.heap.size + 1) (w.alloc (ndO lf (.slice pa pm pc) (.slice ka km kc) (.slice ia im ic))) (w.alloc (ndO lf (.slice pa pm pc) (.slice ka km kc) (.slice ia im ic))) := Below.refl _ _
  have fc := formed_any (BF.out _ b0).1
  have PP := Lib.hid (fun (w1 : World) (b : Below w.heap.size w w1) (hr : risB (ksOf n.ps) = true) => placeP_any ((h1.below b).more b.size) hr key)
  have PS := Lib.hid (fun (w1 : World) (b : Below w.heap.size w w1) (hr : risB n.ks = true) => placeS_any ((h2.below b).more b.size) hr key)
  have hq := (BF.out _ b0).2.1
  obtain ⟨q0, q1, q2, q3⟩ := hq
  have FP : FindPost n key = fun i E => if okN n then E = 0 ∧ FindAt n key i else E = 2 ∧ i = 0 := rfl
  have FA : FindAt n key = fun i => if lf then PlaceAt (ksOf n.ps) key i else ∃ j, PlaceAt n.ks key j ∧ i = if thereB n.ks key j then j + 1 else j := by funext i; unfold FindAt; rw [hlf]
  rw [FP]
  clear h1 h2 h3 hz FP
  cases hk : okN n
  · rw [hk] at fc
    clear hk FA
    go_enter Try.func25, Try.ntmps25
    go_wp2_with fail
    refine Calls.mono fc ?_
    rintro e w1 ⟨rfl, b1⟩
    rw [HZ.out] at b1
    obtain ⟨-, -, B1, -⟩ := BF.out w1 b1
    clear fc b1 b0
    go_wp2
    go_ret2
    exact ⟨0, 2, rfl, by simp, B1⟩
  · rw [hk] at fc
    rw [FA]
    cases lf
    · have hr := (okI_true ((okN_inner hlf).symm.trans hk)).2.2.2.2.1
      have hk255 : km ≤ 255 := by
        obtain ⟨-, -, a3, a4, -⟩ := okI_true ((okN_inner hlf).symm.trans hk)
        rw [hkm.out]; omega
      clear hk FA
      go_enter Try.func25, Try.ntmps25
      go_wp2_with fail
      refine Calls.mono fc ?_
      rintro e w1 ⟨rfl, b1⟩
      rw [HZ.out] at b1
      obtain ⟨-, hq, B1, s1⟩ := BF.out w1 b1
      obtain ⟨q0, q1, q2, q3⟩ := hq
      have pl := PS.out _ B1 hr
      clear fc b0 q1 q3
      go_wp2_with fail
      refine Calls.mono pl ?_
      rintro e w2 ⟨j, rfl, hp, b2⟩
      obtain ⟨-, -, B2, -⟩ := BF.out w2 (b1.trans (b2.mono s1))
      have hj : j ≤ 255 := by have := hp.le; have := hkm.out; omega
      have HP := Lib.hid hp
      clear pl b1 b2 hp B1 q0 q2
      cases ht : thereB n.ks key j
      · have HT := Lib.hid ht
        clear ht
        go_wp2
        go_ret2
        exact ⟨j, 0, rfl, by simp only [true_and]; exact ⟨j, HP.out, by rw [HT.out]; rfl⟩, B2⟩
      · have HT := Lib.hid ht
        clear ht
        have hw : IntKind.i64.wrap ((j : Int) + 1) = ((j + 1 : Nat) : Int) := by rw [IntKind.wrap_i64]; omega
        go_wp2
        go_ret2
        exact ⟨j + 1, 0, by first | rfl | (push_cast; rfl), by simp only [true_and]; exact ⟨j, HP.out, by rw [HT.out]; rfl⟩, B2⟩
    · have hr := (okL_true ((okN_leaf hlf).symm.trans hk)).2.2.2.1
      clear hk FA
      go_enter Try.func25, Try.ntmps25
      go_wp2_with fail
      refine Calls.mono fc ?_
      rintro e w1 ⟨rfl, b1⟩
      rw [HZ.out] at b1
      obtain ⟨-, hq, B1, s1⟩ := BF.out w1 b1
      obtain ⟨q0, q1, q2, q3⟩ := hq
      have pl := PP.out _ B1 hr
      clear fc b0 q2 q3
      go_wp2_with fail
      refine Calls.mono pl ?_
      rintro e w2 ⟨j, rfl, hp, b2⟩
      obtain ⟨-, -, B2, -⟩ := BF.out w2 (b1.trans (b2.mono s1))
      have HP := Lib.hid hp
      clear pl b1 b2 hp B1 q0 q1
      generalize thereB (ksOf n.ps) key j = tb
      go_wp2
      go_ret2
      exact ⟨j, 0, rfl, by simp only [true_and]; exact HP.out, B2⟩
end Go.Proofs.Ytdkmfcmndncmcaa
