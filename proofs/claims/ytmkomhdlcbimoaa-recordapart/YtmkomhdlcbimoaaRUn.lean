/- The contracts of record's unseal, shaped, unsector, and of what must be. No statement of the seat is proved here. -/
import Derived.Test.YtmkomhdlcbimoaaRBase
namespace Go.Proofs.Ytmkomhdlcbimoaa
set_option maxRecDepth 20000
open Go.RowKit

theorem OwnI.base {base base' : Nat} {w : World} {v : Value} {l : List It} (h : OwnI base w v l) (hb : base' ≤ base) : OwnI base' w v l :=
  ownsRow_base h (fun k hk => Nat.le_trans hb (World.ownsRow.lt h k hk).1)
theorem OwnB.base {base base' : Nat} {w : World} {v : Value} {bs : List UInt8} (h : OwnB base w v bs) (hb : base' ≤ base) : OwnB base' w v bs :=
  ownsRow_base h (fun k hk => Nat.le_trans hb (World.ownsRow.lt h k hk).1)
theorem OwnI.nil_of {base : Nat} {w : World} {l : List It} (h : l = []) : OwnI base w (.slice none 0 0) l := by subst h; exact OwnI.nil _ _
set_option maxHeartbeats 1600000 in
theorem unseal_any {w : World} {v : Value} {bs : List UInt8} (h : ByC w v bs) (hcap : capOk v) (hlen : bs.length ≤ 140737488355328) : Calls Try.prog 46 #[v] w (ItRetE w.heap.size w (unsR bs) (unsE bs)) := by
  have ho := open_any h hcap hlen
  obtain ⟨ao, m, cap, hv, hm⟩ : ∃ ao m cap, v = .slice ao m cap ∧ Hid (m = bs.length) := by
    obtain ⟨ao, cap, hv, _⟩ := h
    exact ⟨ao, _, cap, hv, Lib.hid rfl⟩
  subst hv
  by_cases h0 : openE bs = 0
  · have e1 : unsE bs = decE (openR bs) := if_pos h0
    have e2 : unsR bs = decR (openR bs) := if_pos h0
    rw [e1, e2]
    rw [h0] at ho
    clear e1 e2 h0
    go_enter Try.func46, Try.ntmps46
    go_wp2_with fail
    refine ho.mono ?_
    rintro e w1 ⟨v1, rfl, h1, b1⟩
    have hd := decode_any h1.at h1.cap
    obtain ⟨ao1, m1, cap1, hv1, hm1⟩ := h1.form'
    subst hv1
    clear ho h1
    go_wp2_with fail
    refine hd.mono ?_
    rintro e w2 ⟨v2, rfl, h2, b2⟩
    obtain ⟨ao2, m2, cap2, hv2, hm2⟩ := h2.form'
    subst hv2
    clear hd
    go_wp2
    go_ret2
    exact ⟨_, rfl, h2.base b1.size, b1.trans (b2.mono b1.size)⟩
  · have e1 : unsE bs = openE bs := if_neg h0
    have e2 : unsR bs = [] := if_neg h0
    rw [e1, e2]
    have hq : (openE bs != 0) = true := by simpa using h0
    generalize openE bs = E at ho hq
    clear e1 e2 h0
    go_enter Try.func46, Try.ntmps46
    go_wp2_with fail
    refine ho.mono ?_
    rintro e w1 ⟨v1, rfl, h1, b1⟩
    obtain ⟨ao1, m1, cap1, hv1, hm1⟩ := h1.form'
    subst hv1
    clear ho h1
    go_wp2
    go_ret2
    exact ⟨_, rfl, OwnI.nil _ _, b1⟩

theorem shape_false_len {l : List It} {m : Int} {hd : Nat} (h : l.length < hd) : shapeB l m hd = false := by
  unfold shapeB
  rw [decide_eq_false (by omega)]; rfl
theorem shape_false_mark {l : List It} {m : Int} {hd : Nat} (h : (itAt l 0).n ≠ m) : shapeB l m hd = false := by
  unfold shapeB
  rw [show ((itAt l 0).n == m) = false by simpa using h]; simp
theorem shape_false_at {l : List It} {m : Int} {hd i : Nat} (hi : i < l.length) (h : (decide (i < hd)) ≠ ((itAt l i).k == 1)) : shapeB l m hd = false := by
  unfold shapeB
  rw [show ((List.range l.length).all fun i => (decide (i < hd)) == ((itAt l i).k == 1)) = false from ?_]
  · simp
  · rw [List.all_eq_false]
    exact ⟨i, List.mem_range.2 hi, by simpa using h⟩
theorem shape_true {l : List It} {m : Int} {hd : Nat} (h1 : hd ≤ l.length) (h2 : (itAt l 0).n = m) (h : ∀ i, i < l.length → (decide (i < hd)) = ((itAt l i).k == 1)) : shapeB l m hd = true := by
  unfold shapeB
  rw [decide_eq_true h1, show ((itAt l 0).n == m) = true by simpa using h2]
  simp only [Bool.and_self, Bool.true_and, List.all_eq_true, List.mem_range, beq_iff_eq]
  exact h
set_option maxHeartbeats 1600000 in
theorem shaped_any {w : World} {v : Value} {l : List It} (h : ItemsAt w.heap.size w v l) (mark : Int) (hd : Nat) (hd0 : 0 < hd) (hd9 : hd ≤ 9) : Calls Try.prog 47 #[v, .int .i64 mark, .int .i64 (hd : Int)] w fun e w' => e = .returned (.bool (shapeB l mark hd)) ∧ Below w.heap.size w w' := by
  obtain ⟨ao, m, cap, hv, hm⟩ : ∃ ao m cap, v = .slice ao m cap ∧ Hid (m = l.length) := by
    obtain ⟨ao, cap, hv, _⟩ := h
    exact ⟨ao, _, cap, hv, Lib.hid rfl⟩
  have hmb : m ≤ 9223372036854775807 := by rw [hm.out]; obtain ⟨_, _, _, _, hh, _⟩ := h; exact hh
  subst hv
  by_cases c1 : m < hd
  · have e0 := shape_false_len (l := l) (m := mark) (hd := hd) (by rw [← hm.out]; exact c1)
    rw [e0]
    clear e0
    have c1' : (m : Int) < (hd : Int) := by omega
    go_enter Try.func47, Try.ntmps47
    go_wp2
    go_ret
    exact ⟨rfl, Below.refl _ _⟩
  · have hl0 : 0 < l.length := by rw [← hm.out]; omega
    obtain ⟨ao', cap', hv', h1, h2, h3, h4⟩ := h
    obtain ⟨ea, -, ec⟩ := Value.slice.inj hv'
    subst ea
    subst ec
    clear hv'
    obtain ⟨b, off, rfl, hB, hc⟩ := h4 hl0
    have hn0 := (hc 0 hl0).2.1
    simp only [Nat.zero_mul, Nat.add_zero] at hn0
    have c1' : ¬ (m : Int) < (hd : Int) := by omega
    have hm0 : 0 < m := by omega
    by_cases c2 : (itAt l 0).n = mark
    · have hq : ((itAt l 0).n != mark) = false := by simpa using c2
      have C2 := Lib.hid c2
      generalize (itAt l 0).n = n0 at hn0 hq
      clear c2 h4
      go_enter Try.func47, Try.ntmps47
      go_wp2
      clear hn0 hq
      go_loopw [23] (fun iv wr => ∃ k : Nat, k ≤ m ∧ iv = .int .i64 k ∧ Below w.heap.size w wr ∧ Hid (∀ j, j < k → (decide (j < hd)) = ((itAt l j).k == 1))) (fun iv _ => m - (intOf iv).toNat)
      case atStart => exact ⟨0, Nat.zero_le _, rfl, Below.refl _ _, Lib.hid (fun j hj => by omega)⟩
      case round =>
        obtain ⟨k, hk, rfl, hbel, hall⟩ := hrel
        by_cases hlt : k < m
        · have hlt' : k < l.length := by rw [← hm.out]; exact hlt
          obtain ⟨d1, d2, d3⟩ := hc k hlt'
          have d1' := (hbel.cell (p := ⟨b, off + k * 3, none⟩) hB).trans d1
          have d2' := (hbel.cell (p := ⟨b, off + k * 3 + 1, none⟩) hB).trans d2
          have d3' := (hbel.cell (p := ⟨b, off + k * 3 + 2, none⟩) hB).trans d3
          have HB := hbel.alloc hbel.size (.cells #[.int .i64 (itAt l k).k, .int .i64 (itAt l k).n, .string (itAt l k).s] 77)
          generalize hx : itAt l k = x at d1' d2' d3' HB
          have HX := Lib.hid hx
          clear d1 d2 d3 hx hbel
          by_cases c3 : (k : Int) < (hd : Int)
          · by_cases c4 : x.k = 1
            · have hq : (x.k == 1) = true := by simpa using c4
              have H2 : Hid (∀ j, j < k + 1 → (decide (j < hd)) = ((itAt l j).k == 1)) := Lib.hid (fun j hj => by
                by_cases e : j = k
                · subst e; rw [HX.out, hq]; simp; omega
                · exact hall.out j (by omega))
              clear c4 hall
              go_wp2
              go_roundw
              case rel => exact ⟨k + 1, by omega, by go_num, HB, H2⟩
              case measure => simp [intOf]; omega
            · have hq : (x.k == 1) = false := by simpa using c4
              have H2 := Lib.hid (shape_false_at (l := l) (m := mark) (hd := hd) (i := k) hlt' (by rw [HX.out, hq]; simp; omega))
              clear c4 hall
              go_wp2
              go_ret
              exact ⟨by rw [H2.out]; rfl, HB⟩
          · by_cases c4 : x.k = 1
            · have hq : (x.k == 1) = true := by simpa using c4
              have H2 := Lib.hid (shape_false_at (l := l) (m := mark) (hd := hd) (i := k) hlt' (by rw [HX.out, hq]; simp; omega))
              clear c4 hall
              go_wp2
              go_ret
              exact ⟨by rw [H2.out]; rfl, HB⟩
            · have hq : (x.k == 1) = false := by simpa using c4
              have H2 : Hid (∀ j, j < k + 1 → (decide (j < hd)) = ((itAt l j).k == 1)) := Lib.hid (fun j hj => by
                by_cases e : j = k
                · subst e; rw [HX.out, hq]; simp; omega
                · exact hall.out j (by omega))
              clear c4 hall
              go_wp2
              go_roundw
              case rel => exact ⟨k + 1, by omega, by go_num, HB, H2⟩
              case measure => simp [intOf]; omega
        · have H2 := Lib.hid (shape_true (l := l) (m := mark) (hd := hd) (by rw [← hm.out]; omega) C2.out (fun i hi => hall.out i (by rw [← hm.out] at hi; omega)))
          clear hall
          go_wp2
          go_ret
          exact ⟨by rw [H2.out]; rfl, hbel⟩
    · have hq : ((itAt l 0).n != mark) = true := by simpa using c2
      have H2 := Lib.hid (shape_false_mark (l := l) (m := mark) (hd := hd) c2)
      generalize (itAt l 0).n = n0 at hn0 hq
      clear c2 h4 hc
      go_enter Try.func47, Try.ntmps47
      go_wp2
      go_ret
      exact ⟨by rw [H2.out]; rfl, Below.refl _ _⟩
end Go.Proofs.Ytmkomhdlcbimoaa
