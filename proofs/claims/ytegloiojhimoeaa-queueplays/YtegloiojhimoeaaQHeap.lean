/- The contracts of container/heap's up and down over the queue's line. No statement of the seat is proved here. -/
import Derived.Test.YtegloiojhimoeaaQLine
namespace Go.Proofs.Ytegloiojhimoeaa
open Go.RowKit

abbrev lineI (qb : Nat) : Value := .iface 70 (.pointer (some ⟨qb, 0, none⟩))
def UpPost (X : Nat → Prop) (w : World) (qb : Nat) (mv : Value) (pu : Nat) (L : List Wt) (n : Nat) (w' : World) : Prop := ∃ L', LineAt X w' qb mv pu L' ∧ L'.Perm L ∧ (∀ k, n ≤ k → at' L' k = at' L k) ∧ HeapAll (kf L') n ∧ Kp X w w'
theorem LineAt.cell0 {X : Nat → Prop} {w : World} {qb : Nat} {mv : Value} {pu : Nat} {L : List Wt} (h : LineAt X w qb mv pu L) : ∃ lv, w.cell? ⟨qb, 0, none⟩ = some lv := by
  obtain ⟨lv, h1, _⟩ := h.box
  exact ⟨lv, cell_row h1 0 rfl⟩

theorem run_loadLine {w : World} {qb : Nat} {lv : Value} (hc : w.cell? ⟨qb, 0, none⟩ = some lv) : (loadVar 56 ⟨qb, 0, none⟩).run Try.prog w = .ok lv w := by
  have ha : (isAgg 56).run Try.prog w = .ok false w := by
    unfold isAgg
    rw [Sem.run_bind, run_underlying Try.underlying56 w]
    rfl
  simp [loadVar, ha, run_load, hc]
theorem meth_less {w : World} {qb : Nat} {lv : Value} (hc : w.cell? ⟨qb, 0, none⟩ = some lv) : (method 236 70 (.pointer (some ⟨qb, 0, none⟩)) "Less").run Try.prog w = .ok (89, lv) w := by
  have e : (method 236 70 (.pointer (some ⟨qb, 0, none⟩)) "Less").run Try.prog w = Sem.run Try.prog (do let v ← loadVar 56 ⟨qb, 0, none⟩; pure (89, v)) w := by kernel_rfl
  rw [e, Sem.run_bind, run_loadLine hc]; rfl
theorem meth_swap {w : World} {qb : Nat} {lv : Value} (hc : w.cell? ⟨qb, 0, none⟩ = some lv) : (method 236 70 (.pointer (some ⟨qb, 0, none⟩)) "Swap").run Try.prog w = .ok (90, lv) w := by
  have e : (method 236 70 (.pointer (some ⟨qb, 0, none⟩)) "Swap").run Try.prog w = Sem.run Try.prog (do let v ← loadVar 56 ⟨qb, 0, none⟩; pure (90, v)) w := by kernel_rfl
  rw [e, Sem.run_bind, run_loadLine hc]; rfl
theorem meth_len {w : World} {qb : Nat} {lv : Value} (hc : w.cell? ⟨qb, 0, none⟩ = some lv) : (method 236 70 (.pointer (some ⟨qb, 0, none⟩)) "Len").run Try.prog w = .ok (88, lv) w := by
  have e : (method 236 70 (.pointer (some ⟨qb, 0, none⟩)) "Len").run Try.prog w = Sem.run Try.prog (do let v ← loadVar 56 ⟨qb, 0, none⟩; pure (88, v)) w := by kernel_rfl
  rw [e, Sem.run_bind, run_loadLine hc]; rfl
theorem meth_push {w : World} {qb : Nat} : (method 236 70 (.pointer (some ⟨qb, 0, none⟩)) "Push").run Try.prog w = .ok (92, .pointer (some ⟨qb, 0, none⟩)) w := by kernel_rfl
theorem meth_pop {w : World} {qb : Nat} : (method 236 70 (.pointer (some ⟨qb, 0, none⟩)) "Pop").run Try.prog w = .ok (91, .pointer (some ⟨qb, 0, none⟩)) w := by kernel_rfl

set_option maxRecDepth 20000 in
set_option maxHeartbeats 1600000 in
theorem up_any {X : Nat → Prop} {w : World} {qb : Nat} {mv : Value} {pu : Nat} {L : List Wt} (h : LineAt X w qb mv pu L) {j n : Nat} (hj : j < n) (hn : n ≤ L.length) (hh : HeapUp (kf L) n j) :
    Calls Try.prog 46 #[lineI qb, .int .i64 j] w fun e w' => e = .returned (.tuple #[]) ∧ UpPost X w qb mv pu L n w' := by
  go_enter Try.func46, Try.ntmps46
  go_wp2
  go_loopw [1] (fun jv wr => ∃ (k : Nat) (L' : List Wt), jv = .int .i64 k ∧ k < n ∧ LineAt X wr qb mv pu L' ∧ L'.Perm L ∧ (∀ k, n ≤ k → at' L' k = at' L k) ∧ HeapUp (kf L') n k ∧ Kp X w wr) (fun jv _ => (intOf jv).toNat)
  case atStart => exact ⟨j, L, rfl, hj, h, List.Perm.refl _, fun _ _ => rfl, hh, Kp.refl _ _⟩
  case round =>
    clear h hh hj
    obtain ⟨k, L', rfl, hk, h, hp, ht, hh, kp⟩ := hrel
    have hnl : n ≤ L'.length := by rw [hp.length_eq]; exact hn
    have HT := Lib.hid ht
    clear ht hn
    by_cases h0 : k = 0
    · subst h0
      go_wp2
      go_end0
      exact ⟨rfl, L', h, hp, HT.out, up_end0 hh, kp⟩
    · have hl := h.len
      have e1 : IntKind.i64.wrap ((k : Int) - 1) = ((k - 1 : Nat) : Int) := by rw [IntKind.wrap_i64]; omega
      obtain ⟨i, hi0⟩ : ∃ i, i = (k - 1) / 2 := ⟨_, rfl⟩
      have e2 : wrap64 (((k - 1 : Nat) : Int) / 2) = (i : Int) := by rw [IntWalk.wrap64_in _ ⟨by omega, by omega⟩]; omega
      have hne : ¬ ((i : Int) = (k : Int)) := by omega
      have hi : i < L'.length := by omega
      obtain ⟨lv, hc⟩ := h.cell0
      have hm := meth_less hc
      have C := Lib.hid (lineLess_any h (Nat.lt_of_lt_of_le hk hnl) hi hc)
      have H := Lib.hid h
      have HI := Lib.hid hi0
      have HK := Lib.hid (show k < L'.length ∧ i < L'.length ∧ ¬ k = 0 ∧ k < n ∧ i < n from ⟨Nat.lt_of_lt_of_le hk hnl, hi, h0, hk, by omega⟩)
      clear h hi0 hl hk hi h0 hnl
      go_wp2_with fail
      refine C.out.mono ?_
      rintro e w1 ⟨rfl, b1⟩
      have h1 := H.out.below b1
      have k1 := kp.trans (Kp.of_below b1)
      have hc1 : w1.cell? ⟨qb, 0, none⟩ = some lv := (b1.cell (p := ⟨qb, 0, none⟩) (World.block_lt_of_cell? _ _ hc)).trans hc
      clear b1 kp hc hm H C
      by_cases hlt : kf L' k < kf L' i
      · have ht : decide (kf L' k < kf L' i) = true := decide_eq_true hlt
        have HL := Lib.hid hlt
        rw [ht]
        clear hlt ht
        have hm := meth_swap hc1
        have C := Lib.hid (lineSwap_any h1 HK.out.2.1 HK.out.1 (by omega) hc1)
        clear h1
        go_wp2_with fail
        refine C.out.mono ?_
        rintro e w2 ⟨rfl, h2, k2, -⟩
        go_wp2
        go_roundw
        case rel =>
          refine ⟨i, swapL L' i k, rfl, HK.out.2.2.2.2, h2, (swapL_perm HK.out.2.1 HK.out.1).trans hp, fun m hm => ?_, ?_, k1.trans k2⟩
          · have := HK.out
            rw [swapL_at HK.out.2.1 HK.out.1, if_neg (by omega), if_neg (by omega)]; exact HT.out m hm
          · refine up_step hh (by have := HK.out.2.2.1; omega) HI.out HK.out.2.2.2.1 HL.out (fun m _ => ?_)
            unfold kf
            rw [swapL_at HK.out.2.1 HK.out.1]
            split
            · rfl
            · split <;> rfl
        case measure => have := HK.out; have := HI.out; simp [intOf]; omega
      · have ht : decide (kf L' k < kf L' i) = false := decide_eq_false hlt
        have HL := Lib.hid hlt
        rw [ht]
        clear hlt ht
        go_wp2
        go_end0
        exact ⟨rfl, L', h1, hp, HT.out, up_end hh (by rw [← HI.out]; have := HL.out; omega), k1⟩

def DownPost (X : Nat → Prop) (w : World) (qb : Nat) (mv : Value) (pu : Nat) (L : List Wt) (i0 n : Nat) (e : Ending) (w' : World) : Prop :=
  ∃ L' b, e = .returned (.bool b) ∧ LineAt X w' qb mv pu L' ∧ L'.Perm L ∧ (∀ k, n ≤ k → at' L' k = at' L k) ∧ Kp X w w' ∧ (b = true → HeapAll (kf L') n) ∧ (b = false → L' = L ∧ HeapUp (kf L) n i0)
theorem down_post {X : Nat → Prop} {w w' : World} {qb : Nat} {mv : Value} {pu : Nat} {L L' : List Wt} {i0 n i : Nat} (h : LineAt X w' qb mv pu L') (hp : L'.Perm L) (ht : ∀ k, n ≤ k → at' L' k = at' L k) (kp : Kp X w w') (hex : HeapEx (kf L') n i) (h0 : i0 ≤ i) (hs : i = i0 → L' = L) (hn : i ≠ i0 → kf L' ((i - 1) / 2) ≤ kf L' i)
    (hc : ∀ c, 0 < c → c < n → (c - 1) / 2 = i → kf L' i ≤ kf L' c) : DownPost X w qb mv pu L i0 n (.returned (.bool (decide (i0 < i)))) w' := by
  have hu := down_end hex hc
  refine ⟨L', _, rfl, h, hp, ht, kp, fun e => up_end hu (hn (by have := of_decide_eq_true e; omega)), fun e => ?_⟩
  have e1 : i = i0 := by have := of_decide_eq_false e; omega
  have e2 := hs e1
  subst e1
  rw [e2] at hu
  exact ⟨e2, hu⟩

set_option maxRecDepth 20000 in
set_option maxHeartbeats 3200000 in
theorem heapDown_any {X : Nat → Prop} {w : World} {qb : Nat} {mv : Value} {pu : Nat} {L : List Wt} (h : LineAt X w qb mv pu L) {i0 n : Nat} (hi0 : i0 < n) (hn : n ≤ L.length) (hh : HeapEx (kf L) n i0) :
    Calls Try.prog 53 #[lineI qb, .int .i64 i0, .int .i64 n] w (DownPost X w qb mv pu L i0 n) := by
  go_enter Try.func53, Try.ntmps53
  go_wp2
  go_loopw [7] (fun iv wr => ∃ (i : Nat) (L' : List Wt), iv = .int .i64 i ∧ i0 ≤ i ∧ i < n ∧ LineAt X wr qb mv pu L' ∧ L'.Perm L ∧ (∀ k, n ≤ k → at' L' k = at' L k) ∧ HeapEx (kf L') n i ∧ Kp X w wr ∧ (i = i0 → L' = L) ∧ (i ≠ i0 → kf L' ((i - 1) / 2) ≤ kf L' i)) (fun iv _ => n - (intOf iv).toNat)
  case atStart => exact ⟨i0, L, rfl, Nat.le_refl _, hi0, h, List.Perm.refl _, fun _ _ => rfl, hh, Kp.refl _ _, fun _ => rfl, fun e => absurd rfl e⟩
  case round =>
    have hLL := h.len
    clear h hh hi0
    obtain ⟨i, L', rfl, h0, hi, h, hp, ht, hex, kp, hs, hnn⟩ := hrel
    have hl : n ≤ L'.length := by rw [hp.length_eq]; exact hn
    have hb : n ≤ 1000 := by omega
    have HH := Lib.hid (And.intro h0 (And.intro hi (And.intro hp (And.intro ht (And.intro hex (And.intro hs hnn))))))
    have e0 : IntKind.i64.wrap (2 * (i : Int)) = ((2 * i : Nat) : Int) := by rw [IntKind.wrap_i64]; omega
    have e1 : IntKind.i64.wrap (((2 * i : Nat) : Int) + 1) = ((2 * i + 1 : Nat) : Int) := by rw [IntKind.wrap_i64]; omega
    have e2 : IntKind.i64.wrap (((2 * i + 1 : Nat) : Int) + 1) = ((2 * i + 2 : Nat) : Int) := by rw [IntKind.wrap_i64]; omega
    clear h0 hp ht hex hs hnn hn hLL
    by_cases hA : 2 * i + 1 < n
    · have hA1 : ¬ ((n : Int) ≤ ((2 * i + 1 : Nat) : Int)) := by omega
      have hA2 : ¬ (((2 * i + 1 : Nat) : Int) < 0) := by omega
      obtain ⟨a, ha⟩ : ∃ a, a = 2 * i + 1 := ⟨_, rfl⟩
      rw [← ha] at e1 e2 hA1 hA2
      obtain ⟨b, hb2⟩ : ∃ b, b = 2 * i + 2 := ⟨_, rfl⟩
      rw [← hb2] at e2
      generalize hd : ((2 * i : Nat) : Int) = d at e0 e1
      have HAB := Lib.hid (And.intro ha hb2)
      clear hd
      refine (Decidable.em (b < n)).elim (fun hB => ?bpos) (fun hB => ?bneg)
      case' bpos =>
        have hB1 : ((b : Int) < (n : Int)) := by omega
        obtain ⟨lv, hc⟩ := h.cell0
        have hm := meth_less hc
        have C := Lib.hid (lineLess_any h (i := b) (j := a) (by omega) (by omega) hc)
        have H := Lib.hid h
        have HN := Lib.hid (And.intro hi (And.intro hl hA))
        clear h hi hl hb hA ha hb2 hB
        go_wp2_with fail
        refine C.out.mono ?_
        rintro e w1 ⟨rfl, b1⟩
        have h1 := H.out.below b1
        have k1 := kp.trans (Kp.of_below b1)
        obtain ⟨lv, hc1⟩ := h1.cell0
        clear b1 kp hc hm H C
        refine (Decidable.em (kf L' b < kf L' a)).elim (fun hr => ?rpos) (fun hr => ?rneg)
        case' rpos =>
          rw [decide_eq_true hr]
          have HJ : Hid (b < n ∧ (b - 1) / 2 = i ∧ 0 < b ∧ ∀ c, 0 < c → c < n → (c - 1) / 2 = i → kf L' b ≤ kf L' c) := by
            have h1 := HAB.out
            refine ⟨by omega, by omega, by omega, fun c c0 c1 c2 => ?_⟩
            have : c = a ∨ c = b := by omega
            rcases this with rfl | rfl <;> omega
          have hm := meth_less hc1
          clear hr
          go_wp2_with fail
          generalize b = j at HJ ⊢
        case' rneg =>
          rw [decide_eq_false hr]
          have HJ : Hid (a < n ∧ (a - 1) / 2 = i ∧ 0 < a ∧ ∀ c, 0 < c → c < n → (c - 1) / 2 = i → kf L' a ≤ kf L' c) := by
            have h1 := HAB.out
            have h2 := HN.out
            refine ⟨by omega, by omega, by omega, fun c c0 c1 c2 => ?_⟩
            have : c = a ∨ c = b := by omega
            rcases this with rfl | rfl <;> omega
          have hm := meth_less hc1
          clear hr
          go_wp2_with fail
          generalize a = j at HJ ⊢
      case' bneg =>
        have hB1 : ¬ ((b : Int) < (n : Int)) := by omega
        have HN := Lib.hid (And.intro hi (And.intro hl hA))
        obtain ⟨lv, hc1⟩ := h.cell0
        have h1 := h
        have k1 := kp
        have HJ : Hid (a < n ∧ (a - 1) / 2 = i ∧ 0 < a ∧ ∀ c, 0 < c → c < n → (c - 1) / 2 = i → kf L' a ≤ kf L' c) := by
          have h1 := HAB.out
          refine ⟨by omega, by omega, by omega, fun c c0 c1 c2 => ?_⟩
          have : c = a := by omega
          subst this; omega
        clear h kp hi hl hb hA ha hb2 hB
        have hm := meth_less hc1
        go_wp2_with fail
        generalize a = j at HJ ⊢
      all_goals
        refine (lineLess_any h1 (i := j) (j := i) (by have := HJ.out.1; have := HN.out.2.1; omega) (by have := HN.out.1; have := HN.out.2.1; omega) hc1).mono ?_
        rintro e w2 ⟨rfl, b2⟩
        have h2 := h1.below b2
        have k2 := k1.trans (Kp.of_below b2)
        clear b2 k1 hc1 h1 hm
        obtain ⟨lv, hc2⟩ := h2.cell0
        refine (Decidable.em (kf L' j < kf L' i)).elim (fun hq => ?_) (fun hq => ?_)
        · rw [decide_eq_true hq]
          have HQ := Lib.hid hq
          clear hq
          have hm := meth_swap hc2
          have C := Lib.hid (lineSwap_any h2 (i := i) (j := j) (by have := HN.out.1; have := HN.out.2.1; omega) (by have := HJ.out.1; have := HN.out.2.1; omega) (by have := HJ.out.2.1; have := HJ.out.2.2.1; omega) hc2)
          clear h2
          go_wp2_with fail
          refine C.out.mono ?_
          rintro e w3 ⟨rfl, h3, k3, -⟩
          go_wp2
          obtain ⟨h0, hi, hp, ht, hex, hs, hnn⟩ := HH.out
          obtain ⟨hl, -⟩ := HN.out.2
          obtain ⟨hj, hpar, hj0, hsib⟩ := HJ.out
          have hsw : ∀ k, kf (swapL L' i j) k = if k = j then kf L' i else if k = i then kf L' j else kf L' k := fun k => by
            unfold kf
            rw [swapL_at (by omega) (by omega)]
            split
            · rfl
            · split <;> rfl
          obtain ⟨d1, d2⟩ := down_step hex hj0 hpar hj HQ.out hsib (fun k _ => hsw k)
          go_roundw
          case rel =>
            refine ⟨j, swapL L' i j, rfl, by omega, hj, h3, (swapL_perm (by omega) (by omega)).trans hp, fun k hk => ?_, d1, k2.trans k3, fun e => by omega, fun _ => d2⟩
            rw [swapL_at (by omega) (by omega), if_neg (by omega), if_neg (by omega)]
            exact ht k hk
          case measure => simp [intOf]; omega
        · rw [decide_eq_false hq]
          have HQ := Lib.hid hq
          clear hq
          go_wp2
          go_ret
          obtain ⟨h0, hi, hp, ht, hex, hs, hnn⟩ := HH.out
          obtain ⟨hj, hpar, hj0, hsib⟩ := HJ.out
          have hq := HQ.out
          exact down_post h2 hp ht k2 hex h0 hs hnn (fun c c0 c1 c2 => by have := hsib c c0 c1 c2; omega)
    · have hA1 : ((n : Int) ≤ ((2 * i + 1 : Nat) : Int)) := by omega
      generalize hd : ((2 * i : Nat) : Int) = d at e0 e1
      generalize hd1 : ((2 * i + 1 : Nat) : Int) = d1 at e1 e2 hA1
      clear hd hd1
      go_wp2
      go_ret
      obtain ⟨h0, hi, hp, ht, hex, hs, hnn⟩ := HH.out
      exact down_post h hp ht kp hex h0 hs hnn (fun c c0 c1 c2 => by omega)
end Go.Proofs.Ytegloiojhimoeaa
