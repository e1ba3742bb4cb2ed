/- The contract of the document's DocUnder. No statement of the seat is proved here. -/
import Derived.Test.YtclkgbelmacmfaaOUnder
namespace Go.Proofs.Ytclkgbelmacmfaa
set_option maxRecDepth 20000
open Go.RowKit

theorem take_eq {l m : List ByteArray} (hl : m.length ≤ l.length) (h : ∀ j, j < m.length → kAt l j = kAt m j) : l.take m.length = m := by
  refine same_true (by rw [List.length_take]; omega) fun j hj => ?_
  rw [List.length_take] at hj
  rw [← h j (by omega)]
  unfold kAt
  rw [List.getD_eq_getElem?_getD, List.getElem?_take, if_pos (by omega), List.getD_eq_getElem?_getD]
theorem take_ne {l m : List ByteArray} {k : Nat} (hk : k < m.length) (h : ¬ kAt l k = kAt m k) : ¬ l.take m.length = m := fun e => h (by
  have h1 : kAt (l.take m.length) k = kAt l k := by
    unfold kAt
    rw [List.getD_eq_getElem?_getD, List.getElem?_take, if_pos hk, List.getD_eq_getElem?_getD]
  rw [← h1, e])
set_option maxHeartbeats 3200000 in
theorem docUnder_any (p a : ByteArray) (hp : p.size ≤ 9223372036854775807) (ha : a.size ≤ 9223372036854775807) (w : World) : Calls Try.prog 20 #[.string p, .string a] w fun e w' => e = .returned (.tuple #[.bool (unB p a), .int .i64 (unE p a)]) ∧ Below w.heap.size w w' := by
  have pa := refParse_any p hp w
  have pb := Lib.hid (fun w' => refParse_any a ha w')
  clear hp ha
  rcases erOf_cases p with ⟨he, -, hok, -⟩ | ⟨he, -, hn⟩
  · rcases erOf_cases a with ⟨he2, -, hok2, -⟩ | ⟨he2, -, hn2⟩
    · obtain ⟨q1, q2⟩ := un_both he he2
      rw [q1, q2]
      rw [he] at pa
      rw [he2] at pb
      have K1 := Lib.hid (ok10 hok)
      have K2 := Lib.hid (ok10 hok2)
      clear q1 q2 he he2 hok hok2
      generalize nsOf p = ns at *
      generalize nsOf a = ms at *
      obtain ⟨R, hR⟩ : ∃ R, isUnder ns ms = R := ⟨_, rfl⟩
      have HR := Lib.hid (hR.symm.trans (show isUnder ns ms = (decide (ms.length < ns.length) && decide (ns.take ms.length = ms)) from rfl))
      rw [hR]
      clear hR
      go_enter Try.func20, Try.ntmps20
      go_wp2_with fail
      refine Calls.mono pa ?_
      rintro e w1 ⟨v, rfl, ho, b1⟩
      obtain ⟨ao, am, ac, rfl, hm⟩ := ho.form'
      have HO := Lib.hid ho
      clear pa ho
      go_wp2_with fail
      refine Calls.mono (pb.out _) ?_
      rintro e w2 ⟨v, rfl, ho2, b2⟩
      have hb := Below.then b1 b2 (Nat.le_refl _)
      have s1 := ((own_sl HO.out K1.out).below b2).more b2.size
      have s2 := own_sl ho2 K2.out
      obtain ⟨bo, bm, bc, rfl, hn⟩ := s2.form
      have HA := Lib.hid s1
      have HB := Lib.hid s2
      clear HO b1 b2 s1 s2 ho2
      by_cases hlt : bm < am
      · have HF := Lib.hid (show R = decide (ns.take ms.length = ms) by
          rw [HR.out, ← hm.out, ← hn.out, decide_eq_true hlt, Bool.true_and])
        have d0 : decide (((am : Nat) : Int) ≤ ((bm : Nat) : Int)) = false := by rw [decide_eq_false_iff_not]; omega
        have hlt' : ¬ am ≤ bm := by omega
        have hb10 : bm ≤ 10 := by rw [hn.out]; exact K2.out
        go_wp2
        go_loopw [10] (fun iv wr => ∃ k : Nat, k ≤ bm ∧ iv = .int .i64 k ∧ Hid (∀ j, j < k → kAt ns j = kAt ms j) ∧ Below w2.heap.size w2 wr) (fun iv _ => bm - (intOf iv).toNat)
        case atStart => exact ⟨0, Nat.zero_le _, rfl, Lib.hid (fun j hj => by omega), Below.refl _ _⟩
        case round =>
          obtain ⟨k, hk, rfl, hf, hb2⟩ := hrel
          by_cases hkb : k < bm
          · obtain ⟨b1, off1, cap1, hv1, hB1, c1⟩ := HA.out.getS (i := k) (by rw [← hm.out]; omega)
            obtain ⟨b2, off2, cap2, hv2, hB2, c2⟩ := HB.out.getS (i := k) (by rw [← hn.out]; exact hkb)
            obtain ⟨rfl, rfl⟩ : ao = some ⟨b1, off1, none⟩ ∧ ac = cap1 := by injection hv1 with h1 _ h3; exact ⟨h1, h3⟩
            obtain ⟨rfl, rfl⟩ : bo = some ⟨b2, off2, none⟩ ∧ bc = cap2 := by injection hv2 with h1 _ h3; exact ⟨h1, h3⟩
            have D1 := Lib.hid (fun w' (h : Below w2.heap.size w2 w') => (h.cell (p := ⟨b1, off1 + k, none⟩) hB1).trans c1)
            have D2 := Lib.hid (fun w' (h : Below w2.heap.size w2 w') => (h.cell (p := ⟨b2, off2 + k, none⟩) hB2).trans c2)
            have hka : k < am := by omega
            clear hv1 hv2 c1 c2
            obtain ⟨x, hx⟩ : ∃ x, kAt ns k = x := ⟨_, rfl⟩
            obtain ⟨y, hy⟩ : ∃ y, kAt ms k = y := ⟨_, rfl⟩
            rw [hx] at D1
            rw [hy] at D2
            have HX := Lib.hid hx
            have HY := Lib.hid hy
            clear hx hy
            cases hq : (x.toList == y.toList)
            · have HF := Lib.hid (show R = false by
                rw [HF.out, decide_eq_false_iff_not]
                refine take_ne (k := k) (by rw [← hn.out]; exact hkb) ?_
                rw [HX.out, HY.out]
                intro e; rw [e] at hq; simp at hq)
              have hq' : (!(x.toList == y.toList)) = true := by rw [hq]; rfl
              clear hq
              go_wp2_with fail
              have hS := hb2.drew
              refine wp_region_held_drew (S := fun w' => Below w2.heap.size w2 w') mixed hS (fun _ => ?_)
              show wpAnyH _ _ _ _ _ 9 (Array.replicate 9 false) _ _
              refine wpAnyH_take_d 0 (some 38) (.slice (some ⟨b1, off1, none⟩) am ac) rfl (by kernel_rfl) (by kernel_rfl) (by kernel_rfl) (by kernel_rfl) rfl (fun _ _ _ h => h) (fun _ _ => by kernel_rfl) (by exact hS) ?_
              simp only [Act.put, List.setIfInBounds_toArray, List.set_cons_succ, List.set_cons_zero]
              refine wpAnyH_take_d 1 (some 39) (.int .i64 k) rfl (by kernel_rfl) (by kernel_rfl) (by kernel_rfl) (by kernel_rfl) rfl (fun _ _ _ h => h) (fun _ _ => by kernel_rfl) (by exact hS) ?_
              simp only [Act.put, List.setIfInBounds_toArray, List.set_cons_succ, List.set_cons_zero]
              refine wpAnyH_take_d 2 (some 40) (.pointer (some ⟨b1, off1 + k, none⟩)) rfl (by kernel_rfl) (by kernel_rfl) (by kernel_rfl) (by kernel_rfl) rfl (fun _ _ _ h => h) (fun _ _ => ex_index1 rfl rfl rfl hka Try.underlying23 (by kernel_rfl)) (by exact hS) ?_
              simp only [Act.put, List.setIfInBounds_toArray, List.set_cons_succ, List.set_cons_zero]
              refine wpAnyH_take_d 3 (some 41) (.string x) rfl (by kernel_rfl) (by kernel_rfl) (by kernel_rfl) (by kernel_rfl) rfl (fun _ _ _ h => h) (fun w' h => exec_load_cell rfl rfl (D1.out _ h) Try.underlying9 rfl) (by exact hS) ?_
              simp only [Act.put, List.setIfInBounds_toArray, List.set_cons_succ, List.set_cons_zero]
              refine wpAnyH_take_d 4 (some 42) (.slice (some ⟨b2, off2, none⟩) bm bc) rfl (by kernel_rfl) (by kernel_rfl) (by kernel_rfl) (by kernel_rfl) rfl (fun _ _ _ h => h) (fun _ _ => by kernel_rfl) (by exact hS) ?_
              simp only [Act.put, List.setIfInBounds_toArray, List.set_cons_succ, List.set_cons_zero]
              refine wpAnyH_take_d 5 (some 43) (.int .i64 k) rfl (by kernel_rfl) (by kernel_rfl) (by kernel_rfl) (by kernel_rfl) rfl (fun _ _ _ h => h) (fun _ _ => by kernel_rfl) (by exact hS) ?_
              simp only [Act.put, List.setIfInBounds_toArray, List.set_cons_succ, List.set_cons_zero]
              refine wpAnyH_take_d 6 (some 44) (.pointer (some ⟨b2, off2 + k, none⟩)) rfl (by kernel_rfl) (by kernel_rfl) (by kernel_rfl) (by kernel_rfl) rfl (fun _ _ _ h => h) (fun _ _ => ex_index1 rfl rfl rfl hkb Try.underlying23 (by kernel_rfl)) (by exact hS) ?_
              simp only [Act.put, List.setIfInBounds_toArray, List.set_cons_succ, List.set_cons_zero]
              refine wpAnyH_take_d 7 (some 45) (.string y) rfl (by kernel_rfl) (by kernel_rfl) (by kernel_rfl) (by kernel_rfl) rfl (fun _ _ _ h => h) (fun w' h => exec_load_cell rfl rfl (D2.out _ h) Try.underlying9 rfl) (by exact hS) ?_
              simp only [Act.put, List.setIfInBounds_toArray, List.set_cons_succ, List.set_cons_zero]
              refine wpAnyH_take_d 8 (some 46) (.bool true) rfl (by kernel_rfl) (by kernel_rfl) (by kernel_rfl) (by kernel_rfl) rfl (fun _ _ _ h => h) (fun _ _ => exec_strneq rfl rfl rfl hq') (by exact hS) ?_
              simp only [Act.put, List.setIfInBounds_toArray, List.set_cons_succ, List.set_cons_zero]
              refine wpAnyH_done (by kernel_rfl) ?_ _
              have hb := Below.then hb hS (Nat.le_refl _)
              clear hS D1 D2
              go_wp2
              go_ret2
              exact ⟨by rw [HF.out]; rfl, hb⟩
            · have hxy : x = y := bl_inj (by rw [← toL, ← toL]; simpa using hq)
              have HF := Lib.hid (show ∀ j, j < k + 1 → kAt ns j = kAt ms j from fun j hj => by
                by_cases e : j = k
                · subst e; rw [HX.out, HY.out, hxy]
                · exact hf.out j (by omega))
              have hq' : (!(x.toList == y.toList)) = false := by rw [hq]; rfl
              clear hq hxy
              go_wp2_with fail
              have hS := hb2.drew
              refine wp_region_held_drew (S := fun w' => Below w2.heap.size w2 w') mixed hS (fun _ => ?_)
              show wpAnyH _ _ _ _ _ 9 (Array.replicate 9 false) _ _
              refine wpAnyH_take_d 0 (some 38) (.slice (some ⟨b1, off1, none⟩) am ac) rfl (by kernel_rfl) (by kernel_rfl) (by kernel_rfl) (by kernel_rfl) rfl (fun _ _ _ h => h) (fun _ _ => by kernel_rfl) (by exact hS) ?_
              simp only [Act.put, List.setIfInBounds_toArray, List.set_cons_succ, List.set_cons_zero]
              refine wpAnyH_take_d 1 (some 39) (.int .i64 k) rfl (by kernel_rfl) (by kernel_rfl) (by kernel_rfl) (by kernel_rfl) rfl (fun _ _ _ h => h) (fun _ _ => by kernel_rfl) (by exact hS) ?_
              simp only [Act.put, List.setIfInBounds_toArray, List.set_cons_succ, List.set_cons_zero]
              refine wpAnyH_take_d 2 (some 40) (.pointer (some ⟨b1, off1 + k, none⟩)) rfl (by kernel_rfl) (by kernel_rfl) (by kernel_rfl) (by kernel_rfl) rfl (fun _ _ _ h => h) (fun _ _ => ex_index1 rfl rfl rfl hka Try.underlying23 (by kernel_rfl)) (by exact hS) ?_
              simp only [Act.put, List.setIfInBounds_toArray, List.set_cons_succ, List.set_cons_zero]
              refine wpAnyH_take_d 3 (some 41) (.string x) rfl (by kernel_rfl) (by kernel_rfl) (by kernel_rfl) (by kernel_rfl) rfl (fun _ _ _ h => h) (fun w' h => exec_load_cell rfl rfl (D1.out _ h) Try.underlying9 rfl) (by exact hS) ?_
              simp only [Act.put, List.setIfInBounds_toArray, List.set_cons_succ, List.set_cons_zero]
              refine wpAnyH_take_d 4 (some 42) (.slice (some ⟨b2, off2, none⟩) bm bc) rfl (by kernel_rfl) (by kernel_rfl) (by kernel_rfl) (by kernel_rfl) rfl (fun _ _ _ h => h) (fun _ _ => by kernel_rfl) (by exact hS) ?_
              simp only [Act.put, List.setIfInBounds_toArray, List.set_cons_succ, List.set_cons_zero]
              refine wpAnyH_take_d 5 (some 43) (.int .i64 k) rfl (by kernel_rfl) (by kernel_rfl) (by kernel_rfl) (by kernel_rfl) rfl (fun _ _ _ h => h) (fun _ _ => by kernel_rfl) (by exact hS) ?_
              simp only [Act.put, List.setIfInBounds_toArray, List.set_cons_succ, List.set_cons_zero]
              refine wpAnyH_take_d 6 (some 44) (.pointer (some ⟨b2, off2 + k, none⟩)) rfl (by kernel_rfl) (by kernel_rfl) (by kernel_rfl) (by kernel_rfl) rfl (fun _ _ _ h => h) (fun _ _ => ex_index1 rfl rfl rfl hkb Try.underlying23 (by kernel_rfl)) (by exact hS) ?_
              simp only [Act.put, List.setIfInBounds_toArray, List.set_cons_succ, List.set_cons_zero]
              refine wpAnyH_take_d 7 (some 45) (.string y) rfl (by kernel_rfl) (by kernel_rfl) (by kernel_rfl) (by kernel_rfl) rfl (fun _ _ _ h => h) (fun w' h => exec_load_cell rfl rfl (D2.out _ h) Try.underlying9 rfl) (by exact hS) ?_
              simp only [Act.put, List.setIfInBounds_toArray, List.set_cons_succ, List.set_cons_zero]
              refine wpAnyH_take_d 8 (some 46) (.bool false) rfl (by kernel_rfl) (by kernel_rfl) (by kernel_rfl) (by kernel_rfl) rfl (fun _ _ _ h => h) (fun _ _ => exec_strneq rfl rfl rfl hq') (by exact hS) ?_
              simp only [Act.put, List.setIfInBounds_toArray, List.set_cons_succ, List.set_cons_zero]
              refine wpAnyH_done (by kernel_rfl) ?_ _
              have hb2 := hS
              clear hS D1 D2
              go_wp2
              go_roundw
              case rel => exact ⟨k + 1, by omega, by go_num, HF, hb2⟩
              case measure => simp [intOf]; omega
          · have HF := Lib.hid (show R = true by
              rw [HF.out, decide_eq_true_iff]
              exact take_eq (by rw [← hm.out, ← hn.out]; omega) (fun j hj => hf.out j (by rw [← hn.out] at hj; omega)))
            have hb := Below.then hb hb2 (Nat.le_refl _)
            go_wp2
            go_ret2
            exact ⟨by rw [HF.out]; rfl, hb⟩
      · have HF := Lib.hid (show R = false by
          rw [HR.out, ← hm.out, ← hn.out, decide_eq_false hlt]; rfl)
        have d0 : decide (((am : Nat) : Int) ≤ ((bm : Nat) : Int)) = true := by rw [decide_eq_true_iff]; omega
        have hlt' : am ≤ bm := by omega
        go_wp2
        go_ret2
        exact ⟨by rw [HF.out]; rfl, hb⟩
    · obtain ⟨q1, q2⟩ := un_right he he2
      rw [q1, q2]
      rw [he] at pa
      rw [he2] at pb
      clear q1 q2 he he2 hok hn2
      go_enter Try.func20, Try.ntmps20
      go_wp2_with fail
      refine Calls.mono pa ?_
      rintro e w1 ⟨v, rfl, ho, b1⟩
      obtain ⟨ao, am, ac, rfl, hm⟩ := ho.form'
      clear pa ho
      go_wp2_with fail
      refine Calls.mono (pb.out _) ?_
      rintro e w2 ⟨v, rfl, ho2, b2⟩
      have hb := Below.then b1 b2 (Nat.le_refl _)
      obtain ⟨bo, bm, bc, rfl, hn⟩ := ho2.form'
      clear ho2
      go_wp2
      go_ret2
      exact ⟨rfl, hb⟩
  · obtain ⟨q1, q2⟩ := un_left (a := a) he
    rw [q1, q2]
    rw [he] at pa
    clear q1 q2 he hn
    go_enter Try.func20, Try.ntmps20
    go_wp2_with fail
    refine Calls.mono pa ?_
    rintro e w1 ⟨v, rfl, ho, b1⟩
    obtain ⟨ao, am, ac, rfl, hm⟩ := ho.form'
    clear pa ho
    go_wp2_with fail
    refine Calls.mono (pb.out _) ?_
    rintro e w2 ⟨v, rfl, ho2, b2⟩
    have hb := Below.then b1 b2 (Nat.le_refl _)
    obtain ⟨bo, bm, bc, rfl, hn⟩ := ho2.form'
    clear ho2
    go_wp2
    go_ret2
    exact ⟨rfl, hb⟩
end Go.Proofs.Ytclkgbelmacmfaa
