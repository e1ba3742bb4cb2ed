/- The contract of route.Under. No statement of the seat is proved here. -/
import Derived.Test.YtclkgbelmacmfaaOParentR
namespace Go.Proofs.Ytclkgbelmacmfaa
set_option maxRecDepth 20000
open Go.RowKit

theorem er_some {p : ByteArray} (h : erOf p = 0) : (parse (bl p)).isSome = true := by
  unfold erOf at h
  cases hq : (parse (bl p)).isSome
  · rw [hq] at h; simp at h
  · rfl
theorem er_none {p : ByteArray} (h : erOf p = 6) : (parse (bl p)).isSome = false := by
  unfold erOf at h
  cases hq : (parse (bl p)).isSome
  · rfl
  · rw [hq] at h; simp at h
theorem un_left {p a : ByteArray} (h : erOf p = 6) : unB p a = false ∧ unE p a = 6 := by
  unfold unB unE; rw [er_none h]; exact ⟨rfl, rfl⟩
theorem un_right {p a : ByteArray} (h0 : erOf p = 0) (h : erOf a = 6) : unB p a = false ∧ unE p a = 6 := by
  unfold unB unE; rw [er_some h0, er_none h]; exact ⟨rfl, rfl⟩
theorem un_both {p a : ByteArray} (h0 : erOf p = 0) (h : erOf a = 0) : unB p a = isUnder (nsOf p) (nsOf a) ∧ unE p a = 0 := by
  unfold unB unE; rw [er_some h0, er_some h]; exact ⟨rfl, rfl⟩
theorem below_drewN (w : World) (q : Nat) : Below w.heap.size w (w.drewN q) := ⟨rfl, rfl, rfl, Nat.le_refl _, fun _ _ => rfl⟩
set_option maxHeartbeats 800000 in
theorem equal_any {w : World} {B C : Nat} {u v : Value} {l m : List ByteArray} (hu : SlAt elS B w u l) (hv : SlAt elS C w v m) : Calls Try.prog 28 #[u, v] w fun e w' => e = .returned (.bool (decide (l = m))) ∧ Below w.heap.size w w' := by
  have l1 := hu.len okS
  have l2 := hv.len okS
  have GU := hu
  have GV := hv
  obtain ⟨ao, ac, rfl, h1, _, h3⟩ := hu
  obtain ⟨bo, bc, rfl, k1, _, k3⟩ := hv
  by_cases hlm : l.length = m.length
  · by_cases h0 : 0 < l.length
    · obtain ⟨b, off, cap, e1, hB, -⟩ := GU.getS h0
      obtain ⟨c, of2, cap2, e2, hC, -⟩ := GV.getS (i := 0) (by omega)
      obtain rfl : ao = some ⟨b, off, none⟩ := by injection e1
      obtain rfl : bo = some ⟨c, of2, none⟩ := by injection e2
      refine (Try.slices_Equal_string b off l.length ac c of2 m.length bc l m w (Nat.le_refl _) (Nat.le_refl _) (by omega) (by omega) (fun j hj => ?_) (fun j hj => ?_)).mono ?_
      · obtain ⟨b', off', _, e, _, hc⟩ := GU.getS hj
        obtain ⟨rfl, rfl⟩ : b = b' ∧ off = off' := by injection e with e _ _; injection e with e; injection e with e1 e2; exact ⟨e1, e2⟩
        exact hc
      · obtain ⟨b', off', _, e, _, hc⟩ := GV.getS hj
        obtain ⟨rfl, rfl⟩ : c = b' ∧ of2 = off' := by injection e with e _ _; injection e with e; injection e with e1 e2; exact ⟨e1, e2⟩
        exact hc
      rintro e w' ⟨rfl, q, rfl⟩
      refine ⟨by rw [List.take_length, List.take_length], below_drewN w q⟩
    · have e1 : l = [] := List.eq_nil_of_length_eq_zero (by omega)
      have e2 : m = [] := List.eq_nil_of_length_eq_zero (by omega)
      subst e1; subst e2
      refine (Try.slices_Equal_string_empty ao bo ac 0 bc w (by decide)).mono ?_
      rintro e w' ⟨rfl, rfl⟩
      exact ⟨rfl, Below.refl _ _⟩
  · refine (Try.slices_Equal_string_lens ao bo l.length ac m.length bc w hlm).mono ?_
    rintro e w' ⟨rfl, rfl⟩
    refine ⟨?_, Below.refl _ _⟩
    rw [decide_eq_false (fun e => hlm (by rw [e]))]
set_option maxHeartbeats 1600000 in
theorem under_any (p a : ByteArray) (w : World) : Calls Try.prog 21 #[.string p, .string a] w fun e w' => e = .returned (.tuple #[.bool (unB p a), .int .i64 (unE p a)]) ∧ Below w.heap.size w w' := by
  have pa := parse_any p w
  have pb := Lib.hid (fun w' => parse_any a w')
  rcases erOf_cases p with ⟨he, -, hok, -⟩ | ⟨he, -, hn⟩
  · rcases erOf_cases a with ⟨he2, -, hok2, -⟩ | ⟨he2, -, hn2⟩
    · obtain ⟨q1, q2⟩ := un_both he he2
      rw [q1, q2]
      rw [he] at pa
      rw [he2] at pb
      have K1 := Lib.hid (ok10 hok)
      have K2 := Lib.hid (ok10 hok2)
      clear q1 q2 he he2 hok hok2
      generalize nsOf p = ns at *
      generalize nsOf a = ms at *
      obtain ⟨R, hR⟩ : ∃ R, isUnder ns ms = R := ⟨_, rfl⟩
      have HR := Lib.hid (hR.symm.trans (show isUnder ns ms = (decide (ms.length < ns.length) && decide (ns.take ms.length = ms)) from rfl))
      rw [hR]
      clear hR
      go_enter Try.func21, Try.ntmps21
      go_wp2_with fail
      refine Calls.mono pa ?_
      rintro e w1 ⟨v, rfl, ho, b1⟩
      obtain ⟨ao, am, ac, rfl, hm⟩ := ho.form'
      have HO := Lib.hid ho
      clear pa ho
      go_wp2_with fail
      refine Calls.mono (pb.out _) ?_
      rintro e w2 ⟨v, rfl, ho2, b2⟩
      have hb := Below.then b1 b2 (Nat.le_refl _)
      have s1 := ((own_sl HO.out K1.out).below b2).more b2.size
      have s2 := own_sl ho2 K2.out
      obtain ⟨bo, bm, bc, rfl, hn⟩ := s2.form
      by_cases hlt : bm < am
      · have hac : am ≤ ac := by
          obtain ⟨_, ac', e, h, _⟩ := s1
          have e3 : ac = ac' := by injection e
          rw [e3, hm.out]; exact h
        have eq := equal_any (s1.take okS (i := bm) (by rw [← hm.out]; omega)) s2
        have HF := Lib.hid (show R = decide (ns.take bm = ms) by
          rw [HR.out, ← hm.out, ← hn.out, decide_eq_true hlt, Bool.true_and])
        have d0 : decide (((bm : Nat) : Int) < ((am : Nat) : Int)) = true := by rw [decide_eq_true_iff]; omega
        have hbc : ((bm : Nat) : Int) ≤ ((ac : Nat) : Int) := by omega
        generalize decide (ns.take bm = ms) = Q at *
        clear HO b1 b2 s1 s2 ho2 hac
        go_wp2_with fail
        refine Calls.mono eq ?_
        rintro e w3 ⟨rfl, b3⟩
        have hb := Below.then hb b3 (Nat.le_refl _)
        clear b3 eq
        go_wp2
        go_ret2
        exact ⟨by rw [HF.out]; rfl, hb⟩
      · have HF := Lib.hid (show R = false by
          rw [HR.out, ← hm.out, ← hn.out, decide_eq_false hlt]; rfl)
        have d0 : decide (((bm : Nat) : Int) < ((am : Nat) : Int)) = false := by rw [decide_eq_false_iff_not]; omega
        clear HO b1 b2 s1 s2 ho2
        go_wp2
        go_ret2
        exact ⟨by rw [HF.out]; rfl, hb⟩
    · obtain ⟨q1, q2⟩ := un_right he he2
      rw [q1, q2]
      rw [he] at pa
      rw [he2] at pb
      clear q1 q2 he he2 hok hn2
      go_enter Try.func21, Try.ntmps21
      go_wp2_with fail
      refine Calls.mono pa ?_
      rintro e w1 ⟨v, rfl, ho, b1⟩
      obtain ⟨ao, am, ac, rfl, hm⟩ := ho.form'
      clear pa ho
      go_wp2_with fail
      refine Calls.mono (pb.out _) ?_
      rintro e w2 ⟨v, rfl, ho2, b2⟩
      have hb := Below.then b1 b2 (Nat.le_refl _)
      obtain ⟨bo, bm, bc, rfl, hn⟩ := ho2.form'
      clear ho2
      go_wp2
      go_ret2
      exact ⟨rfl, hb⟩
  · obtain ⟨q1, q2⟩ := un_left (a := a) he
    rw [q1, q2]
    rw [he] at pa
    clear q1 q2 he hn
    go_enter Try.func21, Try.ntmps21
    go_wp2_with fail
    refine Calls.mono pa ?_
    rintro e w1 ⟨v, rfl, ho, b1⟩
    obtain ⟨ao, am, ac, rfl, hm⟩ := ho.form'
    clear pa ho
    go_wp2
    go_ret2
    exact ⟨rfl, b1⟩
end Go.Proofs.Ytclkgbelmacmfaa
