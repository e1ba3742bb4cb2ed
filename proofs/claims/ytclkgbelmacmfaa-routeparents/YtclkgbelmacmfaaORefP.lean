/- The contract of the document's DocParse. No statement of the seat is proved here. -/
import Derived.Test.YtclkgbelmacmfaaOParse
namespace Go.Proofs.Ytclkgbelmacmfaa
set_option maxRecDepth 20000
open Go.RowKit

theorem seg_in : ∀ {t : BL} {j : Nat}, j < (seg t).length → (t.getD j 0 == 47) = false
  | [], j, h => absurd h (Nat.not_lt_zero _)
  | b :: l, j, h => by
    by_cases hb : b = 47
    · subst hb; exact absurd h (Nat.not_lt_zero _)
    · have h1 : (b == 47) = false := beq_eq_false_iff_ne.2 hb
      have e1 : seg (b :: l) = b :: seg l := by unfold seg; rw [List.takeWhile_cons]; simp [h1]
      rw [e1, List.length_cons] at h
      match j, h with
      | 0, _ => exact h1
      | j + 1, h => exact seg_in (t := l) (by omega)
theorem seg_out : ∀ {t : BL}, (seg t).length < t.length → (t.getD (seg t).length 0 == 47) = true
  | [], h => absurd h (Nat.not_lt_zero _)
  | b :: l, h => by
    by_cases hb : b = 47
    · subst hb; rfl
    · have h1 : (b == 47) = false := beq_eq_false_iff_ne.2 hb
      have e1 : seg (b :: l) = b :: seg l := by unfold seg; rw [List.takeWhile_cons]; simp [h1]
      rw [e1, List.length_cons] at h ⊢
      exact seg_out (t := l) (by simp at h; omega)
theorem b47 {c : UInt8} {x : Bool} (h : (c == 47) = x) : ((c.toNat : Int) == 47) = x := by
  subst h
  by_cases h : c = 47
  · subst h; rfl
  · have h1 : ¬ (c.toNat : Int) = 47 := fun h2 => h (UInt8.toNat_inj.1 (by simpa using (by omega : c.toNat = 47)))
    rw [beq_eq_false_iff_ne.2 h, beq_eq_false_iff_ne.2 h1]
theorem n47 {c : UInt8} {x : Bool} (h : (c == 47) = x) : ((c.toNat : Int) != 47) = !x := by
  rw [bne, b47 h]
set_option maxHeartbeats 3200000 in
theorem refParse_any (p : ByteArray) (hps : p.size ≤ 9223372036854775807) (w : World) : Calls Try.prog 11 #[.string p] w fun e w' => ∃ v, e = .returned (.tuple #[v, .int .i64 (erOf p)]) ∧ OwnR elS w.heap.size w' v (nsOf p) ∧ Below w.heap.size w w' := by
  cases h47 : (p.toList == [47])
  · have hp : ¬ bl p = [47] := by rw [← toL]; simpa using h47
    obtain ⟨R, hR⟩ : ∃ R, parseF ((bl p).length + 1) (bl p) [] = R := ⟨_, rfl⟩
    have HE := Lib.hid (show erOf p = if R.isSome then 0 else 6 by unfold erOf parse; rw [if_neg hp, hR])
    have HNs := Lib.hid (show nsOf p = R.getD [] by unfold nsOf parse; rw [if_neg hp, hR])
    have HR0 := Lib.hid hR
    clear hp hR
    go_enter Try.func11, Try.ntmps11
    go_wp2
    go_loopw [0, 4] (fun rv nv wr => ∃ r acc n aca acm acc0, rv = .string r ∧ nv = .slice aca acm acc0 ∧ Hid (acm = List.length acc) ∧ Hid (OwnR elS w.heap.size wr nv acc) ∧ Hid (parseF n (bl r) acc = R) ∧ Hid (r.size < n ∧ r.size ≤ 9223372036854775807) ∧ Hid (acc.length ≤ 10) ∧ Below w.heap.size w wr) (fun rv _ _ => sizeS rv)
    case atStart => exact ⟨p, [], _, _, _, _, rfl, rfl, Lib.hid rfl, Lib.hid (OwnR.nil _ _ _), HR0, Lib.hid ⟨by rw [bl_len]; omega, hps⟩, Lib.hid (by simp), Below.refl _ _⟩
    case round =>
      obtain ⟨r, acc, n0, aca, acm, acc0, rfl, rfl, hacm, HO, HS, hn, ha, hb⟩ := hrel
      obtain ⟨n, rfl⟩ : ∃ n, n0 = n + 1 := ⟨n0 - 1, by have := hn.out; omega⟩
      cases hr : bl r with
      | nil =>
        have e0 : r.toList.isEmpty = true := by rw [toL, hr]; rfl
        have hst : parseF (n + 1) (bl r) acc = if acc.isEmpty then none else some acc := by rw [hr]; rfl
        rw [HS.out] at hst
        by_cases h0 : acc.length = 0
        · have c0 : (((acm : Nat) : Int) == 0) = true := by rw [hacm.out, h0]; rfl
          have HR := Lib.hid (show R = none by rw [hst]; cases acc with | nil => rfl | cons a b => simp at h0)
          clear h0 hr hst
          go_wp2
          go_ret2
          refine ⟨_, by rw [HE.out, HR.out]; rfl, by rw [HNs.out, HR.out]; exact OwnR.nil _ _ _, hb⟩
        · have c0 : (((acm : Nat) : Int) == 0) = false := by rw [beq_eq_false_iff_ne, hacm.out]; omega
          have HR := Lib.hid (show R = some acc by rw [hst]; cases acc with | nil => simp at h0 | cons a b => rfl)
          clear h0 hr hst
          go_wp2
          go_ret2
          refine ⟨_, by rw [HE.out, HR.out]; rfl, by rw [HNs.out, HR.out]; exact HO.out, hb⟩
      | cons c t =>
        have e0 : r.toList.isEmpty = false := by rw [toL, hr]; rfl
        have hst : parseF (n + 1) (bl r) acc = if c == 47 && !(acc.length == 10) && nmL (seg t) then parseF n (past t) (acc ++ [txt (seg t)]) else none := by rw [hr]; rfl
        rw [HS.out] at hst
        have hrs : r.size = t.length + 1 := by rw [← bl_len, hr]; rfl
        have ea : atB r 0 = c := by unfold atB; rw [hr]; rfl
        have hi0 : ∀ wx, (Instr.index 9 (.string r) (.int .i64 0)).run Try.prog wx = .ok (.int .u8 (c.toNat : Int)) wx := fun wx => by
          have := run_idx (P := Try.prog) (w := wx) (s := r) (k := 0) Try.underlying9 (by omega)
          rw [ea] at this
          exact this
        cases hcc : c == 47
        · have HR := Lib.hid (show R = none by rw [hst, hcc]; rfl)
          have z1 := b47 hcc
          have z2 := n47 hcc
          clear hr hst hcc hrs ea
          generalize (c.toNat : Int) = z at *
          go_wp2
          go_ret2
          refine ⟨_, by rw [HE.out, HR.out]; rfl, by rw [HNs.out, HR.out]; exact OwnR.nil _ _ _, hb⟩
        · have z1 := b47 hcc
          have z2 := n47 hcc
          by_cases h10 : acc.length = 10
          · have HR := Lib.hid (show R = none by rw [hst, hcc, h10]; rfl)
            have c10 : (((acm : Nat) : Int) == 10) = true := by rw [hacm.out, h10]; rfl
            clear hr hst hcc hrs ea h10
            generalize (c.toNat : Int) = z at *
            go_wp2
            go_ret2
            refine ⟨_, by rw [HE.out, HR.out]; rfl, by rw [HNs.out, HR.out]; exact OwnR.nil _ _ _, hb⟩
          · have c10 : (((acm : Nat) : Int) == 10) = false := by rw [beq_eq_false_iff_ne, hacm.out]; omega
            have hsl := seg_le t
            have hpl := past_len t
            have HN := Lib.hid (show (past t).length < n by have := hn.out; omega)
            have HLe := Lib.hid (show (past t).length < r.size by omega)
            have HB := Lib.hid (show (past t).length ≤ 9223372036854775807 by have := hn.out; omega)
            have hmd : ∀ wx, (Instr.slice 9 (.string r) (some (.int .i64 1)) (some (.int .i64 (((seg t).length + 1 : Nat) : Int))) none).run Try.prog wx = .ok (.string (txt (seg t))) wx := fun wx => by
              have := sl_mid (P := Try.prog) Try.underlying9 r (lo := 1) (hi := (seg t).length + 1) (by omega) (by omega) wx
              rw [hr, show (c :: t).drop 1 = t from rfl, show (seg t).length + 1 - 1 = (seg t).length from rfl, seg_take] at this
              exact this
            have hfr := fun wx => sl_from (P := Try.prog) Try.underlying9 r (lo := (seg t).length + 1) (by omega) wx
            rw [hr, List.drop_succ_cons, seg_drop] at hfr
            have hlen : r.size ≤ 9223372036854775807 := hn.out.2
            have HIN := Lib.hid (show ∀ q, 1 ≤ q → q ≤ (seg t).length → (atB r q == 47) = false from fun q h1 h2 => by
              unfold atB; rw [hr]
              obtain ⟨j, rfl⟩ : ∃ j, q = j + 1 := ⟨q - 1, by omega⟩
              show (t.getD j 0 == 47) = false
              exact seg_in (t := t) (by omega))
            have HOUT := Lib.hid (show (seg t).length + 1 < r.size → (atB r ((seg t).length + 1) == 47) = true from fun h => by
              unfold atB; rw [hr]
              show (t.getD (seg t).length 0 == 47) = true
              exact seg_out (t := t) (by omega))
            have HS := Lib.hid hst.symm
            have HC := Lib.hid hcc
            have H10 := Lib.hid h10
            have HLT := Lib.hid (show (seg t).length + 1 ≤ r.size by omega)
            clear hr hst hcc hrs ea h10 hsl hpl
            generalize (c.toNat : Int) = z at *
            go_wp2
            clear hi0 z1 z2
            obtain ⟨sl, hsle⟩ : ∃ sl, (seg t).length = sl := ⟨_, rfl⟩
            have HSL := Lib.hid hsle
            rw [hsle] at hmd hfr HIN HOUT HLT
            clear hsle
            go_loopw [5] (fun iv wx => ∃ q : Nat, 1 ≤ q ∧ q ≤ sl + 1 ∧ iv = .int .i64 q ∧ wx = wr) (fun iv _ => sl + 1 - (intOf iv).toNat)
            case atStart => exact ⟨1, Nat.le_refl _, by omega, rfl, rfl⟩
            case round =>
              obtain ⟨q, hq1, hq2, rfl, rfl⟩ := hrel
              have hlt' := HLT.out
              by_cases hq : q ≤ sl
              · have hi1 := fun wx => run_idx (P := Try.prog) (w := wx) (s := r) (k := q) Try.underlying9 (by omega)
                have z1 := b47 (HIN.out q hq1 hq)
                have z2 := n47 (HIN.out q hq1 hq)
                have d1 : decide ((q : Int) < (r.size : Int)) = true := by rw [decide_eq_true_iff]; omega
                generalize ((atB r q).toNat : Int) = z at *
                go_wp2
                go_roundw
                case rel => exact ⟨q + 1, by omega, by omega, by go_num, by trivial⟩
                case measure => simp [intOf]; omega
              · obtain rfl : q = sl + 1 := by omega
                have nme := fun wx => refName_any (txt (seg t)) wx
                by_cases hlt : sl + 1 < r.size
                · have hi1 := fun wx => run_idx (P := Try.prog) (w := wx) (s := r) (k := sl + 1) Try.underlying9 hlt
                  have z1 := b47 (HOUT.out hlt)
                  have z2 := n47 (HOUT.out hlt)
                  have d1 : decide (((sl + 1 : Nat) : Int) < (r.size : Int)) = true := by rw [decide_eq_true_iff]; omega
                  generalize ((atB r (sl + 1)).toNat : Int) = z at *
                  generalize sl + 1 = sq at *
                  cases hnm : nm (txt (seg t))
                  · rw [hnm] at nme
                    have HR := Lib.hid (show R = none by rw [← HS.out, HC.out, show nmL (seg t) = false from hnm]; simp)
                    clear hnm
                    go_wp2_with fail
                    refine Calls.mono (nme _) ?_
                    rintro e w1 ⟨rfl, b1⟩
                    have hb := Below.then hb b1 (Nat.le_refl _)
                    clear b1 nme
                    go_wp2
                    go_ret2
                    refine ⟨_, by rw [HE.out, HR.out]; rfl, by rw [HNs.out, HR.out]; exact OwnR.nil _ _ _, hb⟩
                  · rw [hnm] at nme
                    have h16 := (nmL_len (show nmL (seg t) = true from hnm)).2.1
                    have HR := Lib.hid (show parseF n (past t) (acc ++ [txt (seg t)]) = R by
                      rw [← HS.out, HC.out, show nmL (seg t) = true from hnm, beq_eq_false_iff_ne.2 H10.out]; rfl)
                    have HA := Lib.hid (show (acc ++ [txt (seg t)]).length ≤ 10 by rw [List.length_append, List.length_singleton]; have := ha.out; have := H10.out; omega)
                    clear hnm h16
                    go_wp2_with fail
                    refine Calls.mono (nme _) ?_
                    rintro e w1 ⟨rfl, b1⟩
                    have hb := Below.then hb b1 (Nat.le_refl _)
                    have ho := (HO.out.below b1).below (below_new w1 (.cells #[.string (txt (seg t))] 9))
                    clear b1 nme HO
                    obtain ⟨v3, w3, hr, o3, b3, -, -⟩ := own_app okS ho (one_at w1 (txt (seg t))) (by have := ha.out; simp; omega) (by have := hb.size; simp; omega) 23
                    have hb := (hb.alloc hb.size (.cells #[.string (txt (seg t))] 9)).trans b3
                    obtain ⟨va, vm, vc, rfl, hvm⟩ := o3.form'
                    have HO := Lib.hid o3
                    have HRN := Lib.hid hr
                    clear ho hr o3 b3
                    go_wp2_with (with_reducible refine wpList_append_own rfl (.tmp 35) (.tmp 39) 23 23 rfl (.slice aca acm acc0) (.slice (some ⟨w1.heap.size, 0, none⟩) 1 1) (.slice va vm vc) rfl rfl HRN.out ?_)
                    go_roundw
                    case rel => exact ⟨txt (past t), acc ++ [txt (seg t)], n, va, vm, vc, rfl, rfl, hvm, HO, HR, Lib.hid ⟨HN.out, HB.out⟩, HA, hb⟩
                    case measure => exact HLe.out
                · have d1 : decide (((sl + 1 : Nat) : Int) < (r.size : Int)) = false := by rw [decide_eq_false_iff_not]; omega
                  generalize sl + 1 = sq at *
                  cases hnm : nm (txt (seg t))
                  · rw [hnm] at nme
                    have HR := Lib.hid (show R = none by rw [← HS.out, HC.out, show nmL (seg t) = false from hnm]; simp)
                    clear hnm
                    go_wp2_with fail
                    refine Calls.mono (nme _) ?_
                    rintro e w1 ⟨rfl, b1⟩
                    have hb := Below.then hb b1 (Nat.le_refl _)
                    clear b1 nme
                    go_wp2
                    go_ret2
                    refine ⟨_, by rw [HE.out, HR.out]; rfl, by rw [HNs.out, HR.out]; exact OwnR.nil _ _ _, hb⟩
                  · rw [hnm] at nme
                    have h16 := (nmL_len (show nmL (seg t) = true from hnm)).2.1
                    have HR := Lib.hid (show parseF n (past t) (acc ++ [txt (seg t)]) = R by
                      rw [← HS.out, HC.out, show nmL (seg t) = true from hnm, beq_eq_false_iff_ne.2 H10.out]; rfl)
                    have HA := Lib.hid (show (acc ++ [txt (seg t)]).length ≤ 10 by rw [List.length_append, List.length_singleton]; have := ha.out; have := H10.out; omega)
                    clear hnm h16
                    go_wp2_with fail
                    refine Calls.mono (nme _) ?_
                    rintro e w1 ⟨rfl, b1⟩
                    have hb := Below.then hb b1 (Nat.le_refl _)
                    have ho := (HO.out.below b1).below (below_new w1 (.cells #[.string (txt (seg t))] 9))
                    clear b1 nme HO
                    obtain ⟨v3, w3, hr, o3, b3, -, -⟩ := own_app okS ho (one_at w1 (txt (seg t))) (by have := ha.out; simp; omega) (by have := hb.size; simp; omega) 23
                    have hb := (hb.alloc hb.size (.cells #[.string (txt (seg t))] 9)).trans b3
                    obtain ⟨va, vm, vc, rfl, hvm⟩ := o3.form'
                    have HO := Lib.hid o3
                    have HRN := Lib.hid hr
                    clear ho hr o3 b3
                    go_wp2_with (with_reducible refine wpList_append_own rfl (.tmp 35) (.tmp 39) 23 23 rfl (.slice aca acm acc0) (.slice (some ⟨w1.heap.size, 0, none⟩) 1 1) (.slice va vm vc) rfl rfl HRN.out ?_)
                    go_roundw
                    case rel => exact ⟨txt (past t), acc ++ [txt (seg t)], n, va, vm, vc, rfl, rfl, hvm, HO, HR, Lib.hid ⟨HN.out, HB.out⟩, HA, hb⟩
                    case measure => exact HLe.out
  · have hp : bl p = [47] := by rw [← toL]; simpa using h47
    have HE := Lib.hid (show erOf p = 0 by unfold erOf parse; rw [if_pos hp]; rfl)
    have HNs := Lib.hid (show nsOf p = [] by unfold nsOf parse; rw [if_pos hp]; rfl)
    clear hp
    go_enter Try.func11, Try.ntmps11
    go_wp2
    go_ret2
    refine ⟨_, by rw [HE.out]; rfl, by rw [HNs.out]; exact OwnR.nil _ _ _, Below.refl _ _⟩
end Go.Proofs.Ytclkgbelmacmfaa
