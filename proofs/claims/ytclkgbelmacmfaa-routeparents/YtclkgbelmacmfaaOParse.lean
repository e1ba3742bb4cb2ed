/- The contract of route.Parse. No statement of the seat is proved here. -/
import Derived.Test.YtclkgbelmacmfaaOStr
namespace Go.Proofs.Ytclkgbelmacmfaa
set_option maxRecDepth 20000
open Go.RowKit

def sizeS : Value → Nat
  | .string s => s.size
  | _ => 0
set_option maxHeartbeats 3200000 in
theorem parse_any (p : ByteArray) (w : World) : Calls Try.prog 12 #[.string p] w fun e w' => ∃ v, e = .returned (.tuple #[v, .int .i64 (erOf p)]) ∧ OwnR elS w.heap.size w' v (nsOf p) ∧ Below w.heap.size w w' := by
  cases h47 : (p.toList == [47])
  · have hp : ¬ bl p = [47] := by rw [← toL]; simpa using h47
    obtain ⟨R, hR⟩ : ∃ R, parseF ((bl p).length + 1) (bl p) [] = R := ⟨_, rfl⟩
    have HE := Lib.hid (show erOf p = if R.isSome then 0 else 6 by unfold erOf parse; rw [if_neg hp, hR])
    have HNs := Lib.hid (show nsOf p = R.getD [] by unfold nsOf parse; rw [if_neg hp, hR])
    have HR0 := Lib.hid hR
    clear hp hR
    go_enter Try.func12, Try.ntmps12
    go_wp2
    go_loopw [4, 5] (fun nv rv wr => ∃ r acc n aca acm acc0, rv = .string r ∧ nv = .slice aca acm acc0 ∧ Hid (acm = List.length acc) ∧ Hid (OwnR elS w.heap.size wr nv acc) ∧ Hid (parseF n (bl r) acc = R) ∧ Hid (r.size < n) ∧ Hid (acc.length ≤ 10) ∧ Below w.heap.size w wr) (fun _ rv _ => sizeS rv)
    case atStart => exact ⟨p, [], _, _, _, _, rfl, rfl, Lib.hid rfl, Lib.hid (OwnR.nil _ _ _), HR0, Lib.hid (by rw [bl_len]; omega), Lib.hid (by simp), Below.refl _ _⟩
    case round =>
      obtain ⟨r, acc, n0, aca, acm, acc0, rfl, rfl, hacm, HO, HS, hn, ha, hb⟩ := hrel
      cases hr : bl r with
      | nil =>
        have e0 : r.toList.isEmpty = true := by rw [toL, hr]; rfl
        obtain ⟨n, rfl⟩ : ∃ n, n0 = n + 1 := ⟨n0 - 1, by have := hn.out; omega⟩
        have hst : parseF (n + 1) (bl r) acc = if acc.isEmpty then none else some acc := by rw [hr]; rfl
        rw [HS.out] at hst
        by_cases h0 : acc.length = 0
        · have c0 : (((acm : Nat) : Int) == 0) = true := by rw [hacm.out, h0]; rfl
          have HR := Lib.hid (show R = none by rw [hst]; cases acc with | nil => rfl | cons a b => simp at h0)
          have hpf := fun wx => Try.strings_HasPrefix r ⟨#[47]⟩ wx
          have eh : Lib.hasPrefix r.data.toList (⟨#[47]⟩ : ByteArray).data.toList = false := by rw [show r.data.toList = [] from hr]; rfl
          rw [eh] at hpf
          clear h0 hr hst
          go_wp2_with fail
          refine Calls.mono (hpf _) ?_
          rintro e _ ⟨rfl, rfl⟩
          clear hpf
          go_wp2
          go_ret2
          refine ⟨_, by rw [HE.out, HR.out]; rfl, by rw [HNs.out, HR.out]; exact OwnR.nil _ _ _, hb⟩
        · have c0 : (((acm : Nat) : Int) == 0) = false := by rw [beq_eq_false_iff_ne, hacm.out]; omega
          have HR := Lib.hid (show R = some acc by rw [hst]; cases acc with | nil => simp at h0 | cons a b => rfl)
          clear h0 hr hst
          go_wp2
          go_ret2
          refine ⟨_, by rw [HE.out, HR.out]; rfl, by rw [HNs.out, HR.out]; exact HO.out, hb⟩
      | cons c t =>
        have e0 : r.toList.isEmpty = false := by rw [toL, hr]; rfl
        have hpf := fun wx => Try.strings_HasPrefix r ⟨#[47]⟩ wx
        have eh : Lib.hasPrefix r.data.toList (⟨#[47]⟩ : ByteArray).data.toList = (c == 47) := by
          rw [show r.data.toList = c :: t from hr]
          show (47 == c && true) = (c == 47)
          rw [Bool.and_true]
          by_cases h : c = 47
          · subst h; rfl
          · rw [beq_eq_false_iff_ne.2 h, beq_eq_false_iff_ne.2 (fun e => h e.symm)]
        obtain ⟨n, rfl⟩ : ∃ n, n0 = n + 1 := ⟨n0 - 1, by have := hn.out; omega⟩
        have hst : parseF (n + 1) (bl r) acc = if c == 47 && !(acc.length == 10) && nmL (seg t) then parseF n (past t) (acc ++ [txt (seg t)]) else none := by rw [hr]; rfl
        rw [HS.out] at hst
        rw [eh] at hpf
        have hrs : r.size = t.length + 1 := by rw [← bl_len, hr]; rfl
        cases hcc : c == 47
        · have HR := Lib.hid (show R = none by rw [hst, hcc]; rfl)
          rw [hcc] at hpf
          clear hr hst hcc eh hrs
          go_wp2_with fail
          refine Calls.mono (hpf _) ?_
          rintro e _ ⟨rfl, rfl⟩
          clear hpf
          go_wp2
          go_ret2
          refine ⟨_, by rw [HE.out, HR.out]; rfl, by rw [HNs.out, HR.out]; exact OwnR.nil _ _ _, hb⟩
        · rw [hcc] at hpf
          have hx1 : r.extract 1 r.size = txt t := by
            rw [txt_ext, hr, show (c :: t).drop 1 = t from rfl, List.take_of_length_le (by omega)]
          have h1s : (1 : Int) ≤ (r.size : Int) := by omega
          have hix := fun wx => Try.strings_Index_one (txt t) 47 wx
          rw [show Lib.indexByte (txt t).data.toList 47 = _ from index_seg t] at hix
          have hsl := seg_le t
          have hpl := past_len t
          have HN := Lib.hid (show (past t).length < n by have := hn.out; omega)
          have HLe := Lib.hid (show (past t).length < r.size by omega)
          have hto := fun wx => sl_to (P := Try.prog) Try.underlying9 (txt t) (hi := (seg t).length) (by rw [txt_size]; omega) wx
          have hfr := fun wx => sl_from (P := Try.prog) Try.underlying9 (txt t) (lo := (seg t).length) (by rw [txt_size]; omega) wx
          rw [bl_txt, seg_take] at hto
          rw [bl_txt, seg_drop] at hfr
          have HS := Lib.hid hst.symm
          have HC := Lib.hid hcc
          clear hr hst eh hcc hrs
          cases hpn : (past t).isEmpty
          · rw [hpn] at hix
            clear hpn
            simp only [Bool.false_eq_true, if_false] at hix
            go_wp2_with fail
            refine Calls.mono (hpf _) ?_
            rintro e _ ⟨rfl, rfl⟩
            clear hpf
            go_wp2_with fail
            refine Calls.mono (hix _) ?_
            rintro e _ ⟨rfl, rfl⟩
            clear hix hx1
            by_cases h10 : acc.length = 10
            · have HR := Lib.hid (show R = none by rw [← HS.out, HC.out, h10]; rfl)
              have c10 : ((acm : Nat) : Int) = 10 := by rw [hacm.out, h10]; rfl
              clear h10
              go_wp2
              go_ret2
              refine ⟨_, by rw [HE.out, HR.out]; rfl, by rw [HNs.out, HR.out]; exact OwnR.nil _ _ _, hb⟩
            · have c10 : (((acm : Nat) : Int) == 10) = false := by rw [beq_eq_false_iff_ne, hacm.out]; omega
              have nme := fun wx => name_any (txt (seg t)) wx
              cases hnm : nm (txt (seg t))
              · rw [hnm] at nme
                have HR := Lib.hid (show R = none by rw [← HS.out, HC.out, show nmL (seg t) = false from hnm]; simp)
                clear h10 hnm
                go_wp2_with fail
                refine Calls.mono (nme _) ?_
                rintro e w1 ⟨rfl, b1⟩
                have hb := Below.then hb b1 (Nat.le_refl _)
                clear b1 nme
                go_wp2
                go_ret2
                refine ⟨_, by rw [HE.out, HR.out]; rfl, by rw [HNs.out, HR.out]; exact OwnR.nil _ _ _, hb⟩
              · rw [hnm] at nme
                have h16 := (nmL_len (show nmL (seg t) = true from hnm)).2.1
                have HR := Lib.hid (show parseF n (past t) (acc ++ [txt (seg t)]) = R by
                  rw [← HS.out, HC.out, show nmL (seg t) = true from hnm, beq_eq_false_iff_ne.2 h10]; rfl)
                have HA := Lib.hid (show (acc ++ [txt (seg t)]).length ≤ 10 by rw [List.length_append, List.length_singleton]; have := ha.out; omega)
                have hcl := fun wx => clone_any (txt (seg t)) wx (by rw [txt_size]; omega)
                clear h10 hnm
                go_wp2_with fail
                refine Calls.mono (nme _) ?_
                rintro e w1 ⟨rfl, b1⟩
                have hb := Below.then hb b1 (Nat.le_refl _)
                have HO := Lib.hid (HO.out.below b1)
                clear b1 nme
                go_wp2_with fail
                refine Calls.mono (hcl _) ?_
                rintro e w2 ⟨rfl, b2⟩
                have hb := Below.then hb b2 (Nat.le_refl _)
                have ho := (HO.out.below b2).below (below_new w2 (.cells #[.string (txt (seg t))] 9))
                clear b2 hcl HO
                obtain ⟨v3, w3, hr, o3, b3, -, -⟩ := own_app okS ho (one_at w2 (txt (seg t))) (by have := ha.out; simp; omega) (by have := hb.size; simp; omega) 23
                have hb := (hb.alloc hb.size (.cells #[.string (txt (seg t))] 9)).trans b3
                obtain ⟨va, vm, vc, rfl, hvm⟩ := o3.form'
                have HO := Lib.hid o3
                have HRN := Lib.hid hr
                clear ho hr o3 b3
                go_wp2_with (with_reducible refine wpList_append_own rfl (.tmp 38) (.tmp 43) 23 23 rfl (.slice aca acm acc0) (.slice (some ⟨w2.heap.size, 0, none⟩) 1 1) (.slice va vm vc) rfl rfl HRN.out ?_)
                go_roundw
                case rel => exact ⟨txt (past t), acc ++ [txt (seg t)], n, va, vm, vc, rfl, rfl, hvm, HO, HR, Lib.hid HN.out, HA, hb⟩
                case measure => exact HLe.out
          · rw [hpn] at hix
            have hsz : (txt t).size = (seg t).length := by rw [txt_size]; exact past_nil hpn
            rw [← hsz] at hto hfr
            clear hpn hsz
            simp only [if_true] at hix
            go_wp2_with fail
            refine Calls.mono (hpf _) ?_
            rintro e _ ⟨rfl, rfl⟩
            clear hpf
            go_wp2_with fail
            refine Calls.mono (hix _) ?_
            rintro e _ ⟨rfl, rfl⟩
            clear hix hx1
            by_cases h10 : acc.length = 10
            · have HR := Lib.hid (show R = none by rw [← HS.out, HC.out, h10]; rfl)
              have c10 : ((acm : Nat) : Int) = 10 := by rw [hacm.out, h10]; rfl
              clear h10
              go_wp2
              go_ret2
              refine ⟨_, by rw [HE.out, HR.out]; rfl, by rw [HNs.out, HR.out]; exact OwnR.nil _ _ _, hb⟩
            · have c10 : (((acm : Nat) : Int) == 10) = false := by rw [beq_eq_false_iff_ne, hacm.out]; omega
              have nme := fun wx => name_any (txt (seg t)) wx
              cases hnm : nm (txt (seg t))
              · rw [hnm] at nme
                have HR := Lib.hid (show R = none by rw [← HS.out, HC.out, show nmL (seg t) = false from hnm]; simp)
                clear h10 hnm
                go_wp2_with fail
                refine Calls.mono (nme _) ?_
                rintro e w1 ⟨rfl, b1⟩
                have hb := Below.then hb b1 (Nat.le_refl _)
                clear b1 nme
                go_wp2
                go_ret2
                refine ⟨_, by rw [HE.out, HR.out]; rfl, by rw [HNs.out, HR.out]; exact OwnR.nil _ _ _, hb⟩
              · rw [hnm] at nme
                have h16 := (nmL_len (show nmL (seg t) = true from hnm)).2.1
                have HR := Lib.hid (show parseF n (past t) (acc ++ [txt (seg t)]) = R by
                  rw [← HS.out, HC.out, show nmL (seg t) = true from hnm, beq_eq_false_iff_ne.2 h10]; rfl)
                have HA := Lib.hid (show (acc ++ [txt (seg t)]).length ≤ 10 by rw [List.length_append, List.length_singleton]; have := ha.out; omega)
                have hcl := fun wx => clone_any (txt (seg t)) wx (by rw [txt_size]; omega)
                clear h10 hnm
                go_wp2_with fail
                refine Calls.mono (nme _) ?_
                rintro e w1 ⟨rfl, b1⟩
                have hb := Below.then hb b1 (Nat.le_refl _)
                have HO := Lib.hid (HO.out.below b1)
                clear b1 nme
                go_wp2_with fail
                refine Calls.mono (hcl _) ?_
                rintro e w2 ⟨rfl, b2⟩
                have hb := Below.then hb b2 (Nat.le_refl _)
                have ho := (HO.out.below b2).below (below_new w2 (.cells #[.string (txt (seg t))] 9))
                clear b2 hcl HO
                obtain ⟨v3, w3, hr, o3, b3, -, -⟩ := own_app okS ho (one_at w2 (txt (seg t))) (by have := ha.out; simp; omega) (by have := hb.size; simp; omega) 23
                have hb := (hb.alloc hb.size (.cells #[.string (txt (seg t))] 9)).trans b3
                obtain ⟨va, vm, vc, rfl, hvm⟩ := o3.form'
                have HO := Lib.hid o3
                have HRN := Lib.hid hr
                clear ho hr o3 b3
                go_wp2_with (with_reducible refine wpList_append_own rfl (.tmp 38) (.tmp 43) 23 23 rfl (.slice aca acm acc0) (.slice (some ⟨w2.heap.size, 0, none⟩) 1 1) (.slice va vm vc) rfl rfl HRN.out ?_)
                go_roundw
                case rel => exact ⟨txt (past t), acc ++ [txt (seg t)], n, va, vm, vc, rfl, rfl, hvm, HO, HR, Lib.hid HN.out, HA, hb⟩
                case measure => exact HLe.out
  · have hp : bl p = [47] := by rw [← toL]; simpa using h47
    have HE := Lib.hid (show erOf p = 0 by unfold erOf parse; rw [if_pos hp]; rfl)
    have HNs := Lib.hid (show nsOf p = [] by unfold nsOf parse; rw [if_pos hp]; rfl)
    clear hp
    go_enter Try.func12, Try.ntmps12
    go_wp2
    go_ret2
    refine ⟨_, by rw [HE.out]; rfl, by rw [HNs.out]; exact OwnR.nil _ _ _, Below.refl _ _⟩
end Go.Proofs.Ytclkgbelmacmfaa
