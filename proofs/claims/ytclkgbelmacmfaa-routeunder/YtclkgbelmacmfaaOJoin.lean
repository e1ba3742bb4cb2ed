/- The contracts of Join, DocJoin, the program's Join. No statement of the seat is proved here. -/
import Derived.Test.YtclkgbelmacmfaaORefP
namespace Go.Proofs.Ytclkgbelmacmfaa
set_option maxRecDepth 20000
open Go.RowKit

theorem joinL_len : ∀ {l : List ByteArray}, (∀ m ∈ l, nm m = true) → (joinL l).length ≤ 17 * l.length
  | [], _ => by simp [joinL]
  | m :: r, h => by
    rw [joinL_cons]
    have h1 := (nmL_len (show nmL (bl m) = true from h m (List.mem_cons_self ..))).2.1
    have h2 := joinL_len (l := r) (fun x hx => h x (List.mem_cons_of_mem _ hx))
    simp only [List.length_cons, List.length_append]
    omega
theorem take_succ {l : List ByteArray} {k : Nat} (h : k < l.length) : l.take (k + 1) = l.take k ++ [kAt l k] := by
  rw [List.take_add_one, List.getElem?_eq_getElem h, kAt_get h]; rfl
theorem joinL_step {l : List ByteArray} {k : Nat} (h : k < l.length) : joinL (l.take (k + 1)) = joinL (l.take k) ++ [47] ++ bl (kAt l k) := by
  rw [take_succ h, joinL_snoc]; simp
theorem add_run {a b : ByteArray} {A B : BL} (ha : a = txt A) (hb : b = txt B) (h : A.length + B.length ≤ 9223372036854775807) (w : World) : (Op.stringOp .add a b).run Try.prog w = .ok (.string (txt (A ++ B))) w := by
  subst ha; subst hb
  rw [run_string_add_sum (P := Try.prog) w (txt A) (txt B) (by rw [txt_size, txt_size]; exact h)]
  congr 2
theorem kAt_mem {l : List ByteArray} {k : Nat} (h : k < l.length) : kAt l k ∈ l := by rw [← kAt_get h]; exact List.getElem_mem h
set_option maxHeartbeats 1600000 in
theorem refJoin_any {w : World} {B : Nat} {v : Value} {l : List ByteArray} (hl : SlAt elS B w v l) (hB : B ≤ w.heap.size) (hok : okNs l = true) : Calls Try.prog 25 #[v] w fun e w' => e = .returned (.string (txt (pathL l))) ∧ Below w.heap.size w w' := by
  obtain ⟨h10, hnm⟩ := okNs_iff.1 hok
  have HA := Lib.hid (hl.more hB)
  obtain ⟨ao, am, ac, rfl, hm⟩ := hl.form
  have h10' : am ≤ 10 := by rw [hm.out]; exact h10
  have HN := Lib.hid hnm
  obtain ⟨S, hS⟩ : ∃ S, txt (pathL l) = S := ⟨_, rfl⟩
  rw [hS]
  have HS := Lib.hid hS
  clear hl hB hok h10 hnm hS
  by_cases h0 : am = 0
  · have hl0 : l = [] := List.eq_nil_of_length_eq_zero (by rw [← hm.out]; exact h0)
    have HR := Lib.hid (show S = ⟨#[47]⟩ by rw [← HS.out, hl0]; rfl)
    subst h0
    clear hl0
    go_enter Try.func25, Try.ntmps25
    go_wp2
    go_ret
    exact ⟨by rw [HR.out]; rfl, Below.refl _ _⟩
  · have hp : pathL l = joinL l := by
      unfold pathL
      cases l with
      | nil => exact absurd hm.out h0
      | cons a r => rfl
    have HP := Lib.hid (show S = txt (joinL l) by rw [← HS.out, hp])
    have n0 : (((am : Nat) : Int) == 0) = false := by rw [beq_eq_false_iff_ne]; omega
    clear h0 hp
    go_enter Try.func25, Try.ntmps25
    go_wp2
    go_loopw [3, 4] (fun sv iv wr => ∃ k : Nat, k ≤ am ∧ iv = .int .i64 k ∧ (∃ s, sv = .string s ∧ Hid (s = txt (joinL (l.take k)))) ∧ Below w.heap.size w wr) (fun _ iv _ => am - (intOf iv).toNat)
    case atStart => exact ⟨0, Nat.zero_le _, rfl, ⟨_, rfl, Lib.hid rfl⟩, Below.refl _ _⟩
    case round =>
      obtain ⟨k, hk, rfl, ⟨s, rfl, hs⟩, hb⟩ := hrel
      by_cases hlt : k < am
      · have hkl : k < l.length := by rw [← hm.out]; exact hlt
        obtain ⟨b1, off1, cap1, hv1, hB1, c1⟩ := HA.out.getS hkl
        obtain ⟨rfl, -, rfl⟩ : ao = some ⟨b1, off1, none⟩ ∧ am = l.length ∧ ac = cap1 := by cases hv1; exact ⟨rfl, rfl, rfl⟩
        have d1 := (hb.cell (p := ⟨b1, off1 + k, none⟩) hB1).trans c1
        have hle : (joinL (l.take k)).length ≤ 170 := by
          have h1 := joinL_len (l := l.take k) (fun m hm => HN.out m (List.mem_of_mem_take hm))
          rw [List.length_take] at h1; omega
        have hxl := (nmL_len (show nmL (bl (kAt l k)) = true from HN.out _ (kAt_mem hkl))).2.1
        have HJ := Lib.hid (joinL_step hkl)
        obtain ⟨x, hx⟩ : ∃ x, kAt l k = x := ⟨_, rfl⟩
        rw [hx] at d1 hxl HJ
        have a1 := fun wx => add_run (a := s) (b := ⟨#[47]⟩) (A := joinL (l.take k)) (B := [47]) hs.out rfl (by simp; omega) wx
        have a2 := fun wx => add_run (a := txt (joinL (l.take k) ++ [47])) (b := x) (A := joinL (l.take k) ++ [47]) (B := bl x) rfl rfl (by simp; omega) wx
        rw [← HJ.out] at a2
        clear hv1 c1 hkl hx hxl hle
        generalize txt (joinL (l.take k) ++ [47]) = s1 at a1 a2
        go_wp2
        go_roundw
        case rel => exact ⟨k + 1, by omega, by go_num, ⟨_, rfl, Lib.hid rfl⟩, hb⟩
        case measure => simp [intOf]; omega
      · obtain rfl : k = am := by omega
        have hss : s = S := by rw [hs.out, HP.out, List.take_of_length_le (by rw [← hm.out]; exact Nat.le_refl _)]
        have HSS := Lib.hid hss
        clear hss
        go_wp2
        go_ret
        exact ⟨by rw [HSS.out]; rfl, hb⟩
set_option maxHeartbeats 1600000 in
theorem docJoin_any {w : World} {B : Nat} {v : Value} {l : List ByteArray} (hl : SlAt elS B w v l) (hB : B ≤ w.heap.size) : Calls Try.prog 18 #[v] w fun e w' => e = .returned (.tuple #[.string (joS l), .int .i64 (joE l)]) ∧ Below w.heap.size w w' := by
  have HA := Lib.hid (hl.more hB)
  have RJ := Lib.hid (fun (w' : World) (hb : Below w.heap.size w w') (hok : okNs l = true) => refJoin_any ((hl.more hB).below hb) hb.size hok)
  obtain ⟨ao, am, ac, rfl, hm⟩ := hl.form
  obtain ⟨S, hS⟩ : ∃ S, joS l = S := ⟨_, rfl⟩
  obtain ⟨E, hE⟩ : ∃ E, joE l = E := ⟨_, rfl⟩
  rw [hS, hE]
  have HS := Lib.hid (hS.symm.trans (show joS l = if okNs l then txt (pathL l) else ByteArray.empty from rfl))
  have HE := Lib.hid (hE.symm.trans (show joE l = if okNs l then 0 else 6 from rfl))
  have HM := Lib.hid (hl.len okS)
  clear hl hB hS hE
  have hml : am ≤ 17592186043904 := by rw [hm.out]; exact HM.out
  by_cases h10 : 10 < am
  · have hb : okNs l = false := by
      unfold okNs
      rw [decide_eq_false (by rw [← hm.out]; omega)]; rfl
    have HF := Lib.hid hb
    clear hb
    go_enter Try.func18, Try.ntmps18
    go_wp2
    go_ret2
    exact ⟨by rw [HS.out, HE.out, HF.out]; rfl, Below.refl _ _⟩
  · go_enter Try.func18, Try.ntmps18
    go_wp2
    go_loopw [4] (fun iv wr => ∃ k : Nat, k ≤ am ∧ iv = .int .i64 k ∧ Hid (∀ j, j < k → nm (kAt l j) = true) ∧ Below w.heap.size w wr) (fun iv _ => am - (intOf iv).toNat)
    case atStart => exact ⟨0, Nat.zero_le _, rfl, Lib.hid (fun j hj => by omega), Below.refl _ _⟩
    case round =>
      obtain ⟨k, hk, rfl, hf, hb⟩ := hrel
      by_cases hlt : k < am
      · have hkl : k < l.length := by rw [← hm.out]; exact hlt
        obtain ⟨b1, off1, cap1, hv1, hB1, c1⟩ := HA.out.getS hkl
        obtain ⟨rfl, -, rfl⟩ : ao = some ⟨b1, off1, none⟩ ∧ am = l.length ∧ ac = cap1 := by cases hv1; exact ⟨rfl, rfl, rfl⟩
        have d1 := (hb.cell (p := ⟨b1, off1 + k, none⟩) hB1).trans c1
        have HK := Lib.hid (kAt_mem hkl)
        have nme := fun wx => refName_any (kAt l k) wx
        obtain ⟨x, hx⟩ : ∃ x, kAt l k = x := ⟨_, rfl⟩
        rw [hx] at d1 nme
        have HX := Lib.hid hx
        clear hv1 c1 hkl hx
        cases hn : nm x
        · rw [hn] at nme
          have HF := Lib.hid (show okNs l = false by
            unfold okNs
            rw [Bool.and_eq_false_iff]; right
            rw [List.all_eq_false]
            exact ⟨_, HK.out, by rw [HX.out, hn]; decide⟩)
          clear hn
          go_wp2_with fail
          refine Calls.mono (nme _) ?_
          rintro e w1 ⟨rfl, b1⟩
          have hb := Below.then hb b1 (Nat.le_refl _)
          clear b1 nme
          go_wp2
          go_ret2
          exact ⟨by rw [HS.out, HE.out, HF.out]; rfl, hb⟩
        · rw [hn] at nme
          have HF := Lib.hid (show ∀ j, j < k + 1 → nm (kAt l j) = true from fun j hj => by
            by_cases e : j = k
            · subst e; rw [HX.out]; exact hn
            · exact hf.out j (by omega))
          clear hn
          go_wp2_with fail
          refine Calls.mono (nme _) ?_
          rintro e w1 ⟨rfl, b1⟩
          have hb := Below.then hb b1 (Nat.le_refl _)
          clear b1 nme
          go_wp2
          go_roundw
          case rel => exact ⟨k + 1, by omega, by go_num, HF, hb⟩
          case measure => simp [intOf]; omega
      · have hok : okNs l = true := by
          rw [okNs_iff]
          refine ⟨by rw [← hm.out]; omega, fun m hmm => ?_⟩
          obtain ⟨i, hi, rfl⟩ := List.mem_iff_getElem.1 hmm
          rw [kAt_get hi]
          exact hf.out i (by rw [← hm.out] at hi; omega)
        have HF := Lib.hid hok
        have rj := RJ.out _ hb hok
        obtain ⟨P, hP⟩ : ∃ P, txt (pathL l) = P := ⟨_, rfl⟩
        rw [hP] at rj
        have HP := Lib.hid hP
        clear hok hP
        go_wp2_with fail
        refine Calls.mono rj ?_
        rintro e w1 ⟨rfl, b1⟩
        have hb := Below.then hb b1 (Nat.le_refl _)
        clear b1 rj
        go_wp2
        go_ret2
        exact ⟨by rw [HS.out, HE.out, HF.out, ← HP.out]; rfl, hb⟩
end Go.Proofs.Ytclkgbelmacmfaa
