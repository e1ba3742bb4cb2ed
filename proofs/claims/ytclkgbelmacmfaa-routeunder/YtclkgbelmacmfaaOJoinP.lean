/- The contract of route.Join. No statement of the seat is proved here. -/
import Derived.Test.YtclkgbelmacmfaaOJoin
namespace Go.Proofs.Ytclkgbelmacmfaa
set_option maxRecDepth 20000
open Go.RowKit

abbrev IsBd (B b : Nat) (l : BL) (w : World) : Prop := Lib.IsBuilderF 45 5 B b (Lib.byteCells l) w
theorem bdAt_below {B b : Nat} {p : Value} {bs : List Value} {w w' : World} (h : Lib.BuilderAtF 45 5 B b p bs w) (hb : Below w.heap.size w w') : Lib.BuilderAtF 45 5 B b p bs w' := by
  have hlt := h.lt
  obtain ⟨hB, v, hbk, hown, hne⟩ := h
  refine ⟨hB, v, (hb.block b hlt).trans hbk, ?_, hne⟩
  refine ⟨hown.1, ?_⟩
  rcases hown.2 with hn | ⟨g, cap, cur, fz, hv, hg, hh, rest⟩
  · exact .inl hn
  · exact .inr ⟨g, cap, cur, fz, hv, hg, (hb.block g (Array.getElem?_eq_some_iff.1 hh).1).trans hh, rest⟩
theorem isBd_below {B b : Nat} {l : BL} {w w' : World} (h : IsBd B b l w) (hb : Below w.heap.size w w') : IsBd B b l w' := h.imp (fun x => bdAt_below x hb) (fun x => bdAt_below x hb)
theorem isBd_write {B b : Nat} {l : BL} {w : World} (h : IsBd B b l w) (s : ByteArray) (hlen : l.length + s.size ≤ 140737488355328) (hB : B ≤ w.heap.size) :
    Calls Try.prog 26 #[.pointer (some ⟨b, 0, none⟩), .string s] w fun e w' => e = .returned (.tuple #[.int .i64 s.size, .nilIface]) ∧ IsBd B b (l ++ bl s) w' ∧ Below B w w' := by
  refine (write_any B b _ s w h (by rw [Lib.byteCells_length]; exact hlen) hB).mono ?_
  rintro e w' ⟨he, h1, h2⟩
  refine ⟨he, .inr ?_, h2⟩
  rw [Lib.strCells_eq, ← Lib.byteCells_append] at h1
  exact h1
set_option maxHeartbeats 3200000 in
theorem join_any {w : World} {B : Nat} {v : Value} {l : List ByteArray} (hl : SlAt elS B w v l) (hB : B ≤ w.heap.size) : Calls Try.prog 19 #[v] w fun e w' => e = .returned (.tuple #[.string (joS l), .int .i64 (joE l)]) ∧ Below w.heap.size w w' := by
  have HA := Lib.hid (hl.more hB)
  obtain ⟨ao, am, ac, rfl, hm⟩ := hl.form
  obtain ⟨S, hS⟩ : ∃ S, joS l = S := ⟨_, rfl⟩
  obtain ⟨E, hE⟩ : ∃ E, joE l = E := ⟨_, rfl⟩
  rw [hS, hE]
  have HS := Lib.hid (hS.symm.trans (show joS l = if okNs l then txt (pathL l) else ByteArray.empty from rfl))
  have HE := Lib.hid (hE.symm.trans (show joE l = if okNs l then 0 else 6 from rfl))
  have HM := Lib.hid (hl.len okS)
  clear hl hB hS hE
  have hml : am ≤ 17592186043904 := by rw [hm.out]; exact HM.out
  by_cases h10 : 10 < am
  · have hb : okNs l = false := by
      unfold okNs
      rw [decide_eq_false (by rw [← hm.out]; omega)]; rfl
    have HF := Lib.hid hb
    clear hb
    go_enter Try.func19, Try.ntmps19
    go_wp2
    go_ret2
    exact ⟨by rw [HS.out, HE.out, HF.out]; rfl, Below.refl _ _⟩
  · have BD := Lib.hid (show IsBd w.heap.size w.heap.size [] (w.alloc (.cells #[.pointer none, .slice none 0 0] 45)) from Lib.IsBuilderF.of (Lib.fresh_isBuilder _ _ w))
    go_enter Try.func19, Try.ntmps19
    go_wp2
    go_loopw [12] (fun iv wr => ∃ k : Nat, k ≤ am ∧ iv = .int .i64 k ∧ Hid (∀ j, j < k → nm (kAt l j) = true) ∧ Hid (IsBd w.heap.size w.heap.size (joinL (l.take k)) wr) ∧ Below w.heap.size w wr) (fun iv _ => am - (intOf iv).toNat)
    case atStart => exact ⟨0, Nat.zero_le _, rfl, Lib.hid (fun j hj => by omega), BD, below_new _ _⟩
    case round =>
      obtain ⟨k, hk, rfl, hf, hbd, hb⟩ := hrel
      by_cases hlt : k < am
      · have hkl : k < l.length := by rw [← hm.out]; exact hlt
        obtain ⟨b1, off1, cap1, hv1, hB1, c1⟩ := HA.out.getS hkl
        obtain ⟨rfl, -, rfl⟩ : ao = some ⟨b1, off1, none⟩ ∧ am = l.length ∧ ac = cap1 := by cases hv1; exact ⟨rfl, rfl, rfl⟩
        have d1 := (hb.cell (p := ⟨b1, off1 + k, none⟩) hB1).trans c1
        have HK := Lib.hid (kAt_mem hkl)
        have nme := fun wx => name_any (kAt l k) wx
        have HJ := Lib.hid (joinL_step hkl)
        obtain ⟨x, hx⟩ : ∃ x, kAt l k = x := ⟨_, rfl⟩
        rw [hx] at d1 nme HJ
        have HX := Lib.hid hx
        clear hv1 c1 hkl hx
        cases hn : nm x
        · rw [hn] at nme
          have HF := Lib.hid (show okNs l = false by
            unfold okNs
            rw [Bool.and_eq_false_iff]; right
            rw [List.all_eq_false]
            exact ⟨_, HK.out, by rw [HX.out, hn]; decide⟩)
          clear hn
          go_wp2_with fail
          refine Calls.mono (nme _) ?_
          rintro e w1 ⟨rfl, b1⟩
          have hb := Below.then hb b1 (Nat.le_refl _)
          clear b1 nme
          go_wp2
          go_ret2
          exact ⟨by rw [HS.out, HE.out, HF.out]; rfl, hb⟩
        · rw [hn] at nme
          have hxl := (nmL_len (show nmL (bl x) = true from hn)).2.1
          have HF := Lib.hid (show ∀ j, j < k + 1 → nm (kAt l j) = true from fun j hj => by
            by_cases e : j = k
            · subst e; rw [HX.out]; exact hn
            · exact hf.out j (by omega))
          have hle : (joinL (l.take k)).length ≤ 170 := by
            have h1 := joinL_len (l := l.take k) (fun m hm => by
              obtain ⟨i, hi, rfl⟩ := List.mem_iff_getElem.1 hm
              rw [List.length_take] at hi
              rw [List.getElem_take, kAt_get (by omega)]
              exact hf.out i (by omega))
            rw [List.length_take] at h1; omega
          have HXL := Lib.hid hxl
          have HLE := Lib.hid hle
          clear hn hxl hle
          go_wp2_with fail
          refine Calls.mono (nme _) ?_
          rintro e w1 ⟨rfl, b1⟩
          have hbd1 := isBd_below hbd.out b1
          have hb := Below.then hb b1 (Nat.le_refl _)
          clear b1 nme
          have wr1 := isBd_write hbd1 ⟨#[47]⟩ (by have := HLE.out; show _ + 1 ≤ _; omega) hb.size
          clear hbd1
          go_wp2_with fail
          refine Calls.mono wr1 ?_
          rintro e w2 ⟨rfl, hbd2, b2⟩
          have hb := hb.trans b2
          clear b2 wr1
          have wr2 := isBd_write hbd2 x (by have := HLE.out; have := HXL.out; rw [bl_len] at *; rw [List.length_append]; show _ + 1 + _ ≤ _; omega) hb.size
          rw [show bl (⟨#[47]⟩ : ByteArray) = [47] from rfl, ← HJ.out] at wr2
          clear hbd2
          go_wp2_with fail
          refine Calls.mono wr2 ?_
          rintro e w3 ⟨rfl, hbd3, b3⟩
          have hb := hb.trans b3
          have HBD := Lib.hid hbd3
          clear b3 wr2 hbd3
          go_wp2
          go_roundw
          case rel => exact ⟨k + 1, by omega, by go_num, HF, HBD, hb⟩
          case measure => simp [intOf]; omega
      · obtain rfl : k = am := by omega
        have hok : okNs l = true := by
          rw [okNs_iff]
          refine ⟨by rw [← hm.out]; omega, fun m hmm => ?_⟩
          obtain ⟨i, hi, rfl⟩ := List.mem_iff_getElem.1 hmm
          rw [kAt_get hi]
          exact hf.out i (by rw [← hm.out] at hi; omega)
        have HF := Lib.hid hok
        clear hok
        by_cases h0 : k = 0
        · have hl0 : l = [] := List.eq_nil_of_length_eq_zero (by rw [← hm.out]; exact h0)
          have HR := Lib.hid (show txt (pathL l) = ⟨#[47]⟩ by rw [hl0]; rfl)
          subst h0
          clear hl0
          go_wp2
          go_ret2
          exact ⟨by rw [HS.out, HE.out, HF.out, if_pos rfl, HR.out]; rfl, hb⟩
        · have hp : pathL l = joinL l := by
            unfold pathL
            cases l with
            | nil => exact absurd hm.out h0
            | cons a r => rfl
          have bd := hbd.out
          rw [List.take_of_length_le (by rw [← hm.out]; exact Nat.le_refl _), ← hp] at bd
          have st := Try.Builder_String_any_f w.heap.size w.heap.size (pathL l) wr bd hb.size
          have n0 : (((k : Nat) : Int) == 0) = false := by rw [beq_eq_false_iff_ne]; omega
          obtain ⟨P, hP⟩ : ∃ P, txt (pathL l) = P := ⟨_, rfl⟩
          rw [show (⟨(pathL l).toArray⟩ : ByteArray) = P from hP] at st
          have HP := Lib.hid hP
          clear hP h0 hp bd
          go_wp2_with fail
          refine Calls.mono st ?_
          rintro e w1 ⟨rfl, -, b1⟩
          have hb := hb.trans b1
          clear b1 st
          go_wp2
          go_ret2
          exact ⟨by rw [HS.out, HE.out, HF.out, if_pos rfl, HP.out]; rfl, hb⟩
end Go.Proofs.Ytclkgbelmacmfaa
