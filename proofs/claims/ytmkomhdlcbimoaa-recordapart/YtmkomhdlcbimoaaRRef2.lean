/- The contracts of the document's own Encode and DocEncode of a record. No statement of the seat is proved here. -/
import Derived.Test.YtmkomhdlcbimoaaRRef
namespace Go.Proofs.Ytmkomhdlcbimoaa
set_option maxRecDepth 20000
open Go.RowKit

def recI (k : Int) (zs : List Int) (t : ByteArray) : List It := numI k :: (zs.map numI ++ if k = 1 then [] else [txtI t])
theorem recI_mem {k : Int} {zs : List Int} {t : ByteArray} {x : It} (h : x ∈ recI k zs t) : x = numI k ∨ (∃ z ∈ zs, x = numI z) ∨ x = txtI t := by
  unfold recI at h
  rcases List.mem_cons.1 h with h | h
  · exact .inl h
  · rcases List.mem_append.1 h with h | h
    · obtain ⟨z, hz, rfl⟩ := List.mem_map.1 h
      exact .inr (.inl ⟨z, hz, rfl⟩)
    · split at h
      · cases h
      · exact .inr (.inr (List.mem_singleton.1 h))
theorem recI_ok {k : Int} {zs : List Int} {t : ByteArray} (hk : inI k) (hz : ∀ z ∈ zs, inI z) (ht : t.size ≤ maxLen) : ∀ x ∈ recI k zs t, x.ok := by
  intro x hx
  rcases recI_mem hx with rfl | ⟨z, hz1, rfl⟩ | rfl
  · exact numI_ok hk
  · exact numI_ok (hz z hz1)
  · exact txtI_ok ht
theorem encE_rec {k : Int} {zs : List Int} {t : ByteArray} (hl : zs.length ≤ 7) (ht : t.size ≤ 160) : encE (recI k zs t) = 0 := encE_of (by unfold recI; split <;> simp <;> omega) (by
  intro x hx
  rcases recI_mem hx with rfl | ⟨z, hz1, rfl⟩ | rfl
  · exact ⟨numI_form _, numI_short _⟩
  · exact ⟨numI_form _, numI_short _⟩
  · exact ⟨txtI_form _, txtI_short (by omega)⟩)
theorem nums_len (zs : List Int) : (packB (zs.map numI)).length = 9 * zs.length := by
  induction zs with
  | nil => rfl
  | cons z r ih =>
    have : packB ((z :: r).map numI) = itemB (numI z) ++ packB (r.map numI) := rfl
    rw [this, List.length_append, numI_len, ih, List.length_cons]; omega
theorem packRec_len {k : Int} {zs : List Int} {t : ByteArray} (hl : zs.length ≤ 7) (ht : t.size ≤ 160) : (packB (recI k zs t)).length ≤ 250 := by
  have e : packB (recI k zs t) = itemB (numI k) ++ (packB (zs.map numI) ++ packB (if k = 1 then [] else [txtI t])) := by
    unfold recI packB; rw [List.flatMap_cons, List.flatMap_append]
  rw [e, List.length_append, List.length_append, numI_len, nums_len]
  split
  · simp [packB]; omega
  · simp only [packB, List.flatMap_cons, List.flatMap_nil, List.append_nil, txtI_len]; omega
theorem own_one (w : World) (x : It) : OwnI w.heap.size (w.alloc (.cells #[.int .i64 x.k, .int .i64 x.n, .string x.s] 77)) (.slice (some ⟨w.heap.size, 0, none⟩) 1 1) [x] :=
  ⟨rfl, .inr ⟨w.heap.size, 1, _, rfl, Nat.le_refl _, heap_alloc_new w _, Nat.le_refl _, by unfold maxLen; omega, rfl, rfl⟩⟩
set_option maxRecDepth 20000 in
set_option maxHeartbeats 1600000 in
theorem recEncode_any {w : World} {nv : Value} {zs : List Int} (h : IntC w nv zs) (hl : zs.length ≤ 7) (hz : ∀ z ∈ zs, inI z) (k : Int) (hk : inI k) (t : ByteArray) (ht : t.size ≤ 160) : Calls Try.prog 29 #[recV k nv t] w fun e w' => e = .returned (.string (strOf (sectB (recI k zs t)))) ∧ Below w.heap.size w w' := by
  have hE := encE_rec (k := k) hl ht
  have hP := packRec_len (k := k) hl ht
  have hok := recI_ok (t := t) hk hz (by unfold maxLen; omega)
  obtain ⟨ao, m, cap, hv, hm⟩ : ∃ ao m cap, nv = .slice ao m cap ∧ Hid (m = zs.length) := by
    obtain ⟨ao, cap, hv, _⟩ := h
    exact ⟨ao, _, cap, hv, Lib.hid rfl⟩
  have hmb : m ≤ 7 := by rw [hm.out]; exact hl
  subst hv
  have B0 := below_new w (.cells #[.int .i64 k, .slice ao m cap, .string t] 34)
  have c0 := cell_new w #[.int .i64 k, .slice ao m cap, .string t] 34 0 _ rfl
  have c1 := cell_new w #[.int .i64 k, .slice ao m cap, .string t] 34 1 _ rfl
  have c2 := cell_new w #[.int .i64 k, .slice ao m cap, .string t] 34 2 _ rfl
  have hI := h.below B0
  have hw0 : w.heap.size < (w.alloc (.cells #[.int .i64 k, .slice ao m cap, .string t] 34)).heap.size := by simp
  have hbi := fun z w' => build_it1 z w'
  have HOK := Lib.hid hok
  have HZ := Lib.hid hz
  clear h hok hz
  have hcut : ∀ (wr : World) (L : List It) (v : Value), OwnI (w.alloc (.cells #[.int .i64 k, .slice ao m cap, .string t] 34)).heap.size wr v L → True := fun _ _ _ _ => trivial
  clear hcut
  go_enter Try.func29, Try.ntmps29
  have hb1 : (Instr.buildSlice 74 1 #[(0, .agg #[.int .i64 1, .int .i64 k, .string ⟨#[]⟩])]).run Try.prog (w.alloc (.cells #[.int .i64 k, .slice ao m cap, .string t] 34)) = .ok (.slice (some ⟨(w.alloc (.cells #[.int .i64 k, .slice ao m cap, .string t] 34)).heap.size, 0, none⟩) 1 1) ((w.alloc (.cells #[.int .i64 k, .slice ao m cap, .string t] 34)).alloc (.cells #[.int .i64 1, .int .i64 k, .string ⟨#[]⟩] 77)) := build_slice_one _ (numI k)
  rw [size_alloc] at hb1
  have o1 := own_one (w.alloc (.cells #[.int .i64 k, .slice ao m cap, .string t] 34)) (numI k)
  have b1 := below_new (w.alloc (.cells #[.int .i64 k, .slice ao m cap, .string t] 34)) (.cells #[.int .i64 1, .int .i64 k, .string ⟨#[]⟩] 77)
  rw [size_alloc] at o1 b1 hw0
  go_wp2
  clear hb1
  have hwa : (w.alloc (.cells #[.int .i64 k, .slice ao m cap, .string t] 34)).heap.size = w.heap.size + 1 := size_alloc _ _
  generalize w.alloc (.cells #[.int .i64 k, .slice ao m cap, .string t] 34) = wa at *
  have HWA := Lib.hid hwa
  clear hwa
  go_loopw [3, 4] (fun lv iv wr => ∃ j : Nat, j ≤ m ∧ iv = .int .i64 j ∧ OwnI (w.heap.size + 1) wr lv (numI k :: (zs.take j).map numI) ∧ Below (w.heap.size + 1) wa wr) (fun _ iv _ => m - (intOf iv).toNat)
  case atStart => exact ⟨0, Nat.zero_le _, rfl, o1, b1⟩
  case round =>
    obtain ⟨j, hj, rfl, ho, hb⟩ := hrel
    obtain ⟨so, sm, sc, hsv, hsm⟩ := ho.form'
    subst hsv
    have c0' := (hb.cell (p := ⟨w.heap.size, 0, none⟩) hw0).trans c0
    have c1' := (hb.cell (p := ⟨w.heap.size, 1, none⟩) hw0).trans c1
    have c2' := (hb.cell (p := ⟨w.heap.size, 2, none⟩) hw0).trans c2
    have hI2 := hI.below (by rw [HWA.out]; exact hb)
    have hsz : w.heap.size + 1 ≤ wr.heap.size := by have := hb.size; rw [HWA.out] at this; exact this
    by_cases hlt : j < m
    · have hlt' : j < zs.length := by rw [← hm.out]; exact hlt
      obtain ⟨b, off, rfl, hcell⟩ := hI2.get hlt'
      have hin : inI (zs.getD j 0) := HZ.out _ (by rw [List.getD_eq_getElem?_getD, List.getElem?_eq_getElem hlt']; exact List.getElem_mem _)
      have HS := Lib.hid (numsI_succ zs j hlt')
      generalize hx : zs.getD j 0 = x at hcell hin HS
      have hbs : (Instr.buildSlice 74 1 #[(0, .agg #[.int .i64 1, .int .i64 x, .string ⟨#[]⟩])]).run Try.prog wr = .ok (.slice (some ⟨wr.heap.size, 0, none⟩) 1 1) (wr.alloc (.cells #[.int .i64 1, .int .i64 x, .string ⟨#[]⟩] 77)) := build_slice_one wr (numI x)
      have hit := items_one wr (numI x) (numI_ok hin)
      have hL : (numI k :: (zs.take j).map numI).length ≤ 8 := by simp; omega
      obtain ⟨v4, w4, hr4, h4, b4, s4⟩ := own_append_items (ho.alloc (.cells #[.int .i64 1, .int .i64 x, .string ⟨#[]⟩] 77)) hit (by simp only [List.length_cons, List.length_nil] at hL ⊢; omega) (by rw [size_alloc]; omega) 74
      have bb4 := (hb.alloc hsz (.cells #[.int .i64 1, .int .i64 x, .string ⟨#[]⟩] 77)).trans b4
      have hbi' := build_it1 x wr
      obtain ⟨lo4, lm4, lc4, hv4, hm4⟩ := h4.form'
      subst hv4
      have HR4 := Lib.hid hr4
      rw [List.cons_append, ← HS.out] at h4
      clear hr4 hit b4 s4 ho hb hx hbi c0' c2' hL
      go_wp2_with (with_reducible refine wpList_append_eq rfl (.tmp 18) (.tmp 25) 74 74 rfl (.slice so sm sc) (.slice (some ⟨wr.heap.size, 0, none⟩) 1 1) (.slice lo4 lm4 lc4) rfl rfl HR4.out ?_)
      go_roundw
      case rel => exact ⟨j + 1, by omega, by go_num, h4, bb4⟩
      case measure => simp [intOf]; omega
    · rw [List.take_of_length_le (by rw [← hm.out]; omega)] at ho
      have htx := texted_any k wr
      clear hI2
      go_wp2_with fail
      refine Calls.mono htx ?_
      rintro e _ ⟨rfl, rfl⟩
      clear htx
      by_cases hk1 : k = 1
      · have hrec : numI k :: zs.map numI = recI k zs t := by unfold recI; rw [if_pos hk1, List.append_nil]
        have hkb : (k != 1) = false := by rw [hk1]; rfl
        clear hk1
        rw [hrec] at ho
        have hen := refEncode_any (ho.items HOK.out) hE
        rw [encR_pack hE] at hen
        clear ho
        go_wp2_with fail
        refine Calls.mono hen ?_
        rintro e w5 ⟨rfl, b5⟩
        have B5 := hb.trans (b5.mono hsz)
        have hz5 : w.heap.size + 1 ≤ w5.heap.size := Nat.le_trans hsz b5.size
        have hse := refSeal_any (packB (recI k zs t)) (by omega) w5
        clear hen b5 hb
        go_wp2_with fail
        refine Calls.mono hse ?_
        rintro e w6 ⟨rfl, b6⟩
        have B6 := B5.trans (b6.mono hz5)
        have hz6 : w.heap.size + 1 ≤ w6.heap.size := Nat.le_trans hz5 b6.size
        have hsl := sealed_length (packB (recI k zs t))
        have hfr := docFrame_any (sealed (packB (recI k zs t))) (by omega) 256 w6
        have hfe : frameE (sealed (packB (recI k zs t))).length 256 = 0 := by unfold frameE; rw [sealed_length, if_neg (by omega), if_neg (by omega)]
        have hfR : frameR (sealed (packB (recI k zs t))) 256 = sectB (recI k zs t) := by unfold frameR; rw [hfe, if_pos rfl]; rfl
        rw [hfe, hfR] at hfr
        clear hse b6 B5 hfe hfR hsl
        go_wp2_with fail
        refine Calls.mono hfr ?_
        rintro e w7 ⟨rfl, b7⟩
        have B7 := B6.trans (b7.mono hz6)
        clear hfr
        go_wp2
        go_ret
        exact ⟨rfl, B0.trans (B7.mono (Nat.le_succ _))⟩
      · have hrec : numI k :: zs.map numI ++ [txtI t] = recI k zs t := by unfold recI; rw [if_neg hk1]; rfl
        have hkb : (k != 1) = true := by simpa using hk1
        clear hk1
        have hbs := txt_build wr t
        have hbt := build_it2 t wr
        have hit := items_one wr (txtI t) (txtI_ok (by unfold maxLen; omega))
        have hL : (numI k :: zs.map numI).length ≤ 8 := by simp; omega
        obtain ⟨v4, w4, hr4, h4, b4, s4⟩ := own_append_items (ho.alloc (.cells #[.int .i64 2, .int .i64 0, .string t] 77)) hit (by simp only [List.length_cons, List.length_nil] at hL ⊢; omega) (by rw [size_alloc]; omega) 74
        have bb4 := (hb.alloc hsz (.cells #[.int .i64 2, .int .i64 0, .string t] 77)).trans b4
        obtain ⟨lo4, lm4, lc4, hv4, hm4⟩ := h4.form'
        subst hv4
        have HR4 := Lib.hid hr4
        have hsz4 : w.heap.size + 1 ≤ w4.heap.size := by rw [size_alloc] at s4; omega
        rw [hrec] at h4
        have hen := refEncode_any (h4.items HOK.out) hE
        rw [encR_pack hE] at hen
        clear hr4 hit b4 s4 ho hb hL c0' c1' hrec h4
        go_wp2_with (with_reducible refine wpList_append_eq rfl (.tmp 30) (.tmp 34) 74 74 rfl (.slice so sm sc) (.slice (some ⟨wr.heap.size, 0, none⟩) 1 1) (.slice lo4 lm4 lc4) rfl rfl HR4.out ?_)
        refine Calls.mono hen ?_
        rintro e w5 ⟨rfl, b5⟩
        have B5 := bb4.trans (b5.mono hsz4)
        have hz5 : w.heap.size + 1 ≤ w5.heap.size := Nat.le_trans hsz4 b5.size
        have hse := refSeal_any (packB (recI k zs t)) (by omega) w5
        clear hen b5 bb4
        go_wp2_with fail
        refine Calls.mono hse ?_
        rintro e w6 ⟨rfl, b6⟩
        have B6 := B5.trans (b6.mono hz5)
        have hz6 : w.heap.size + 1 ≤ w6.heap.size := Nat.le_trans hz5 b6.size
        have hsl := sealed_length (packB (recI k zs t))
        have hfr := docFrame_any (sealed (packB (recI k zs t))) (by omega) 256 w6
        have hfe : frameE (sealed (packB (recI k zs t))).length 256 = 0 := by unfold frameE; rw [sealed_length, if_neg (by omega), if_neg (by omega)]
        have hfR : frameR (sealed (packB (recI k zs t))) 256 = sectB (recI k zs t) := by unfold frameR; rw [hfe, if_pos rfl]; rfl
        rw [hfe, hfR] at hfr
        clear hse b6 B5 hfe hfR hsl
        go_wp2_with fail
        refine Calls.mono hfr ?_
        rintro e w7 ⟨rfl, b7⟩
        have B7 := B6.trans (b7.mono hz6)
        clear hfr
        go_wp2
        go_ret
        exact ⟨rfl, B0.trans (B7.mono (Nat.le_succ _))⟩
end Go.Proofs.Ytmkomhdlcbimoaa
