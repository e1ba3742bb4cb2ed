/- The contracts of pack.appendItem and pack.Encode. No statement of the seat is proved here. -/
import Derived.Test.YtmkomhdlcbimoaaPItems
import Derived.Lib.AppendStr
namespace Go.Proofs.Ytmkomhdlcbimoaa
set_option maxRecDepth 20000
open Go.RowKit

/-- a number as 64 bits -/
def u64 (n : Int) : Nat := (n % 18446744073709551616).toNat
theorem u64_lt (n : Int) : u64 n < 18446744073709551616 := by unfold u64; omega
theorem wrap_u64' (n : Int) : IntKind.u64.wrap n = (u64 n : Nat) := by rw [IntKind.wrap_u64]; unfold u64; omega
def itemB (x : It) : List UInt8 := if x.k = 1 then 1 :: low (u64 x.n) 8 else 2 :: (low x.s.size 2 ++ x.s.data.toList)
theorem own_append_str {base : Nat} {w : World} {v : Value} {bs : List UInt8} (h : OwnB base w v bs) (s : ByteArray) (hlen : bs.length + s.size ≤ 140737488355328) (hb : base ≤ w.heap.size) (ty : TypeId) :
    ∃ v' w', (Builtin.append_ #[36, 9] ty #[v, .string s]).run Try.prog w = .ok v' w' ∧ OwnB base w' v' (bs ++ s.data.toList) ∧ Below base w w' ∧ w.heap.size ≤ w'.heap.size := by
  obtain ⟨i, hi, hi0, hi1, hi2⟩ := info5'
  obtain ⟨v', w', hr, ho, hg, -⟩ := Lib.run_append_own_string (P := Try.prog) w base 36 9 ty 5 i Try.underlying36 Try.underlying9 hi hi0 hi1 hi2 v bs.length (cellsB bs) h s (by unfold maxLen; omega) hlen hb
  refine ⟨v', w', hr, ?_, below_grown h hb hg, hg.size⟩
  unfold OwnB
  rw [List.length_append, Array.length_toList, show cellsB (bs ++ s.data.toList) = cellsB bs ++ Lib.strCells s by simp [cellsB, Lib.strCells, byteV]]
  exact ho
theorem itemB_one {x : It} (h : x.k = 1) : itemB x = [1] ++ low (u64 x.n) 8 := by unfold itemB; rw [if_pos h]; rfl
theorem itemB_two {x : It} (h : x.k = 2) : itemB x = [2] ++ low x.s.size 2 ++ x.s.data.toList := by unfold itemB; rw [if_neg (by omega)]; simp
set_option maxHeartbeats 1600000 in
theorem appendItem_any {base : Nat} {w : World} {v : Value} {bs : List UInt8} (h : OwnB base w v bs) (x : It) (hk : x.k = 1 ∨ x.k = 2) (hb : base ≤ w.heap.size) (hs : x.s.size ≤ 50000) (hl : bs.length ≤ 1000000000) :
    Calls Try.prog 61 #[v, .agg #[.int .i64 x.k, .int .i64 x.n, .string x.s]] w (OwnRet base w (bs ++ itemB x)) := by
  obtain ⟨ao, m, cap, rfl, hm⟩ := h.form'
  rcases hk with hk | hk
  · rw [itemB_one hk]
    obtain ⟨xk, xn, xs⟩ := x
    obtain rfl : xk = 1 := hk
    have h1 := h.alloc (.cells #[.int .i64 1, .int .i64 xn, .string xs] 77)
    have h2 := h1.alloc (.cells #[.int .u8 1] 5)
    obtain ⟨v', w', hr, ho, hb1, hs1, hg1⟩ := own_append h2 (bytes_one' _ 1 1 rfl (w.heap.size + 1) (by simp)) (by simp; omega) (by simp; omega) 36
    have hz : w.heap.size + 2 ≤ w'.heap.size := by simpa using hs1
    have hc0 : w'.cell? ⟨w.heap.size, 0, none⟩ = some (.int .i64 1) := by rw [hg1.cell (by simp; omega) (h.ne_new (Nat.le_refl _))]; simp [go_sem]
    have hc1 : w'.cell? ⟨w.heap.size, 1, none⟩ = some (.int .i64 xn) := by rw [hg1.cell (by simp; omega) (h.ne_new (Nat.le_refl _))]; simp [go_sem]
    have hcall := appendLow_any ho (u64 xn) 8 (by decide) (by omega) (by simp; omega)
    obtain ⟨ao', m', cap', rfl, hm'⟩ := ho.form'
    have HR := Lib.hid hr
    have BB := ((((Below.refl base w).alloc hb (.cells #[.int .i64 1, .int .i64 xn, .string xs] 77)).alloc (by simp; omega) (.cells #[.int .u8 1] 5))).trans hb1
    have hw := wrap_u64' xn
    clear hr hb1 hs1 h h1 h2 ho hg1
    go_enter Try.func61, Try.ntmps61
    go_wp2_with (with_reducible refine wpList_append_eq rfl (.tmp 5) (.tmp 9) 36 36 rfl (.slice ao m cap) (.slice (some ⟨w.heap.size + 1, 0, none⟩) 1 1) (.slice ao' m' cap') rfl rfl HR.out ?_)
    refine hcall.mono ?_
    rintro e w2 ⟨v2, rfl, h2, b2, -⟩
    obtain ⟨ao2, m2, cap2, hv2, hm2⟩ := h2.form'
    subst hv2
    go_wp2
    go_ret
    refine ⟨_, rfl, ?_, BB.trans b2⟩
    have e : bs ++ 1 :: low (u64 xn) 8 = bs ++ [1] ++ low (u64 xn) 8 := by simp
    rw [e]; exact h2
  · rw [itemB_two hk]
    obtain ⟨xk, xn, xs⟩ := x
    obtain rfl : xk = 2 := hk
    have h1 := h.alloc (.cells #[.int .i64 2, .int .i64 xn, .string xs] 77)
    have h2 := h1.alloc (.cells #[.int .u8 2] 5)
    obtain ⟨v', w', hr, ho, hb1, hs1, hg1⟩ := own_append h2 (bytes_one' _ 2 2 rfl (w.heap.size + 1) (by simp)) (by simp; omega) (by simp; omega) 36
    have hz : w.heap.size + 2 ≤ w'.heap.size := by simpa using hs1
    have hne : some w.heap.size ≠ (Value.slice ao m cap).ownBlock := h.ne_new (Nat.le_refl _)
    have hc0 : w'.cell? ⟨w.heap.size, 0, none⟩ = some (.int .i64 2) := by rw [hg1.cell (by simp; omega) hne]; simp [go_sem]
    have hc2 : w'.cell? ⟨w.heap.size, 2, none⟩ = some (.string xs) := by rw [hg1.cell (by simp; omega) hne]; simp [go_sem]
    have hsz : xs.size ≤ 50000 := hs
    have hcall := appendLow_any ho xs.size 2 (by decide) (by omega) (by simp; omega)
    have hne' : some w.heap.size ≠ v'.ownBlock := by
      rcases hg1.2.2 with e | ⟨j, hj, e⟩
      · rw [e]; exact hne
      · rw [e]; intro e'; cases e'; simp at hj; omega
    obtain ⟨ao', m', cap', rfl, hm'⟩ := ho.form'
    have HR := Lib.hid hr
    have BB := ((((Below.refl base w).alloc hb (.cells #[.int .i64 2, .int .i64 xn, .string xs] 77)).alloc (by simp; omega) (.cells #[.int .u8 2] 5))).trans hb1
    have hw : IntKind.u64.wrap ((xs.size : Nat) : Int) = xs.size := wrap_nat _ (by omega)
    clear hr hb1 hs1 h h1 h2 ho hg1 hne
    go_enter Try.func61, Try.ntmps61
    go_wp2_with (with_reducible refine wpList_append_eq rfl (.tmp 5) (.tmp 9) 36 36 rfl (.slice ao m cap) (.slice (some ⟨w.heap.size + 1, 0, none⟩) 1 1) (.slice ao' m' cap') rfl rfl HR.out ?_)
    refine hcall.mono ?_
    rintro e w2 ⟨v2, rfl, h2, b2, g2⟩
    have hc2' : w2.cell? ⟨w.heap.size, 2, none⟩ = some (.string xs) := by rw [g2.cell (by simp; omega) hne']; exact hc2
    obtain ⟨v3, w3, hr3, h3, b3, s3⟩ := own_append_str h2 xs (by simp [low_length]; omega) (by have := b2.size; omega) 36
    obtain ⟨ao2, m2, cap2, hv2, hm2⟩ := h2.form'
    subst hv2
    obtain ⟨ao3, m3, cap3, hv3, hm3⟩ := h3.form'
    subst hv3
    have HR3 := Lib.hid hr3
    clear hr3 h2 g2 hc0 hc2 hcall
    go_wp2_with (with_reducible refine wpList_append_eq rfl (.tmp 25) (.tmp 27) 36 9 rfl (.slice ao2 m2 cap2) (.string xs) (.slice ao3 m3 cap3) rfl rfl HR3.out ?_)
    go_ret
    refine ⟨_, rfl, ?_, (BB.trans b2).trans b3⟩
    have e : bs ++ 2 :: (low xs.size 2 ++ xs.data.toList) = bs ++ [2] ++ low xs.size 2 ++ xs.data.toList := by simp
    rw [e]; exact h3

def encE (l : List It) : Int := if bigB l then 14 else if l.all formB then 0 else 2
def encR (l : List It) : List UInt8 := if encE l = 0 then l.flatMap itemB else []
def encK (l : List It) (k : Nat) : List UInt8 := (l.take k).flatMap itemB
theorem encK_succ (l : List It) (k : Nat) (h : k < l.length) : encK l (k + 1) = encK l k ++ itemB (itAt l k) := by
  unfold encK itAt
  rw [List.take_succ_eq_append_getElem h, List.flatMap_append, List.getD_eq_getElem?_getD, List.getElem?_eq_getElem h]; simp
theorem form_kind {x : It} (h : formB x = true) : x.k = 1 ∨ x.k = 2 := by unfold formB at h; simp at h; omega
theorem form_size {x : It} (h : formB x = true) (hl : longB x = false) : x.s.size ≤ 50000 := by
  unfold formB at h; unfold longB at hl
  simp at h hl
  rcases h with ⟨h1, h2⟩ | ⟨h1, h2⟩
  · have : x.s.size = 0 := by first | exact h2 | (rw [h2]; rfl)
    omega
  · exact hl h1
theorem item_len {x : It} (hs : x.s.size ≤ 50000) : (itemB x).length ≤ 50003 := by
  unfold itemB; split
  · simp [low_length]
  · simp [low_length]
    have : x.s.data.size = x.s.size := rfl
    omega
theorem encK_len (l : List It) (hs : ∀ j, j < l.length → (formB (itAt l j) = true → longB (itAt l j) = false → (itemB (itAt l j)).length ≤ 50003)) (k : Nat) (hk : k ≤ l.length) (hf : ∀ j, j < k → formB (itAt l j) = true) (hg : ∀ j, j < l.length → longB (itAt l j) = false) : (encK l k).length ≤ k * 50003 := by
  induction k with
  | zero => simp [encK]
  | succ k ih =>
    rw [encK_succ l k (by omega), List.length_append]
    have := ih (by omega) (fun j hj => hf j (by omega))
    have := hs k (by omega) (hf k (by omega)) (hg k (by omega))
    omega
theorem snoc_true {p : Nat → Bool} {k : Nat} (h : ∀ j, j < k → p j = true) (h2 : p k = true) : ∀ j, j < k + 1 → p j = true := fun j hj => by
  by_cases e : j = k
  · subst e; exact h2
  · exact h j (by omega)
theorem OwnB.below {base : Nat} {w w' : World} {v : Value} {bs : List UInt8} (h : OwnB base w v bs) (hb : Below w.heap.size w w') : OwnB base w' v bs :=
  ownsRow_of_row h (fun k _ hk => (hb.block k (lt_of_heap hk)).trans hk)
set_option maxHeartbeats 1600000 in
theorem encode_any {w : World} {v : Value} {l : List It} (h : ItemsAt w.heap.size w v l) : Calls Try.prog 44 #[v] w (OwnRetE w.heap.size w (encR l) (encE l)) := by
  obtain ⟨ao, m, cap, hv, hm⟩ : ∃ ao m cap, v = .slice ao m cap ∧ Hid (m = l.length) := by
    obtain ⟨ao, cap, hv, _⟩ := h
    exact ⟨ao, _, cap, hv, Lib.hid rfl⟩
  have hmb : m ≤ 9223372036854775807 := by rw [hm.out]; obtain ⟨_, _, _, _, hh, _⟩ := h; exact hh
  subst hv
  cases hbig : bigB l
  · have hlen : l.length ≤ 4000 := by
      unfold bigB at hbig; rw [Bool.or_eq_false_iff] at hbig
      have := hbig.1; simp at this; exact this
    have hlong : ∀ j, j < l.length → longB (itAt l j) = false := fun j hj => by
      unfold bigB at hbig; rw [Bool.or_eq_false_iff] at hbig
      have := List.any_eq_false.1 hbig.2 _ (itAt_mem hj)
      simpa using this
    have HLONG := Lib.hid hlong
    have HE : Hid (∀ b, l.all formB = b → encE l = if b then 0 else 2) := Lib.hid (fun b hb => by unfold encE; rw [hbig, hb]; simp)
    clear hlong
    go_enter Try.func44, Try.ntmps44
    go_wp2_with fail
    refine (big_any h).mono ?_
    rintro e w1 ⟨rfl, b1⟩
    rw [hbig]
    go_wp2
    go_loopw [4, 11] (fun bv iv wr => ∃ k : Nat, k ≤ l.length ∧ iv = .int .i64 k ∧ OwnB w.heap.size wr bv (encK l k) ∧ Below w.heap.size w wr ∧ Hid (∀ j, j < k → formB (itAt l j) = true)) (fun _ iv _ => l.length - (intOf iv).toNat)
    case atStart => exact ⟨0, Nat.zero_le _, rfl, OwnB.nil _ _, b1, Lib.hid (fun j hj => by omega)⟩
    case round =>
      obtain ⟨k, hk, rfl, ho, hbel, hform⟩ := hrel
      obtain ⟨bo, bm, bc, hbv, hbm⟩ := ho.form'
      subst hbv
      by_cases hlt : k < l.length
      · have hltm : k < m := by rw [hm.out]; exact hlt
        obtain ⟨ao', cap', hv', h1, h2, h3, h4⟩ := h
        cases hv'
        obtain ⟨b, off, rfl, hB, hc⟩ := h4 (by omega)
        obtain ⟨d1, d2, d3⟩ := hc k hlt
        have d1' := (hbel.cell (p := ⟨b, off + k * 3, none⟩) hB).trans d1
        have d2' := (hbel.cell (p := ⟨b, off + k * 3 + 1, none⟩) hB).trans d2
        have d3' := (hbel.cell (p := ⟨b, off + k * 3 + 2, none⟩) hB).trans d3
        generalize hx : itAt l k = x at d1' d2' d3'
        have HX := Lib.hid hx
        clear d1 d2 d3 hc hx h4
        go_wp2_with fail
        refine (formed_any x _).mono ?_
        rintro e w2 ⟨rfl, b2⟩
        have hcw : ∀ i u, (#[Value.int .i64 x.k, .int .i64 x.n, .string x.s] : Array Value)[i]? = some u → w2.cell? ⟨wr.heap.size, i, none⟩ = some u := fun i u hu => by
          rw [b2.cell (by simp), cell_of_row _ _ _ _ _ _ (heap_alloc_new wr _)]; exact hu
        have e1 := hcw 0 _ rfl
        have e2 := hcw 1 _ rfl
        have e3 := hcw 2 _ rfl
        have ho2 := (ho.alloc (.cells #[.int .i64 x.k, .int .i64 x.n, .string x.s] 77)).below b2
        have bb2 := (hbel.alloc hbel.size (.cells #[.int .i64 x.k, .int .i64 x.n, .string x.s] 77)).trans (b2.mono (by have := hbel.size; simp; omega))
        clear hcw b2 ho hbel
        cases hfx : formB x
        · have hall : l.all formB = false := by
            rw [List.all_eq_false]
            exact ⟨_, itAt_mem hlt, by rw [HX.out, hfx]; simp⟩
          have he : Hid (encE l = 2) := Lib.hid (HE.out false hall)
          clear hall
          go_wp2
          go_ret2
          refine ⟨_, by rw [he.out]; rfl, ?_, bb2⟩
          rw [show encR l = [] by unfold encR; rw [he.out]; rfl]
          exact OwnB.nil _ _
        · have hk12 := form_kind hfx
          have hsx := form_size hfx (by rw [← HX.out]; exact HLONG.out k hlt)
          have hkl := encK_len l (fun j hj hfj hlj => item_len (form_size hfj hlj)) k hk hform.out HLONG.out
          have hcall := appendItem_any ho2 x hk12 bb2.size hsx (by omega)
          have HE2 := Lib.hid (encK_succ l k hlt)
          have HF2 := Lib.hid (snoc_true hform.out (by rw [HX.out]; exact hfx))
          clear ho2 hform HLONG hk12 hsx hkl
          go_wp2_with fail
          refine hcall.mono ?_
          rintro e w3 ⟨v3, rfl, h3, b3⟩
          clear hcall
          obtain ⟨ao3, m3, cap3, hv3, hm3⟩ := h3.form'
          subst hv3
          have H3 : OwnB w.heap.size w3 (.slice ao3 m3 cap3) (encK l (k + 1)) := by rw [HE2.out, HX.out]; exact h3
          have bb3 := bb2.trans b3
          clear e1 e2 e3 h3 b3 bb2
          go_wp2
          go_roundw
          case rel => exact ⟨k + 1, by omega, by go_num, H3, bb3, HF2⟩
          case measure => simp [intOf]; omega
      · have hnlt : ¬ k < m := by rw [hm.out]; exact hlt
        have hall : l.all formB = true := by
          rw [List.all_eq_true]
          intro x hx
          obtain ⟨i, hi, rfl⟩ := mem_itAt hx
          exact hform.out i (by omega)
        have he : Hid (encE l = 0) := Lib.hid (HE.out true hall)
        have hr : Hid (encR l = encK l k) := Lib.hid (by
          unfold encR encK; rw [he.out, if_pos rfl, List.take_of_length_le (by omega)])
        clear hall
        go_wp2
        go_ret2
        exact ⟨_, by rw [he.out]; rfl, by rw [hr.out]; exact ho, hbel⟩
  · rw [show encE l = 14 by simp [encE, hbig], show encR l = [] by simp [encR, encE, hbig]]
    go_enter Try.func44, Try.ntmps44
    go_wp2_with fail
    refine (big_any h).mono ?_
    rintro e w1 ⟨rfl, b1⟩
    rw [hbig]
    go_wp2
    go_ret2
    exact ⟨_, rfl, OwnB.nil _ _, b1⟩
end Go.Proofs.Ytmkomhdlcbimoaa
