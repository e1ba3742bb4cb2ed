/- The first images of those that came in; numbers copied; what is left of a list of lists. No statement of the seat is proved here. -/
import Derived.Test.YtbgefdigmdfalaaWArg
namespace Go.Proofs.Ytbgefdigmdfalaa
set_option maxRecDepth 20000
open Go.RowKit

set_option maxRecDepth 20000 in
set_option maxHeartbeats 1600000 in
theorem some_any {W w : World} {v : Value} {l : List Im} (h : ImgsAt W.heap.size W v l) (hb : Below W.heap.size W w) : Calls Try.prog 18 #[v] w fun e w' => ∃ u, e = .returned u ∧ OwnM w.heap.size w' u (l.take 20) ∧ Below w.heap.size w w' := by
  have hA := fun (w' : World) (hb' : Below w.heap.size w w') => h.below (hb.trans (hb'.mono hb.size))
  obtain ⟨ao, cap, rfl, h1, h2, h3, h4⟩ := h
  obtain ⟨m, hm⟩ : ∃ m, l.length = m := ⟨_, rfl⟩
  have HM := Lib.hid hm
  rw [hm] at h1 h2 hA ⊢
  have HA := Lib.hid hA
  have H3 := Lib.hid h3
  clear hm h3 h4 hA
  go_enter Try.func18, Try.ntmps18
  go_wp2
  go_loopw [3, 4] (fun lv iv wr => ∃ k : Nat, k ≤ 20 ∧ k ≤ m ∧ iv = .int .i64 k ∧ OwnM w.heap.size wr lv (l.take k) ∧ Below w.heap.size w wr) (fun _ iv _ => m - (intOf iv).toNat)
  case atStart => exact ⟨0, Nat.zero_le _, Nat.zero_le _, rfl, OwnM.nil _ _, Below.refl _ _⟩
  case round =>
    obtain ⟨k, hk20, hkm, rfl, ho, hbr⟩ := hrel
    obtain ⟨lo, lm, lc, hlv, hlm⟩ := ho.form'
    subst hlv
    by_cases hlt : k < m
    · by_cases h20 : k < 20
      · obtain ⟨ao', cap', he, -, -, -, hc⟩ := HA.out wr hbr
        obtain ⟨b, off, eb, hB, hcc⟩ := hc (by rw [HM.out]; omega)
        injection he with e1 e2 e3
        rw [← e1] at eb
        subst eb
        obtain ⟨c1, c2⟩ := hcc k (by rw [HM.out]; exact hlt)
        have hkl : k < l.length := by rw [HM.out]; exact hlt
        have hxo := H3.out _ (imAt_mem hkl)
        have hsn : l.take (k + 1) = l.take k ++ [imAt l k] := imAt_eta hkl
        generalize imAt l k = x at c1 c2 hxo hsn
        obtain ⟨xp, xd⟩ := x
        simp only at c1 c2
        have hbi := build_imgs_one wr ⟨xp, xd⟩
        obtain ⟨v2, w2, hr2, o2, b2, -⟩ := own_append_imgs (ho.alloc (.cells #[.int .i64 xp, .string xd] 50)) (imgs_one wr ⟨xp, xd⟩ hxo) (by rw [List.length_take]; simp; omega) (by have := hbr.size; simp; omega) 44
        rw [← hsn] at o2
        have hb2 : Below w.heap.size w w2 := (hbr.alloc hbr.size _).trans b2
        obtain ⟨lo2, lm2, lc2, hv2, -⟩ := o2.form'
        subst hv2
        have HR2 := Lib.hid hr2
        clear hr2 ho hbr hc hcc e1 e2 e3 hsn hlm b2
        go_wp2_with (with_reducible refine wpList_append_eq rfl (.tmp 15) (.tmp 20) 44 44 rfl (.slice lo lm lc) (.slice (some ⟨wr.heap.size, 0, none⟩) 1 1) (.slice lo2 lm2 lc2) rfl rfl HR2.out ?_)
        go_roundw
        case rel => exact ⟨k + 1, by omega, by omega, by go_num, o2, hb2⟩
        case measure => simp [intOf]; omega
      · obtain rfl : k = 20 := by omega
        clear hlm
        go_wp2
        go_ret
        exact ⟨_, rfl, ho, hbr⟩
    · obtain rfl : k = m := by omega
      have e : l.take k = l.take 20 := by rw [List.take_of_length_le (by rw [HM.out]; exact Nat.le_refl _), List.take_of_length_le (by rw [HM.out]; exact hk20)]
      rw [e] at ho
      clear hlm e
      go_wp2
      go_ret
      exact ⟨_, rfl, ho, hbr⟩
theorem build0_w (w : World) : (Instr.buildSlice 45 0 #[]).run Try.prog w = .ok (.slice (some ⟨w.heap.size, 0, none⟩) 0 0) (w.alloc (.cells #[] 3)) := by kernel_rfl
theorem OwnS.ints {base : Nat} {w : World} {v : Value} {zs : List Int} (h : OwnS base w v zs) (hl : zs.length ≤ 9223372036854775807) (B : Nat) : Ints FK B w v zs := by
  obtain ⟨ao, cap, hv, h1, h2⟩ := ownsRow_form h
  subst hv
  refine ⟨ao, cap, rfl, hl, fun i hi => ?_⟩
  rcases h.2 with ⟨e1, e2⟩ | ⟨g, cap', cur, hv, hb, hg, _⟩
  · omega
  · injection hv with hv
    subst hv
    obtain ⟨b, e, -, c⟩ := h.cell hi
    injection e with e; injection e with e
    subst e
    exact ⟨g, 0, _, rfl, hg, .inr rfl, by rw [Nat.zero_add]; exact c⟩
theorem copy_intsW {W w : World} {v : Value} {zs : List Int} (h : IntsArg W v zs) (hb : Below W.heap.size W w) : ∃ v' w', (Builtin.append_ #[45, 45] 45 #[.slice (some ⟨w.heap.size, 0, none⟩) 0 0, v]).run Try.prog (w.alloc (.cells #[] 3)) = .ok v' w' ∧ OwnS w.heap.size w' v' zs ∧ Below w.heap.size w w' := by
  obtain ⟨i, hi, hi0, hi1, hi2⟩ := infoIntS'
  have h0 : OwnS w.heap.size (w.alloc (.cells #[] 3)) (.slice (some ⟨w.heap.size, 0, none⟩) 0 0) [] := ⟨rfl, .inr ⟨w.heap.size, 0, #[], rfl, Nat.le_refl _, heap_alloc_new w _, Nat.le_refl _, Nat.zero_le _, rfl, rfl⟩⟩
  have hb1 := below_new w (.cells #[] 3)
  obtain ⟨ao, cap, rfl, hl, -⟩ := h.1.form
  have h8 := h.2.2.1
  by_cases hp : 0 < zs.length
  · obtain ⟨b, off, e0, -⟩ := h.1.at (hb.trans (hb1.mono hb.size)) hp
    subst e0
    obtain ⟨v', w', hr, ho, hgr, -, hob⟩ := run_append_own_at (P := Try.prog) (w.alloc (.cells #[] 3)) w.heap.size 45 45 3 i _ 1 8 Try.underlying45 hi hi0 hi1 hi2 rfl (by decide) _ 0 [] h0 ⟨b, off, none⟩ zs.length cap (zs.map (Value.int .i64)) (by simp) (fun j u hu => by
        have hj : j < zs.length := by have := (List.getElem?_eq_some_iff.1 hu).1; simpa using this
        obtain ⟨b', off', e1, c⟩ := h.1.at (hb.trans (hb1.mono hb.size)) hj
        cases e1
        rw [Addr.add_mid, c]
        rw [List.getElem?_map, List.getElem?_eq_getElem hj, Option.map_some] at hu
        rw [← hu, List.getD_eq_getElem?_getD, List.getElem?_eq_getElem hj]; rfl) (fun u hu => by
        obtain ⟨z, -, rfl⟩ := List.mem_map.1 hu; rfl) (by unfold maxLen; omega) (by omega) (by simp)
    refine ⟨v', w', hr, ?_, hb1.trans ((Below.refl _ _).grown hgr (by simp) (fun k hk => (World.ownsRow.lt h0 k hk).1))⟩
    have e : 0 + zs.length = zs.length := Nat.zero_add _
    rw [e] at ho
    exact ho
  · have hz : zs = [] := List.eq_nil_of_length_eq_zero (by omega)
    subst hz
    exact ⟨_, _, run_append_none _ 45 45 3 Try.underlying45 i hi _ ao 0 0 cap (Nat.le_refl _), h0, hb1⟩
/-! ### a list of lists without its first -/
theorem OutV.tail {base : Nat} {w : World} {b off m cap : Nat} {u : Value} {xs : List Value} (h : OutV base w (.slice (some ⟨b, off, none⟩) m cap) (u :: xs)) {off' : Nat} (ho : off' = off + 1 ∨ (cap = 1 ∧ off' = off)) : OutV base w (.slice (some ⟨b, off', none⟩) (m - 1) (cap - 1)) xs := by
  obtain ⟨ao', cap', hv, h1, h2, h3⟩ := h
  injection hv with e1 e2 e3
  subst e3
  simp only [List.length_cons] at h1 e2
  rcases h3 with ⟨e, rfl⟩ | ⟨b', o', cs, e, hb, hh, hsz, hat⟩
  · omega
  · rw [← e1] at e
    injection e with e; injection e with e4 e5
    subst e4; subst e5
    refine ⟨_, cap - 1, by rw [show m - 1 = xs.length by omega], by omega, by omega, .inr ⟨b, off', cs, rfl, hb, hh, ?_, fun i x hx => ?_⟩⟩
    · rcases ho with ho | ⟨ho, ho'⟩ <;> omega
    · have hi := (List.getElem?_eq_some_iff.1 hx).1
      have := hat (i + 1) x (by simpa using hx)
      rcases ho with ho | ⟨ho, ho'⟩
      · rw [ho, show off + 1 + i = off + (i + 1) by omega]; exact this
      · omega
theorem OutT.tail {base : Nat} {w : World} {b off m cap : Nat} {a : List Im} {L : List (List Im)} (h : OutT base w (.slice (some ⟨b, off, none⟩) m cap) (a :: L)) {off' : Nat} (ho : off' = off + 1 ∨ (cap = 1 ∧ off' = off)) : OutT base w (.slice (some ⟨b, off', none⟩) (m - 1) (cap - 1)) L := by
  obtain ⟨vs, h1, h2, h3⟩ := h
  cases vs with
  | nil => simp at h2
  | cons u r =>
    refine ⟨r, h1.tail ho, by simpa using h2, fun i x hx => ?_⟩
    have := h3 (i + 1) x (by simpa using hx)
    simpa [lstAt] using this
theorem OutT.cap {base : Nat} {w : World} {ao : Option Addr} {m cap : Nat} {L : List (List Im)} (h : OutT base w (.slice ao m cap) L) : m = L.length ∧ m ≤ cap ∧ cap ≤ maxLen := by
  obtain ⟨vs, ⟨ao', cap', hv, h1, h2, h3⟩, h4, -⟩ := h
  injection hv with e1 e2 e3
  omega
end Go.Proofs.Ytbgefdigmdfalaa
