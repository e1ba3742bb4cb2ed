/- The contracts of bytes.Clone, pack.Seal, pack.Frame. No statement of the seat is proved here. -/
import Derived.Test.YtmkomhdlcbimoaaPCrc
namespace Go.Proofs.Ytmkomhdlcbimoaa
set_option maxRecDepth 20000
open Go.RowKit

theorem own_empty (w : World) : OwnB w.heap.size (w.alloc (.cells #[] 5)) (.slice (some ⟨w.heap.size, 0, none⟩) 0 0) [] :=
  ⟨rfl, .inr ⟨w.heap.size, 0, #[], rfl, Nat.le_refl _, heap_alloc_new w _, Nat.le_refl _, Nat.zero_le _, rfl, rfl⟩⟩
theorem below_new (w : World) (o : Obj) : Below w.heap.size w (w.alloc o) := (Below.refl _ _).alloc (Nat.le_refl _) _
set_option maxHeartbeats 800000 in
theorem clone_any {w : World} {v : Value} {bs : List UInt8} (h : ByC w v bs) (hlen : bs.length ≤ 140737488355328) : Calls Try.prog 70 #[v] w (OwnRet w.heap.size w bs) := by
  obtain ⟨v', w', hr, ho, hb, hs, -⟩ := own_append (own_empty w) (h.below (below_new w (.cells #[] 5))) (by simpa using hlen) (by simp) 36
  have hh := h
  obtain ⟨ao, m, cap, hv, hm⟩ : ∃ ao m cap, v = .slice ao m cap ∧ Hid (m = bs.length) := by
    obtain ⟨ao, cap, hv, _⟩ := h
    exact ⟨ao, _, cap, hv, Lib.hid rfl⟩
  subst hv
  rw [List.nil_append] at ho
  have HR := Lib.hid hr
  have HB := (below_new w (.cells #[] 5)).trans hb
  clear hr hb hs h
  cases ao with
  | none =>
    have he : bs = [] := by
      obtain ⟨ao', cap', hv', _, hc⟩ := hh
      rcases Nat.eq_zero_or_pos bs.length with h0 | h0
      · exact List.eq_nil_of_length_eq_zero h0
      · obtain ⟨_, _, h1, _⟩ := hc h0
        cases hv'; cases h1
    subst he
    clear ho HB HR
    have hq := Lib.run_eql_slice_nil (P := Try.prog) w 36 5 none m cap 0 0 Try.underlying36
    go_enter Try.func70, Try.ntmps70
    go_wp2
    go_ret
    exact ⟨_, rfl, OwnB.nil _ _, Below.refl _ _⟩
  | some ad =>
    clear hh
    have hq := Lib.run_eql_slice_nil (P := Try.prog) w 36 5 (some ad) m cap 0 0 Try.underlying36
    go_enter Try.func70, Try.ntmps70
    go_wp2_with (with_reducible refine wpList_append_eq rfl (.tmp 5) (.tmp 6) 36 36 rfl (.slice (some ⟨w.heap.size, 0, none⟩) 0 0) (.slice (some ad) m cap) v' rfl rfl HR.out ?_)
    go_ret
    exact ⟨_, rfl, ho, HB⟩

def sealed (bs : List UInt8) : List UInt8 := bs ++ low (crc bs) 4
set_option maxHeartbeats 800000 in
theorem seal_any {w : World} {v : Value} {bs : List UInt8} (h : ByC w v bs) (hlen : bs.length + 8 ≤ 140737488355328) : Calls Try.prog 45 #[v] w (OwnRet w.heap.size w (sealed bs)) := by
  obtain ⟨i, hi, hi0, hi1, hi2⟩ := info5'
  obtain ⟨w1, hmk, hown, hg1⟩ := run_make_own (P := Try.prog) w w.heap.size 36 5 i (.int .u8 0) 1 Try.underlying36 hi hi0 hi1 .i64 .i64 (bs.length + 4) (by rw [hi2]; omega) (by unfold maxLen; omega) (Nat.le_refl _)
  have b1 : Below w.heap.size w w1 := (Below.refl _ _).grown hg1 (Nat.le_refl _) (by simp)
  have hown' : OwnB w.heap.size w1 (.slice (some ⟨w.heap.size, 0, none⟩) 0 (bs.length + 4)) [] := hown
  obtain ⟨v2, w2, hr, ho, hb2, hs2, -⟩ := own_append hown' (h.below b1) (by simp; omega) b1.size 36
  rw [List.nil_append] at ho
  have hc := crc_any (h.below (b1.trans hb2))
  have hl := appendLow_any ho (crc bs) 4 (by decide) (Nat.le_trans b1.size hs2) (by omega)
  obtain ⟨ao, m, cap, hv, hm⟩ : ∃ ao m cap, v = .slice ao m cap ∧ Hid (m = bs.length) := by
    obtain ⟨ao, cap, hv, _⟩ := h
    exact ⟨ao, _, cap, hv, Lib.hid rfl⟩
  subst hv
  obtain ⟨ao2, m2, cap2, hv2, hm2⟩ := ho.form'
  subst hv2
  rw [← hm.out] at hmk hr
  have hmk' : (Instr.makeSlice 36 (.int .i64 0) (.int .i64 ((m : Int) + 4))).run Try.prog w = .ok (.slice (some ⟨w.heap.size, 0, none⟩) 0 (m + 4)) w1 := by
    rw [← hmk]; rfl
  have hmb : m ≤ 9223372036854775000 := by rw [hm.out]; omega
  have hw : IntKind.u64.wrap ((crc bs : Nat) : Int) = crc bs := wrap_nat _ (by have := crc_lt bs; omega)
  have HR := Lib.hid hr
  have BB := b1.trans hb2
  clear hr hmk hown hown' hg1 b1 hb2 hs2 h ho hi hi0 hi1 hi2
  go_enter Try.func45, Try.ntmps45
  go_wp2_with (first | (with_reducible refine wpList_append_eq rfl (.tmp 8) (.tmp 9) 36 36 rfl (.slice (some ⟨w.heap.size, 0, none⟩) 0 (m + 4)) (.slice ao m cap) (.slice ao2 m2 cap2) rfl rfl HR.out ?_) | fail)
  refine hc.mono ?_
  rintro e _ ⟨rfl, rfl⟩
  go_wp2_with fail
  refine hl.mono ?_
  rintro e w3 ⟨v3, rfl, h3, b3, -⟩
  obtain ⟨ao3, m3, cap3, hv3, hm3⟩ := h3.form'
  subst hv3
  go_wp2
  go_ret
  exact ⟨_, rfl, h3, BB.trans b3⟩
end Go.Proofs.Ytmkomhdlcbimoaa
