/- The contracts of Check, inForm, pairsSize, Size. No statement of the seat is proved here. -/
import Derived.Test.YtdkmfcmndncmcaaNFormed
namespace Go.Proofs.Ytdkmfcmndncmcaa
set_option maxRecDepth 20000
open Go.RowKit

abbrev ndO (lf : Bool) (pv kv iv : Value) : Obj := .cells #[.bool lf, pv, kv, iv] 32
theorem formed_in {w w1 : World} {v : Value} {n : Nd} (h : NdAt w.heap.size w v n) (hb : Below w.heap.size w w1) : Calls Try.prog 36 #[v] w1 fun e w' => e = .returned (.bool (okN n)) ∧ Below w1.heap.size w1 w' := formed_any ((h.below hb).more hb.size)
set_option maxHeartbeats 800000 in
theorem check_any {w : World} {v : Value} {n : Nd} (h : NdAt w.heap.size w v n) : Calls Try.prog 18 #[v] w fun e w' => e = .returned (.int .i64 (if okN n then 0 else 2)) ∧ Below w.heap.size w w' := by
  have fc := fun o => formed_in h (below_new w o)
  obtain ⟨pv, kv, iv, rfl, h1, h2, h3⟩ := h
  obtain ⟨pa, pm, pc, rfl, hpm⟩ := h1.form
  obtain ⟨ka, km, kc, rfl, hkm⟩ := h2.form
  obtain ⟨ia, im, ic, rfl, him⟩ := h3.form
  clear h1 h2 h3 hpm hkm him
  generalize n.leaf = lf at *
  have hbn := below_new w (ndO lf (.slice pa pm pc) (.slice ka km kc) (.slice ia im ic))
  cases hk : okN n
  · rw [hk] at fc
    clear hk
    go_enter Try.func18, Try.ntmps18
    go_wp2_with fail
    refine Calls.mono (fc _) ?_
    rintro e w1 ⟨rfl, b1⟩
    have hb2 := Below.then hbn b1 (Nat.le_refl _)
    clear fc hbn b1
    go_wp2
    go_ret
    exact ⟨rfl, hb2⟩
  · rw [hk] at fc
    clear hk
    go_enter Try.func18, Try.ntmps18
    go_wp2_with fail
    refine Calls.mono (fc _) ?_
    rintro e w1 ⟨rfl, b1⟩
    have hb2 := Below.then hbn b1 (Nat.le_refl _)
    clear fc hbn b1
    go_wp2
    go_ret
    exact ⟨rfl, hb2⟩
/-! ### sizes -/
def Pr.ok (x : Pr) : Prop := x.k.size ≤ 140737488355328 ∧ x.v.size ≤ 140737488355328
def Nd.ok (n : Nd) : Prop := (∀ p ∈ n.ps, p.ok) ∧ ∀ s ∈ n.ks, s.size ≤ 140737488355328
theorem okN_ok {n : Nd} (h : okN n = true) : n.ok := by
  cases hl : n.leaf with
  | true =>
    have h1 := ok_key h hl
    rw [okN_leaf hl] at h
    refine ⟨fun p hp => ?_, ?_⟩
    · have := h1 p hp; unfold Pr.ok; omega
    · rw [(okL_true h).1]; simp
  | false =>
    rw [okN_inner hl] at h
    obtain ⟨h1, -, -, -, h5, -⟩ := okI_true h
    refine ⟨?_, fun s hs => ?_⟩
    · rw [h1]; simp
    · have := (okK_size ((risB_mem h5).1 s hs)).2; omega
theorem wrap_idem (a b : Int) : IntKind.i64.wrap (IntKind.i64.wrap a + b) = IntKind.i64.wrap (a + b) := by
  rw [IntKind.wrap_i64, IntKind.wrap_i64, IntKind.wrap_i64]; omega
theorem wrap_in (a : Int) : -9223372036854775808 ≤ IntKind.i64.wrap a ∧ IntKind.i64.wrap a ≤ 9223372036854775807 := by
  rw [IntKind.wrap_i64]; omega
theorem wrap_small {a : Int} (h : -9223372036854775808 ≤ a) (h2 : a ≤ 9223372036854775807) : IntKind.i64.wrap a = a := by
  rw [IntKind.wrap_i64]; omega
theorem prAt_mem' {l : List Pr} {i : Nat} (hi : i < l.length) : prAt l i ∈ l := prAt_mem hi
theorem kAt_mem {l : List ByteArray} {i : Nat} (hi : i < l.length) : kAt l i ∈ l := by
  unfold kAt; rw [List.getD_eq_getElem?_getD, List.getElem?_eq_getElem hi]; exact List.getElem_mem hi
set_option maxHeartbeats 800000 in
theorem pairsSize_any {w : World} {v : Value} {l : List Pr} (h : SlAt elP w.heap.size w v l) (hok : ∀ p ∈ l, p.ok) : Calls Try.prog 40 #[v] w fun e w' => e = .returned (.int .i64 (IntKind.i64.wrap (sizPs l : Nat))) ∧ Below w.heap.size w w' := by
  obtain ⟨ao, m, cap, rfl, hm⟩ := h.form
  have H := Lib.hid h
  have HO := Lib.hid hok
  have hml := h.len okP
  rw [← hm.out] at hml
  clear h hok
  go_enter Try.func40, Try.ntmps40
  go_wp2
  go_loopw [3, 8] (fun sv iv wr => ∃ (k : Nat) (s : Int), k ≤ m ∧ iv = .int .i64 k ∧ sv = .int .i64 s ∧ Hid (s = IntKind.i64.wrap (sizPs (l.take k) : Nat)) ∧ Below w.heap.size w wr) (fun _ iv _ => m - (intOf iv).toNat)
  case atStart => exact ⟨0, 0, Nat.zero_le _, rfl, rfl, Lib.hid (by simp [sizPs]; rfl), Below.refl _ _⟩
  case round =>
    obtain ⟨k, s, hk, rfl, rfl, hs, hb⟩ := hrel
    by_cases hlt : k < m
    · have hlt' : k < l.length := by rw [← hm.out]; exact hlt
      obtain ⟨b, off, cap', hv, hB, hc1, hc2⟩ := H.out.getP hlt'
      obtain ⟨rfl, -, rfl⟩ : ao = some ⟨b, off, none⟩ ∧ m = l.length ∧ cap = cap' := by cases hv; exact ⟨rfl, rfl, rfl⟩
      have d1 := (hb.cell (p := ⟨b, off + k * 2, none⟩) hB).trans hc1
      have d2 := (hb.cell (p := ⟨b, off + k * 2 + 1, none⟩) hB).trans hc2
      clear hv hc1 hc2
      have hst := sizPs_take l hlt'
      have hxo := HO.out _ (prAt_mem hlt')
      generalize prAt l k = x at *
      obtain ⟨xk, xv⟩ := x
      obtain ⟨o1, o2⟩ := hxo
      simp only at o1 o2 hst d1 d2
      have hbn := hb.alloc hb.size (prO ⟨xk, xv⟩)
      obtain ⟨s', hs'⟩ : ∃ s', IntKind.i64.wrap (s + (1 + (xk.size : Int) + 1 + (xv.size : Int))) = s' := ⟨_, rfl⟩
      have HS : Hid (s' = IntKind.i64.wrap (sizPs (l.take (k + 1)) : Nat)) := Lib.hid (by
        rw [hst, ← hs', hs.out, wrap_idem]; congr 1; push_cast; omega)
      clear hs hst
      go_wp2
      go_roundw
      case rel => exact ⟨k + 1, s', by omega, by go_num, rfl, HS, hbn⟩
      case measure => simp [intOf]; omega
    · have HS : Hid (s = IntKind.i64.wrap (sizPs l : Nat)) := Lib.hid (by rw [hs.out, List.take_of_length_le (by have := hm.out; omega)])
      clear hs
      go_wp2
      go_ret
      exact ⟨by rw [← HS.out]; rfl, hb⟩
set_option maxHeartbeats 1600000 in
theorem size_any {w : World} {v : Value} {n : Nd} (h : NdAt w.heap.size w v n) (hok : n.ok) : Calls Try.prog 20 #[v] w fun e w' => e = .returned (.int .i64 (IntKind.i64.wrap (sizN n : Nat))) ∧ Below w.heap.size w w' := by
  obtain ⟨pv, kv, iv, rfl, h1, h2, h3⟩ := h
  obtain ⟨pa, pm, pc, rfl, hpm⟩ := h1.form
  obtain ⟨ka, km, kc, rfl, hkm⟩ := h2.form
  obtain ⟨ia, im, ic, rfl, him⟩ := h3.form
  have hbn := below_new w (ndO n.leaf (.slice pa pm pc) (.slice ka km kc) (.slice ia im ic))
  have i2 := h2.len okS
  have i3 := h3.len okZ
  have hsz : ∀ o : Obj, (w.alloc o).heap.size = w.heap.size + 1 := fun o => by simp
  have ps := pairsSize_any ((h1.below hbn).more hbn.size) hok.1
  have HO := Lib.hid hok.2
  have c2 := cell_new w #[.bool n.leaf, .slice pa pm pc, .slice ka km kc, .slice ia im ic] 32 2 _ rfl
  have hsN : sizN n = if n.leaf then 2 + sizPs n.ps else 2 + 2 * n.is.length + sizKs n.ks := rfl
  have H2 := Lib.hid h2
  clear h1 h2 h3 hok hpm
  generalize n.leaf = lf at *
  cases lf
  · simp only [Bool.false_eq_true, if_false] at hsN
    rw [← him.out] at hsN i3
    rw [← hkm.out] at i2
    have HN := Lib.hid hsN
    have e1 : IntKind.i64.wrap (2 * (im : Int)) = 2 * im := wrap_small (by omega) (by omega)
    have e2 : IntKind.i64.wrap (2 + 2 * (im : Int)) = 2 + 2 * im := wrap_small (by omega) (by omega)
    clear ps hsN him
    go_enter Try.func20, Try.ntmps20
    go_wp2
    go_loopw [3, 20] (fun sv iv wr => ∃ (k : Nat) (s : Int), k ≤ km ∧ iv = .int .i64 k ∧ sv = .int .i64 s ∧ Hid (s = IntKind.i64.wrap ((2 + 2 * im + sizKs (n.ks.take k) : Nat) : Int)) ∧ Below w.heap.size w wr) (fun _ iv _ => km - (intOf iv).toNat)
    case atStart => exact ⟨0, 2 + 2 * (im : Int), Nat.zero_le _, rfl, rfl, Lib.hid (by rw [wrap_small (by omega) (by simp [sizKs]; omega)]; simp [sizKs]), hbn⟩
    case round =>
      obtain ⟨k, s, hk, rfl, rfl, hs, hb⟩ := hrel
      by_cases hlt : k < km
      · have hlt' : k < n.ks.length := by rw [← hkm.out]; exact hlt
        obtain ⟨b, off, cap', hv, hB, hc1⟩ := H2.out.getS hlt'
        obtain ⟨rfl, -, rfl⟩ : ka = some ⟨b, off, none⟩ ∧ km = n.ks.length ∧ kc = cap' := by cases hv; exact ⟨rfl, rfl, rfl⟩
        have d1 := (hb.cell (p := ⟨b, off + k, none⟩) hB).trans hc1
        clear hv hc1
        have hst := sizKs_take n.ks hlt'
        have hxo := HO.out _ (kAt_mem hlt')
        generalize kAt n.ks k = x at *
        obtain ⟨s', hs'⟩ : ∃ s', IntKind.i64.wrap (s + (1 + (x.size : Int))) = s' := ⟨_, rfl⟩
        have HS : Hid (s' = IntKind.i64.wrap ((2 + 2 * im + sizKs (n.ks.take (k + 1)) : Nat) : Int)) := Lib.hid (by
          rw [hst, ← hs', hs.out, wrap_idem]; congr 1; push_cast; omega)
        clear hs hst c2 e1 e2
        go_wp2
        go_roundw
        case rel => exact ⟨k + 1, s', by omega, by go_num, rfl, HS, hb⟩
        case measure => simp [intOf]; omega
      · have HS : Hid (s = IntKind.i64.wrap (sizN n : Nat)) := Lib.hid (by rw [hs.out, HN.out, List.take_of_length_le (by have := hkm.out; omega)])
        clear hs
        go_wp2
        go_ret
        exact ⟨by rw [← HS.out]; rfl, hb⟩
  · simp only [if_true] at hsN
    obtain ⟨s, hs⟩ : ∃ s, IntKind.i64.wrap (sizPs n.ps : Nat) = s := ⟨_, rfl⟩
    have hsr := wrap_in (sizPs n.ps : Nat)
    rw [hs] at hsr ps
    obtain ⟨s', hs'⟩ : ∃ s', IntKind.i64.wrap (2 + s) = s' := ⟨_, rfl⟩
    have HS : Hid (s' = IntKind.i64.wrap (sizN n : Nat)) := Lib.hid (by
      rw [hsN, ← hs', ← hs, Int.add_comm, wrap_idem]; congr 1; push_cast; omega)
    clear hsN hs
    go_enter Try.func20, Try.ntmps20
    go_wp2_with fail
    refine Calls.mono ps ?_
    rintro e w1 ⟨rfl, b1⟩
    have hb2 := Below.then hbn b1 (Nat.le_refl _)
    clear ps hbn b1 c2
    go_wp2
    go_ret
    exact ⟨by rw [← HS.out]; rfl, hb2⟩
theorem size_ok {w : World} {v : Value} {n : Nd} (h : NdAt w.heap.size w v n) (hok : okN n = true) : Calls Try.prog 20 #[v] w fun e w' => e = .returned (.int .i64 (sizN n : Nat)) ∧ Below w.heap.size w w' := by
  have := size_any h (okN_ok hok)
  have hle := sizN_le hok
  rwa [wrap_small (by omega) (by omega)] at this
end Go.Proofs.Ytdkmfcmndncmcaa
