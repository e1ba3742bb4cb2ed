/- Every number has nine bytes, and is decoded from them alone: the law cisternlaw03.PackNumbers returns true at every input. No condition. -/
import Derived.Test.YtifbfnfcjkpjfaaPInv
import Derived.Laws.StructEq
namespace Go.Proofs.Ytifbfnfcjkpjfaa.packNumbers
open Go.RowKit Go.ChangeShapes Go.WideShapes Go.ChangeAt

theorem own : ownKnob Try.prog.godebug = none := by kernel_rfl
theorem eq_item (n : Int) (w : World) : (Op.equalIn 10000 50 (.agg #[.int .i64 1, .int .i64 n, .string ByteArray.empty]) (.agg #[.int .i64 1, .int .i64 n, .string ByteArray.empty])).run Try.prog w = .ok true w := by
  have u3 := Try.underlying3
  have u9 := Try.underlying9
  have hS : Try.prog.underlying 50 = some (.struct (Try.prog.fieldsOf 50)) := by kernel_rfl
  rw [show (10000 : Nat) = 9999 + 1 from rfl, run_equalIn_agg w 9999 50 _ _ hS (by kernel_rfl)]
  simp only [Program.fieldsOf, Try.underlying50]
  go_simp
theorem num_enc (n : Int) : encE [⟨1, n, ByteArray.empty⟩] = 0 ∧ encR [⟨1, n, ByteArray.empty⟩] = itemB ⟨1, n, ByteArray.empty⟩ := by
  have h : encE [⟨1, n, ByteArray.empty⟩] = 0 := by simp [encE, bigB, longB, formB]
  exact ⟨h, by rw [encR_ok h]; simp⟩
theorem num_len (n : Int) : (itemB ⟨1, n, ByteArray.empty⟩).length = 9 := by rw [itemB_one rfl]; simp [low_length]
theorem num_dec (n : Int) (hn : -9223372036854775808 ≤ n ∧ n ≤ 9223372036854775807) : decO (itemB ⟨1, n, ByteArray.empty⟩) = some [⟨1, n, ByteArray.empty⟩] := by
  have := decode_encode (num_enc n).1 (fun x hx => by rw [List.mem_singleton.1 hx]; exact ⟨by simp, hn, by simp [maxLen]⟩)
  rwa [(num_enc n).2] at this
theorem num_more (n : Int) (hn : -9223372036854775808 ≤ n ∧ n ≤ 9223372036854775807) (c : UInt8) : decO (itemB ⟨1, n, ByteArray.empty⟩ ++ [c]) = none := by
  have hl := num_len n
  unfold decO
  have hlen : (itemB ⟨1, n, ByteArray.empty⟩ ++ [c]).length = 8 + 1 + 1 := by rw [List.length_append, hl]; rfl
  have hf := first_item ⟨1, n, ByteArray.empty⟩ [c] (by simp [formB]) (by simp [longB]) ⟨by simp, hn, by simp [maxLen]⟩
  have e1 : dec (8 + 1 + 1) [] (itemB ⟨1, n, ByteArray.empty⟩ ++ [c]) = dec (8 + 1) ([] ++ [⟨1, n, ByteArray.empty⟩]) [c] := by
    rw [dec, if_neg (by rw [hlen]; decide), hf]
    simp only
    rw [if_neg (by rw [hl]; simp), List.drop_left]
  rw [hlen, e1, dec, if_neg (by simp)]
  rw [if_pos]
  left
  unfold firstI
  rw [if_neg (by simp), if_neg (by simp)]
set_option maxRecDepth 20000 in
set_option maxHeartbeats 1600000 in
theorem walk (n : Int) (wn : (Lit.int .i64 n).wf = true) (c : Int) (wc : (Lit.int .u8 c).wf = true) (W : World) :
    Calls Try.prog 10 #[.int .i64 n, .int .u8 c] W fun e w' => e = .returned (.bool true) ∧ Below W.heap.size W w' := by
  have hn := bounds_i64 wn
  obtain ⟨C, hC⟩ : ∃ C : UInt8, c = (C.toNat : Int) := by
    have h : 0 ≤ c ∧ c ≤ 255 := by
      simp [Lit.wf] at wc
      have h2 : IntKind.u8.min = 0 := by decide
      have h3 : IntKind.u8.max = 255 := by decide
      omega
    exact ⟨UInt8.ofNat c.toNat, by rw [UInt8.toNat_ofNat']; omega⟩
  clear wn wc
  subst hC
  have hb1 := build_it1 n
  have heq := eq_item n
  have hxok : It.ok ⟨1, n, ByteArray.empty⟩ := ⟨by simp, hn, by simp [maxLen]⟩
  go_enter Try.func10, Try.ntmps10
  go_wp2_with fail
  refine (known_any _).mono ?_
  rintro e w1 ⟨rfl, b1⟩
  have hs := build_slice_one w1 ⟨1, n, ByteArray.empty⟩
  have he := encode_any (items_one w1 ⟨1, n, ByteArray.empty⟩ hxok)
  rw [(num_enc n).1, (num_enc n).2] at he
  go_wp2_with fail
  refine he.mono ?_
  rintro e w2 ⟨v2, rfl, h2, b2⟩
  have bb2 : Below W.heap.size W w2 := (b1.alloc b1.size _).trans (b2.mono (by have := b1.size; simp; omega))
  have hd := decode_any h2.at h2.cap
  have hdo := num_dec n hn
  rw [show decE (itemB ⟨1, n, ByteArray.empty⟩) = 0 by unfold decE; rw [hdo]; rfl, show decR (itemB ⟨1, n, ByteArray.empty⟩) = [⟨1, n, ByteArray.empty⟩] by unfold decR; rw [hdo]; rfl] at hd
  obtain ⟨ao2, m2, cap2, hv2, hm2⟩ := h2.form'
  obtain rfl : m2 = 9 := by rw [hm2.out, num_len]
  subst hv2
  clear he hs b1 b2 hdo
  go_wp2_with fail
  refine hd.mono ?_
  rintro e w3 ⟨v3, rfl, h3, b3⟩
  have bb3 := bb2.trans (b3.mono bb2.size)
  clear hd
  obtain ⟨v4, w4, hr4, h4, b4, s4, -⟩ := own_append (own_empty w3) ((h2.at.below b3).below (below_new w3 (.cells #[] 5))) (by rw [num_len]; decide) (by simp) 23
  obtain ⟨v5, w5, hr5, h5, b5, s5, -⟩ := own_append (h4.alloc (.cells #[.int .u8 (C.toNat : Int)] 5)) (bytes_one w4 C) (by rw [List.nil_append, num_len]; simp) (by simp at s4 ⊢; omega) 23
  rw [List.nil_append] at h5
  have bw4 : Below w3.heap.size w3 w4 := (below_new w3 (.cells #[] 5)).trans b4
  have bw5 : Below w3.heap.size w3 w5 := (bw4.alloc bw4.size (.cells #[.int .u8 (C.toNat : Int)] 5)).trans b5
  have hd := decode_any h5.at h5.cap
  have hdo := num_more n hn C
  rw [show decE (itemB ⟨1, n, ByteArray.empty⟩ ++ [C]) = 2 by unfold decE; rw [hdo]; rfl, show decR (itemB ⟨1, n, ByteArray.empty⟩ ++ [C]) = [] by unfold decR; rw [hdo]; rfl] at hd
  have hit := h3.items (fun x hx => by rw [List.mem_singleton.1 hx]; exact hxok)
  obtain ⟨ao3, cap3, hv3, hi1, hi2, hi3, hi4⟩ := hit
  obtain ⟨g3, off3, rfl, hB3, hc3⟩ := hi4 (by simp)
  obtain ⟨d1, d2, d3⟩ := hc3 0 (by simp)
  subst hv3
  obtain ⟨ao4, m4, cap4, hv4, hm4⟩ := h4.form'
  subst hv4
  obtain ⟨ao5, m5, cap5, hv5, hm5⟩ := h5.form'
  subst hv5
  have HR4 := Lib.hid hr4
  have HR5 := Lib.hid hr5
  clear hr4 hr5 h4 h5 hdo hi4 hc3 h2 h3 hi1 hi2 hi3 b4 b5 s4 s5
  go_wp2_with (first
    | (with_reducible refine wpList_append_eq rfl (.tmp 26) (.tmp 27) 23 23 rfl (.slice (some ⟨w3.heap.size, 0, none⟩) 0 0) (.slice ao2 9 cap2) (.slice ao4 m4 cap4) rfl rfl HR4.out ?_)
    | (with_reducible refine wpList_append_eq rfl (.tmp 28) (.tmp 30) 23 23 rfl (.slice ao4 m4 cap4) (.slice (some ⟨w4.heap.size, 0, none⟩) 1 1) (.slice ao5 m5 cap5) rfl rfl HR5.out ?_))
  refine hd.mono ?_
  rintro e w6 ⟨v6, rfl, h6, b6⟩
  have bw6 : Below w3.heap.size w3 w6 := bw5.trans (b6.mono bw5.size)
  have e1 : w6.cell? ⟨g3, off3, none⟩ = some (.int .i64 1) := (bw6.cell hB3).trans d1
  have e2 : w6.cell? ⟨g3, off3 + 1, none⟩ = some (.int .i64 n) := (bw6.cell hB3).trans d2
  have e3 : w6.cell? ⟨g3, off3 + 2, none⟩ = some (.string ByteArray.empty) := (bw6.cell hB3).trans d3
  have bb6 := bb3.trans (bw6.mono bb3.size)
  obtain ⟨ao6, m6, cap6, hv6, hm6⟩ := h6.form'
  subst hv6
  clear hd d1 d2 d3 b6 h6 bw4 bw5 bw6
  go_wp2
  go_ret
  exact ⟨rfl, bb6⟩

/-! ### the row -/
theorem laidOut : laidOutB Try.prog = true := by kernel_rfl
theorem bytesInt : Try.prog.bytesOf 3 = 8 := by kernel_rfl
set_option maxRecDepth 100000 in
theorem lifted (os : Os) (started : os.Started) (H : Type) (enc : TypeId × Value → H) :
    ReturnsInHanded {} Try.checked os 10 .any (Rows.packNumbersSpec.pre6 enc Try.prog Try.f10 Rows.packNumbersRow.domain false) (Rows.packNumbersSpec.post enc Try.prog Try.f10 false true false false) := by
  refine returnsInHanded_of_change_sized (C := Try.checked) own started (by kernel_rfl) Try.func10
    (ChangeSpec.witness6 (enc := enc) (C := Try.checked) false ⟨#[], #[.int .i64 0, .int .u8 0], []⟩ 8 (by kernel_rfl) (by kernel_rfl) (by kernel_rfl) (by kernel_rfl)) ?_
  intro W base args ds gs before hval0 hW hcnd hsz0 _
  have hval : ∀ (j : Nat) t v, Try.f10.params[j]? = some t → args[j]? = some v → Value.okWide Try.prog W .any base t v := hval0
  have hW' := hW
  obtain ⟨p, q, hA0, hV, rfl, hfz, hnd⟩ := hW
  have hA : DataW.TrodAll enc Try.prog W 0 (fun _ => true) true Try.f10.params.toList args.toList ds p := hA0
  have hsz : (DataW.weightsEach Try.prog (Try.f10.params.toList ++ Rows.packNumbersSpec.plain.varTypes Try.prog) (ds ++ gs)).all (· ≤ reachBytes) = true := hsz0
  rw [Try.params10] at hA hval hsz
  obtain ⟨v0, vs0, d0, ds0, p0, q0, hargs, rfl, rfl, h0, r0⟩ := trodAll_cons hA
  obtain ⟨v1, vs1, d1, ds1, p1, q1, rfl, rfl, rfl, h1, r1⟩ := trodAll_cons r0
  obtain ⟨rfl, rfl, rfl⟩ := trodAll_nil r1
  obtain rfl : args = #[v0, v1] := by cases args; simp_all
  obtain ⟨rfl, rfl⟩ := trodVars_none hV
  obtain ⟨a0, rfl, rfl, rfl, w0⟩ := open_int Try.underlying3 (hval 0 3 v0 rfl rfl) h0
  obtain ⟨a1, rfl, rfl, rfl, w1⟩ := open_int Try.underlying5 (hval 1 5 v1 rfl rfl) h1
  clear hA0 hval0 hsz0
  refine (walk a0 w0 a1 w1 W ).mono fun e W' ⟨he, bel⟩ => ?_
  subst he
  exact ⟨_, rfl, _, _, _, [], _, [], hW', trodAll_mk1 (shut_bool Try.underlying4 _), (trodAll_cons_mk (shut_int Try.underlying3 w0) (trodAll_cons_mk (shut_int Try.underlying5 w1) trodAll_mk0)), rfl, bel.frame _, fun h => by cases h⟩

theorem over : Rows.packNumbersRow.holds Try.pinned (OpenSpec.ofChange Rows.packNumbersSpec) :=
  OpenClaim.holds_of_wide 10 Try.f10 rfl rfl rfl rfl rfl rfl rfl ⟨rfl, rfl, rfl, rfl, rfl⟩ rfl rfl rfl rfl rfl (by kernel_rfl) Try.func10 (by kernel_rfl)
    (of_decide_eq_true (by kernel_rfl)) (by unfold Func.isWrapper; first | (rw [if_pos (by decide +kernel)]; kernel_rfl) | (rw [if_neg (by decide +kernel)]; exact ⟨rfl, rfl⟩))
    (fun os started H enc _ => lifted os started H enc)
end Go.Proofs.Ytifbfnfcjkpjfaa.packNumbers

namespace Go.Proofs.Ytifbfnfcjkpjfaa
/-- The law returns true at every input. -/
theorem packNumbers_holds : Rows.PackNumbersSaid := packNumbers.over
end Go.Proofs.Ytifbfnfcjkpjfaa

