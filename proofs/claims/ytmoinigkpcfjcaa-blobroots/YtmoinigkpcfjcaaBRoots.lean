/- Of two that swap the same version one alone succeeds, whichever answers are lost; the version counts the swaps that were carried out: the law cisternlaw02.BlobRoots returns true at every input. No condition. -/
import Derived.Test.YtmoinigkpcfjcaaBKnown
import Derived.Test.YtmoinigkpcfjcaaArgs
namespace Go.Proofs.Ytmoinigkpcfjcaa.blobRoots
open Go.RowKit Go.ChangeShapes Go.WideShapes Go.ChangeAt

theorem own : ownKnob Try.prog.godebug = none := by kernel_rfl
theorem ints_lit3 (w : World) (z : Int) (hz : -9223372036854775808 ≤ z ∧ z ≤ 9223372036854775807) : IntsNow (w.alloc (.cells #[.int .i64 z, .int .i64 0, .int .i64 0] 3)) (.slice (some ⟨w.heap.size, 0, none⟩) 3 3) [z, 0, 0] := by
  refine ⟨_, 3, rfl, fun y hy => ?_, fun _ => ⟨w.heap.size, 0, rfl, fun i hi => ?_⟩⟩
  · simp only [List.mem_cons, List.not_mem_nil, or_false] at hy
    rcases hy with rfl | rfl | rfl
    · exact hz
    · decide
    · decide
  · have : i = 0 ∨ i = 1 ∨ i = 2 := by simp at hi; omega
    rcases this with rfl | rfl | rfl
    · exact cell_row (heap_alloc_new w _) 0 rfl
    · exact cell_row (heap_alloc_new w _) 1 rfl
    · exact cell_row (heap_alloc_new w _) 2 rfl
section
variable {bl : List UInt8 → Option (List UInt8)} {k c : Nat} {ro : ByteArray} {z : Int}
theorem nL : nameB [108, 101, 102, 116] = true := by decide
theorem nR : nameB [114, 105, 103, 104, 116] = true := by decide
theorem sw0 (hq : rest3 z = 0) : (⟨bl, k, ro, [z, 0, 0], c⟩ : Sto).swapE k (ByteArray.mk #[108, 101, 102, 116]) = 0 ∧ (⟨bl, k, ro, [z, 0, 0], c⟩ : Sto).swap k (ByteArray.mk #[108, 101, 102, 116]) = ⟨bl, k + 1, (ByteArray.mk #[108, 101, 102, 116]), [0, 0], c + 1⟩ := by
  simp only [Sto.swapE, Sto.swap, nL, if_true, errOf, Sto.out, hq, swapErr, Sto.after, Sto.took, Sto.swapped, List.tail_cons]
  refine ⟨?_, ?_⟩ <;> first | exact trivial | rfl
theorem sw1 (hq : rest3 z = 1) : (⟨bl, k, ro, [z, 0, 0], c⟩ : Sto).swapE k (ByteArray.mk #[108, 101, 102, 116]) = 15 ∧ (⟨bl, k, ro, [z, 0, 0], c⟩ : Sto).swap k (ByteArray.mk #[108, 101, 102, 116]) = ⟨bl, k, ro, [0, 0], c + 1⟩ := by
  simp only [Sto.swapE, Sto.swap, nL, if_true, errOf, Sto.out, hq, swapErr, Sto.after, Sto.took, Sto.swapped, List.tail_cons]
  refine ⟨?_, ?_⟩ <;> first | exact trivial | rfl
theorem sw2 (hq : rest3 z = 2) : (⟨bl, k, ro, [z, 0, 0], c⟩ : Sto).swapE k (ByteArray.mk #[108, 101, 102, 116]) = 15 ∧ (⟨bl, k, ro, [z, 0, 0], c⟩ : Sto).swap k (ByteArray.mk #[108, 101, 102, 116]) = ⟨bl, k + 1, (ByteArray.mk #[108, 101, 102, 116]), [0, 0], c + 1⟩ := by
  simp only [Sto.swapE, Sto.swap, nL, if_true, errOf, Sto.out, hq, swapErr, Sto.after, Sto.took, Sto.swapped, List.tail_cons]
  refine ⟨?_, ?_⟩ <;> first | exact trivial | rfl
theorem r0 : rest3 0 = 0 := by decide
theorem swn : (⟨bl, k + 1, ro, [0], c⟩ : Sto).swapE k (ByteArray.mk #[114, 105, 103, 104, 116]) = 17 ∧ (⟨bl, k + 1, ro, [0], c⟩ : Sto).swap k (ByteArray.mk #[114, 105, 103, 104, 116]) = ⟨bl, k + 1, ro, [], c + 1⟩ := by
  have h : ¬ ((k : Int) = ((k + 1 : Nat) : Int)) := by omega
  simp only [Sto.swapE, Sto.swap, nR, if_true, errOf, Sto.out, r0, swapErr, Sto.after, Sto.took, Sto.swapped, List.tail_cons, if_neg h]
  refine ⟨?_, ?_⟩ <;> first | exact trivial | rfl | exact if_neg h
theorem swy : (⟨bl, k, ro, [0], c⟩ : Sto).swapE k (ByteArray.mk #[114, 105, 103, 104, 116]) = 0 ∧ (⟨bl, k, ro, [0], c⟩ : Sto).swap k (ByteArray.mk #[114, 105, 103, 104, 116]) = ⟨bl, k + 1, (ByteArray.mk #[114, 105, 103, 104, 116]), [], c + 1⟩ := by
  simp only [Sto.swapE, Sto.swap, nR, if_true, errOf, Sto.out, r0, swapErr, Sto.after, Sto.took, Sto.swapped, List.tail_cons]
  refine ⟨?_, ?_⟩ <;> first | exact trivial | rfl
end
theorem root_ok {X : Nat → Prop} {w : World} {sb : Nat} {bl : List UInt8 → Option (List UInt8)} {v c N : Nat} {ro : ByteArray} {os : List Int} (h : StoAt X w sb ⟨bl, v, ro, os, c⟩ N) (hc : c < 4611686018427387904) (ho : os = [] ∨ os.head? = some 0) :
    Calls Try.prog 20 #[.pointer (some ⟨sb, 0, none⟩)] w fun e w' => e = .returned (.tuple #[.int .i64 v, .string ro, .int .i64 0]) ∧ StoAt X w' sb ⟨bl, v, ro, os.tail, c + 1⟩ N ∧ Kp X w w' := by
  refine (root_any h hc).mono ?_
  rintro e w' ⟨rfl, h1, k1⟩
  have : (⟨bl, v, ro, os, c⟩ : Sto).out = 0 := by
    rcases ho with rfl | ho
    · rfl
    · cases os with
      | nil => rfl
      | cons y ys => simp at ho; subst ho; exact r0
  rw [if_pos this]
  exact ⟨rfl, h1, k1⟩

set_option maxRecDepth 20000 in
set_option maxHeartbeats 1600000 in
theorem walk (v0 : Value) (z0 : List Int) (W : World) (w0 : IntsArg W v0 z0) :
    Calls Try.prog 5 #[v0] W fun e w' => e = .returned (.bool true) ∧ Below W.heap.size W w' := by
  obtain ⟨ao, cap, rfl, hlen, -⟩ := w0.1.form
  go_enter Try.func5, Try.ntmps5
  go_wp2_with fail
  refine (known_any W).mono ?_
  rintro e wa ⟨rfl, ba⟩
  go_wp2_with fail
  refine (new_any wa).mono ?_
  rintro e wb ⟨rfl, hb, bb⟩
  have bc : Below W.heap.size W wb := ba.trans (bb.mono ba.size)
  replace hb := hb.less (X' := fun k => k < W.heap.size) (fun k hk => Nat.lt_of_lt_of_le hk ba.size)
  go_wp2
  go_loopw [4, 5] (fun dv iv wr => ∃ k : Nat, k ≤ z0.length ∧ k ≤ 60 ∧ iv = .int .i64 k ∧ dv = .int .i64 k ∧ ∃ bl ro c, c ≤ 4 * k ∧ StoAt (fun k => k < W.heap.size) wr wa.heap.size ⟨bl, k, ro, [], c⟩ 0 ∧ Below W.heap.size W wr) (fun _ iv _ => 60 - (intOf iv).toNat)
  case atStart => exact ⟨0, Nat.zero_le _, Nat.zero_le _, rfl, rfl, _, _, _, Nat.le_refl _, hb, bc⟩
  case round =>
    clear hb bc ba bb
    obtain ⟨k, hk1, hk2, rfl, rfl, bl, ro, c, hcc, hs, bk⟩ := hrel
    by_cases hlt : k < z0.length
    · by_cases h60 : k < 60
      · obtain ⟨b, off, rfl, hcell⟩ := w0.1.at bk hlt
        have hrg : -9223372036854775808 ≤ z0.getD k 0 ∧ z0.getD k 0 ≤ 9223372036854775807 := by
          rw [List.getD_eq_getElem?_getD, List.getElem?_eq_getElem hlt]; exact w0.2.1 _ (List.getElem_mem hlt)
        obtain ⟨z, hz⟩ : ∃ f, z0.getD k 0 = f := ⟨_, rfl⟩
        rw [hz] at hcell hrg
        clear hz
        go_wp2_with fail
        have hq := script_any (hs.below (below_alloc wr (.cells #[.int .i64 z, .int .i64 0, .int .i64 0] 3))) (ints_lit3 wr z hrg) (by show (0 + 3) * 8 ≤ 140737488355328; decide)
        refine hq.mono ?_
        rintro e w1 ⟨rfl, hs1, kp1⟩
        have b1 : Below W.heap.size W w1 := below_step bk (below_alloc wr _) kp1 bk.size (fun k hk => hk)
        replace hs1 : StoAt (fun k => k < W.heap.size) w1 wa.heap.size ⟨bl, k, ro, [z, 0, 0], c⟩ 0 := hs1
        clear hq hs kp1 hcell
        rcases out_range ⟨bl, k, ro, [z], c⟩ with hq | hq | hq
        all_goals
          replace hq : rest3 z = _ := hq
        · obtain ⟨q1, q2⟩ := sw0 (bl := bl) (k := k) (c := c) (ro := ro) hq
          have hw := swap_any hs1 (by show c < _; omega) (by show k < _; omega) k (ByteArray.mk #[108, 101, 102, 116]) (by decide)
          rw [q1, q2] at hw
          clear q1 q2 hq
          go_wp2_with fail
          refine hw.mono ?_
          rintro e w2 ⟨rfl, hs2, kp2⟩
          have b2 := below_step b1 (Below.refl _ _) kp2 b1.size (fun k hk => hk)
          clear hw hs1 kp2 b1
          go_wp2_with fail
          refine (root_ok hs2 (by omega) (Or.inr rfl)).mono ?_
          rintro e w3 ⟨rfl, hs3, kp3⟩
          have b3 := below_step b2 (Below.refl _ _) kp3 b2.size (fun k hk => hk)
          clear hs2 kp3 b2
          obtain ⟨q3, q4⟩ := swn (bl := bl) (k := k) (c := c + 1 + 1) (ro := (ByteArray.mk #[108, 101, 102, 116]))
          have hw := swap_any hs3 (by show c + 1 + 1 < _; omega) (by show k + 1 < _; omega) k (ByteArray.mk #[114, 105, 103, 104, 116]) (by decide)
          simp only [List.tail_cons] at hw
          rw [q3, q4] at hw
          clear q3 q4
          go_wp2_with fail
          refine hw.mono ?_
          rintro e w4 ⟨rfl, hs4, kp4⟩
          have b4 := below_step b3 (Below.refl _ _) kp4 b3.size (fun k hk => hk)
          clear hw hs3 kp4 b3
          go_wp2_with fail
          refine (root_ok hs4 (by omega) (Or.inl rfl)).mono ?_
          rintro e w5 ⟨rfl, hs5, kp5⟩
          have b5 := below_step b4 (Below.refl _ _) kp5 b4.size (fun k hk => hk)
          clear hs4 kp5 b4
          go_wp2
          go_roundw
          case rel => exact ⟨k + 1, by omega, by omega, by go_num, by go_num, _, _, _, by omega, hs5, b5⟩
          case measure => simp [intOf]; omega
        · obtain ⟨q1, q2⟩ := sw1 (bl := bl) (k := k) (c := c) (ro := ro) hq
          have hw := swap_any hs1 (by show c < _; omega) (by show k < _; omega) k (ByteArray.mk #[108, 101, 102, 116]) (by decide)
          rw [q1, q2] at hw
          clear q1 q2 hq
          go_wp2_with fail
          refine hw.mono ?_
          rintro e w2 ⟨rfl, hs2, kp2⟩
          have b2 := below_step b1 (Below.refl _ _) kp2 b1.size (fun k hk => hk)
          clear hw hs1 kp2 b1
          go_wp2_with fail
          refine (root_ok hs2 (by omega) (Or.inr rfl)).mono ?_
          rintro e w3 ⟨rfl, hs3, kp3⟩
          have b3 := below_step b2 (Below.refl _ _) kp3 b2.size (fun k hk => hk)
          clear hs2 kp3 b2
          obtain ⟨q3, q4⟩ := swy (bl := bl) (k := k) (c := c + 1 + 1) (ro := ro)
          have hw := swap_any hs3 (by show c + 1 + 1 < _; omega) (by show k < _; omega) k (ByteArray.mk #[114, 105, 103, 104, 116]) (by decide)
          simp only [List.tail_cons] at hw
          rw [q3, q4] at hw
          clear q3 q4
          go_wp2_with fail
          refine hw.mono ?_
          rintro e w4 ⟨rfl, hs4, kp4⟩
          have b4 := below_step b3 (Below.refl _ _) kp4 b3.size (fun k hk => hk)
          clear hw hs3 kp4 b3
          go_wp2_with fail
          refine (root_ok hs4 (by omega) (Or.inl rfl)).mono ?_
          rintro e w5 ⟨rfl, hs5, kp5⟩
          have b5 := below_step b4 (Below.refl _ _) kp5 b4.size (fun k hk => hk)
          clear hs4 kp5 b4
          go_wp2
          go_roundw
          case rel => exact ⟨k + 1, by omega, by omega, by go_num, by go_num, _, _, _, by omega, hs5, b5⟩
          case measure => simp [intOf]; omega
        · obtain ⟨q1, q2⟩ := sw2 (bl := bl) (k := k) (c := c) (ro := ro) hq
          have hw := swap_any hs1 (by show c < _; omega) (by show k < _; omega) k (ByteArray.mk #[108, 101, 102, 116]) (by decide)
          rw [q1, q2] at hw
          clear q1 q2 hq
          go_wp2_with fail
          refine hw.mono ?_
          rintro e w2 ⟨rfl, hs2, kp2⟩
          have b2 := below_step b1 (Below.refl _ _) kp2 b1.size (fun k hk => hk)
          clear hw hs1 kp2 b1
          go_wp2_with fail
          refine (root_ok hs2 (by omega) (Or.inr rfl)).mono ?_
          rintro e w3 ⟨rfl, hs3, kp3⟩
          have b3 := below_step b2 (Below.refl _ _) kp3 b2.size (fun k hk => hk)
          clear hs2 kp3 b2
          obtain ⟨q3, q4⟩ := swn (bl := bl) (k := k) (c := c + 1 + 1) (ro := (ByteArray.mk #[108, 101, 102, 116]))
          have hw := swap_any hs3 (by show c + 1 + 1 < _; omega) (by show k + 1 < _; omega) k (ByteArray.mk #[114, 105, 103, 104, 116]) (by decide)
          simp only [List.tail_cons] at hw
          rw [q3, q4] at hw
          clear q3 q4
          go_wp2_with fail
          refine hw.mono ?_
          rintro e w4 ⟨rfl, hs4, kp4⟩
          have b4 := below_step b3 (Below.refl _ _) kp4 b3.size (fun k hk => hk)
          clear hw hs3 kp4 b3
          go_wp2_with fail
          refine (root_ok hs4 (by omega) (Or.inl rfl)).mono ?_
          rintro e w5 ⟨rfl, hs5, kp5⟩
          have b5 := below_step b4 (Below.refl _ _) kp5 b4.size (fun k hk => hk)
          clear hs4 kp5 b4
          go_wp2
          go_roundw
          case rel => exact ⟨k + 1, by omega, by omega, by go_num, by go_num, _, _, _, by omega, hs5, b5⟩
          case measure => simp [intOf]; omega
      · obtain rfl : k = 60 := by omega
        go_wp2
        go_ret
        exact ⟨rfl, bk⟩
    · obtain rfl : k = z0.length := by omega
      go_wp2
      go_ret
      exact ⟨rfl, bk⟩

/-! ### the row -/
theorem laidOut : laidOutB Try.prog = true := by kernel_rfl
theorem bytesInt : Try.prog.bytesOf 3 = 8 := by kernel_rfl
set_option maxRecDepth 100000 in
theorem lifted (os : Os) (started : os.Started) (H : Type) (enc : TypeId × Value → H) :
    ReturnsInHanded {} Try.checked os 5 .any (Rows.blobRootsSpec.pre6 enc Try.prog Try.f5 Rows.blobRootsRow.domain false) (Rows.blobRootsSpec.post enc Try.prog Try.f5 false true false false) := by
  refine returnsInHanded_of_change_sized (C := Try.checked) own started (by kernel_rfl) Try.func5
    (ChangeSpec.witness6 (enc := enc) (C := Try.checked) false ⟨#[], #[.slice none 0 0], []⟩ 8 (by kernel_rfl) (by kernel_rfl) (by kernel_rfl) (by kernel_rfl)) ?_
  intro W base args ds gs before hval0 hW hcnd hsz0 _
  have hval : ∀ (j : Nat) t v, Try.f5.params[j]? = some t → args[j]? = some v → Value.okWide Try.prog W .any base t v := hval0
  have hW' := hW
  obtain ⟨p, q, hA0, hV, rfl, hfz, hnd⟩ := hW
  have hA : DataW.TrodAll enc Try.prog W 0 (fun _ => true) true Try.f5.params.toList args.toList ds p := hA0
  have hsz : (DataW.weightsEach Try.prog (Try.f5.params.toList ++ Rows.blobRootsSpec.plain.varTypes Try.prog) (ds ++ gs)).all (· ≤ reachBytes) = true := hsz0
  rw [Try.params5] at hA hval hsz
  obtain ⟨v0, vs0, d0, ds0, p0, q0, hargs, rfl, rfl, h0, r0⟩ := trodAll_cons hA
  obtain ⟨rfl, rfl, rfl⟩ := trodAll_nil r0
  obtain rfl : args = #[v0] := by cases args; simp_all
  obtain ⟨rfl, rfl⟩ := trodVars_none hV
  have k0 := h0
  have lt0 := args_lt k0
  obtain ⟨z0, w0⟩ := ints_arg Try.underlying28 Try.underlying3 (by kernel_rfl) (hval 0 28 v0 rfl rfl) (fun el sp e => by subst e; have := sized_slice hsz (j := 0) (t := 28) (e := 3) rfl rfl Try.underlying28; rwa [bytesInt] at this) h0
  clear hA0 hval0 hsz0
  refine (walk v0 z0 W w0).mono fun e W' ⟨he, bel⟩ => ?_
  subst he
  exact ⟨_, rfl, _, _, _, [], _, [], hW', trodAll_mk1 (shut_bool Try.underlying4 _), (trodAll_cons_mk (Below.trod laidOut (by kernel_rfl) (of_decide_eq_true (by kernel_rfl)) k0 bel lt0) trodAll_mk0), rfl, bel.frame _, fun h => by cases h⟩

theorem over : Rows.blobRootsRow.holds Try.pinned (OpenSpec.ofChange Rows.blobRootsSpec) :=
  OpenClaim.holds_of_wide 5 Try.f5 rfl rfl rfl rfl rfl rfl rfl ⟨rfl, rfl, rfl, rfl, rfl⟩ rfl rfl rfl rfl rfl (by kernel_rfl) Try.func5 (by kernel_rfl)
    (of_decide_eq_true (by kernel_rfl)) (by unfold Func.isWrapper; first | (rw [if_pos (by decide +kernel)]; kernel_rfl) | (rw [if_neg (by decide +kernel)]; exact ⟨rfl, rfl⟩))
    (fun os started H enc _ => lifted os started H enc)
end Go.Proofs.Ytmoinigkpcfjcaa.blobRoots

namespace Go.Proofs.Ytmoinigkpcfjcaa
/-- The law returns true at every input. -/
theorem blobRoots_holds : Rows.BlobRootsSaid := blobRoots.over
end Go.Proofs.Ytmoinigkpcfjcaa

