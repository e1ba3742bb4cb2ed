/- For all scripts of calls a device answers what the document says: the law cisternlaw01.FlashPlays returns true at every input. No condition. -/
import Derived.Test.YtfdabkcbefhdaaaFErases
namespace Go.Proofs.Ytfdabkcbefhdaaa
set_option maxRecDepth 20000
open Go.RowKit

/-- What holds behind every operation may be more from here on. -/
theorem wpAnyH_more {P : Program} {md : Region.Mode} {ops : Array Oper} {Q : Exit → Act → World → Prop} {S S' : World → Prop} (hS : ∀ w, S' w → S w) : ∀ (fuel : Nat) (L : Array Bool) (a : Act) (w : World), wpAnyH P md ops Q S' fuel L a w → wpAnyH P md ops Q S fuel L a w
  | 0, _, _, _, h => h
  | fuel + 1, _, _, _, h => ⟨h.1, fun i hi => wpOp_mono (fun a' w' h' => ⟨hS w' h'.1, wpAnyH_more hS fuel _ a' w' h'.2⟩) (h.2 i hi)⟩
theorem OpsArg.range {W w : World} {ob off n cap : Nat} {l : List OpF} (h : OpsArg W (.slice (some ⟨ob, off, none⟩) n cap) l) (hb : Below W.heap.size W w) {i : Nat} (hi : i < l.length) {y : OpF} (hy : opAt l i = y) :
    w.rangeAt ob (off + i * 5) [.int .i64 y.k, .int .i64 y.at', .int .i64 y.fill, .int .i64 y.n, y.pv] := by
  obtain ⟨b, o, e, -, c0, c1, c2, c3, c4⟩ := h.get hb hi
  obtain ⟨rfl, rfl⟩ : ob = b ∧ off = o := by injection e with e; injection e with e1 e2; exact ⟨e1, e2⟩
  subst hy
  intro j u hj
  match j, hj with
  | 0, hj => simp at hj; subst hj; exact c0
  | 1, hj => simp at hj; subst hj; exact c1
  | 2, hj => simp at hj; subst hj; exact c2
  | 3, hj => simp at hj; subst hj; exact c3
  | 4, hj => simp at hj; subst hj; exact c4
end Go.Proofs.Ytfdabkcbefhdaaa
namespace Go.Proofs.Ytfdabkcbefhdaaa.flashPlays
open Go.RowKit
open Go.ChangeShapes Go.WideShapes Go.ChangeAt
open Go.Proofs.Ytfdabkcbefhdaaa.flashNewest (own)

set_option maxHeartbeats 3200000 in
set_option maxRecDepth 20000 in
theorem walk_no (x : Int) (hx : x < 1 ∨ 4096 < x) (v0 : Value) (W : World) :
    Calls Try.prog 3 #[.int .i64 x, v0] W fun e w' => e = .returned (.bool true) ∧ Below W.heap.size W w' := by
  have hnew := new_no (n := x) (h := hx)
  have hrnew := rnew_no (n := x) (h := hx)
  have hlt : ¬ (64 < x ∧ x ≤ 4096) := by omega
  rcases (show ¬ 64 < x ∨ (64 < x ∧ ¬ x ≤ 4096) by omega) with hx1 | ⟨hx1, hx2⟩
  all_goals
    clear hlt hx
    go_enter Try.func3, Try.ntmps3
    go_wp2_with fail
    refine (known_any W).mono ?_
    rintro e wa ⟨rfl, ba⟩
    go_wp2_with fail
    refine (hnew wa).mono ?_
    rintro e _ ⟨rfl, rfl⟩
    go_wp2_with fail
    refine (hrnew wa).mono ?_
    rintro e _ ⟨rfl, rfl⟩
    go_wp2_with fail
    refine (read_nil wa 0).mono ?_
    rintro e _ ⟨rfl, rfl⟩
    go_wp2_with fail
    refine (crash_nil wa _).mono ?_
    rintro e _ ⟨rfl, rfl⟩
    go_wp2_with fail
    refine (bytes0_any wa 1 (by decide)).mono ?_
    rintro e wb ⟨vb, rfl, -, bb⟩
    go_wp2_with fail
    refine (write_nil wb 0 vb).mono ?_
    rintro e _ ⟨rfl, rfl⟩
    go_wp2_with fail
    refine (flush_nil wb).mono ?_
    rintro e _ ⟨rfl, rfl⟩
    go_wp2_with fail
    refine (size_nil wb).mono ?_
    rintro e _ ⟨rfl, rfl⟩
    go_wp2_with fail
    refine (pending_nil wb).mono ?_
    rintro e _ ⟨rfl, rfl⟩
    go_wp2
    go_ret
    exact ⟨rfl, ba.trans (bb.mono ba.size)⟩
set_option maxHeartbeats 6400000 in
set_option maxRecDepth 20000 in
theorem walk_ok (x : Int) (hx : 1 ≤ x ∧ x ≤ 4096) (v0 : Value) (z0 : List OpF) (W : World) (w0 : OpsArg W v0 z0) :
    Calls Try.prog 3 #[.int .i64 x, v0] W fun e w' => e = .returned (.bool true) ∧ Below W.heap.size W w' := by
  obtain ⟨ao, cap, rfl, hlen⟩ := w0.form
  obtain ⟨n, hn⟩ : ∃ n : Nat, (if 64 < x then 64 else x) = (n : Int) := ⟨(if 64 < x then 64 else x).toNat, by split <;> omega⟩
  have hn1 : 1 ≤ n := by split at hn <;> omega
  have hn2 : n ≤ 64 := by split at hn <;> omega
  rcases (show ¬ 64 < x ∨ (64 < x ∧ x ≤ 4096) by omega) with hx1 | ⟨hx1, hx2⟩
  all_goals
    first
      | rw [if_neg hx1] at hn
      | rw [if_pos hx1] at hn
    have HN := Lib.hid hn
    clear hn hx
    go_enter Try.func3, Try.ntmps3
    go_wp2_with fail
    refine (known_any W).mono ?_
    rintro e wa ⟨rfl, ba⟩
    go_wp2_with fail
    rw [HN.out]
    refine (new_any W.heap.size wa n hn1 (by omega) ba.size).mono ?_
    rintro e wb ⟨rfl, da, bb, -⟩
    obtain ⟨db, hdb⟩ : ∃ db, wa.heap.size = db := ⟨_, rfl⟩
    rw [hdb] at da
    rw [hdb]
    have bc : Below W.heap.size W wb := ba.trans (bb.mono ba.size)
    go_wp2_with fail
    refine (rnew_any W.heap.size wb n hn1 (by omega) bc.size).mono ?_
    rintro e wc ⟨rb, rfl, dr, fr⟩
    have h2 : Two W.heap.size wc db rb (Dev.fresh n) 0 := ⟨da.fr fr RK_FK, dr⟩
    have bd : Below W.heap.size W wc := bc.trans (fr.below bc.size)
    clear bb bc da fr dr ba hdb
    go_wp2
    go_loopw [11] (fun iv wr => ∃ (k N : Nat) (d : Dev), k ≤ 200 ∧ k ≤ z0.length ∧ iv = .int .i64 k ∧ Two W.heap.size wr db rb d N ∧ Below W.heap.size W wr ∧ d.size = n ∧ d.waits.length ≤ k ∧ N ≤ 200 * k) (fun iv _ => z0.length - (intOf iv).toNat)
    case atStart => exact ⟨0, 0, _, Nat.zero_le _, Nat.zero_le _, rfl, h2, bd, rfl, Nat.le_refl _, Nat.le_refl _⟩
    case round =>
      clear h2 bd
      obtain ⟨k, N, d, hk, hkl, rfl, ht, bk, hdn, hdw, hN⟩ := hrel
      by_cases hlt : k < z0.length ∧ k < 200
      · obtain ⟨hlt1, hlt2⟩ := hlt
        obtain ⟨ob, off, rfl, hok, -⟩ := w0.get bk hlt1
        have hst := step_any ht.drew (B := W.heap.size) bk.drew.size (Nat.le_refl _) bk.drew (by omega) (by omega) (by omega) hok
        obtain ⟨y, hy⟩ : ∃ y, opAt z0 k = y := ⟨_, rfl⟩
        rw [hy] at hst
        have RNG : Hid (∀ w', Below W.heap.size W w' → w'.rangeAt ob (off + k * 5) [.int .i64 y.k, .int .i64 y.at', .int .i64 y.fill, .int .i64 y.n, y.pv]) := Lib.hid fun w' hb => w0.range hb hlt1 hy
        clear hok hy
        go_wp2_with fail
        have hS : Below W.heap.size W wr.drew := bk.drew
        refine wp_region_held_drew (S := fun w' => Below W.heap.size W w') mixed hS (fun _ => ?_)
        show wpAnyH _ _ _ _ _ 18 (Array.replicate 18 false) _ _
        refine wpAnyH_take_d 0 (some 83) (.pointer (some ⟨db, 0, none⟩)) rfl (by kernel_rfl) (by kernel_rfl) (by kernel_rfl) (by kernel_rfl) rfl (fun _ _ _ h => h) (fun _ _ => by kernel_rfl) (by exact hS) ?_
        simp only [Act.put, List.setIfInBounds_toArray, List.set_cons_succ, List.set_cons_zero]
        refine wpAnyH_take_d 1 (some 84) (.pointer (some ⟨rb, 0, none⟩)) rfl (by kernel_rfl) (by kernel_rfl) (by kernel_rfl) (by kernel_rfl) rfl (fun _ _ _ h => h) (fun _ _ => by kernel_rfl) (by exact hS) ?_
        simp only [Act.put, List.setIfInBounds_toArray, List.set_cons_succ, List.set_cons_zero]
        refine wpAnyH_take_d 2 (some 85) (.slice (some ⟨ob, off, none⟩) z0.length cap) rfl (by kernel_rfl) (by kernel_rfl) (by kernel_rfl) (by kernel_rfl) rfl (fun _ _ _ h => h) (fun _ _ => by kernel_rfl) (by exact hS) ?_
        simp only [Act.put, List.setIfInBounds_toArray, List.set_cons_succ, List.set_cons_zero]
        refine wpAnyH_take_d 3 (some 86) (.int .i64 k) rfl (by kernel_rfl) (by kernel_rfl) (by kernel_rfl) (by kernel_rfl) rfl (fun _ _ _ h => h) (fun _ _ => by kernel_rfl) (by exact hS) ?_
        simp only [Act.put, List.setIfInBounds_toArray, List.set_cons_succ, List.set_cons_zero]
        refine wpAnyH_take_d 4 (some 87) (.pointer (some ⟨ob, off + k * 5, none⟩)) rfl (by kernel_rfl) (by kernel_rfl) (by kernel_rfl) (by kernel_rfl) rfl (fun _ _ _ h => h) (fun _ _ => ex_index 5 rfl rfl rfl hlt1 Try.underlying22 (by kernel_rfl)) (by exact hS) ?_
        simp only [Act.put, List.setIfInBounds_toArray, List.set_cons_succ, List.set_cons_zero]
        refine wpAnyH_take_d 5 (some 88) (.agg #[.int .i64 y.k, .int .i64 y.at', .int .i64 y.fill, .int .i64 y.n, y.pv]) rfl (by kernel_rfl) (by kernel_rfl) (by kernel_rfl) (by kernel_rfl) rfl (fun _ _ _ h => h) (fun w' h => ex_row rfl rfl (RNG.out _ h) Try.underlying42 rfl (by kernel_rfl)) (by exact hS) ?_
        simp only [Act.put, List.setIfInBounds_toArray, List.set_cons_succ, List.set_cons_zero]
        refine wpAnyH_call 6 (some 89) 20 #[.pointer (some ⟨db, 0, none⟩), .pointer (some ⟨rb, 0, none⟩), .agg #[.int .i64 y.k, .int .i64 y.at', .int .i64 y.fill, .int .i64 y.n, y.pv]] rfl (by kernel_rfl) (by kernel_rfl) rfl (by kernel_rfl) (hst) ?_
        rintro e we ⟨rfl, d', N', t', b', s1, s2, s3⟩
        have hS : Below W.heap.size W we := bk.drew.trans b'
        refine ⟨_, rfl, hS, ?_⟩
        simp only [Act.put, List.setIfInBounds_toArray, List.set_cons_succ, List.set_cons_zero]
        -- left: [(7, ('90', 'Op.unOp UnOp.not 4 t89', None)), (8, ('91', 'Op.move t90', None)), (9, ('92', 'Op.move t5', (8, 'false'))), (10, ('93', 'Op.call { value (Operand.func 19), args := #[t92], argTypes := #[24] }', (8, 'false'))), (11, ('94', 'Op.move t7', (8, 'false'))), (12, ('95', 'Op.nilCheck t94', (8, 'false'))), (13, ('96', 'Op.fieldAddr 47 t95 2', (8, 'false'))), (14, ('97', 'Op.load 45 t96', (8, 'false'))), (15, ('98', 'Op.call { builtin len, args := #[t97], argTypes := #[45] }', (8, 'false'))), (16, ('99', 'Op.binOp BinOp.neq 3 t93 t98 3', (8, 'false'))), (17, ('100', 'Op.pick t91 (const (Value.bool true)) t99', None))]
        obtain ⟨la, lc, ta, tc, va, vc, L, T, -, -, q2, -⟩ := t'.b.all
        have FIN : Hid (Two W.heap.size we db rb d' N' ∧ Below W.heap.size W we ∧ d'.size = n ∧ d'.waits.length ≤ k + 1 ∧ N' ≤ 200 * (k + 1)) := Lib.hid ⟨t', hS, s1.trans hdn, by omega, by omega⟩
        refine wpAnyH_more (S' := fun w' => w' = we) (fun w' h => by rw [h]; exact hS) _ _ _ _ ?_
        have hS : we = we := rfl
        have C2 : Hid (∀ w', w' = we → w'.cell? ⟨rb, 2, none⟩ = some (.slice va d'.waits.length vc)) := Lib.hid (fun w' hw => hw ▸ q2)
        refine wpAnyH_take_d 7 (some 90) (.bool false) rfl (by kernel_rfl) (by kernel_rfl) (by kernel_rfl) (by kernel_rfl) rfl (fun _ _ _ h => h) (fun _ _ => by kernel_rfl) (by exact hS) ?_
        simp only [Act.put, List.setIfInBounds_toArray, List.set_cons_succ, List.set_cons_zero]
        refine wpAnyH_take_d 8 (some 91) (.bool false) rfl (by kernel_rfl) (by kernel_rfl) (by kernel_rfl) (by kernel_rfl) rfl (fun _ _ _ h => h) (fun _ _ => by kernel_rfl) (by exact hS) ?_
        simp only [Act.put, List.setIfInBounds_toArray, List.set_cons_succ, List.set_cons_zero]
        refine wpAnyH_take_d 9 (some 92) (.pointer (some ⟨db, 0, none⟩)) rfl (by kernel_rfl) (by kernel_rfl) (by kernel_rfl) (by kernel_rfl) rfl (fun _ _ _ h => h) (fun _ _ => by kernel_rfl) (by exact hS) ?_
        simp only [Act.put, List.setIfInBounds_toArray, List.set_cons_succ, List.set_cons_zero]
        refine wpAnyH_take_d 11 (some 94) (.pointer (some ⟨rb, 0, none⟩)) rfl (by kernel_rfl) (by kernel_rfl) (by kernel_rfl) (by kernel_rfl) rfl (fun _ _ _ h => h) (fun _ _ => by kernel_rfl) (by exact hS) ?_
        simp only [Act.put, List.setIfInBounds_toArray, List.set_cons_succ, List.set_cons_zero]
        refine wpAnyH_take_d 12 (some 95) (.pointer (some ⟨rb, 0, none⟩)) rfl (by kernel_rfl) (by kernel_rfl) (by kernel_rfl) (by kernel_rfl) rfl (fun _ _ _ h => h) (fun _ _ => by kernel_rfl) (by exact hS) ?_
        simp only [Act.put, List.setIfInBounds_toArray, List.set_cons_succ, List.set_cons_zero]
        refine wpAnyH_take_d 13 (some 96) (.pointer (some ⟨rb, 2, none⟩)) rfl (by kernel_rfl) (by kernel_rfl) (by kernel_rfl) (by kernel_rfl) rfl (fun _ _ _ h => h) (fun _ _ => by kernel_rfl) (by exact hS) ?_
        simp only [Act.put, List.setIfInBounds_toArray, List.set_cons_succ, List.set_cons_zero]
        refine wpAnyH_take_d 14 (some 97) (.slice va d'.waits.length vc) rfl (by kernel_rfl) (by kernel_rfl) (by kernel_rfl) (by kernel_rfl) rfl (fun _ _ _ h => h) (fun w' h => exec_load_cell rfl rfl (C2.out _ h) Try.underlying45 rfl) (by exact hS) ?_
        simp only [Act.put, List.setIfInBounds_toArray, List.set_cons_succ, List.set_cons_zero]
        refine wpAnyH_take_d 15 (some 98) (.int .i64 d'.waits.length) rfl (by kernel_rfl) (by kernel_rfl) (by kernel_rfl) (by kernel_rfl) rfl (fun _ _ _ h => h) (fun _ _ => ex_len rfl rfl Try.underlying45) (by exact hS) ?_
        simp only [Act.put, List.setIfInBounds_toArray, List.set_cons_succ, List.set_cons_zero]
        refine wpAnyH_call 10 (some 93) 19 #[.pointer (some ⟨db, 0, none⟩)] rfl (by kernel_rfl) (by kernel_rfl) rfl (by kernel_rfl) ((pending_any t'.a)) ?_
        rintro e w8 ⟨rfl, hw8⟩
        have hS := hw8.symm
        refine ⟨_, rfl, hS, ?_⟩
        simp only [Act.put, List.setIfInBounds_toArray, List.set_cons_succ, List.set_cons_zero]
        refine wpAnyH_take_d 16 (some 99) (.bool false) rfl (by kernel_rfl) (by kernel_rfl) (by kernel_rfl) (by kernel_rfl) rfl (fun _ _ _ h => h) (fun _ _ => ex_ne rfl rfl rfl (by simp)) (by exact hS) ?_
        simp only [Act.put, List.setIfInBounds_toArray, List.set_cons_succ, List.set_cons_zero]
        refine wpAnyH_take_d 17 (some 100) (.bool false) rfl (by kernel_rfl) (by kernel_rfl) (by kernel_rfl) (by kernel_rfl) rfl (fun _ _ _ h => h) (fun _ _ => by kernel_rfl) (by exact hS) ?_
        simp only [Act.put, List.setIfInBounds_toArray, List.set_cons_succ, List.set_cons_zero]
        refine wpAnyH_done (by kernel_rfl) ?_ _
        have FIN2 : Hid (Two W.heap.size w8 db rb d' N' ∧ Below W.heap.size W w8 ∧ d'.size = n ∧ d'.waits.length ≤ k + 1 ∧ N' ≤ 200 * (k + 1)) := by rw [hS]; exact FIN
        clear FIN C2 q2 hst RNG ht bk t' b' s1 s2 s3 hS hw8 hdn hdw hN
        go_wp2
        go_roundw
        case rel => exact ⟨k + 1, N', d', by omega, by omega, by go_num, FIN2.out.1, FIN2.out.2.1, FIN2.out.2.2.1, FIN2.out.2.2.2.1, FIN2.out.2.2.2.2⟩
        case measure => simp [intOf]; omega
      · rcases (show ¬ k < z0.length ∨ (k < z0.length ∧ ¬ k < 200) by omega) with hl | ⟨hl, hl2⟩
        all_goals
          clear hlt
          have ht0 : Two W.heap.size wr db rb d N := ht
          have hdw0 : d.waits.length ≤ 200 := by omega
          clear ht hN hdw hdn
          go_wp2
          go_loopw [12] (fun iv wr => ∃ (m N : Nat) (d : Dev), m ≤ n ∧ iv = .int .i64 m ∧ Two W.heap.size wr db rb d N ∧ Below W.heap.size W wr ∧ d.waits.length ≤ 200 + m) (fun iv _ => n - (intOf iv).toNat)
          case atStart => exact ⟨0, N, d, Nat.zero_le _, rfl, ht0, bk, hdw0⟩
          case round =>
            clear ht0 bk hdw0
            obtain ⟨m, N, d, hm, rfl, ht, bm, hdw⟩ := hrel
            by_cases hlt : m < n
            · have hst := step1 ht bm.size (by omega) (m : Int) 0 0 (.slice none 0 0)
              go_wp2_with fail
              refine hst.mono ?_
              rintro e we ⟨rfl, d', N', t', b', s1, s2, s3⟩
              have FIN : Hid (Two W.heap.size we db rb d' N' ∧ Below W.heap.size W we ∧ d'.waits.length ≤ 200 + (m + 1)) := Lib.hid ⟨t', bm.trans b', by omega⟩
              clear hst ht bm t' b' s1 s2 s3 hdw
              go_wp2
              go_roundw
              case rel => exact ⟨m + 1, N', d', by omega, by go_num, FIN.out.1, FIN.out.2.1, FIN.out.2.2⟩
              case measure => simp [intOf]; omega
            · clear ht
              go_wp2
              go_ret
              exact ⟨rfl, bm⟩
theorem walk (x : Int) (_hx : (Lit.int .i64 x).wf = true) (v0 : Value) (z0 : List OpF) (W : World) (w0 : OpsArg W v0 z0) :
    Calls Try.prog 3 #[.int .i64 x, v0] W fun e w' => e = .returned (.bool true) ∧ Below W.heap.size W w' := by
  by_cases h : x < 1 ∨ 4096 < x
  · exact walk_no x h v0 W
  · exact walk_ok x (by omega) v0 z0 W w0

/-! ### the row -/
theorem laidOut : laidOutB Try.prog = true := by kernel_rfl
theorem bytesInt : Try.prog.bytesOf 3 = 8 := by kernel_rfl
set_option maxRecDepth 100000 in
theorem lifted (os : Os) (started : os.Started) (H : Type) (enc : TypeId × Value → H) :
    ReturnsInHanded {} Try.checked os 3 .any (Rows.flashPlaysSpec.pre6 enc Try.prog Try.f3 Rows.flashPlaysRow.domain false) (Rows.flashPlaysSpec.post enc Try.prog Try.f3 false true false false) := by
  refine returnsInHanded_of_change_sized (C := Try.checked) own started (by kernel_rfl) Try.func3
    (ChangeSpec.witness6 (enc := enc) (C := Try.checked) false ⟨#[], #[.int .i64 0, .slice none 0 0], []⟩ 8 (by kernel_rfl) (by kernel_rfl) (by kernel_rfl) (by kernel_rfl)) ?_
  intro W base args ds gs before hval0 hW hcnd hsz0 _
  have hval : ∀ (j : Nat) t v, Try.f3.params[j]? = some t → args[j]? = some v → Value.okWide Try.prog W .any base t v := hval0
  have hW' := hW
  obtain ⟨p, q, hA0, hV, rfl, hfz, hnd⟩ := hW
  have hA : DataW.TrodAll enc Try.prog W 0 (fun _ => true) true Try.f3.params.toList args.toList ds p := hA0
  have hsz : (DataW.weightsEach Try.prog (Try.f3.params.toList ++ Rows.flashPlaysSpec.plain.varTypes Try.prog) (ds ++ gs)).all (· ≤ reachBytes) = true := hsz0
  rw [Try.params3] at hA hval hsz
  obtain ⟨v0, vs0, d0, ds0, p0, q0, hargs, rfl, rfl, h0, r0⟩ := trodAll_cons hA
  obtain ⟨v1, vs1, d1, ds1, p1, q1, rfl, rfl, rfl, h1, r1⟩ := trodAll_cons r0
  obtain ⟨rfl, rfl, rfl⟩ := trodAll_nil r1
  obtain rfl : args = #[v0, v1] := by cases args; simp_all
  obtain ⟨rfl, rfl⟩ := trodVars_none hV
  obtain ⟨a0, rfl, rfl, rfl, w0⟩ := open_int Try.underlying3 (hval 0 3 v0 rfl rfl) h0
  have k1 := h1
  have lt1 := args_lt k1
  obtain ⟨z1, w1⟩ := ops_arg (hval 1 22 v1 rfl rfl) (fun k hk => of_decide_eq_true (List.all_eq_true.1 hsz _ (DataW.weights_mem_each (j := 1) (t := 22) (d := d1) rfl rfl k hk))) h1
  clear hA0 hval0 hsz0
  refine (walk a0 w0 v1 z1 W w1).mono fun e W' ⟨he, bel⟩ => ?_
  subst he
  exact ⟨_, rfl, _, _, _, [], _, [], hW', trodAll_mk1 (shut_bool Try.underlying4 _), (trodAll_cons_mk (shut_int Try.underlying3 w0) (trodAll_cons_mk (Below.trod laidOut (by kernel_rfl) (of_decide_eq_true (by kernel_rfl)) k1 bel lt1) trodAll_mk0)), rfl, bel.frame _, fun h => by cases h⟩

theorem over : Rows.flashPlaysRow.holds Try.pinned (OpenSpec.ofChange Rows.flashPlaysSpec) :=
  OpenClaim.holds_of_wide 3 Try.f3 rfl rfl rfl rfl rfl rfl rfl ⟨rfl, rfl, rfl, rfl, rfl⟩ rfl rfl rfl rfl rfl (by kernel_rfl) Try.func3 (by kernel_rfl)
    (of_decide_eq_true (by kernel_rfl)) (by unfold Func.isWrapper; first | (rw [if_pos (by decide +kernel)]; kernel_rfl) | (rw [if_neg (by decide +kernel)]; exact ⟨rfl, rfl⟩))
    (fun os started H enc _ => lifted os started H enc)
end Go.Proofs.Ytfdabkcbefhdaaa.flashPlays

namespace Go.Proofs.Ytfdabkcbefhdaaa
/-- The law returns true at every input. -/
theorem flashPlays_holds : Rows.FlashPlaysSaid := flashPlays.over
end Go.Proofs.Ytfdabkcbefhdaaa

