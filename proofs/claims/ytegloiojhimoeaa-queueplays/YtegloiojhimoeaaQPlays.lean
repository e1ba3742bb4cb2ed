/- For all scripts of calls a queue answers what the document says: the law cisternlaw05.QueuePlays returns true at every input. No condition. -/
import Derived.Test.YtegloiojhimoeaaQStep
import Derived.BigQuiet
namespace Go.Proofs.Ytegloiojhimoeaa.queuePlays
open Go.RowKit Go.ChangeShapes Go.WideShapes Go.ChangeAt

theorem own : ownKnob Try.prog.godebug = none := by kernel_rfl
/-- What holds behind every operation may be more from here on. -/
theorem wpAnyH_more {P : Program} {md : Region.Mode} {ops : Array Oper} {Q : Exit → Act → World → Prop} {S S' : World → Prop} (hS : ∀ w, S' w → S w) : ∀ (fuel : Nat) (L : Array Bool) (a : Act) (w : World), wpAnyH P md ops Q S' fuel L a w → wpAnyH P md ops Q S fuel L a w
  | 0, _, _, _, h => h
  | fuel + 1, _, _, _, h => ⟨h.1, fun i hi => wpOp_mono (fun a' w' h' => ⟨hS w' h'.1, wpAnyH_more hS fuel _ a' w' h'.2⟩) (h.2 i hi)⟩
theorem range3 {w : World} {b off : Nat} {u v x : Value} (h0 : w.cell? ⟨b, off, none⟩ = some u) (h1 : w.cell? ⟨b, off + 1, none⟩ = some v) (h2 : w.cell? ⟨b, off + 2, none⟩ = some x) : w.rangeAt b off [u, v, x] := by
  intro j y hj
  match j, hj with
  | 0, hj => simp at hj; subst hj; exact h0
  | 1, hj => simp at hj; subst hj; exact h1
  | 2, hj => simp at hj; subst hj; exact h2
theorem exec_lenS {P : Program} {w : World} {ρ : Operand → Value} {o : Oper} {t : TypeId} {x : Operand} {ao : Option Addr} {n cap : Nat} {e : TypeId} (ho : o.op = .call { callee := .builtin .len, args := #[x], argTypes := #[t] }) (hx : ρ x = .slice ao n cap) (hu : P.underlying t = some (.slice e)) : (execOp ρ o).run P w = .ok (.value (.int .i64 n)) w := by
  unfold execOp
  simp [ho, hx, resolve, invoke, builtin, Builtin.len_, run_underlying hu]
  rfl

set_option maxRecDepth 20000 in
set_option maxHeartbeats 6400000 in
theorem walk (v0 : Value) (z0 : List OpQ) (W : World) (w0 : OpsArg W v0 z0) :
    Calls Try.prog 3 #[v0] W fun e w' => e = .returned (.bool true) ∧ Below W.heap.size W w' := by
  obtain ⟨ao, cap, rfl, hl0⟩ := w0.form
  have A0 := Lib.hid w0
  clear w0
  go_enter Try.func3, Try.ntmps3
  go_wp2_with fail
  refine (known_any W).mono ?_
  rintro e w1 ⟨rfl, b1⟩
  go_wp2_with fail
  refine (new_any w1).mono ?_
  rintro e w2 ⟨rfl, q2, b2⟩
  go_wp2_with (with_reducible refine wpList_box_row rfl 29 (.tmp 9) rfl #[.slice none 0 0] rfl ?_)
  intro w3 hg3 hb3 hs3
  have r3 : RAt (fun k => k < w2.heap.size) w3 w2.heap.size [] := ⟨fun k e => by omega, fun e => by omega, _, hg3, World.ownsRow_nil _ _ _ _, fun k e => by cases e⟩
  have hsz := b1.size
  have hsz2 := b2.size
  have bo3 : Both W.heap.size w3 w1.heap.size w2.heap.size [] 0 0 := ⟨_, _, fun k hk => ⟨Or.inl (by omega), by omega⟩, fun k hk => by
    by_cases e : k < w2.heap.size
    · exact Or.inr e
    · exact Or.inl (Or.inr ⟨by omega, hk⟩), q2.wider hb3, r3⟩
  have B3 : Below W.heap.size W w3 := (b1.trans (b2.mono b1.size)).trans (hb3.mono (Nat.le_trans b1.size b2.size))
  have F3 := Lib.hid (And.intro bo3 B3)
  clear r3 bo3 B3 q2 b1 b2 hg3 hb3 hs3
  generalize w1.heap.size = qb at *
  generalize w2.heap.size = rb at *
  clear hsz hsz2
  go_wp2
  go_loopw [5] (fun kv wr => ∃ (k : Nat) (S : List Wt) (pu N : Nat), k ≤ z0.length ∧ k ≤ 200 ∧ kv = .int .i64 k ∧ Both W.heap.size wr qb rb S pu N ∧ pu ≤ k ∧ N ≤ k ∧ Below W.heap.size W wr) (fun kv _ => 200 - (intOf kv).toNat)
  case atStart => exact ⟨0, [], 0, 0, Nat.zero_le _, Nat.zero_le _, rfl, F3.out.1, Nat.le_refl _, Nat.le_refl _, F3.out.2⟩
  case round =>
    clear F3
    obtain ⟨k, S, pu, N, hk, hk2, rfl, bo, hpu, hN, hB⟩ := hrel
    by_cases hlk : k < z0.length ∧ k < 200
    · obtain ⟨h1, h2⟩ := hlk
      have h1' : (k : Int) < (z0.length : Int) := by omega
      have h2' : (k : Int) < 200 := by omega
      obtain ⟨b, off, rfl, hok, c0, c1, c2⟩ := A0.out.get hB h1
      have e3 : IntKind.i64.wrap ((k : Int) + 1) = ((k + 1 : Nat) : Int) := by rw [IntKind.wrap_i64]; omega
      generalize hyy : opAt z0 k = yy at hok c0 c1 c2
      obtain ⟨yk, yi, yp⟩ := yy
      simp only at c0 c1 c2
      have bod := bo.below ((Below.refl _ wr).drew)
      have SC := Lib.hid (step_any (k := yk) (id := yi) (p := yp) bod hB.size hok.2.1 hok.2.2 (by omega) (by omega))
      have hbl := World.block_lt_of_cell? _ _ c0
      have hBW := hB.size
      have hbW : b < W.heap.size := by
        obtain ⟨ao', cap', e1, _, h3⟩ := A0.out
        cases e1
        obtain ⟨b', off', e2, hlt, _⟩ := h3 k h1
        cases e2
        exact hlt
      have HB := Lib.hid hB
      generalize hk1 : k + 1 = k1 at e3
      clear bo hB hyy bod
      go_wp2_with fail
      have hS : wr.drew.cell? ⟨b, off + k * 3, none⟩ = some (.int .i64 yk) ∧ wr.drew.cell? ⟨b, off + k * 3 + 1, none⟩ = some (.int .i64 yi) ∧ wr.drew.cell? ⟨b, off + k * 3 + 2, none⟩ = some (.float .f64 yp) := ⟨c0, c1, c2⟩
      refine wp_region_held_drew (S := fun w' => w'.cell? ⟨b, off + k * 3, none⟩ = some (.int .i64 yk) ∧ w'.cell? ⟨b, off + k * 3 + 1, none⟩ = some (.int .i64 yi) ∧ w'.cell? ⟨b, off + k * 3 + 2, none⟩ = some (.float .f64 yp)) mixed hS (fun _ => ?_)
      show wpAnyH _ _ _ _ _ 18 (Array.replicate 18 false) _ _
      refine wpAnyH_take_d 0 (some 21) (.pointer (some ⟨qb, 0, none⟩)) rfl (by kernel_rfl) (by kernel_rfl) (by kernel_rfl) (by kernel_rfl) rfl (fun _ _ _ h => h) (fun _ _ => by kernel_rfl) (by exact hS) ?_
      simp only [Act.put, List.setIfInBounds_toArray, List.set_cons_succ, List.set_cons_zero]
      refine wpAnyH_take_d 1 (some 22) (.pointer (some ⟨rb, 0, none⟩)) rfl (by kernel_rfl) (by kernel_rfl) (by kernel_rfl) (by kernel_rfl) rfl (fun _ _ _ h => h) (fun _ _ => by kernel_rfl) (by exact hS) ?_
      simp only [Act.put, List.setIfInBounds_toArray, List.set_cons_succ, List.set_cons_zero]
      refine wpAnyH_take_d 2 (some 23) (.slice (some ⟨b, off, none⟩) z0.length cap) rfl (by kernel_rfl) (by kernel_rfl) (by kernel_rfl) (by kernel_rfl) rfl (fun _ _ _ h => h) (fun _ _ => by kernel_rfl) (by exact hS) ?_
      simp only [Act.put, List.setIfInBounds_toArray, List.set_cons_succ, List.set_cons_zero]
      refine wpAnyH_take_d 3 (some 24) (.int .i64 k) rfl (by kernel_rfl) (by kernel_rfl) (by kernel_rfl) (by kernel_rfl) rfl (fun _ _ _ h => h) (fun _ _ => by kernel_rfl) (by exact hS) ?_
      simp only [Act.put, List.setIfInBounds_toArray, List.set_cons_succ, List.set_cons_zero]
      refine wpAnyH_take_d 4 (some 25) (.pointer (some ⟨b, off + k * 3, none⟩)) rfl (by kernel_rfl) (by kernel_rfl) (by kernel_rfl) (by kernel_rfl) rfl (fun _ _ _ h => h) (fun w' h => exec_indexAddrS rfl rfl rfl h1 Try.underlying22 (by kernel_rfl)) (by exact hS) ?_
      simp only [Act.put, List.setIfInBounds_toArray, List.set_cons_succ, List.set_cons_zero]
      refine wpAnyH_take_d 5 (some 26) (.agg #[.int .i64 yk, .int .i64 yi, .float .f64 yp]) rfl (by kernel_rfl) (by kernel_rfl) (by kernel_rfl) (by kernel_rfl) rfl (fun _ _ _ h => h) (fun w' h => exec_loadN [.int .i64 yk, .int .i64 yi, .float .f64 yp] rfl rfl (range3 h.1 h.2.1 h.2.2) Try.underlying33 rfl (by kernel_rfl)) (by exact hS) ?_
      simp only [Act.put, List.setIfInBounds_toArray, List.set_cons_succ, List.set_cons_zero]
      refine wpAnyH_call 6 (some 27) 10 #[.pointer (some ⟨qb, 0, none⟩), .pointer (some ⟨rb, 0, none⟩), .agg #[.int .i64 yk, .int .i64 yi, .float .f64 yp]] rfl (by kernel_rfl) (by kernel_rfl) rfl (by kernel_rfl) SC.out ?_
      rintro e w4 ⟨rfl, S', pu', N', bo4, hpu', hN', b4⟩
      have hS := And.intro ((b4.cell (p := ⟨b, off + k * 3, none⟩) hbW).trans hS.1) (And.intro ((b4.cell (p := ⟨b, off + k * 3 + 1, none⟩) hbW).trans hS.2.1) ((b4.cell (p := ⟨b, off + k * 3 + 2, none⟩) hbW).trans hS.2.2))
      refine ⟨_, rfl, hS, ?_⟩
      simp only [Act.put, List.setIfInBounds_toArray, List.set_cons_succ, List.set_cons_zero]
      have bo4' := bo4
      obtain ⟨X, Y, -, -, q4, r4⟩ := bo4'
      obtain ⟨ao4, cap4, cr, -, -, -⟩ := r4.form
      have LN := len_any q4
      refine wpAnyH_more (S' := fun w' => (w'.cell? ⟨b, off + k * 3, none⟩ = some (.int .i64 yk) ∧ w'.cell? ⟨b, off + k * 3 + 1, none⟩ = some (.int .i64 yi) ∧ w'.cell? ⟨b, off + k * 3 + 2, none⟩ = some (.float .f64 yp)) ∧ w'.cell? ⟨rb, 0, none⟩ = some (.slice ao4 S'.length cap4)) (fun w' h => h.1) _ _ _ _ ?_
      have hS := And.intro hS cr
      refine wpAnyH_take_d 7 (some 28) (.bool false) rfl (by kernel_rfl) (by kernel_rfl) (by kernel_rfl) (by kernel_rfl) rfl (fun _ _ _ h => h) (fun _ _ => by kernel_rfl) (by exact hS) ?_
      simp only [Act.put, List.setIfInBounds_toArray, List.set_cons_succ, List.set_cons_zero]
      refine wpAnyH_take_d 8 (some 29) (.bool false) rfl (by kernel_rfl) (by kernel_rfl) (by kernel_rfl) (by kernel_rfl) rfl (fun _ _ _ h => h) (fun _ _ => by kernel_rfl) (by exact hS) ?_
      simp only [Act.put, List.setIfInBounds_toArray, List.set_cons_succ, List.set_cons_zero]
      refine wpAnyH_take_d 9 (some 30) (.pointer (some ⟨qb, 0, none⟩)) rfl (by kernel_rfl) (by kernel_rfl) (by kernel_rfl) (by kernel_rfl) rfl (fun _ _ _ h => h) (fun _ _ => by kernel_rfl) (by exact hS) ?_
      simp only [Act.put, List.setIfInBounds_toArray, List.set_cons_succ, List.set_cons_zero]
      refine wpAnyH_take_d 11 (some 32) (.pointer (some ⟨rb, 0, none⟩)) rfl (by kernel_rfl) (by kernel_rfl) (by kernel_rfl) (by kernel_rfl) rfl (fun _ _ _ h => h) (fun _ _ => by kernel_rfl) (by exact hS) ?_
      simp only [Act.put, List.setIfInBounds_toArray, List.set_cons_succ, List.set_cons_zero]
      refine wpAnyH_take_d 12 (some 33) (.pointer (some ⟨rb, 0, none⟩)) rfl (by kernel_rfl) (by kernel_rfl) (by kernel_rfl) (by kernel_rfl) rfl (fun _ _ _ h => h) (fun _ _ => by kernel_rfl) (by exact hS) ?_
      simp only [Act.put, List.setIfInBounds_toArray, List.set_cons_succ, List.set_cons_zero]
      refine wpAnyH_take_d 13 (some 34) (.pointer (some ⟨rb, 0, none⟩)) rfl (by kernel_rfl) (by kernel_rfl) (by kernel_rfl) (by kernel_rfl) rfl (fun _ _ _ h => h) (fun _ _ => by kernel_rfl) (by exact hS) ?_
      simp only [Act.put, List.setIfInBounds_toArray, List.set_cons_succ, List.set_cons_zero]
      refine wpAnyH_take_d 14 (some 35) (.slice ao4 S'.length cap4) rfl (by kernel_rfl) (by kernel_rfl) (by kernel_rfl) (by kernel_rfl) rfl (fun _ _ _ h => h) (fun w' h => exec_load_cell rfl rfl h.2 Try.underlying27 rfl) (by exact hS) ?_
      simp only [Act.put, List.setIfInBounds_toArray, List.set_cons_succ, List.set_cons_zero]
      refine wpAnyH_take_d 15 (some 36) (.int .i64 S'.length) rfl (by kernel_rfl) (by kernel_rfl) (by kernel_rfl) (by kernel_rfl) rfl (fun _ _ _ h => h) (fun w' h => exec_lenS rfl rfl Try.underlying27) (by exact hS) ?_
      simp only [Act.put, List.setIfInBounds_toArray, List.set_cons_succ, List.set_cons_zero]
      refine wpAnyH_call 10 (some 31) 11 #[.pointer (some ⟨qb, 0, none⟩)] rfl (by kernel_rfl) (by kernel_rfl) rfl (by kernel_rfl) LN ?_
      rintro e _ ⟨rfl, rfl⟩
      refine ⟨_, rfl, hS, ?_⟩
      simp only [Act.put, List.setIfInBounds_toArray, List.set_cons_succ, List.set_cons_zero]
      refine wpAnyH_one 16 (some 37) (.bool false) rfl (by kernel_rfl) (by kernel_rfl) rfl (exec_intneq rfl rfl rfl rfl) (by exact hS) ?_
      simp only [Act.put, List.setIfInBounds_toArray, List.set_cons_succ, List.set_cons_zero]
      refine wpAnyH_one 17 (some 38) (.bool false) rfl (by kernel_rfl) (by kernel_rfl) rfl (by kernel_rfl) (by exact hS) ?_
      simp only [Act.put, List.setIfInBounds_toArray, List.set_cons_succ, List.set_cons_zero]
      refine wpAnyH_done (by kernel_rfl) ?_ _
      have F4 := Lib.hid (And.intro bo4 (And.intro hpu' (And.intro hN' (HB.out.drew.trans b4))))
      clear hS bo4 hpu' hN' b4 q4 r4 cr LN SC c0 c1 c2
      go_wp2
      go_roundw
      case rel => exact ⟨k1, S', pu', N', by omega, by omega, rfl, F4.out.1, by have := F4.out.2.1; omega, by have := F4.out.2.2.1; omega, F4.out.2.2.2⟩
      case measure => simp [intOf]; omega
    · have SC := Lib.hid (step_any (k := 0) (id := 0) (p := 0) bo hB.size (by unfold fits; omega) (by decide) (by omega) (by omega))
      have HB := Lib.hid hB
      clear bo hB
      by_cases h1 : k < z0.length
      · have h1' : (k : Int) < (z0.length : Int) := by omega
        have h2' : ¬ ((k : Int) < 200) := by omega
        clear hlk
        go_wp2_with fail
        refine SC.out.mono ?_
        rintro e w4 ⟨rfl, S', pu', N', bo4, hpu', hN', b4⟩
        have FIN := Lib.hid (HB.out.trans b4)
        clear bo4 b4 SC
        go_wp2
        go_ret
        exact ⟨rfl, FIN.out⟩
      · have h1' : ¬ ((k : Int) < (z0.length : Int)) := by omega
        clear hlk
        go_wp2_with fail
        refine SC.out.mono ?_
        rintro e w4 ⟨rfl, S', pu', N', bo4, hpu', hN', b4⟩
        have FIN := Lib.hid (HB.out.trans b4)
        clear bo4 b4 SC
        go_wp2
        go_ret
        exact ⟨rfl, FIN.out⟩

/-! ### the row -/
theorem laidOut : laidOutB Try.prog = true := by kernel_rfl
theorem bytesInt : Try.prog.bytesOf 3 = 8 := by kernel_rfl
set_option maxRecDepth 100000 in
theorem lifted (os : Os) (started : os.Started) (H : Type) (enc : TypeId × Value → H) :
    ReturnsInHanded {} Try.checked os 3 .any (Rows.queuePlaysSpec.pre6 enc Try.prog Try.f3 Rows.queuePlaysRow.domain false) (Rows.queuePlaysSpec.post enc Try.prog Try.f3 false true false false) := by
  refine returnsInHanded_of_change_sized (C := Try.checked) own started (by kernel_rfl) Try.func3
    (ChangeSpec.witness6 (enc := enc) (C := Try.checked) false ⟨#[], #[.slice none 0 0], []⟩ 8 (by kernel_rfl) (by kernel_rfl) (by kernel_rfl) (by kernel_rfl)) ?_
  intro W base args ds gs before hval0 hW hcnd hsz0 _
  have hval : ∀ (j : Nat) t v, Try.f3.params[j]? = some t → args[j]? = some v → Value.okWide Try.prog W .any base t v := hval0
  have hW' := hW
  obtain ⟨p, q, hA0, hV, rfl, hfz, hnd⟩ := hW
  have hA : DataW.TrodAll enc Try.prog W 0 (fun _ => true) true Try.f3.params.toList args.toList ds p := hA0
  have hsz : (DataW.weightsEach Try.prog (Try.f3.params.toList ++ Rows.queuePlaysSpec.plain.varTypes Try.prog) (ds ++ gs)).all (· ≤ reachBytes) = true := hsz0
  rw [Try.params3] at hA hval hsz
  obtain ⟨v0, vs0, d0, ds0, p0, q0, hargs, rfl, rfl, h0, r0⟩ := trodAll_cons hA
  obtain ⟨rfl, rfl, rfl⟩ := trodAll_nil r0
  obtain rfl : args = #[v0] := by cases args; simp_all
  obtain ⟨rfl, rfl⟩ := trodVars_none hV
  have k0 := h0
  have lt0 := args_lt k0
  obtain ⟨z0, w0⟩ := ops_arg (hval 0 22 v0 rfl rfl) (fun k hk => of_decide_eq_true (List.all_eq_true.1 hsz _ (DataW.weights_mem_each (j := 0) (t := 22) (d := d0) rfl rfl k hk))) h0
  clear hA0 hval0 hsz0
  refine (walk v0 z0 W w0).mono fun e W' ⟨he, bel⟩ => ?_
  subst he
  exact ⟨_, rfl, _, _, _, [], _, [], hW', trodAll_mk1 (shut_bool Try.underlying4 _), (trodAll_cons_mk (Below.trod laidOut (by kernel_rfl) (of_decide_eq_true (by kernel_rfl)) k0 bel lt0) trodAll_mk0), rfl, bel.frame _, fun h => by cases h⟩

theorem over : Rows.queuePlaysRow.holds Try.pinned (OpenSpec.ofChange Rows.queuePlaysSpec) :=
  OpenClaim.holds_of_wide 3 Try.f3 rfl rfl rfl rfl rfl rfl rfl ⟨rfl, rfl, rfl, rfl, rfl⟩ rfl rfl rfl rfl rfl (by kernel_rfl) Try.func3 (by kernel_rfl)
    (of_decide_eq_true (by kernel_rfl)) (by unfold Func.isWrapper; first | (rw [if_pos (by decide +kernel)]; kernel_rfl) | (rw [if_neg (by decide +kernel)]; exact ⟨rfl, rfl⟩))
    (fun os started H enc _ => lifted os started H enc)
end Go.Proofs.Ytegloiojhimoeaa.queuePlays

namespace Go.Proofs.Ytegloiojhimoeaa
/-- The law returns true at every input. -/
theorem queuePlays_holds : Rows.QueuePlaysSaid := queuePlays.over
end Go.Proofs.Ytegloiojhimoeaa

