/- A copy answers what the first one does to the same calls, and neither feels the other's: the law cisternlaw09.AllocCopies returns true at every input. Condition: the table of math/bits is as the program's text lays it (tied). -/
import Derived.Test.YtfmhlkhalahoaaaDoorAOps
import Derived.Test.YtfmhlkhalahoaaaDoorTie
import Derived.Test.YtfmhlkhalahoaaaDoorCards
import Derived.SevenTiedAt
import Derived.Deep.CutRange
import Derived.Deep.Cut
namespace Go.Proofs.YtfmhlkhalahoaaaDoor.allocCopies
set_option maxRecDepth 20000
open Go.RowKit Go.ChangeShapes Go.WideShapes Go.ChangeAt

theorem atN {W : World} {b off pcap : Nat} {l : List OpQ} (h : OpsArg W (.slice (some ⟨b, off, Option.none⟩) l.length pcap) l) {k : Nat} (hk : k < l.length) {w : World} (hb : Below W.heap.size W w) : w.cell? ⟨b, off + k * 2 + 1, Option.none⟩ = some (.int .i64 (opAt l k).id) := by
  obtain ⟨b', off', e, -, -, c⟩ := h.get hb hk
  injection e with e; injection e with e1 e2
  subst e1; subst e2; exact c
theorem own : ownKnob Tryd.prog.godebug = none := by kernel_rfl
set_option maxHeartbeats 6400000 in
set_option maxRecDepth 400000 in
theorem walk (v0 : Value) (z0 : List Int) (v1 : Value) (z1 : List OpQ) (W : World) (w0 : IntsArg W v0 z0) (w1 : OpsArg W v1 z1) (hT : tabG W) :
    Calls Tryd.prog 5 #[v0, v1] W fun e w' => e = .returned (.bool true) ∧ Below W.heap.size W w' := by
  obtain ⟨ao, cap, rfl, hlen, -⟩ := w0.1.form
  obtain ⟨po, pcap, rfl, hplen⟩ := w1.form
  go_enter Tryd.func5, Tryd.ntmps5
  go_wp2_with fail
  refine (aknown_any hT).mono ?_
  rintro e wa ⟨rfl, ba⟩
  have sa := ba.size
  go_wp2
  go_loopw [5, 6] (fun lv iv wr => ∃ (k : Nat) (zs : List Int), k ≤ 20 ∧ k ≤ z0.length ∧ iv = .int .i64 k ∧ Hid (∀ i, i < zs.length → inR 30 (zs.getD i 0) = true) ∧ zs.length ≤ k ∧ OwnZ W.heap.size wr lv zs ∧ Below W.heap.size W wr) (fun _ iv _ => z0.length - (intOf iv).toNat)
  case atStart => exact ⟨0, [], Nat.zero_le _, Nat.zero_le _, rfl, Lib.hid (fun i hi => absurd hi (by simp)), Nat.le_refl _, OwnZ.nil _ _, ba⟩
  case round =>
    clear ba
    obtain ⟨k, zs, hk60, hkl, rfl, hD, hzl, oz, bw⟩ := hrel
    obtain ⟨lo, lm, lc, hlv, hlm⟩ := oz.form'
    subst hlv
    by_cases hlt : k < z0.length ∧ k < 20
    · obtain ⟨hlt1, hlt2⟩ := hlt
      obtain ⟨b, off, rfl, hcell⟩ := w0.1.at bw hlt1
      generalize z0.getD k 0 = z at hcell
      obtain ⟨c, hc, ec⟩ := mod_form z 30 (by decide) (by decide)
      obtain ⟨v2, w2, hr2, o2, bl2⟩ := own_pushZ oz (c : Int) bw.size (by omega)
      have hbz := build_z (c : Int) wr
      have b2w := bw.trans bl2
      have hD2 := Lib.hid (show ∀ i, i < (zs ++ [(c : Int)]).length → inR 30 ((zs ++ [(c : Int)]).getD i 0) = true from fun i hi => by
        by_cases e : i < zs.length
        · rw [List.getD_eq_getElem?_getD, List.getElem?_append_left e, ← List.getD_eq_getElem?_getD]; exact hD.out i e
        · have : i = zs.length := by simp at hi; omega
          subst this
          rw [List.getD_eq_getElem?_getD, List.getElem?_append_right (Nat.le_refl _)]
          simp [inR]; omega)
      have hzl2 : (zs ++ [(c : Int)]).length ≤ k + 1 := by rw [List.length_append]; simp; omega
      obtain ⟨lo2, lm2, lc2, hv2, hm2⟩ := o2.form'
      subst hv2
      have HR2 := Lib.hid hr2
      clear hr2 bl2 oz bw hD hm2
      go_wp2_with (first | (simp only [ec]) | with_reducible refine wpList_append_own rfl (.tmp 28) (.tmp 36) 22 22 rfl (.slice lo lm lc) (.slice (some ⟨wr.heap.size, 0, none⟩) 1 1) (.slice lo2 lm2 lc2) rfl rfl HR2.out ?_)
      go_roundw
      case rel => exact ⟨k + 1, _, by omega, by omega, by go_num, hD2, hzl2, o2, b2w⟩
      case measure => simp [intOf]; omega
    · have hcond : ¬ (k < z0.length) ∨ (k < z0.length ∧ ¬ k < 20) := by omega
      clear hlt
      have hgo : ∀ {Q : Prop}, (k < z0.length → ¬ k < 20 → Q) → (¬ k < z0.length → Q) → Q := fun h1 h2 => by
        rcases hcond with h | ⟨h, h'⟩
        · exact h2 h
        · exact h1 h h'
      clear hcond
      go_upto_region 5 with fail
      go_cut [25] from 18 to 37 (fun s wx => s = .bool false ∧ wx = wr)
      case first =>
        refine hgo (fun h1 h2 => ?_) (fun h1 => ?_)
        all_goals
          go_wp2
          go_meet
          exact ⟨by first | rfl | (simp; omega), rfl⟩
      case rest =>
        obtain ⟨rfl, rfl⟩ := hcut
        clear hgo
        have hnew := new_any (n := 30) (oz.reads (by omega)) (by decide) (by decide)
        go_wp2_with fail
        refine Calls.mono hnew ?_
        rintro e wn h1
        rcases h1 with ⟨-, ⟨i, hi, hbad⟩, -⟩ | ⟨-, b1, ⟨rfl, -⟩ | ⟨ab, rfl, hab, x1, -⟩⟩
        · rw [hD.out i hi] at hbad; exact absurd hbad (by simp)
        · have bw1 := bw.trans (b1.mono bw.size)
          clear hnew oz bw b1
          go_wp2
          go_ret
          exact ⟨rfl, bw1⟩
        · have hab' : W.heap.size ≤ ab := Nat.le_trans bw.size hab
          have bw1 := bw.trans (b1.mono bw.size)
          have ok1 : (newA 30 zs zs.length).Ok := (newA_ok (by decide) (by decide) hD.out).1
          generalize newA 30 zs zs.length = A1 at x1 ok1
          clear hnew oz bw b1 hD hab
          go_wp2
          go_loopw [7, 9] (fun av iv wr => ∃ (k ab : Nat) (A : Al), k ≤ 40 ∧ k ≤ z1.length ∧ iv = .int .i64 k ∧ av = .pointer (some ⟨ab, 0, none⟩) ∧ W.heap.size ≤ ab ∧ AlAt wr ab A ∧ A.Ok ∧ Below W.heap.size W wr) (fun _ iv _ => z1.length - (intOf iv).toNat)
          case atStart => exact ⟨0, ab, A1, Nat.zero_le _, Nat.zero_le _, rfl, rfl, hab', x1, ok1, bw1⟩
          case round =>
            clear x1 ok1 bw1 hab'
            obtain ⟨k, ab, A, hk40, hkl, rfl, rfl, hab', xr, okr, bw⟩ := hrel
            by_cases hlt : k < z1.length
            · by_cases h40 : k < 40
              · obtain ⟨ob, off, hoe, hok, cK, cN⟩ := w1.get bw hlt
                subst hoe
                clear cK cN hok
                have hcp := copy_any xr
                have hablt := xr.lt
                go_wp2_with fail
                refine Calls.mono hcp ?_
                rintro e wc1 ⟨cb, rfl, hcbl, xc1, bc1⟩
                have hcb : ab ≠ cb := by omega
                have y1 := xr.below bc1
                have bw1 := bw.trans (bc1.mono bw.size)
                have htk := take_any y1 okr (hT.mono bw1)
                clear hcp bc1 xr bw
                go_wp2_with fail
                refine Calls.mono htk ?_
                rintro e w2 h2
                rcases h2 with ⟨hf, rfl, b2⟩ | ⟨c, hf, hc, hl, rfl, y2, o2⟩
                · have y2 := y1.below b2
                  have xc2 := xc1.below b2
                  have bw2 := bw1.trans (b2.mono bw1.size)
                  have htk2 := take_full xc2 okr hf
                  clear htk b2 y1 xc1 bw1
                  go_wp2_with fail
                  refine Calls.mono htk2 ?_
                  rintro e w3 ⟨rfl, b3⟩
                  have x3 := y2.below b3
                  have xc3 := xc2.below b3
                  have bw3 := bw2.trans (b3.mono bw2.size)
                  have ok2 := okr
                  clear htk2 b3 y2 xc2 bw2 hf
                  have hN := fun (w : World) (hb : Below W.heap.size W w) => atN w1 hlt hb
                  have hkl2 : k < z1.length := hlt
                  obtain ⟨N, hNe⟩ : ∃ N, (opAt z1 k).id = N := ⟨_, rfl⟩
                  rw [hNe] at hN
                  clear hNe
                  go_wp2_with fail
                  have hS : Below W.heap.size W w3.drew := bw3.drew
                  refine wp_region_held_drew (S := fun w' => Below W.heap.size W w') mixed hS (fun _ => ?_)
                  show wpAnyH _ _ _ _ _ 25 (Array.replicate 25 false) _ _
                  refine wpAnyH_take_d 0 (some 69) (.int .i64 0) rfl (by kernel_rfl) (by kernel_rfl) (by kernel_rfl) (by kernel_rfl) rfl (fun _ _ _ h => h) (fun _ _ => by kernel_rfl) (by exact hS) ?_
                  simp only [Act.put, List.setIfInBounds_toArray, List.set_cons_succ, List.set_cons_zero]
                  refine wpAnyH_take_d 1 (some 70) (.int .i64 0) rfl (by kernel_rfl) (by kernel_rfl) (by kernel_rfl) (by kernel_rfl) rfl (fun _ _ _ h => h) (fun _ _ => by kernel_rfl) (by exact hS) ?_
                  simp only [Act.put, List.setIfInBounds_toArray, List.set_cons_succ, List.set_cons_zero]
                  refine wpAnyH_take_d 2 (some 71) (.bool false) rfl (by kernel_rfl) (by kernel_rfl) (by kernel_rfl) (by kernel_rfl) rfl (fun _ _ _ h => h) (fun w' h => exec_intneq rfl rfl rfl (by simp)) (by exact hS) ?_
                  simp only [Act.put, List.setIfInBounds_toArray, List.set_cons_succ, List.set_cons_zero]
                  refine wpAnyH_take_d 3 (some 72) (.bool false) rfl (by kernel_rfl) (by kernel_rfl) (by kernel_rfl) (by kernel_rfl) rfl (fun _ _ _ h => h) (fun _ _ => by kernel_rfl) (by exact hS) ?_
                  simp only [Act.put, List.setIfInBounds_toArray, List.set_cons_succ, List.set_cons_zero]
                  refine wpAnyH_take_d 4 (some 73) (.int .i64 5) rfl (by kernel_rfl) (by kernel_rfl) (by kernel_rfl) (by kernel_rfl) rfl (fun _ _ _ h => h) (fun _ _ => by kernel_rfl) (by exact hS) ?_
                  simp only [Act.put, List.setIfInBounds_toArray, List.set_cons_succ, List.set_cons_zero]
                  refine wpAnyH_take_d 5 (some 74) (.int .i64 5) rfl (by kernel_rfl) (by kernel_rfl) (by kernel_rfl) (by kernel_rfl) rfl (fun _ _ _ h => h) (fun _ _ => by kernel_rfl) (by exact hS) ?_
                  simp only [Act.put, List.setIfInBounds_toArray, List.set_cons_succ, List.set_cons_zero]
                  refine wpAnyH_take_d 6 (some 75) (.bool false) rfl (by kernel_rfl) (by kernel_rfl) (by kernel_rfl) (by kernel_rfl) rfl (fun _ _ _ h => h) (fun w' h => exec_intneq rfl rfl rfl (by simp)) (by exact hS) ?_
                  simp only [Act.put, List.setIfInBounds_toArray, List.set_cons_succ, List.set_cons_zero]
                  refine wpAnyH_take_d 7 (some 76) (.bool false) rfl (by kernel_rfl) (by kernel_rfl) (by kernel_rfl) (by kernel_rfl) rfl (fun _ _ _ h => h) (fun _ _ => by kernel_rfl) (by exact hS) ?_
                  simp only [Act.put, List.setIfInBounds_toArray, List.set_cons_succ, List.set_cons_zero]
                  refine wpAnyH_take_d 8 (some 77) (.bool false) rfl (by kernel_rfl) (by kernel_rfl) (by kernel_rfl) (by kernel_rfl) rfl (fun _ _ _ h => h) (fun _ _ => by kernel_rfl) (by exact hS) ?_
                  simp only [Act.put, List.setIfInBounds_toArray, List.set_cons_succ, List.set_cons_zero]
                  refine wpAnyH_take_d 9 (some 78) (.pointer (some ⟨ab, 0, none⟩)) rfl (by kernel_rfl) (by kernel_rfl) (by kernel_rfl) (by kernel_rfl) rfl (fun _ _ _ h => h) (fun _ _ => by kernel_rfl) (by exact hS) ?_
                  simp only [Act.put, List.setIfInBounds_toArray, List.set_cons_succ, List.set_cons_zero]
                  refine wpAnyH_take_d 10 (some 79) (.slice (some ⟨ob, off, none⟩) z1.length pcap) rfl (by kernel_rfl) (by kernel_rfl) (by kernel_rfl) (by kernel_rfl) rfl (fun _ _ _ h => h) (fun _ _ => by kernel_rfl) (by exact hS) ?_
                  simp only [Act.put, List.setIfInBounds_toArray, List.set_cons_succ, List.set_cons_zero]
                  refine wpAnyH_take_d 11 (some 80) (.int .i64 k) rfl (by kernel_rfl) (by kernel_rfl) (by kernel_rfl) (by kernel_rfl) rfl (fun _ _ _ h => h) (fun _ _ => by kernel_rfl) (by exact hS) ?_
                  simp only [Act.put, List.setIfInBounds_toArray, List.set_cons_succ, List.set_cons_zero]
                  refine wpAnyH_take_d 12 (some 81) (.pointer (some ⟨ob, off + k * 2, none⟩)) rfl (by kernel_rfl) (by kernel_rfl) (by kernel_rfl) (by kernel_rfl) rfl (fun _ _ _ h => h) (fun w' h => exec_indexAddrS rfl rfl rfl hkl2 Tryd.underlying23 szOp2) (by exact hS) ?_
                  simp only [Act.put, List.setIfInBounds_toArray, List.set_cons_succ, List.set_cons_zero]
                  refine wpAnyH_take_d 13 (some 82) (.pointer (some ⟨ob, off + k * 2 + 1, none⟩)) rfl (by kernel_rfl) (by kernel_rfl) (by kernel_rfl) (by kernel_rfl) rfl (fun _ _ _ h => h) (fun _ _ => by kernel_rfl) (by exact hS) ?_
                  simp only [Act.put, List.setIfInBounds_toArray, List.set_cons_succ, List.set_cons_zero]
                  refine wpAnyH_take_d 14 (some 83) (.int .i64 N) rfl (by kernel_rfl) (by kernel_rfl) (by kernel_rfl) (by kernel_rfl) rfl (fun _ _ _ h => h) (fun w' h => exec_load_cell rfl rfl (hN w' h) Tryd.underlying3 rfl) (by exact hS) ?_
                  simp only [Act.put, List.setIfInBounds_toArray, List.set_cons_succ, List.set_cons_zero]
                  refine wpAnyH_take_d 16 (some 85) (.pointer (some ⟨cb, 0, none⟩)) rfl (by kernel_rfl) (by kernel_rfl) (by kernel_rfl) (by kernel_rfl) rfl (fun _ _ _ h => h) (fun _ _ => by kernel_rfl) (by exact hS) ?_
                  simp only [Act.put, List.setIfInBounds_toArray, List.set_cons_succ, List.set_cons_zero]
                  refine wpAnyH_take_d 17 (some 86) (.slice (some ⟨ob, off, none⟩) z1.length pcap) rfl (by kernel_rfl) (by kernel_rfl) (by kernel_rfl) (by kernel_rfl) rfl (fun _ _ _ h => h) (fun _ _ => by kernel_rfl) (by exact hS) ?_
                  simp only [Act.put, List.setIfInBounds_toArray, List.set_cons_succ, List.set_cons_zero]
                  refine wpAnyH_take_d 18 (some 87) (.int .i64 k) rfl (by kernel_rfl) (by kernel_rfl) (by kernel_rfl) (by kernel_rfl) rfl (fun _ _ _ h => h) (fun _ _ => by kernel_rfl) (by exact hS) ?_
                  simp only [Act.put, List.setIfInBounds_toArray, List.set_cons_succ, List.set_cons_zero]
                  refine wpAnyH_take_d 19 (some 88) (.pointer (some ⟨ob, off + k * 2, none⟩)) rfl (by kernel_rfl) (by kernel_rfl) (by kernel_rfl) (by kernel_rfl) rfl (fun _ _ _ h => h) (fun w' h => exec_indexAddrS rfl rfl rfl hkl2 Tryd.underlying23 szOp2) (by exact hS) ?_
                  simp only [Act.put, List.setIfInBounds_toArray, List.set_cons_succ, List.set_cons_zero]
                  refine wpAnyH_take_d 20 (some 89) (.pointer (some ⟨ob, off + k * 2 + 1, none⟩)) rfl (by kernel_rfl) (by kernel_rfl) (by kernel_rfl) (by kernel_rfl) rfl (fun _ _ _ h => h) (fun _ _ => by kernel_rfl) (by exact hS) ?_
                  simp only [Act.put, List.setIfInBounds_toArray, List.set_cons_succ, List.set_cons_zero]
                  refine wpAnyH_take_d 21 (some 90) (.int .i64 N) rfl (by kernel_rfl) (by kernel_rfl) (by kernel_rfl) (by kernel_rfl) rfl (fun _ _ _ h => h) (fun w' h => exec_load_cell rfl rfl (hN w' h) Tryd.underlying3 rfl) (by exact hS) ?_
                  simp only [Act.put, List.setIfInBounds_toArray, List.set_cons_succ, List.set_cons_zero]
                  refine wpAnyH_call 15 (some 84) 11 #[.pointer (some ⟨ab, 0, none⟩), .int .i64 N] rfl (by kernel_rfl) (by kernel_rfl) rfl (by kernel_rfl) (give_any x3.drew ok2 N) ?_
                  rintro e w4 ⟨rfl, x4, o4⟩
                  have xc4 := xc3.drew.other o4 hcb.symm
                  have hS : Below W.heap.size W w4 := hS.trans (o4.below hab' x3.drew.lt)
                  refine ⟨_, rfl, hS, ?_⟩
                  simp only [Act.put, List.setIfInBounds_toArray, List.set_cons_succ, List.set_cons_zero]
                  refine wpAnyH_call 22 (some 91) 11 #[.pointer (some ⟨cb, 0, none⟩), .int .i64 N] rfl (by kernel_rfl) (by kernel_rfl) rfl (by kernel_rfl) (give_any xc4 ok2 N) ?_
                  rintro e w5 ⟨rfl, xc5, o5⟩
                  have x5 := x4.other o5 hcb
                  have hS : Below W.heap.size W w5 := hS.trans (o5.below (by omega) xc4.lt)
                  refine ⟨_, rfl, hS, ?_⟩
                  simp only [Act.put, List.setIfInBounds_toArray, List.set_cons_succ, List.set_cons_zero]
                  obtain ⟨ok5, -, -⟩ := giveR_ok ok2 N
                  refine wpAnyH_take_d 23 (some 92) (.bool false) rfl (by kernel_rfl) (by kernel_rfl) (by kernel_rfl) (by kernel_rfl) rfl (fun _ _ _ h => h) (fun w' h => exec_intneq rfl rfl rfl (by simp)) (by exact hS) ?_
                  simp only [Act.put, List.setIfInBounds_toArray, List.set_cons_succ, List.set_cons_zero]
                  refine wpAnyH_take_d 24 (some 93) (.bool false) rfl (by kernel_rfl) (by kernel_rfl) (by kernel_rfl) (by kernel_rfl) rfl (fun _ _ _ h => h) (fun _ _ => by kernel_rfl) (by exact hS) ?_
                  simp only [Act.put, List.setIfInBounds_toArray, List.set_cons_succ, List.set_cons_zero]
                  refine wpAnyH_done (by kernel_rfl) ?_ _
                  have bw5 : Below W.heap.size W w5 := hS
                  generalize (giveR A N).2 = A5 at x5 xc5 ok5
                  generalize (giveR A N).1 = g5
                  clear x3 xc3 ok2 bw3 x4 xc4 o4 o5 hS
                  have hf := free_any xc5 ok5
                  go_wp2_with fail
                  refine Calls.mono hf ?_
                  rintro e w6 ⟨rfl, b6⟩
                  have x6 := x5.below b6
                  have xc6 := xc5.below b6
                  have bw6 := bw5.trans (b6.mono bw5.size)
                  have hst := settle_any x6
                  clear hf b6 x5 xc5 bw5
                  go_wp2_with fail
                  refine Calls.mono hst ?_
                  rintro e w7 ⟨rfl, x7, o7⟩
                  have xc7 := xc6.other o7 hcb.symm
                  have bw7 := bw6.trans (o7.below hab' x6.lt)
                  obtain ⟨ok7, -⟩ := ok5.settle
                  have htk := take_any x7 ok7 (hT.mono bw7)
                  clear hst o7 x6 xc6 bw6
                  go_wp2_with fail
                  refine Calls.mono htk ?_
                  rintro e w8 h8
                  obtain ⟨A8, r1, r2, rfl, x8, ok8, xc8, bw8⟩ : ∃ A8 r1 r2, e = .returned (.tuple #[.int .i64 r1, .int .i64 r2]) ∧ AlAt w8 ab A8 ∧ A8.Ok ∧ AlAt w8 cb A5 ∧ Below W.heap.size W w8 := by
                    rcases h8 with ⟨-, e8, b8⟩ | ⟨c8, hf8, hc8, hl8, e8, y8, o8⟩
                    · exact ⟨_, _, _, e8, x7.below b8, ok7, xc7.below b8, bw7.trans (b8.mono bw7.size)⟩
                    · exact ⟨_, _, _, e8, y8, (ok7.take hc8 hl8 hf8).1, xc7.other o8 hcb.symm, bw7.trans (o8.below hab' x7.lt)⟩
                  have hf2 := free_any xc8 ok5
                  clear htk h8 x7 xc7 bw7
                  go_wp2_with fail
                  refine Calls.mono hf2 ?_
                  rintro e w9 ⟨rfl, b9⟩
                  have x9 := x8.below b9
                  have xc9 := xc8.below b9
                  have bw9 := bw8.trans (b9.mono bw8.size)
                  obtain ⟨b', off', eb', -, cK9, -⟩ := w1.get bw9 hlt
                  injection eb' with eb'; injection eb' with e1 e2
                  subst e1; subst e2
                  generalize (opAt z1 k).k = K at cK9
                  clear hf2 b9 x8 xc8 bw8
                  by_cases hK : K.tmod 2 = 0
                  · have hK2 : (K.tmod 2 == 0) = true := by simpa using hK
                    clear hK
                    go_wp2
                    go_roundw
                    case rel => exact ⟨k + 1, cb, A5, by omega, by omega, by go_num, rfl, by omega, xc9, ok5, bw9⟩
                    case measure => simp [intOf]; omega
                  · have hK2 : (K.tmod 2 == 0) = false := by simpa using hK
                    clear hK
                    go_wp2
                    go_roundw
                    case rel => exact ⟨k + 1, ab, A8, by omega, by omega, by go_num, rfl, hab', x9, ok8, bw9⟩
                    case measure => simp [intOf]; omega
                · have xc2 := xc1.other o2 hcb.symm
                  have bw2 := bw1.trans (o2.below hab' y1.lt)
                  have htk2 := take_ok xc2 okr (hT.mono bw2) hf hc hl
                  clear htk y1 xc1 bw1 o2
                  go_wp2_with fail
                  refine Calls.mono htk2 ?_
                  rintro e w3 ⟨rfl, xc3, o3⟩
                  have x3 := y2.other o3 hcb
                  have bw3 := bw2.trans (o3.below (by omega) xc2.lt)
                  have ok2 := (okr.take hc hl hf).1
                  clear htk2 y2 xc2 bw2 o3 hf hc hl
                  have hN := fun (w : World) (hb : Below W.heap.size W w) => atN w1 hlt hb
                  have hkl2 : k < z1.length := hlt
                  obtain ⟨N, hNe⟩ : ∃ N, (opAt z1 k).id = N := ⟨_, rfl⟩
                  rw [hNe] at hN
                  clear hNe
                  go_wp2_with fail
                  have hS : Below W.heap.size W w3.drew := bw3.drew
                  refine wp_region_held_drew (S := fun w' => Below W.heap.size W w') mixed hS (fun _ => ?_)
                  show wpAnyH _ _ _ _ _ 25 (Array.replicate 25 false) _ _
                  refine wpAnyH_take_d 0 (some 69) (.int .i64 c) rfl (by kernel_rfl) (by kernel_rfl) (by kernel_rfl) (by kernel_rfl) rfl (fun _ _ _ h => h) (fun _ _ => by kernel_rfl) (by exact hS) ?_
                  simp only [Act.put, List.setIfInBounds_toArray, List.set_cons_succ, List.set_cons_zero]
                  refine wpAnyH_take_d 1 (some 70) (.int .i64 c) rfl (by kernel_rfl) (by kernel_rfl) (by kernel_rfl) (by kernel_rfl) rfl (fun _ _ _ h => h) (fun _ _ => by kernel_rfl) (by exact hS) ?_
                  simp only [Act.put, List.setIfInBounds_toArray, List.set_cons_succ, List.set_cons_zero]
                  refine wpAnyH_take_d 2 (some 71) (.bool false) rfl (by kernel_rfl) (by kernel_rfl) (by kernel_rfl) (by kernel_rfl) rfl (fun _ _ _ h => h) (fun w' h => exec_intneq rfl rfl rfl (by simp)) (by exact hS) ?_
                  simp only [Act.put, List.setIfInBounds_toArray, List.set_cons_succ, List.set_cons_zero]
                  refine wpAnyH_take_d 3 (some 72) (.bool false) rfl (by kernel_rfl) (by kernel_rfl) (by kernel_rfl) (by kernel_rfl) rfl (fun _ _ _ h => h) (fun _ _ => by kernel_rfl) (by exact hS) ?_
                  simp only [Act.put, List.setIfInBounds_toArray, List.set_cons_succ, List.set_cons_zero]
                  refine wpAnyH_take_d 4 (some 73) (.int .i64 0) rfl (by kernel_rfl) (by kernel_rfl) (by kernel_rfl) (by kernel_rfl) rfl (fun _ _ _ h => h) (fun _ _ => by kernel_rfl) (by exact hS) ?_
                  simp only [Act.put, List.setIfInBounds_toArray, List.set_cons_succ, List.set_cons_zero]
                  refine wpAnyH_take_d 5 (some 74) (.int .i64 0) rfl (by kernel_rfl) (by kernel_rfl) (by kernel_rfl) (by kernel_rfl) rfl (fun _ _ _ h => h) (fun _ _ => by kernel_rfl) (by exact hS) ?_
                  simp only [Act.put, List.setIfInBounds_toArray, List.set_cons_succ, List.set_cons_zero]
                  refine wpAnyH_take_d 6 (some 75) (.bool false) rfl (by kernel_rfl) (by kernel_rfl) (by kernel_rfl) (by kernel_rfl) rfl (fun _ _ _ h => h) (fun w' h => exec_intneq rfl rfl rfl (by simp)) (by exact hS) ?_
                  simp only [Act.put, List.setIfInBounds_toArray, List.set_cons_succ, List.set_cons_zero]
                  refine wpAnyH_take_d 7 (some 76) (.bool false) rfl (by kernel_rfl) (by kernel_rfl) (by kernel_rfl) (by kernel_rfl) rfl (fun _ _ _ h => h) (fun _ _ => by kernel_rfl) (by exact hS) ?_
                  simp only [Act.put, List.setIfInBounds_toArray, List.set_cons_succ, List.set_cons_zero]
                  refine wpAnyH_take_d 8 (some 77) (.bool false) rfl (by kernel_rfl) (by kernel_rfl) (by kernel_rfl) (by kernel_rfl) rfl (fun _ _ _ h => h) (fun _ _ => by kernel_rfl) (by exact hS) ?_
                  simp only [Act.put, List.setIfInBounds_toArray, List.set_cons_succ, List.set_cons_zero]
                  refine wpAnyH_take_d 9 (some 78) (.pointer (some ⟨ab, 0, none⟩)) rfl (by kernel_rfl) (by kernel_rfl) (by kernel_rfl) (by kernel_rfl) rfl (fun _ _ _ h => h) (fun _ _ => by kernel_rfl) (by exact hS) ?_
                  simp only [Act.put, List.setIfInBounds_toArray, List.set_cons_succ, List.set_cons_zero]
                  refine wpAnyH_take_d 10 (some 79) (.slice (some ⟨ob, off, none⟩) z1.length pcap) rfl (by kernel_rfl) (by kernel_rfl) (by kernel_rfl) (by kernel_rfl) rfl (fun _ _ _ h => h) (fun _ _ => by kernel_rfl) (by exact hS) ?_
                  simp only [Act.put, List.setIfInBounds_toArray, List.set_cons_succ, List.set_cons_zero]
                  refine wpAnyH_take_d 11 (some 80) (.int .i64 k) rfl (by kernel_rfl) (by kernel_rfl) (by kernel_rfl) (by kernel_rfl) rfl (fun _ _ _ h => h) (fun _ _ => by kernel_rfl) (by exact hS) ?_
                  simp only [Act.put, List.setIfInBounds_toArray, List.set_cons_succ, List.set_cons_zero]
                  refine wpAnyH_take_d 12 (some 81) (.pointer (some ⟨ob, off + k * 2, none⟩)) rfl (by kernel_rfl) (by kernel_rfl) (by kernel_rfl) (by kernel_rfl) rfl (fun _ _ _ h => h) (fun w' h => exec_indexAddrS rfl rfl rfl hkl2 Tryd.underlying23 szOp2) (by exact hS) ?_
                  simp only [Act.put, List.setIfInBounds_toArray, List.set_cons_succ, List.set_cons_zero]
                  refine wpAnyH_take_d 13 (some 82) (.pointer (some ⟨ob, off + k * 2 + 1, none⟩)) rfl (by kernel_rfl) (by kernel_rfl) (by kernel_rfl) (by kernel_rfl) rfl (fun _ _ _ h => h) (fun _ _ => by kernel_rfl) (by exact hS) ?_
                  simp only [Act.put, List.setIfInBounds_toArray, List.set_cons_succ, List.set_cons_zero]
                  refine wpAnyH_take_d 14 (some 83) (.int .i64 N) rfl (by kernel_rfl) (by kernel_rfl) (by kernel_rfl) (by kernel_rfl) rfl (fun _ _ _ h => h) (fun w' h => exec_load_cell rfl rfl (hN w' h) Tryd.underlying3 rfl) (by exact hS) ?_
                  simp only [Act.put, List.setIfInBounds_toArray, List.set_cons_succ, List.set_cons_zero]
                  refine wpAnyH_take_d 16 (some 85) (.pointer (some ⟨cb, 0, none⟩)) rfl (by kernel_rfl) (by kernel_rfl) (by kernel_rfl) (by kernel_rfl) rfl (fun _ _ _ h => h) (fun _ _ => by kernel_rfl) (by exact hS) ?_
                  simp only [Act.put, List.setIfInBounds_toArray, List.set_cons_succ, List.set_cons_zero]
                  refine wpAnyH_take_d 17 (some 86) (.slice (some ⟨ob, off, none⟩) z1.length pcap) rfl (by kernel_rfl) (by kernel_rfl) (by kernel_rfl) (by kernel_rfl) rfl (fun _ _ _ h => h) (fun _ _ => by kernel_rfl) (by exact hS) ?_
                  simp only [Act.put, List.setIfInBounds_toArray, List.set_cons_succ, List.set_cons_zero]
                  refine wpAnyH_take_d 18 (some 87) (.int .i64 k) rfl (by kernel_rfl) (by kernel_rfl) (by kernel_rfl) (by kernel_rfl) rfl (fun _ _ _ h => h) (fun _ _ => by kernel_rfl) (by exact hS) ?_
                  simp only [Act.put, List.setIfInBounds_toArray, List.set_cons_succ, List.set_cons_zero]
                  refine wpAnyH_take_d 19 (some 88) (.pointer (some ⟨ob, off + k * 2, none⟩)) rfl (by kernel_rfl) (by kernel_rfl) (by kernel_rfl) (by kernel_rfl) rfl (fun _ _ _ h => h) (fun w' h => exec_indexAddrS rfl rfl rfl hkl2 Tryd.underlying23 szOp2) (by exact hS) ?_
                  simp only [Act.put, List.setIfInBounds_toArray, List.set_cons_succ, List.set_cons_zero]
                  refine wpAnyH_take_d 20 (some 89) (.pointer (some ⟨ob, off + k * 2 + 1, none⟩)) rfl (by kernel_rfl) (by kernel_rfl) (by kernel_rfl) (by kernel_rfl) rfl (fun _ _ _ h => h) (fun _ _ => by kernel_rfl) (by exact hS) ?_
                  simp only [Act.put, List.setIfInBounds_toArray, List.set_cons_succ, List.set_cons_zero]
                  refine wpAnyH_take_d 21 (some 90) (.int .i64 N) rfl (by kernel_rfl) (by kernel_rfl) (by kernel_rfl) (by kernel_rfl) rfl (fun _ _ _ h => h) (fun w' h => exec_load_cell rfl rfl (hN w' h) Tryd.underlying3 rfl) (by exact hS) ?_
                  simp only [Act.put, List.setIfInBounds_toArray, List.set_cons_succ, List.set_cons_zero]
                  refine wpAnyH_call 15 (some 84) 11 #[.pointer (some ⟨ab, 0, none⟩), .int .i64 N] rfl (by kernel_rfl) (by kernel_rfl) rfl (by kernel_rfl) (give_any x3.drew ok2 N) ?_
                  rintro e w4 ⟨rfl, x4, o4⟩
                  have xc4 := xc3.drew.other o4 hcb.symm
                  have hS : Below W.heap.size W w4 := hS.trans (o4.below hab' x3.drew.lt)
                  refine ⟨_, rfl, hS, ?_⟩
                  simp only [Act.put, List.setIfInBounds_toArray, List.set_cons_succ, List.set_cons_zero]
                  refine wpAnyH_call 22 (some 91) 11 #[.pointer (some ⟨cb, 0, none⟩), .int .i64 N] rfl (by kernel_rfl) (by kernel_rfl) rfl (by kernel_rfl) (give_any xc4 ok2 N) ?_
                  rintro e w5 ⟨rfl, xc5, o5⟩
                  have x5 := x4.other o5 hcb
                  have hS : Below W.heap.size W w5 := hS.trans (o5.below (by omega) xc4.lt)
                  refine ⟨_, rfl, hS, ?_⟩
                  simp only [Act.put, List.setIfInBounds_toArray, List.set_cons_succ, List.set_cons_zero]
                  obtain ⟨ok5, -, -⟩ := giveR_ok ok2 N
                  refine wpAnyH_take_d 23 (some 92) (.bool false) rfl (by kernel_rfl) (by kernel_rfl) (by kernel_rfl) (by kernel_rfl) rfl (fun _ _ _ h => h) (fun w' h => exec_intneq rfl rfl rfl (by simp)) (by exact hS) ?_
                  simp only [Act.put, List.setIfInBounds_toArray, List.set_cons_succ, List.set_cons_zero]
                  refine wpAnyH_take_d 24 (some 93) (.bool false) rfl (by kernel_rfl) (by kernel_rfl) (by kernel_rfl) (by kernel_rfl) rfl (fun _ _ _ h => h) (fun _ _ => by kernel_rfl) (by exact hS) ?_
                  simp only [Act.put, List.setIfInBounds_toArray, List.set_cons_succ, List.set_cons_zero]
                  refine wpAnyH_done (by kernel_rfl) ?_ _
                  have bw5 : Below W.heap.size W w5 := hS
                  generalize (giveR (A.take c) N).2 = A5 at x5 xc5 ok5
                  generalize (giveR (A.take c) N).1 = g5
                  clear x3 xc3 ok2 bw3 x4 xc4 o4 o5 hS
                  have hf := free_any xc5 ok5
                  go_wp2_with fail
                  refine Calls.mono hf ?_
                  rintro e w6 ⟨rfl, b6⟩
                  have x6 := x5.below b6
                  have xc6 := xc5.below b6
                  have bw6 := bw5.trans (b6.mono bw5.size)
                  have hst := settle_any x6
                  clear hf b6 x5 xc5 bw5
                  go_wp2_with fail
                  refine Calls.mono hst ?_
                  rintro e w7 ⟨rfl, x7, o7⟩
                  have xc7 := xc6.other o7 hcb.symm
                  have bw7 := bw6.trans (o7.below hab' x6.lt)
                  obtain ⟨ok7, -⟩ := ok5.settle
                  have htk := take_any x7 ok7 (hT.mono bw7)
                  clear hst o7 x6 xc6 bw6
                  go_wp2_with fail
                  refine Calls.mono htk ?_
                  rintro e w8 h8
                  obtain ⟨A8, r1, r2, rfl, x8, ok8, xc8, bw8⟩ : ∃ A8 r1 r2, e = .returned (.tuple #[.int .i64 r1, .int .i64 r2]) ∧ AlAt w8 ab A8 ∧ A8.Ok ∧ AlAt w8 cb A5 ∧ Below W.heap.size W w8 := by
                    rcases h8 with ⟨-, e8, b8⟩ | ⟨c8, hf8, hc8, hl8, e8, y8, o8⟩
                    · exact ⟨_, _, _, e8, x7.below b8, ok7, xc7.below b8, bw7.trans (b8.mono bw7.size)⟩
                    · exact ⟨_, _, _, e8, y8, (ok7.take hc8 hl8 hf8).1, xc7.other o8 hcb.symm, bw7.trans (o8.below hab' x7.lt)⟩
                  have hf2 := free_any xc8 ok5
                  clear htk h8 x7 xc7 bw7
                  go_wp2_with fail
                  refine Calls.mono hf2 ?_
                  rintro e w9 ⟨rfl, b9⟩
                  have x9 := x8.below b9
                  have xc9 := xc8.below b9
                  have bw9 := bw8.trans (b9.mono bw8.size)
                  obtain ⟨b', off', eb', -, cK9, -⟩ := w1.get bw9 hlt
                  injection eb' with eb'; injection eb' with e1 e2
                  subst e1; subst e2
                  generalize (opAt z1 k).k = K at cK9
                  clear hf2 b9 x8 xc8 bw8
                  by_cases hK : K.tmod 2 = 0
                  · have hK2 : (K.tmod 2 == 0) = true := by simpa using hK
                    clear hK
                    go_wp2
                    go_roundw
                    case rel => exact ⟨k + 1, cb, A5, by omega, by omega, by go_num, rfl, by omega, xc9, ok5, bw9⟩
                    case measure => simp [intOf]; omega
                  · have hK2 : (K.tmod 2 == 0) = false := by simpa using hK
                    clear hK
                    go_wp2
                    go_roundw
                    case rel => exact ⟨k + 1, ab, A8, by omega, by omega, by go_num, rfl, hab', x9, ok8, bw9⟩
                    case measure => simp [intOf]; omega
              · go_wp2
                go_ret
                exact ⟨rfl, bw⟩
            · go_wp2
              go_ret
              exact ⟨rfl, bw⟩

/-! ### the row -/
theorem laidOut : laidOutB Tryd.prog = true := by kernel_rfl
theorem bytesInt : Tryd.prog.bytesOf 3 = 8 := by kernel_rfl
set_option maxRecDepth 100000 in
theorem lifted (os : Os) (started : os.Started) (H : Type) (enc : TypeId × Value → H) :
    ReturnsInHanded {} Tryd.checked os 5 .any (fun w args => (Rows.allocCopiesSpec.pre enc Tryd.prog Tryd.f5 [] false w args ∧ laidMetH Tryd.prog laidL w) ∧ sizedMet enc Tryd.prog Tryd.f5 (OpenSpec.ofChange Rows.allocCopiesSpec) false w args) (Rows.allocCopiesSpec.post enc Tryd.prog Tryd.f5 false true false false) := by
  refine returnsInHanded_of_change_and (C := Tryd.checked) (X := fun w _ => laidMetH Tryd.prog laidL w) (fun _ _ _ hh h => h.of_heap hh) own started (by kernel_rfl) Tryd.func5
    (ChangeSpec.witness_shaped (enc := enc) (C := Tryd.checked) (os := os) (X := fun w _ => laidMetH Tryd.prog laidL w) false (World.doorLaid Tryd.prog 14 os) #[.slice none 0 0, .slice none 0 0] 8 rfl (World.shaped_of_RefB (by kernel_rfl) (by kernel_rfl)) (by kernel_rfl) (by kernel_rfl) (by kernel_rfl) (door_met os _)) ?_
  intro W base args ds gs before hval0 hW hcnd hsz0 hL _
  have hval : ∀ (j : Nat) t v, Tryd.f5.params[j]? = some t → args[j]? = some v → Value.okWide Tryd.prog W .any base t v := hval0
  have hW' := hW
  obtain ⟨p, q, hA0, hV, rfl, hfz, hnd⟩ := hW
  have hA : DataW.TrodAll enc Tryd.prog W 0 (fun _ => true) true Tryd.f5.params.toList args.toList ds p := hA0
  have hsz : (DataW.weightsEach Tryd.prog (Tryd.f5.params.toList ++ Rows.allocCopiesSpec.plain.varTypes Tryd.prog) (ds ++ gs)).all (· ≤ reachBytes) = true := hsz0
  rw [Tryd.params5] at hA hval hsz
  obtain ⟨v0, vs0, d0, ds0, p0, q0, hargs, rfl, rfl, h0, r0⟩ := trodAll_cons hA
  obtain ⟨v1, vs1, d1, ds1, p1, q1, rfl, rfl, rfl, h1, r1⟩ := trodAll_cons r0
  obtain ⟨rfl, rfl, rfl⟩ := trodAll_nil r1
  obtain rfl : args = #[v0, v1] := by cases args; simp_all
  obtain ⟨rfl, rfl⟩ := trodVars_none hV
  have k0 := h0
  have lt0 := args_lt k0
  obtain ⟨z0, w0⟩ := ints_arg Tryd.underlying22 Tryd.underlying3 (by kernel_rfl) (hval 0 22 v0 rfl rfl) (fun el sp e => by subst e; have := sized_slice hsz (j := 0) (t := 22) (e := 3) rfl rfl Tryd.underlying22; rwa [bytesInt] at this) h0
  have k1 := h1
  have lt1 := args_lt k1
  obtain ⟨z1, w1⟩ := ops_arg (hval 1 23 v1 rfl rfl) (fun k hk => of_decide_eq_true (List.all_eq_true.1 hsz _ (DataW.weights_mem_each (j := 1) (t := 23) (d := d1) rfl rfl k hk))) h1
  clear hA0 hval0 hsz0
  refine (walk v0 z0 v1 z1 W w0 w1 (tab_of_laid hL)).mono fun e W' ⟨he, bel⟩ => ?_
  subst he
  exact ⟨_, rfl, _, _, _, [], _, [], hW', trodAll_mk1 (shut_bool Tryd.underlying4 _), (trodAll_cons_mk (Below.trod laidOut (by kernel_rfl) (of_decide_eq_true (by kernel_rfl)) k0 bel lt0) (trodAll_cons_mk (Below.trod laidOut (by kernel_rfl) (of_decide_eq_true (by kernel_rfl)) k1 bel lt1) trodAll_mk0)), rfl, bel.frame _, fun h => by cases h⟩

theorem over : Rows.allocCopiesRow.holds Tryd.pinned (OpenSpec.ofChange Rows.allocCopiesSpec) :=
  OpenClaim.holds_of_wide 5 Tryd.f5 rfl rfl rfl rfl rfl rfl rfl ⟨rfl, rfl, rfl, rfl, rfl⟩ rfl rfl rfl rfl rfl (by kernel_rfl) Tryd.func5 (by kernel_rfl)
    (of_decide_eq_true (by kernel_rfl)) (by unfold Func.isWrapper; first | (rw [if_pos (by decide +kernel)]; kernel_rfl) | (rw [if_neg (by decide +kernel)]; exact ⟨rfl, rfl⟩))
    (fun os started H enc _ => lifted os started H enc)
end Go.Proofs.YtfmhlkhalahoaaaDoor.allocCopies

namespace Go.Proofs.YtfmhlkhalahoaaaDoor
/-- The law returns true at every input at which the table of math/bits is as the program's text lays it; that tie is part of the card. -/
theorem allocCopies_holds : Rows.AllocCopiesCardSaid :=
  Claim7.holds_tied_plain_at .later [] [.data] true Rows.allocCopiesCard.stood.harness false
    allocCopies.over (fun _ h => by cases h) (by kernel_rfl) (fun _ h => by cases h) allocCopies_row_tie rfl ⟨rfl, rfl⟩ (by kernel_rfl) rfl
    (fun f fn hf hfn => by
      obtain rfl : f = 5 := Option.some.inj ((show Tryd.prog.funcNamed "cistern/cisternlaw09.AllocCopies" = some 5 by kernel_rfl).symm.trans hf) |>.symm
      obtain rfl : fn = Tryd.f5 := (Option.some.inj (Tryd.func5.symm.trans hfn)).symm
      exact ⟨by kernel_rfl, fun j t ht => by
        rw [Tryd.params5] at ht
        have hm : t ∈ [22, 23] := by simpa using Array.mem_of_getElem? ht
        have hall : ([22, 23].all fun u => !Tryd.prog.wantsStandIn u) = true := by kernel_rfl
        exact (show Tryd.prog.wantsStandIn t = false by simpa using List.all_eq_true.1 hall t hm)⟩)
    (by kernel_rfl)
end Go.Proofs.YtfmhlkhalahoaaaDoor

