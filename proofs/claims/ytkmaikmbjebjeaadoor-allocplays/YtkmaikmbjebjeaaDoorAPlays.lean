/- For all scripts of calls an allocator answers what the document says: the law cisternlaw09.AllocPlays returns true at every input. Condition: the table of math/bits is as the program's text lays it (tied). -/
import Derived.Test.YtkmaikmbjebjeaaDoorADoc7
import Derived.Test.YtkmaikmbjebjeaaDoorTie
import Derived.Test.YtkmaikmbjebjeaaDoorCards
import Derived.SevenTiedAt
import Derived.Deep.CutRange
import Derived.Deep.Cut
namespace Go.Proofs.YtkmaikmbjebjeaaDoor.allocPlays
set_option maxRecDepth 20000
open Go.RowKit Go.ChangeShapes Go.WideShapes Go.ChangeAt

theorem own : ownKnob Tryd.prog.godebug = none := by kernel_rfl
theorem atN {W : World} {b off pcap : Nat} {l : List OpQ} (h : OpsArg W (.slice (some ⟨b, off, Option.none⟩) l.length pcap) l) {k : Nat} (hk : k < l.length) {w : World} (hb : Below W.heap.size W w) : w.cell? ⟨b, off + k * 2 + 1, Option.none⟩ = some (.int .i64 (opAt l k).id) := by
  obtain ⟨b', off', e, -, -, c⟩ := h.get hb hk
  injection e with e; injection e with e1 e2
  subst e1; subst e2; exact c
set_option maxHeartbeats 12800000 in
set_option maxRecDepth 400000 in
theorem walk (a0 : Int) (_ : (Lit.int .i64 a0).wf = true) (v0 : Value) (z0 : List Int) (v1 : Value) (z1 : List OpQ) (W : World) (w0 : IntsArg W v0 z0) (w1 : OpsArg W v1 z1) (hT : tabG W) :
    Calls Tryd.prog 3 #[.int .i64 a0, v0, v1] W fun e w' => e = .returned (.bool true) ∧ Below W.heap.size W w' := by
  obtain ⟨ao, cap, rfl, hlen, -⟩ := w0.1.form
  obtain ⟨po, pcap, rfl, hplen⟩ := w1.form
  obtain ⟨B, hB⟩ : ∃ B : Bool, B = decide (64 < a0 ∧ a0 ≤ 4096) := ⟨_, rfl⟩
  obtain ⟨N, hN⟩ : ∃ N : Int, N = if B = true then 64 else a0 := ⟨_, rfl⟩
  have HB := Lib.hid hB
  have HN := Lib.hid hN
  clear hN hB
  go_enter Tryd.func3, Tryd.ntmps3
  go_wp2_with fail
  refine (aknown_any hT).mono ?_
  rintro e wa ⟨rfl, ba⟩
  go_wp2_with fail
  refine (nobody_any wa).mono ?_
  rintro e _ ⟨rfl, rfl⟩
  go_wp2_with fail
  refine (free_nil wa).mono ?_
  rintro e _ ⟨rfl, rfl⟩
  go_wp2_with fail
  refine (nobody_any wa).mono ?_
  rintro e _ ⟨rfl, rfl⟩
  go_wp2_with fail
  refine (give_nil wa 0).mono ?_
  rintro e _ ⟨rfl, rfl⟩
  go_wp2_with fail
  refine (nobody_any wa).mono ?_
  rintro e _ ⟨rfl, rfl⟩
  go_wp2_with fail
  refine (copy_nil wa).mono ?_
  rintro e _ ⟨rfl, rfl⟩
  go_upto_region 3 with fail
  go_cut [41] from 36 (fun s wx => s = .bool B ∧ wx = wa)
  case first =>
    by_cases q1 : 64 < a0
    · by_cases q2 : a0 ≤ 4096
      · obtain rfl : B = true := by rw [HB.out]; exact decide_eq_true ⟨q1, q2⟩
        go_wp2
        go_meet
        exact ⟨rfl, rfl⟩
      · obtain rfl : B = false := by rw [HB.out]; exact decide_eq_false (fun h => q2 h.2)
        go_wp2
        go_meet
        exact ⟨rfl, rfl⟩
    · obtain rfl : B = false := by rw [HB.out]; exact decide_eq_false (fun h => q1 h.1)
      go_wp2
      go_meet
      exact ⟨rfl, rfl⟩
  case rest =>
    obtain ⟨rfl, rfl⟩ := hcut
    go_upto_if 41 with fail
    go_cut [0] from 36 (fun s wx => s = .int .i64 N ∧ wx = wc)
    case first =>
      cases B
      · obtain rfl : N = a0 := HN.out
        go_wp2
        go_meet
        exact ⟨rfl, rfl⟩
      · obtain rfl : N = 64 := HN.out
        go_wp2
        go_meet
        exact ⟨rfl, rfl⟩
    obtain ⟨rfl, rfl⟩ := hcut
    clear HN
    have hbz := build_zero wc
    obtain ⟨v2, w2, hr2, o2, b2⟩ := copy_ints w0 ba
    obtain ⟨lo, lm, lc, rfl, hlm⟩ := o2.form'
    have HR2 := Lib.hid hr2
    have hub := World.ownsRow.lt o2
    have nin : OwnN wc.heap.size w2 (.slice lo lm lc) lm := ⟨_, hlm.out.symm, o2⟩
    have hsz := ba.size
    have bw2 := ba.trans (b2.mono ba.size)
    have rd2 := o2.reads' hlen
    have hl64 : lm ≤ 9223372036854775807 := by rw [hlm.out]; exact hlen
    clear hr2 o2 b2 hlm
    rcases new_both N z0 with ⟨c, hc, hd⟩ | ⟨A, ok, hc, hd⟩
    · have hx := hc _ _ rd2
      clear hc rd2
      go_wp2_with (with_reducible refine wpList_append_own rfl (.tmp 42) (.tmp 43) 22 22 rfl (.slice (some ⟨wc.heap.size, 0, none⟩) 0 0) (.slice ao z0.length cap) (.slice lo lm lc) rfl rfl HR2.out ?_)
      refine Calls.mono hx ?_
      rintro e w3 ⟨rfl, b3⟩
      have bw3 := bw2.trans (b3.mono bw2.size)
      have hy := hd _ _ (w0.reads bw3)
      obtain ⟨zs, hz1, hz2⟩ := nin
      have nin : OwnN wc.heap.size w3 (.slice lo lm lc) lm := ⟨zs, hz1, hz2.below b3⟩
      clear hx hd bw2 b3 hz1 hz2
      go_wp2_with fail
      refine Calls.mono hy ?_
      rintro e w4 ⟨rfl, b4⟩
      have HP : Below W.heap.size W w4 := bw3.trans (b4.mono bw3.size)
      obtain ⟨zs, hz1, hz2⟩ := nin
      have nin : OwnN wc.heap.size w4 (.slice lo lm lc) lm := ⟨zs, hz1, hz2.below b4⟩
      clear hy bw3 b4 hz1 hz2
      go_wp2
      go_loopw [12] (fun iv wr => ∃ i : Nat, i ≤ lm ∧ iv = .int .i64 i ∧ OwnN wc.heap.size wr (.slice lo lm lc) lm ∧ Below W.heap.size W wr) (fun iv _ => lm - (intOf iv).toNat)
      case atStart => exact ⟨0, Nat.zero_le _, rfl, nin, HP⟩
      case round =>
        clear nin HP
        obtain ⟨i, hi, rfl, nin, HP⟩ := hrel
        by_cases hlt : i < lm
        · obtain ⟨g, y, rfl, hg, cc, fz, n2⟩ := nin.store hlt 0
          have hgu := hub g rfl
          have HP2 : Below W.heap.size W (wr.setCell ⟨g, i, none⟩ (.int .i64 0)) := HP.setCell (p := ⟨g, i, none⟩) (Nat.le_trans hsz hg) _
          clear nin HP
          go_wp2
          go_roundw
          case rel => exact ⟨i + 1, by omega, by go_num, n2, HP2⟩
          case measure => simp [intOf]; omega
        · obtain rfl : i = lm := by omega
          clear nin
          go_wp2
          go_ret
          exact ⟨rfl, HP⟩
    · have hx := hc _ _ rd2
      clear hc rd2
      go_wp2_with (with_reducible refine wpList_append_own rfl (.tmp 42) (.tmp 43) 22 22 rfl (.slice (some ⟨wc.heap.size, 0, none⟩) 0 0) (.slice ao z0.length cap) (.slice lo lm lc) rfl rfl HR2.out ?_)
      refine Calls.mono hx ?_
      rintro e w3 ⟨ab, rfl, hab, x3, b3⟩
      have bw3 := bw2.trans (b3.mono bw2.size)
      have s23 := b3.size
      have s12 := bw2.size
      have hy := hd _ _ (w0.reads bw3)
      obtain ⟨zs, hz1, hz2⟩ := nin
      have nin : OwnN wc.heap.size w3 (.slice lo lm lc) lm := ⟨zs, hz1, hz2.below b3⟩
      clear hx hd bw2 b3 hz1 hz2
      go_wp2_with fail
      refine Calls.mono hy ?_
      rintro e w4 ⟨rb, rfl, r4, b4⟩
      have HP : AlAt w4 ab A ∧ RS w3.heap.size w4 rb A.n (stA A) A.k ∧ Below W.heap.size W w4 := ⟨x3.below b4, r4, bw3.trans (b4.mono bw3.size)⟩
      obtain ⟨zs, hz1, hz2⟩ := nin
      have nin : OwnN wc.heap.size w4 (.slice lo lm lc) lm := ⟨zs, hz1, hz2.below b4⟩
      clear hy bw3 b4 hz1 hz2 r4 x3
      go_wp2
      go_loopw [12] (fun iv wr => ∃ i : Nat, i ≤ lm ∧ iv = .int .i64 i ∧ OwnN wc.heap.size wr (.slice lo lm lc) lm ∧ AlAt wr ab A ∧ RS w3.heap.size wr rb A.n (stA A) A.k ∧ Below W.heap.size W wr) (fun iv _ => lm - (intOf iv).toNat)
      case atStart => exact ⟨0, Nat.zero_le _, rfl, nin, HP⟩
      case round =>
        clear nin HP
        obtain ⟨i, hi, rfl, nin, HP⟩ := hrel
        by_cases hlt : i < lm
        · obtain ⟨g, y, rfl, hg, cc, fz, n2⟩ := nin.store hlt 0
          have hgu := hub g rfl
          have HP2 : AlAt (wr.setCell ⟨g, i, none⟩ (.int .i64 0)) ab A ∧ RS w3.heap.size (wr.setCell ⟨g, i, none⟩ (.int .i64 0)) rb A.n (stA A) A.k ∧ Below W.heap.size W (wr.setCell ⟨g, i, none⟩ (.int .i64 0)) := ⟨HP.1.keep (Below.heap_setCell _ _ _ _ (by show ab ≠ g; omega)), HP.2.1.low (by omega) _ _, HP.2.2.setCell (p := ⟨g, i, none⟩) (Nat.le_trans hsz hg) _⟩
          clear nin HP
          go_wp2
          go_roundw
          case rel => exact ⟨i + 1, by omega, by go_num, n2, HP2⟩
          case measure => simp [intOf]; omega
        · obtain rfl : i = lm := by omega
          clear nin
          have H : Bo W wr ab rb A := ⟨HP.1, ok, HP.2.1.mono (by omega), by omega, HP.2.2⟩
          obtain ⟨wq, rfl⟩ : ∃ x, x = wr := ⟨_, rfl⟩
          clear HP ok hub
          go_wp2
          go_loopw [8, 13] (fun av iv wr => ∃ (k ab : Nat) (A : Al), k ≤ 150 ∧ k ≤ z1.length ∧ iv = .int .i64 k ∧ av = .pointer (some ⟨ab, 0, none⟩) ∧ Bo W wr ab rb A) (fun _ iv _ => z1.length - (intOf iv).toNat)
          case atStart => exact ⟨0, ab, A, Nat.zero_le _, Nat.zero_le _, rfl, rfl, H⟩
          case round =>
            clear H
            obtain ⟨k, ab, A, hk150, hkl, rfl, rfl, H⟩ := hrel
            by_cases hlt : k < z1.length
            · by_cases h150 : k < 150
              · obtain ⟨ob, off, hoe, hok, cK, -⟩ := w1.get H.bw hlt
                subst hoe
                have hN := fun (w : World) (hb : Below W.heap.size W w) => atN w1 hlt hb
                have hkl2 : k < z1.length := hlt
                obtain ⟨M, hNe⟩ : ∃ M, (opAt z1 k).id = M := ⟨_, rfl⟩
                rw [hNe] at hN
                clear hNe hok
                generalize (opAt z1 k).k = K at cK
                by_cases q1 : K = 1
                · subst q1
                  have e1 : ((1 : Int) == 1) = true := by decide
                  obtain ⟨r1, r2, A', ok', hc, hd⟩ := take_both H.ok
                  have hx := hc _ ab H.x (hT.mono H.bw)
                  go_wp2_with fail
                  refine Calls.mono hx ?_
                  rintro e w3 ⟨rfl, x3, o3⟩
                  have m3 := H.code x3 o3
                  have hy := hd _ w3 rb m3.r
                  clear hx x3 o3 H hc
                  go_wp2_with fail
                  refine Calls.mono hy ?_
                  rintro e w4 ⟨rfl, r4, f4⟩
                  have H4 := m3.doc r4 f4 ok'
                  clear hy r4 f4 m3 hd ok'
                  have hal := alike_any H4.x (hT.mono H4.bw) H4.r H4.ok
                  have HH := Lib.hid H4
                  clear H4
                  go_wp2_with fail
                  refine Calls.mono hal ?_
                  rintro e w9 ⟨rfl, b9⟩
                  have H9 := HH.out.below b9
                  clear hal b9 HH
                  go_wp2
                  go_roundw
                  case rel => exact ⟨k + 1, _, _, by omega, by omega, by go_num, rfl, H9⟩
                  case measure => simp [intOf]; omega
                · by_cases q2 : K = 2
                  · subst q2
                    have e1 : ((2 : Int) == 1) = false := by decide
                    have e2 : ((2 : Int) == 2) = true := by decide
                    obtain ⟨r, A', ok', hc, hd⟩ := give_both H.ok M
                    have hx := hc wr.drew ab H.drew.x (hT.mono H.drew.bw)
                    have hS : Below W.heap.size W wr.drew := H.bw.drew
                    go_wp2_with fail
                    refine wp_region_held_drew (S := fun w' => Below W.heap.size W w') mixed hS (fun _ => ?_)
                    show wpAnyH _ _ _ _ _ 15 (Array.replicate 15 false) _ _
                    refine wpAnyH_take_d 0 (some 115) (.pointer (some ⟨ab, 0, none⟩)) rfl (by kernel_rfl) (by kernel_rfl) (by kernel_rfl) (by kernel_rfl) rfl (fun _ _ _ h => h) (fun _ _ => by kernel_rfl) (by exact hS) ?_
                    simp only [Act.put, List.setIfInBounds_toArray, List.set_cons_succ, List.set_cons_zero]
                    refine wpAnyH_take_d 1 (some 116) (.slice (some ⟨ob, off, none⟩) z1.length pcap) rfl (by kernel_rfl) (by kernel_rfl) (by kernel_rfl) (by kernel_rfl) rfl (fun _ _ _ h => h) (fun _ _ => by kernel_rfl) (by exact hS) ?_
                    simp only [Act.put, List.setIfInBounds_toArray, List.set_cons_succ, List.set_cons_zero]
                    refine wpAnyH_take_d 2 (some 117) (.int .i64 k) rfl (by kernel_rfl) (by kernel_rfl) (by kernel_rfl) (by kernel_rfl) rfl (fun _ _ _ h => h) (fun _ _ => by kernel_rfl) (by exact hS) ?_
                    simp only [Act.put, List.setIfInBounds_toArray, List.set_cons_succ, List.set_cons_zero]
                    refine wpAnyH_take_d 3 (some 118) (.pointer (some ⟨ob, off + k * 2, none⟩)) rfl (by kernel_rfl) (by kernel_rfl) (by kernel_rfl) (by kernel_rfl) rfl (fun _ _ _ h => h) (fun w' h => exec_indexAddrS rfl rfl rfl hkl2 Tryd.underlying23 szOp2) (by exact hS) ?_
                    simp only [Act.put, List.setIfInBounds_toArray, List.set_cons_succ, List.set_cons_zero]
                    refine wpAnyH_take_d 4 (some 119) (.pointer (some ⟨ob, off + k * 2 + 1, none⟩)) rfl (by kernel_rfl) (by kernel_rfl) (by kernel_rfl) (by kernel_rfl) rfl (fun _ _ _ h => h) (fun _ _ => by kernel_rfl) (by exact hS) ?_
                    simp only [Act.put, List.setIfInBounds_toArray, List.set_cons_succ, List.set_cons_zero]
                    refine wpAnyH_take_d 5 (some 120) (.int .i64 M) rfl (by kernel_rfl) (by kernel_rfl) (by kernel_rfl) (by kernel_rfl) rfl (fun _ _ _ h => h) (fun w' h => exec_load_cell rfl rfl (hN _ h) Tryd.underlying3 rfl) (by exact hS) ?_
                    simp only [Act.put, List.setIfInBounds_toArray, List.set_cons_succ, List.set_cons_zero]
                    refine wpAnyH_take_d 7 (some 122) (.pointer (some ⟨rb, 0, none⟩)) rfl (by kernel_rfl) (by kernel_rfl) (by kernel_rfl) (by kernel_rfl) rfl (fun _ _ _ h => h) (fun _ _ => by kernel_rfl) (by exact hS) ?_
                    simp only [Act.put, List.setIfInBounds_toArray, List.set_cons_succ, List.set_cons_zero]
                    refine wpAnyH_take_d 8 (some 123) (.slice (some ⟨ob, off, none⟩) z1.length pcap) rfl (by kernel_rfl) (by kernel_rfl) (by kernel_rfl) (by kernel_rfl) rfl (fun _ _ _ h => h) (fun _ _ => by kernel_rfl) (by exact hS) ?_
                    simp only [Act.put, List.setIfInBounds_toArray, List.set_cons_succ, List.set_cons_zero]
                    refine wpAnyH_take_d 9 (some 124) (.int .i64 k) rfl (by kernel_rfl) (by kernel_rfl) (by kernel_rfl) (by kernel_rfl) rfl (fun _ _ _ h => h) (fun _ _ => by kernel_rfl) (by exact hS) ?_
                    simp only [Act.put, List.setIfInBounds_toArray, List.set_cons_succ, List.set_cons_zero]
                    refine wpAnyH_take_d 10 (some 125) (.pointer (some ⟨ob, off + k * 2, none⟩)) rfl (by kernel_rfl) (by kernel_rfl) (by kernel_rfl) (by kernel_rfl) rfl (fun _ _ _ h => h) (fun w' h => exec_indexAddrS rfl rfl rfl hkl2 Tryd.underlying23 szOp2) (by exact hS) ?_
                    simp only [Act.put, List.setIfInBounds_toArray, List.set_cons_succ, List.set_cons_zero]
                    refine wpAnyH_take_d 11 (some 126) (.pointer (some ⟨ob, off + k * 2 + 1, none⟩)) rfl (by kernel_rfl) (by kernel_rfl) (by kernel_rfl) (by kernel_rfl) rfl (fun _ _ _ h => h) (fun _ _ => by kernel_rfl) (by exact hS) ?_
                    simp only [Act.put, List.setIfInBounds_toArray, List.set_cons_succ, List.set_cons_zero]
                    refine wpAnyH_take_d 12 (some 127) (.int .i64 M) rfl (by kernel_rfl) (by kernel_rfl) (by kernel_rfl) (by kernel_rfl) rfl (fun _ _ _ h => h) (fun w' h => exec_load_cell rfl rfl (hN _ h) Tryd.underlying3 rfl) (by exact hS) ?_
                    simp only [Act.put, List.setIfInBounds_toArray, List.set_cons_succ, List.set_cons_zero]
                    refine wpAnyH_call 6 (some 121) 11 #[.pointer (some ⟨ab, 0, none⟩), .int .i64 M] rfl (by kernel_rfl) (by kernel_rfl) rfl (by kernel_rfl) (hx) ?_
                    rintro e w3 ⟨rfl, x3, o3⟩
                    have m3 := H.drew.code x3 o3
                    have hS : Below W.heap.size W w3 := m3.bw
                    have hy := hd _ w3 rb m3.r
                    refine ⟨_, rfl, hS, ?_⟩
                    simp only [Act.put, List.setIfInBounds_toArray, List.set_cons_succ, List.set_cons_zero]
                    refine wpAnyH_call 13 (some 128) 17 #[.pointer (some ⟨rb, 0, none⟩), .int .i64 M] rfl (by kernel_rfl) (by kernel_rfl) rfl (by kernel_rfl) (hy) ?_
                    rintro e w4 ⟨rfl, r4, f4⟩
                    have H4 := m3.doc r4 f4 ok'
                    have hS : Below W.heap.size W w4 := H4.bw
                    refine ⟨_, rfl, hS, ?_⟩
                    simp only [Act.put, List.setIfInBounds_toArray, List.set_cons_succ, List.set_cons_zero]
                    refine wpAnyH_take_d 14 (some 129) (.bool false) rfl (by kernel_rfl) (by kernel_rfl) (by kernel_rfl) (by kernel_rfl) rfl (fun _ _ _ h => h) (fun w' h => exec_intneq rfl rfl rfl (by simp)) (by exact hS) ?_
                    simp only [Act.put, List.setIfInBounds_toArray, List.set_cons_succ, List.set_cons_zero]
                    refine wpAnyH_done (by kernel_rfl) ?_ _
                    
                    clear hS hx hy x3 o3 m3 r4 f4 hc hd ok' H
                    have hal := alike_any H4.x (hT.mono H4.bw) H4.r H4.ok
                    have HH := Lib.hid H4
                    clear H4
                    go_wp2_with fail
                    refine Calls.mono hal ?_
                    rintro e w9 ⟨rfl, b9⟩
                    have H9 := HH.out.below b9
                    clear hal b9 HH
                    go_wp2
                    go_roundw
                    case rel => exact ⟨k + 1, _, _, by omega, by omega, by go_num, rfl, H9⟩
                    case measure => simp [intOf]; omega
                  · by_cases q3 : K = 3
                    · subst q3
                      have e1 : ((3 : Int) == 1) = false := by decide
                      have e2 : ((3 : Int) == 2) = false := by decide
                      have e3 : ((3 : Int) == 3) = true := by decide
                      obtain ⟨r, A', ok', hc, hd⟩ := settle_both H.ok
                      have hx := hc _ ab H.x (hT.mono H.bw)
                      go_wp2_with fail
                      refine Calls.mono hx ?_
                      rintro e w3 ⟨rfl, x3, o3⟩
                      have m3 := H.code x3 o3
                      have hy := hd _ w3 rb m3.r
                      clear hx x3 o3 H hc
                      go_wp2_with fail
                      refine Calls.mono hy ?_
                      rintro e w4 ⟨rfl, r4, f4⟩
                      have H4 := m3.doc r4 f4 ok'
                      clear hy r4 f4 m3 hd ok'
                      have hal := alike_any H4.x (hT.mono H4.bw) H4.r H4.ok
                      have HH := Lib.hid H4
                      clear H4
                      go_wp2_with fail
                      refine Calls.mono hal ?_
                      rintro e w9 ⟨rfl, b9⟩
                      have H9 := HH.out.below b9
                      clear hal b9 HH
                      go_wp2
                      go_roundw
                      case rel => exact ⟨k + 1, _, _, by omega, by omega, by go_num, rfl, H9⟩
                      case measure => simp [intOf]; omega
                    · by_cases q4 : K = 4
                      · subst q4
                        have e1 : ((4 : Int) == 1) = false := by decide
                        have e2 : ((4 : Int) == 2) = false := by decide
                        have e3 : ((4 : Int) == 3) = false := by decide
                        have e4 : ((4 : Int) == 4) = true := by decide
                        obtain ⟨r, A', ok', hc, hd⟩ := reserve_both H.ok M
                        have hx := hc wr.drew ab H.drew.x (hT.mono H.drew.bw)
                        have hS : Below W.heap.size W wr.drew := H.bw.drew
                        go_wp2_with fail
                        refine wp_region_held_drew (S := fun w' => Below W.heap.size W w') mixed hS (fun _ => ?_)
                        show wpAnyH _ _ _ _ _ 15 (Array.replicate 15 false) _ _
                        refine wpAnyH_take_d 0 (some 139) (.pointer (some ⟨ab, 0, none⟩)) rfl (by kernel_rfl) (by kernel_rfl) (by kernel_rfl) (by kernel_rfl) rfl (fun _ _ _ h => h) (fun _ _ => by kernel_rfl) (by exact hS) ?_
                        simp only [Act.put, List.setIfInBounds_toArray, List.set_cons_succ, List.set_cons_zero]
                        refine wpAnyH_take_d 1 (some 140) (.slice (some ⟨ob, off, none⟩) z1.length pcap) rfl (by kernel_rfl) (by kernel_rfl) (by kernel_rfl) (by kernel_rfl) rfl (fun _ _ _ h => h) (fun _ _ => by kernel_rfl) (by exact hS) ?_
                        simp only [Act.put, List.setIfInBounds_toArray, List.set_cons_succ, List.set_cons_zero]
                        refine wpAnyH_take_d 2 (some 141) (.int .i64 k) rfl (by kernel_rfl) (by kernel_rfl) (by kernel_rfl) (by kernel_rfl) rfl (fun _ _ _ h => h) (fun _ _ => by kernel_rfl) (by exact hS) ?_
                        simp only [Act.put, List.setIfInBounds_toArray, List.set_cons_succ, List.set_cons_zero]
                        refine wpAnyH_take_d 3 (some 142) (.pointer (some ⟨ob, off + k * 2, none⟩)) rfl (by kernel_rfl) (by kernel_rfl) (by kernel_rfl) (by kernel_rfl) rfl (fun _ _ _ h => h) (fun w' h => exec_indexAddrS rfl rfl rfl hkl2 Tryd.underlying23 szOp2) (by exact hS) ?_
                        simp only [Act.put, List.setIfInBounds_toArray, List.set_cons_succ, List.set_cons_zero]
                        refine wpAnyH_take_d 4 (some 143) (.pointer (some ⟨ob, off + k * 2 + 1, none⟩)) rfl (by kernel_rfl) (by kernel_rfl) (by kernel_rfl) (by kernel_rfl) rfl (fun _ _ _ h => h) (fun _ _ => by kernel_rfl) (by exact hS) ?_
                        simp only [Act.put, List.setIfInBounds_toArray, List.set_cons_succ, List.set_cons_zero]
                        refine wpAnyH_take_d 5 (some 144) (.int .i64 M) rfl (by kernel_rfl) (by kernel_rfl) (by kernel_rfl) (by kernel_rfl) rfl (fun _ _ _ h => h) (fun w' h => exec_load_cell rfl rfl (hN _ h) Tryd.underlying3 rfl) (by exact hS) ?_
                        simp only [Act.put, List.setIfInBounds_toArray, List.set_cons_succ, List.set_cons_zero]
                        refine wpAnyH_take_d 7 (some 146) (.pointer (some ⟨rb, 0, none⟩)) rfl (by kernel_rfl) (by kernel_rfl) (by kernel_rfl) (by kernel_rfl) rfl (fun _ _ _ h => h) (fun _ _ => by kernel_rfl) (by exact hS) ?_
                        simp only [Act.put, List.setIfInBounds_toArray, List.set_cons_succ, List.set_cons_zero]
                        refine wpAnyH_take_d 8 (some 147) (.slice (some ⟨ob, off, none⟩) z1.length pcap) rfl (by kernel_rfl) (by kernel_rfl) (by kernel_rfl) (by kernel_rfl) rfl (fun _ _ _ h => h) (fun _ _ => by kernel_rfl) (by exact hS) ?_
                        simp only [Act.put, List.setIfInBounds_toArray, List.set_cons_succ, List.set_cons_zero]
                        refine wpAnyH_take_d 9 (some 148) (.int .i64 k) rfl (by kernel_rfl) (by kernel_rfl) (by kernel_rfl) (by kernel_rfl) rfl (fun _ _ _ h => h) (fun _ _ => by kernel_rfl) (by exact hS) ?_
                        simp only [Act.put, List.setIfInBounds_toArray, List.set_cons_succ, List.set_cons_zero]
                        refine wpAnyH_take_d 10 (some 149) (.pointer (some ⟨ob, off + k * 2, none⟩)) rfl (by kernel_rfl) (by kernel_rfl) (by kernel_rfl) (by kernel_rfl) rfl (fun _ _ _ h => h) (fun w' h => exec_indexAddrS rfl rfl rfl hkl2 Tryd.underlying23 szOp2) (by exact hS) ?_
                        simp only [Act.put, List.setIfInBounds_toArray, List.set_cons_succ, List.set_cons_zero]
                        refine wpAnyH_take_d 11 (some 150) (.pointer (some ⟨ob, off + k * 2 + 1, none⟩)) rfl (by kernel_rfl) (by kernel_rfl) (by kernel_rfl) (by kernel_rfl) rfl (fun _ _ _ h => h) (fun _ _ => by kernel_rfl) (by exact hS) ?_
                        simp only [Act.put, List.setIfInBounds_toArray, List.set_cons_succ, List.set_cons_zero]
                        refine wpAnyH_take_d 12 (some 151) (.int .i64 M) rfl (by kernel_rfl) (by kernel_rfl) (by kernel_rfl) (by kernel_rfl) rfl (fun _ _ _ h => h) (fun w' h => exec_load_cell rfl rfl (hN _ h) Tryd.underlying3 rfl) (by exact hS) ?_
                        simp only [Act.put, List.setIfInBounds_toArray, List.set_cons_succ, List.set_cons_zero]
                        refine wpAnyH_call 6 (some 145) 20 #[.pointer (some ⟨ab, 0, none⟩), .int .i64 M] rfl (by kernel_rfl) (by kernel_rfl) rfl (by kernel_rfl) (hx) ?_
                        rintro e w3 ⟨rfl, x3, o3⟩
                        have m3 := H.drew.code x3 o3
                        have hS : Below W.heap.size W w3 := m3.bw
                        have hy := hd _ w3 rb m3.r
                        refine ⟨_, rfl, hS, ?_⟩
                        simp only [Act.put, List.setIfInBounds_toArray, List.set_cons_succ, List.set_cons_zero]
                        refine wpAnyH_call 13 (some 152) 21 #[.pointer (some ⟨rb, 0, none⟩), .int .i64 M] rfl (by kernel_rfl) (by kernel_rfl) rfl (by kernel_rfl) (hy) ?_
                        rintro e w4 ⟨rfl, r4, f4⟩
                        have H4 := m3.doc r4 f4 ok'
                        have hS : Below W.heap.size W w4 := H4.bw
                        refine ⟨_, rfl, hS, ?_⟩
                        simp only [Act.put, List.setIfInBounds_toArray, List.set_cons_succ, List.set_cons_zero]
                        refine wpAnyH_take_d 14 (some 153) (.bool false) rfl (by kernel_rfl) (by kernel_rfl) (by kernel_rfl) (by kernel_rfl) rfl (fun _ _ _ h => h) (fun w' h => exec_intneq rfl rfl rfl (by simp)) (by exact hS) ?_
                        simp only [Act.put, List.setIfInBounds_toArray, List.set_cons_succ, List.set_cons_zero]
                        refine wpAnyH_done (by kernel_rfl) ?_ _
                        
                        clear hS hx hy x3 o3 m3 r4 f4 hc hd ok' H
                        have hal := alike_any H4.x (hT.mono H4.bw) H4.r H4.ok
                        have HH := Lib.hid H4
                        clear H4
                        go_wp2_with fail
                        refine Calls.mono hal ?_
                        rintro e w9 ⟨rfl, b9⟩
                        have H9 := HH.out.below b9
                        clear hal b9 HH
                        go_wp2
                        go_roundw
                        case rel => exact ⟨k + 1, _, _, by omega, by omega, by go_num, rfl, H9⟩
                        case measure => simp [intOf]; omega
                      · by_cases q5 : K = 5
                        · subst q5
                          have e1 : ((5 : Int) == 1) = false := by decide
                          have e2 : ((5 : Int) == 2) = false := by decide
                          have e3 : ((5 : Int) == 3) = false := by decide
                          have e4 : ((5 : Int) == 4) = false := by decide
                          have e5 : ((5 : Int) == 5) = true := by decide
                          obtain ⟨r, A', ok', hc, hd⟩ := release_both H.ok M
                          have hx := hc wr.drew ab H.drew.x (hT.mono H.drew.bw)
                          have hS : Below W.heap.size W wr.drew := H.bw.drew
                          go_wp2_with fail
                          refine wp_region_held_drew (S := fun w' => Below W.heap.size W w') mixed hS (fun _ => ?_)
                          show wpAnyH _ _ _ _ _ 15 (Array.replicate 15 false) _ _
                          refine wpAnyH_take_d 0 (some 156) (.pointer (some ⟨ab, 0, none⟩)) rfl (by kernel_rfl) (by kernel_rfl) (by kernel_rfl) (by kernel_rfl) rfl (fun _ _ _ h => h) (fun _ _ => by kernel_rfl) (by exact hS) ?_
                          simp only [Act.put, List.setIfInBounds_toArray, List.set_cons_succ, List.set_cons_zero]
                          refine wpAnyH_take_d 1 (some 157) (.slice (some ⟨ob, off, none⟩) z1.length pcap) rfl (by kernel_rfl) (by kernel_rfl) (by kernel_rfl) (by kernel_rfl) rfl (fun _ _ _ h => h) (fun _ _ => by kernel_rfl) (by exact hS) ?_
                          simp only [Act.put, List.setIfInBounds_toArray, List.set_cons_succ, List.set_cons_zero]
                          refine wpAnyH_take_d 2 (some 158) (.int .i64 k) rfl (by kernel_rfl) (by kernel_rfl) (by kernel_rfl) (by kernel_rfl) rfl (fun _ _ _ h => h) (fun _ _ => by kernel_rfl) (by exact hS) ?_
                          simp only [Act.put, List.setIfInBounds_toArray, List.set_cons_succ, List.set_cons_zero]
                          refine wpAnyH_take_d 3 (some 159) (.pointer (some ⟨ob, off + k * 2, none⟩)) rfl (by kernel_rfl) (by kernel_rfl) (by kernel_rfl) (by kernel_rfl) rfl (fun _ _ _ h => h) (fun w' h => exec_indexAddrS rfl rfl rfl hkl2 Tryd.underlying23 szOp2) (by exact hS) ?_
                          simp only [Act.put, List.setIfInBounds_toArray, List.set_cons_succ, List.set_cons_zero]
                          refine wpAnyH_take_d 4 (some 160) (.pointer (some ⟨ob, off + k * 2 + 1, none⟩)) rfl (by kernel_rfl) (by kernel_rfl) (by kernel_rfl) (by kernel_rfl) rfl (fun _ _ _ h => h) (fun _ _ => by kernel_rfl) (by exact hS) ?_
                          simp only [Act.put, List.setIfInBounds_toArray, List.set_cons_succ, List.set_cons_zero]
                          refine wpAnyH_take_d 5 (some 161) (.int .i64 M) rfl (by kernel_rfl) (by kernel_rfl) (by kernel_rfl) (by kernel_rfl) rfl (fun _ _ _ h => h) (fun w' h => exec_load_cell rfl rfl (hN _ h) Tryd.underlying3 rfl) (by exact hS) ?_
                          simp only [Act.put, List.setIfInBounds_toArray, List.set_cons_succ, List.set_cons_zero]
                          refine wpAnyH_take_d 7 (some 163) (.pointer (some ⟨rb, 0, none⟩)) rfl (by kernel_rfl) (by kernel_rfl) (by kernel_rfl) (by kernel_rfl) rfl (fun _ _ _ h => h) (fun _ _ => by kernel_rfl) (by exact hS) ?_
                          simp only [Act.put, List.setIfInBounds_toArray, List.set_cons_succ, List.set_cons_zero]
                          refine wpAnyH_take_d 8 (some 164) (.slice (some ⟨ob, off, none⟩) z1.length pcap) rfl (by kernel_rfl) (by kernel_rfl) (by kernel_rfl) (by kernel_rfl) rfl (fun _ _ _ h => h) (fun _ _ => by kernel_rfl) (by exact hS) ?_
                          simp only [Act.put, List.setIfInBounds_toArray, List.set_cons_succ, List.set_cons_zero]
                          refine wpAnyH_take_d 9 (some 165) (.int .i64 k) rfl (by kernel_rfl) (by kernel_rfl) (by kernel_rfl) (by kernel_rfl) rfl (fun _ _ _ h => h) (fun _ _ => by kernel_rfl) (by exact hS) ?_
                          simp only [Act.put, List.setIfInBounds_toArray, List.set_cons_succ, List.set_cons_zero]
                          refine wpAnyH_take_d 10 (some 166) (.pointer (some ⟨ob, off + k * 2, none⟩)) rfl (by kernel_rfl) (by kernel_rfl) (by kernel_rfl) (by kernel_rfl) rfl (fun _ _ _ h => h) (fun w' h => exec_indexAddrS rfl rfl rfl hkl2 Tryd.underlying23 szOp2) (by exact hS) ?_
                          simp only [Act.put, List.setIfInBounds_toArray, List.set_cons_succ, List.set_cons_zero]
                          refine wpAnyH_take_d 11 (some 167) (.pointer (some ⟨ob, off + k * 2 + 1, none⟩)) rfl (by kernel_rfl) (by kernel_rfl) (by kernel_rfl) (by kernel_rfl) rfl (fun _ _ _ h => h) (fun _ _ => by kernel_rfl) (by exact hS) ?_
                          simp only [Act.put, List.setIfInBounds_toArray, List.set_cons_succ, List.set_cons_zero]
                          refine wpAnyH_take_d 12 (some 168) (.int .i64 M) rfl (by kernel_rfl) (by kernel_rfl) (by kernel_rfl) (by kernel_rfl) rfl (fun _ _ _ h => h) (fun w' h => exec_load_cell rfl rfl (hN _ h) Tryd.underlying3 rfl) (by exact hS) ?_
                          simp only [Act.put, List.setIfInBounds_toArray, List.set_cons_succ, List.set_cons_zero]
                          refine wpAnyH_call 6 (some 162) 22 #[.pointer (some ⟨ab, 0, none⟩), .int .i64 M] rfl (by kernel_rfl) (by kernel_rfl) rfl (by kernel_rfl) (hx) ?_
                          rintro e w3 ⟨rfl, x3, o3⟩
                          have m3 := H.drew.code x3 o3
                          have hS : Below W.heap.size W w3 := m3.bw
                          have hy := hd _ w3 rb m3.r
                          refine ⟨_, rfl, hS, ?_⟩
                          simp only [Act.put, List.setIfInBounds_toArray, List.set_cons_succ, List.set_cons_zero]
                          refine wpAnyH_call 13 (some 169) 23 #[.pointer (some ⟨rb, 0, none⟩), .int .i64 M] rfl (by kernel_rfl) (by kernel_rfl) rfl (by kernel_rfl) (hy) ?_
                          rintro e w4 ⟨rfl, r4, f4⟩
                          have H4 := m3.doc r4 f4 ok'
                          have hS : Below W.heap.size W w4 := H4.bw
                          refine ⟨_, rfl, hS, ?_⟩
                          simp only [Act.put, List.setIfInBounds_toArray, List.set_cons_succ, List.set_cons_zero]
                          refine wpAnyH_take_d 14 (some 170) (.bool false) rfl (by kernel_rfl) (by kernel_rfl) (by kernel_rfl) (by kernel_rfl) rfl (fun _ _ _ h => h) (fun w' h => exec_intneq rfl rfl rfl (by simp)) (by exact hS) ?_
                          simp only [Act.put, List.setIfInBounds_toArray, List.set_cons_succ, List.set_cons_zero]
                          refine wpAnyH_done (by kernel_rfl) ?_ _
                          
                          clear hS hx hy x3 o3 m3 r4 f4 hc hd ok' H
                          have hal := alike_any H4.x (hT.mono H4.bw) H4.r H4.ok
                          have HH := Lib.hid H4
                          clear H4
                          go_wp2_with fail
                          refine Calls.mono hal ?_
                          rintro e w9 ⟨rfl, b9⟩
                          have H9 := HH.out.below b9
                          clear hal b9 HH
                          go_wp2
                          go_roundw
                          case rel => exact ⟨k + 1, _, _, by omega, by omega, by go_num, rfl, H9⟩
                          case measure => simp [intOf]; omega
                        · by_cases q6 : K = 6
                          · subst q6
                            have e1 : ((6 : Int) == 1) = false := by decide
                            have e2 : ((6 : Int) == 2) = false := by decide
                            have e3 : ((6 : Int) == 3) = false := by decide
                            have e4 : ((6 : Int) == 4) = false := by decide
                            have e5 : ((6 : Int) == 5) = false := by decide
                            have e6 : ((6 : Int) == 6) = true := by decide
                            have hcp := copy_any H.x
                            have habl := H.x.lt
                            go_wp2_with fail
                            refine Calls.mono hcp ?_
                            rintro e w3 ⟨cb, rfl, hcb, xc, bc⟩
                            have H3 := H.below bc
                            obtain ⟨r1, r2, A', ok', hc, -⟩ := take_both H.ok
                            have hx := hc _ ab H3.x (hT.mono H3.bw)
                            have hne : cb ≠ ab := by omega
                            have hok := H.ok
                            have hcbW : W.heap.size ≤ cb := Nat.le_trans H.bw.size hcb
                            clear hcp bc hcb H hc habl
                            go_wp2_with fail
                            refine Calls.mono hx ?_
                            rintro e w5 ⟨rfl, x5, o5⟩
                            have m5 := H3.code x5 o5
                            have xc5 := xc.other o5 hne
                            obtain ⟨r, A2, -, hc, -⟩ := settle_both ok'
                            have hy := hc _ ab m5.x (hT.mono m5.bw)
                            clear hx x5 o5 xc H3 hc
                            go_wp2_with fail
                            refine Calls.mono hy ?_
                            rintro e w4 ⟨rfl, x4, o4⟩
                            have H4 : Bo W w4 cb rb A := ⟨xc5.other o4 hne, hok, m5.r.only m5.x o4, hcbW, m5.bw.trans (o4.below m5.ba m5.x.lt)⟩
                            clear hy x4 o4 m5 xc5 hne hok hcbW ok'
                            have hal := alike_any H4.x (hT.mono H4.bw) H4.r H4.ok
                            have HH := Lib.hid H4
                            clear H4
                            go_wp2_with fail
                            refine Calls.mono hal ?_
                            rintro e w9 ⟨rfl, b9⟩
                            have H9 := HH.out.below b9
                            clear hal b9 HH
                            go_wp2
                            go_roundw
                            case rel => exact ⟨k + 1, _, _, by omega, by omega, by go_num, rfl, H9⟩
                            case measure => simp [intOf]; omega
                          · have e1 : (K == 1) = false := by simpa using q1
                            have e2 : (K == 2) = false := by simpa using q2
                            have e3 : (K == 3) = false := by simpa using q3
                            have e4 : (K == 4) = false := by simpa using q4
                            have e5 : (K == 5) = false := by simpa using q5
                            have e6 : (K == 6) = false := by simpa using q6
                            have H4 := H
                            clear H
                            have hal := alike_any H4.x (hT.mono H4.bw) H4.r H4.ok
                            have HH := Lib.hid H4
                            clear H4
                            go_wp2_with fail
                            refine Calls.mono hal ?_
                            rintro e w9 ⟨rfl, b9⟩
                            have H9 := HH.out.below b9
                            clear hal b9 HH
                            go_wp2
                            go_roundw
                            case rel => exact ⟨k + 1, _, _, by omega, by omega, by go_num, rfl, H9⟩
                            case measure => simp [intOf]; omega
              · go_wp2
                go_ret
                exact ⟨rfl, H.bw⟩
            · go_wp2
              go_ret
              exact ⟨rfl, H.bw⟩

/-! ### the row -/
theorem laidOut : laidOutB Tryd.prog = true := by kernel_rfl
theorem bytesInt : Tryd.prog.bytesOf 3 = 8 := by kernel_rfl
set_option maxRecDepth 100000 in
theorem lifted (os : Os) (started : os.Started) (H : Type) (enc : TypeId × Value → H) :
    ReturnsInHanded {} Tryd.checked os 3 .any (fun w args => (Rows.allocPlaysSpec.pre enc Tryd.prog Tryd.f3 [] false w args ∧ laidMetH Tryd.prog laidL w) ∧ sizedMet enc Tryd.prog Tryd.f3 (OpenSpec.ofChange Rows.allocPlaysSpec) false w args) (Rows.allocPlaysSpec.post enc Tryd.prog Tryd.f3 false true false false) := by
  refine returnsInHanded_of_change_and (C := Tryd.checked) (X := fun w _ => laidMetH Tryd.prog laidL w) (fun _ _ _ hh h => h.of_heap hh) own started (by kernel_rfl) Tryd.func3
    (ChangeSpec.witness_shaped (enc := enc) (C := Tryd.checked) (os := os) (X := fun w _ => laidMetH Tryd.prog laidL w) false (World.doorLaid Tryd.prog 14 os) #[.int .i64 0, .slice none 0 0, .slice none 0 0] 8 rfl (World.shaped_of_RefB (by kernel_rfl) (by kernel_rfl)) (by kernel_rfl) (by kernel_rfl) (by kernel_rfl) (door_met os _)) ?_
  intro W base args ds gs before hval0 hW hcnd hsz0 hL _
  have hval : ∀ (j : Nat) t v, Tryd.f3.params[j]? = some t → args[j]? = some v → Value.okWide Tryd.prog W .any base t v := hval0
  have hW' := hW
  obtain ⟨p, q, hA0, hV, rfl, hfz, hnd⟩ := hW
  have hA : DataW.TrodAll enc Tryd.prog W 0 (fun _ => true) true Tryd.f3.params.toList args.toList ds p := hA0
  have hsz : (DataW.weightsEach Tryd.prog (Tryd.f3.params.toList ++ Rows.allocPlaysSpec.plain.varTypes Tryd.prog) (ds ++ gs)).all (· ≤ reachBytes) = true := hsz0
  rw [Tryd.params3] at hA hval hsz
  obtain ⟨v0, vs0, d0, ds0, p0, q0, hargs, rfl, rfl, h0, r0⟩ := trodAll_cons hA
  obtain ⟨v1, vs1, d1, ds1, p1, q1, rfl, rfl, rfl, h1, r1⟩ := trodAll_cons r0
  obtain ⟨v2, vs2, d2, ds2, p2, q2, rfl, rfl, rfl, h2, r2⟩ := trodAll_cons r1
  obtain ⟨rfl, rfl, rfl⟩ := trodAll_nil r2
  obtain rfl : args = #[v0, v1, v2] := by cases args; simp_all
  obtain ⟨rfl, rfl⟩ := trodVars_none hV
  obtain ⟨a0, rfl, rfl, rfl, w0⟩ := open_int Tryd.underlying3 (hval 0 3 v0 rfl rfl) h0
  have k1 := h1
  have lt1 := args_lt k1
  obtain ⟨z1, w1⟩ := ints_arg Tryd.underlying22 Tryd.underlying3 (by kernel_rfl) (hval 1 22 v1 rfl rfl) (fun el sp e => by subst e; have := sized_slice hsz (j := 1) (t := 22) (e := 3) rfl rfl Tryd.underlying22; rwa [bytesInt] at this) h1
  have k2 := h2
  have lt2 := args_lt k2
  obtain ⟨z2, w2⟩ := ops_arg (hval 2 23 v2 rfl rfl) (fun k hk => of_decide_eq_true (List.all_eq_true.1 hsz _ (DataW.weights_mem_each (j := 2) (t := 23) (d := d2) rfl rfl k hk))) h2
  clear hA0 hval0 hsz0
  refine (walk a0 w0 v1 z1 v2 z2 W w1 w2 (tab_of_laid hL)).mono fun e W' ⟨he, bel⟩ => ?_
  subst he
  exact ⟨_, rfl, _, _, _, [], _, [], hW', trodAll_mk1 (shut_bool Tryd.underlying4 _), (trodAll_cons_mk (shut_int Tryd.underlying3 w0) (trodAll_cons_mk (Below.trod laidOut (by kernel_rfl) (of_decide_eq_true (by kernel_rfl)) k1 bel lt1) (trodAll_cons_mk (Below.trod laidOut (by kernel_rfl) (of_decide_eq_true (by kernel_rfl)) k2 bel lt2) trodAll_mk0))), rfl, bel.frame _, fun h => by cases h⟩

theorem over : Rows.allocPlaysRow.holds Tryd.pinned (OpenSpec.ofChange Rows.allocPlaysSpec) :=
  OpenClaim.holds_of_wide 3 Tryd.f3 rfl rfl rfl rfl rfl rfl rfl ⟨rfl, rfl, rfl, rfl, rfl⟩ rfl rfl rfl rfl rfl (by kernel_rfl) Tryd.func3 (by kernel_rfl)
    (of_decide_eq_true (by kernel_rfl)) (by unfold Func.isWrapper; first | (rw [if_pos (by decide +kernel)]; kernel_rfl) | (rw [if_neg (by decide +kernel)]; exact ⟨rfl, rfl⟩))
    (fun os started H enc _ => lifted os started H enc)
end Go.Proofs.YtkmaikmbjebjeaaDoor.allocPlays

namespace Go.Proofs.YtkmaikmbjebjeaaDoor
/-- The law returns true at every input at which the table of math/bits is as the program's text lays it; that tie is part of the card. -/
theorem allocPlays_holds : Rows.AllocPlaysCardSaid :=
  Claim7.holds_tied_plain_at .later [] [.data] true Rows.allocPlaysCard.stood.harness false
    allocPlays.over (fun _ h => by cases h) (by kernel_rfl) (fun _ h => by cases h) allocPlays_row_tie rfl ⟨rfl, rfl⟩ (by kernel_rfl) rfl
    (fun f fn hf hfn => by
      obtain rfl : f = 3 := Option.some.inj ((show Tryd.prog.funcNamed "cistern/cisternlaw09.AllocPlays" = some 3 by kernel_rfl).symm.trans hf) |>.symm
      obtain rfl : fn = Tryd.f3 := (Option.some.inj (Tryd.func3.symm.trans hfn)).symm
      exact ⟨by kernel_rfl, fun j t ht => by
        rw [Tryd.params3] at ht
        have hm : t ∈ [3, 22, 23] := by simpa using Array.mem_of_getElem? ht
        have hall : ([3, 22, 23].all fun u => !Tryd.prog.wantsStandIn u) = true := by kernel_rfl
        exact (show Tryd.prog.wantsStandIn t = false by simpa using List.all_eq_true.1 hall t hm)⟩)
    (by kernel_rfl)
end Go.Proofs.YtkmaikmbjebjeaaDoor

