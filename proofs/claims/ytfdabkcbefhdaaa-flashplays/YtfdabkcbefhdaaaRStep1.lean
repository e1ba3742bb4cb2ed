/- A step of the statements' script: Flush, Arm, Crash, Erase, and what is told of the two devices. No statement of the seat is proved here. -/
import Derived.Test.YtfdabkcbefhdaaaRCrash
import Derived.Test.YtfdabkcbefhdaaaFOps
import Derived.Test.YtfdabkcbefhdaaaXSteps
namespace Go.Proofs.Ytfdabkcbefhdaaa
set_option maxRecDepth 20000
open Go.RowKit

/-- two devices that tell the same: the code's and the document's -/
structure Two (B : Nat) (w : World) (db rb : Nat) (d : Dev) (N : Nat) : Prop where
  a : DevAt B w db d N
  b : RDevAt B w rb d
theorem Two.below {B : Nat} {w w' : World} {db rb : Nat} {d : Dev} {N : Nat} (h : Two B w db rb d N) (hb : Below w.heap.size w w') : Two B w' db rb d N := ⟨h.a.below hb, h.b.below hb⟩
theorem Two.drew {B : Nat} {w : World} {db rb : Nat} {d : Dev} {N : Nat} (h : Two B w db rb d N) : Two B w.drew db rb d N := ⟨h.a.drew, ⟨h.b.ok, h.b.ge, h.b.box⟩⟩
def StepTo (B : Nat) (w : World) (db rb : Nat) (d : Dev) (N : Nat) (e : Ending) (w' : World) : Prop :=
  e = .returned (.bool true) ∧ ∃ d' N', Two B w' db rb d' N' ∧ Below B w w' ∧ d'.size = d.size ∧ d'.waits.length ≤ d.waits.length + 1 ∧ N' ≤ N + d.waits.length
theorem flush_same (d : Dev) : d.flush.2.size = d.size ∧ d.flush.2.waits.length ≤ d.waits.length := by
  unfold Dev.flush
  by_cases h : d.spend.1 = true
  · rw [if_neg (by simp [h])]
    have := (apply_same d.spend.2 flushF d.spend.2.waits.length).2.1
    exact ⟨this.trans (spend_waits d).2.1, by simp [Dev.flushed]⟩
  · rw [if_pos (by simpa using h)]
    exact ⟨(spend_waits d).2.1, by rw [(spend_waits d).1]; exact Nat.le_refl _⟩
theorem Ints.more {K : Obj → Bool} {B B' : Nat} {w : World} {v : Value} {zs : List Int} (h : Ints K B w v zs) (hB : B ≤ B') : Ints K B' w v zs := by
  obtain ⟨ao, cap, hv, hl, hc⟩ := h
  refine ⟨ao, cap, hv, hl, fun i hi => ?_⟩
  obtain ⟨b, off, o, h1, h2, h3, h4⟩ := hc i hi
  exact ⟨b, off, o, h1, h2, h3.imp (fun h => Nat.lt_of_lt_of_le h hB) id, h4⟩
theorem box_below (w : World) (o : Obj) : Below w.heap.size w (w.alloc o) := (Below.refl _ _).alloc (Nat.le_refl _) _
set_option maxHeartbeats 1600000 in
theorem step3 {B : Nat} {w : World} {db rb : Nat} {d : Dev} {N : Nat} (h : Two B w db rb d N) (hB : B ≤ w.heap.size) (hlen : d.waits.length < 1000) (hN : N < 1000000) (x1 x2 x3 : Int) (pv : Value) :
    Calls Try.prog 20 #[.pointer (some ⟨db, 0, none⟩), .pointer (some ⟨rb, 0, none⟩), .agg #[.int .i64 3, .int .i64 x1, .int .i64 x2, .int .i64 x3, pv]] w fun e w' => StepTo B w db rb d N e w' := by
  have hb0 := box_below w (.cells #[.int .i64 3, .int .i64 x1, .int .i64 x2, .int .i64 x3, pv] 42 (0, 0))
  have h0 := h.below hb0
  go_enter Try.func20, Try.ntmps20
  go_wp2_with fail
  refine (flush_any h0.a (by unfold maxLen; omega) (by omega)).mono ?_
  rintro e w1 ⟨rfl, a1, f1⟩
  have b1 := h0.b.fr f1 FK_RK
  go_wp2_with fail
  refine (rflush_any b1 (by omega)).mono ?_
  rintro e w2 ⟨rfl, b2, f2⟩
  have a2 := a1.fr f2 RK_FK
  have FIN : Hid (StepTo B w db rb d N (.returned (.bool true)) w2) := Lib.hid ⟨rfl, _, _, ⟨a2, b2⟩, ((box_below w _).mono hB).trans ((f1.below (Nat.le_trans hB hb0.size)).trans (f2.below (Nat.le_trans hB (Nat.le_trans hb0.size f1.size)))), (flush_same d).1, Nat.le_succ_of_le (flush_same d).2, Nat.le_refl _⟩
  generalize d.flush.1 = r
  clear a1 a2 b1 b2 f1 f2 h h0 hb0
  go_wp2
  go_ret
  exact FIN.out
set_option maxHeartbeats 1600000 in
theorem step4 {B : Nat} {w : World} {db rb : Nat} {d : Dev} {N : Nat} (h : Two B w db rb d N) (hB : B ≤ w.heap.size) (x1 x2 x3 : Int) (hx : x3 ≤ 9223372036854775807) (pv : Value) :
    Calls Try.prog 20 #[.pointer (some ⟨db, 0, none⟩), .pointer (some ⟨rb, 0, none⟩), .agg #[.int .i64 4, .int .i64 x1, .int .i64 x2, .int .i64 x3, pv]] w fun e w' => StepTo B w db rb d N e w' := by
  have hb0 := box_below w (.cells #[.int .i64 4, .int .i64 x1, .int .i64 x2, .int .i64 x3, pv] 42 (0, 0))
  have h0 := h.below hb0
  go_enter Try.func20, Try.ntmps20
  go_wp2_with fail
  refine (arm_any h0.a x3 hx).mono ?_
  rintro e w1 ⟨rfl, a1, f1⟩
  have b1 := h0.b.fr f1 FK_RK
  have c3 := cell_row (f1.row (heap_alloc_new w (.cells #[.int .i64 4, .int .i64 x1, .int .i64 x2, .int .i64 x3, pv] 42 (0, 0))) rfl) 3 rfl
  go_wp2_with fail
  refine (rarm_any b1 x3 hx).mono ?_
  rintro e w2 ⟨rfl, b2, f2⟩
  have a2 := a1.fr f2 RK_FK
  have FIN : Hid (StepTo B w db rb d N (.returned (.bool true)) w2) := Lib.hid ⟨rfl, _, _, ⟨a2, b2⟩, ((box_below w _).mono hB).trans ((f1.below (Nat.le_trans hB hb0.size)).trans (f2.below (Nat.le_trans hB (Nat.le_trans hb0.size f1.size)))), rfl, Nat.le_succ _, Nat.le_add_right _ _⟩
  clear a1 a2 b1 b2 f1 f2 h h0 hb0
  go_wp2
  go_ret
  exact FIN.out
set_option maxHeartbeats 1600000 in
theorem step6 {B : Nat} {w : World} {db rb : Nat} {d : Dev} {N : Nat} (h : Two B w db rb d N) (hB : B ≤ w.heap.size) (hsz : 1 ≤ d.size) (x1 x2 x3 : Int) (pv : Value) :
    Calls Try.prog 20 #[.pointer (some ⟨db, 0, none⟩), .pointer (some ⟨rb, 0, none⟩), .agg #[.int .i64 6, .int .i64 x1, .int .i64 x2, .int .i64 x3, pv]] w fun e w' => StepTo B w db rb d N e w' := by
  have hb0 := box_below w (.cells #[.int .i64 6, .int .i64 x1, .int .i64 x2, .int .i64 x3, pv] 42 (0, 0))
  have h0 := h.below hb0
  go_enter Try.func20, Try.ntmps20
  go_wp2_with fail
  refine (erase_any h0.a).mono ?_
  rintro e w1 ⟨rfl, a1, f1⟩
  have b1 := h0.b.fr f1 FK_RK
  go_wp2_with fail
  refine (rerase_any b1 hsz (Nat.le_trans hB (Nat.le_trans hb0.size f1.size))).mono ?_
  rintro e w2 ⟨rfl, b2, f2⟩
  have a2 := a1.fr f2 RK_FK
  have FIN : Hid (StepTo B w db rb d N (.returned (.bool true)) w2) := Lib.hid ⟨rfl, _, _, ⟨a2, b2⟩, ((box_below w _).mono hB).trans ((f1.below (Nat.le_trans hB hb0.size)).trans (f2.below (Nat.le_trans hB (Nat.le_trans hb0.size f1.size)))), rfl, by simp [Dev.erase, Dev.fresh], Nat.zero_le _⟩
  clear a1 a2 b1 b2 f1 f2 h h0 hb0
  go_wp2
  go_ret
  exact FIN.out
set_option maxHeartbeats 1600000 in
theorem step5 {W : World} {B : Nat} {w : World} {db rb : Nat} {d : Dev} {N : Nat} (h : Two B w db rb d N) (hB : B ≤ w.heap.size) (hWB : W.heap.size ≤ B) (hbW : Below W.heap.size W w) (hlen : d.waits.length < 1000) (hN : N < 1000000) (x1 x2 x3 : Int) {pv : Value} {zs : List Int} (hz : IntsArg W pv zs) :
    Calls Try.prog 20 #[.pointer (some ⟨db, 0, none⟩), .pointer (some ⟨rb, 0, none⟩), .agg #[.int .i64 5, .int .i64 x1, .int .i64 x2, .int .i64 x3, pv]] w fun e w' => StepTo B w db rb d N e w' := by
  obtain ⟨ao, cap, rfl, -, -⟩ := hz.1.form
  have hb0 := box_below w (.cells #[.int .i64 5, .int .i64 x1, .int .i64 x2, .int .i64 x3, .slice ao zs.length cap] 42 (0, 0))
  obtain ⟨wa, hwa⟩ : ∃ wa, w.alloc (.cells #[.int .i64 5, .int .i64 x1, .int .i64 x2, .int .i64 x3, .slice ao zs.length cap] 42 (0, 0)) = wa := ⟨_, rfl⟩
  have hsa : wa.heap.size = w.heap.size + 1 := by rw [← hwa]; simp
  have hnew : wa.heap[w.heap.size]? = some (.cells #[.int .i64 5, .int .i64 x1, .int .i64 x2, .int .i64 x3, .slice ao zs.length cap] 42 (0, 0)) := by rw [← hwa]; exact heap_alloc_new w _
  have ow : (wa.alloc (.cells #[] 3)).ownsRow (w.heap.size + 1) 3 1 (.slice (some ⟨w.heap.size + 1, 0, none⟩) 0 0) 0 [] := by
    have := World.ownsRow_made (e := 3) (size := 1) (base := w.heap.size + 1) wa #[] 0 (by omega) (by simp [maxLen]) rfl
    rw [hsa] at this
    exact this
  rw [hwa] at hb0
  have hbo : Below wa.heap.size wa (wa.alloc (.cells #[] 3)) := box_below wa _
  have hbW2 : Below W.heap.size W (wa.alloc (.cells #[] 3)) := hbW.trans ((hb0.mono hbW.size).trans (hbo.mono (Nat.le_trans hbW.size hb0.size)))
  have hsz2 : w.heap.size + 1 ≤ (wa.alloc (.cells #[] 3)).heap.size := by simp; omega
  have HWA := Lib.hid hwa
  have OW := Lib.hid ow
  clear hwa ow
  have h0 := h.below hb0
  go_enter Try.func20, Try.ntmps20
  go_wp2_with (at_builtin; rw [HWA.out]; refine wpList_copy_ints (W := W) rfl (.tmp 125) (.tmp 127) rfl (w.heap.size + 1) rfl OW.out rfl hz hbW2 hsz2 ?_)
  intro vp wp hop hgp
  have bp : Below wa.heap.size wa wp := hbo.grown hgp (by simp) (fun k e => by have e2 : some (w.heap.size + 1) = some k := e; injection e2 with e2; omega)
  have hip : Ints FK B wp vp zs := ints_own hop hz.2.2.1 (fun _ => rfl)
  have h1 := h0.below bp
  have hn1 := (bp.block w.heap.size (by omega)).trans hnew
  have hsB : B ≤ wp.heap.size := Nat.le_trans hB (Nat.le_trans hb0.size bp.size)
  have bW1 : Below B w wp := (hb0.mono hB).trans (bp.mono (Nat.le_trans hB hb0.size))
  clear hop hgp hbo hbW2 hsz2 HWA OW hnew
  go_wp2_with fail
  refine (crash_any h1.a (by unfold maxLen; omega) (by omega) hip).mono ?_
  rintro e w1 ⟨rfl, a1, f1⟩
  have b1 := h1.b.fr f1 FK_RK
  have c4 := cell_row (f1.row hn1 rfl) 4 rfl
  have bW2 : Below B w w1 := bW1.trans (f1.below hsB)
  have hi2 : Ints RK B w1 (.slice ao zs.length cap) zs := (hz.ints (K := RK) (hbW.trans (bW2.mono hWB))).more hWB
  go_wp2_with fail
  refine (rcrash_any b1 (by omega) hi2).mono ?_
  rintro e w2 ⟨rfl, b2, f2⟩
  have a2 := a1.fr f2 RK_FK
  have FIN : Hid (StepTo B w db rb d N (.returned (.bool true)) w2) := Lib.hid ⟨rfl, _, _, ⟨a2, b2⟩, bW2.trans (f2.below (Nat.le_trans hsB f1.size)), (crash_same d zs).2.1, by rw [(crash_same d zs).1]; simp, Nat.le_refl _⟩
  clear a1 a2 b1 b2 f1 f2 h h0 hb0 hip h1 hi2 bW2 bW1 bp hn1
  go_wp2
  go_ret
  exact FIN.out
set_option maxHeartbeats 1600000 in
theorem stepN {B : Nat} {w : World} {db rb : Nat} {d : Dev} {N : Nat} (h : Two B w db rb d N) (hB : B ≤ w.heap.size) (x0 x1 x2 x3 : Int) (hx : x0 ≠ 1 ∧ x0 ≠ 2 ∧ x0 ≠ 3 ∧ x0 ≠ 4 ∧ x0 ≠ 5 ∧ x0 ≠ 6) (pv : Value) :
    Calls Try.prog 20 #[.pointer (some ⟨db, 0, none⟩), .pointer (some ⟨rb, 0, none⟩), .agg #[.int .i64 x0, .int .i64 x1, .int .i64 x2, .int .i64 x3, pv]] w fun e w' => StepTo B w db rb d N e w' := by
  have hb0 := box_below w (.cells #[.int .i64 x0, .int .i64 x1, .int .i64 x2, .int .i64 x3, pv] 42 (0, 0))
  have h0 := h.below hb0
  obtain ⟨wa, hwa⟩ : ∃ wa, w.alloc (.cells #[.int .i64 x0, .int .i64 x1, .int .i64 x2, .int .i64 x3, pv] 42 (0, 0)) = wa := ⟨_, rfl⟩
  rw [hwa] at hb0 h0
  obtain ⟨la, lc, ta, tc, va, vc, L, T, c0, -, c2, -⟩ := h0.b.all
  have e1 : (x0 == 1) = false := by simp [hx.1]
  have e2 : (x0 == 2) = false := by simp [hx.2.1]
  have e3 : (x0 == 3) = false := by simp [hx.2.2.1]
  have e4 : (x0 == 4) = false := by simp [hx.2.2.2.1]
  have e5 : (x0 == 5) = false := by simp [hx.2.2.2.2.1]
  have e6 : (x0 == 6) = false := by simp [hx.2.2.2.2.2]
  have HWA := Lib.hid hwa
  have HD : ∀ w', w' = wa.drew → Two B w' db rb d N := fun w' hw => hw ▸ h0.drew
  have C0 : Hid (∀ w', w' = wa.drew → w'.cell? ⟨rb, 0, none⟩ = some (.slice la d.size lc)) := Lib.hid (fun w' hw => hw ▸ c0)
  have C2 : Hid (∀ w', w' = wa.drew → w'.cell? ⟨rb, 2, none⟩ = some (.slice va d.waits.length vc)) := Lib.hid (fun w' hw => hw ▸ c2)
  clear hwa hx
  go_enter Try.func20, Try.ntmps20
  go_wp2_with fail
  rw [HWA.out]
  have hS : wa.drew = wa.drew := rfl
  refine wp_region_held_drew (S := fun w' => w' = wa.drew) mixed hS (fun _ => ?_)
  show wpAnyH _ _ _ _ _ 19 (Array.replicate 19 false) _ _
  refine wpAnyH_take_d 0 (some 140) (.pointer (some ⟨db, 0, none⟩)) rfl (by kernel_rfl) (by kernel_rfl) (by kernel_rfl) (by kernel_rfl) rfl (fun _ _ _ h => h) (fun _ _ => by kernel_rfl) (by exact hS) ?_
  simp only [Act.put, List.setIfInBounds_toArray, List.set_cons_succ, List.set_cons_zero]
  refine wpAnyH_take_d 2 (some 142) (.pointer (some ⟨rb, 0, none⟩)) rfl (by kernel_rfl) (by kernel_rfl) (by kernel_rfl) (by kernel_rfl) rfl (fun _ _ _ h => h) (fun _ _ => by kernel_rfl) (by exact hS) ?_
  simp only [Act.put, List.setIfInBounds_toArray, List.set_cons_succ, List.set_cons_zero]
  refine wpAnyH_take_d 3 (some 143) (.pointer (some ⟨rb, 0, none⟩)) rfl (by kernel_rfl) (by kernel_rfl) (by kernel_rfl) (by kernel_rfl) rfl (fun _ _ _ h => h) (fun _ _ => by kernel_rfl) (by exact hS) ?_
  simp only [Act.put, List.setIfInBounds_toArray, List.set_cons_succ, List.set_cons_zero]
  refine wpAnyH_take_d 4 (some 144) (.pointer (some ⟨rb, 2, none⟩)) rfl (by kernel_rfl) (by kernel_rfl) (by kernel_rfl) (by kernel_rfl) rfl (fun _ _ _ h => h) (fun _ _ => by kernel_rfl) (by exact hS) ?_
  simp only [Act.put, List.setIfInBounds_toArray, List.set_cons_succ, List.set_cons_zero]
  refine wpAnyH_take_d 5 (some 145) (.slice va d.waits.length vc) rfl (by kernel_rfl) (by kernel_rfl) (by kernel_rfl) (by kernel_rfl) rfl (fun _ _ _ h => h) (fun w' h => exec_load_cell rfl rfl (C2.out _ h) Try.underlying45 rfl) (by exact hS) ?_
  simp only [Act.put, List.setIfInBounds_toArray, List.set_cons_succ, List.set_cons_zero]
  refine wpAnyH_take_d 6 (some 146) (.int .i64 d.waits.length) rfl (by kernel_rfl) (by kernel_rfl) (by kernel_rfl) (by kernel_rfl) rfl (fun _ _ _ h => h) (fun _ _ => ex_len rfl rfl Try.underlying45) (by exact hS) ?_
  simp only [Act.put, List.setIfInBounds_toArray, List.set_cons_succ, List.set_cons_zero]
  refine wpAnyH_call 1 (some 141) 19 #[.pointer (some ⟨db, 0, none⟩)] rfl (by kernel_rfl) (by kernel_rfl) rfl (by kernel_rfl) ((pending_any h0.drew.a)) ?_
  rintro e w7 ⟨rfl, hw7⟩
  have hS := hw7.symm
  refine ⟨_, rfl, hS, ?_⟩
  simp only [Act.put, List.setIfInBounds_toArray, List.set_cons_succ, List.set_cons_zero]
  refine wpAnyH_take_d 7 (some 147) (.bool true) rfl (by kernel_rfl) (by kernel_rfl) (by kernel_rfl) (by kernel_rfl) rfl (fun _ _ _ h => h) (fun _ _ => ex_eq rfl rfl rfl (by simp)) (by exact hS) ?_
  simp only [Act.put, List.setIfInBounds_toArray, List.set_cons_succ, List.set_cons_zero]
  refine wpAnyH_take_d 8 (some 148) (.bool true) rfl (by kernel_rfl) (by kernel_rfl) (by kernel_rfl) (by kernel_rfl) rfl (fun _ _ _ h => h) (fun _ _ => by kernel_rfl) (by exact hS) ?_
  simp only [Act.put, List.setIfInBounds_toArray, List.set_cons_succ, List.set_cons_zero]
  refine wpAnyH_take_d 9 (some 149) (.pointer (some ⟨db, 0, none⟩)) rfl (by kernel_rfl) (by kernel_rfl) (by kernel_rfl) (by kernel_rfl) rfl (fun _ _ _ h => h) (fun _ _ => by kernel_rfl) (by exact hS) ?_
  simp only [Act.put, List.setIfInBounds_toArray, List.set_cons_succ, List.set_cons_zero]
  refine wpAnyH_take_d 11 (some 151) (.pointer (some ⟨rb, 0, none⟩)) rfl (by kernel_rfl) (by kernel_rfl) (by kernel_rfl) (by kernel_rfl) rfl (fun _ _ _ h => h) (fun _ _ => by kernel_rfl) (by exact hS) ?_
  simp only [Act.put, List.setIfInBounds_toArray, List.set_cons_succ, List.set_cons_zero]
  refine wpAnyH_take_d 12 (some 152) (.pointer (some ⟨rb, 0, none⟩)) rfl (by kernel_rfl) (by kernel_rfl) (by kernel_rfl) (by kernel_rfl) rfl (fun _ _ _ h => h) (fun _ _ => by kernel_rfl) (by exact hS) ?_
  simp only [Act.put, List.setIfInBounds_toArray, List.set_cons_succ, List.set_cons_zero]
  refine wpAnyH_take_d 13 (some 153) (.pointer (some ⟨rb, 0, none⟩)) rfl (by kernel_rfl) (by kernel_rfl) (by kernel_rfl) (by kernel_rfl) rfl (fun _ _ _ h => h) (fun _ _ => by kernel_rfl) (by exact hS) ?_
  simp only [Act.put, List.setIfInBounds_toArray, List.set_cons_succ, List.set_cons_zero]
  refine wpAnyH_take_d 14 (some 154) (.slice la d.size lc) rfl (by kernel_rfl) (by kernel_rfl) (by kernel_rfl) (by kernel_rfl) rfl (fun _ _ _ h => h) (fun w' h => exec_load_cell rfl rfl (C0.out _ h) Try.underlying43 rfl) (by exact hS) ?_
  simp only [Act.put, List.setIfInBounds_toArray, List.set_cons_succ, List.set_cons_zero]
  refine wpAnyH_take_d 15 (some 155) (.int .i64 d.size) rfl (by kernel_rfl) (by kernel_rfl) (by kernel_rfl) (by kernel_rfl) rfl (fun _ _ _ h => h) (fun _ _ => ex_len rfl rfl Try.underlying43) (by exact hS) ?_
  simp only [Act.put, List.setIfInBounds_toArray, List.set_cons_succ, List.set_cons_zero]
  refine wpAnyH_call 10 (some 150) 18 #[.pointer (some ⟨db, 0, none⟩)] rfl (by kernel_rfl) (by kernel_rfl) rfl (by kernel_rfl) ((size_any (HD _ hS).a)) ?_
  rintro e w8 ⟨rfl, hw8⟩
  have hS := hw8.symm.trans hS
  have hw8' := hS
  refine ⟨_, rfl, hS, ?_⟩
  simp only [Act.put, List.setIfInBounds_toArray, List.set_cons_succ, List.set_cons_zero]
  refine wpAnyH_take_d 16 (some 156) (.bool true) rfl (by kernel_rfl) (by kernel_rfl) (by kernel_rfl) (by kernel_rfl) rfl (fun _ _ _ h => h) (fun _ _ => ex_eq rfl rfl rfl (by simp)) (by exact hS) ?_
  simp only [Act.put, List.setIfInBounds_toArray, List.set_cons_succ, List.set_cons_zero]
  refine wpAnyH_take_d 17 (some 157) (.bool true) rfl (by kernel_rfl) (by kernel_rfl) (by kernel_rfl) (by kernel_rfl) rfl (fun _ _ _ h => h) (fun _ _ => by kernel_rfl) (by exact hS) ?_
  simp only [Act.put, List.setIfInBounds_toArray, List.set_cons_succ, List.set_cons_zero]
  refine wpAnyH_take_d 18 (some 6) (.bool true) rfl (by kernel_rfl) (by kernel_rfl) (by kernel_rfl) (by kernel_rfl) rfl (fun _ _ _ h => h) (fun _ _ => by kernel_rfl) (by exact hS) ?_
  simp only [Act.put, List.setIfInBounds_toArray, List.set_cons_succ, List.set_cons_zero]
  refine wpAnyH_done (by kernel_rfl) ?_ _
  have FIN : Hid (StepTo B w db rb d N (.returned (.bool true)) w8) := Lib.hid ⟨rfl, _, _, HD _ hS, (hb0.mono hB).trans (hw8' ▸ (Below.refl _ _).drew), rfl, Nat.le_succ _, Nat.le_add_right _ _⟩
  clear hS hw8 hw8' hw7 HD C0 C2 c0 c2 h0 h hb0
  go_wp2
  go_ret
  exact FIN.out
end Go.Proofs.Ytfdabkcbefhdaaa
