/- What is flushed is read behind a crash whatever the picks are, if it wasn't written since: the law cisternlaw01.FlashLasts returns true at every input. No condition. -/
import Derived.Test.YtnlkkgnigldhcaaFOps
import Derived.Test.YtnlkkgnigldhcaaPSteps
import Derived.Deep.CutRange
import Derived.Deep.Cut
namespace Go.Proofs.Ytnlkkgnigldhcaa.flashLasts
open Go.RowKit
open Go.ChangeShapes Go.WideShapes Go.ChangeAt
open Go.Proofs.Ytnlkkgnigldhcaa.flashNewest (own szInt)

theorem mixed : Try.prog.follows .mixedOrders = true := by kernel_rfl
structure La (k : Nat) (d : Dev) (L : List Int) : Prop where
  off : d.off = false
  arm : d.armed = false
  size : d.size = 8
  len : d.waits.length = k
  last : ∀ i, d.last i = (zeros, false)
  ll : L.length = 8
  fit : ∀ z ∈ L, 0 ≤ z ∧ z < 1000000
  is : ∀ a : Nat, a < 8 → (newest d.waits a).getD zeros = bytesL (L.getD a 0) 256
theorem getD_rep (n a : Nat) : (List.replicate n (0 : Int)).getD a 0 = 0 := by
  rw [List.getD_eq_getElem?_getD, List.getElem?_replicate]; split <;> rfl
theorem La.start : La 0 (Dev.fresh 8) (List.replicate 8 0) := by
  refine ⟨rfl, rfl, rfl, rfl, fun _ => rfl, by simp, by simp, fun a _ => ?_⟩
  rw [getD_rep]
  show zeros = bytesL 0 256
  kernel_rfl
theorem La.write {k : Nat} {d : Dev} {L : List Int} (h : La k d L) {a : Nat} (ha : a < 8) {f : Nat} (hf : f < 1000000) : ∃ d', d.write a (bytesL f 256) = (0, d') ∧ La (k + 1) d' (L.set a f) := by
  refine ⟨_, write_free h.off h.arm (by rw [h.size]; omega) (bytesL_length _ _), h.off, h.arm, h.size, by simp [h.len], h.last, by simp [h.ll], fun z hz => ?_, fun b hb => ?_⟩
  · rcases List.mem_or_eq_of_mem_set hz with h1 | rfl
    · exact h.fit z h1
    · omega
  · show (newest (d.waits ++ [((a : Int), bytesL f 256)]) b).getD zeros = _
    rw [newest_append]
    by_cases e : a = b
    · subst e
      rw [if_pos rfl]
      simp [List.getD_eq_getElem?_getD, h.ll, ha]
    · rw [if_neg (by omega), h.is b hb]
      simp [List.getD_eq_getElem?_getD, e]
theorem La.flushed {k : Nat} {d : Dev} {L : List Int} (h : La k d L) {a : Nat} (ha : a < 8) : d.flushed.last a = (bytesL (L.getD a 0) 256, false) := by
  rw [flushed_last, ← h.is a ha, h.last]
  cases newest d.waits a <;> rfl
def B999 : List UInt8 := bytesL 999 256
theorem B999_len : B999.length = 256 := bytesL_length _ _
def D2 (d : Dev) : Dev := { d.flushed with waits := [(3, B999)] }
theorem La.write3 {k : Nat} {d : Dev} {L : List Int} (h : La k d L) : d.flushed.write 3 B999 = (0, D2 d) := by
  obtain ⟨h1, h2, h3, h4, h5⟩ := flushed_same d
  rw [write_free (by rw [h3, h.off]) (by rw [h4, h.arm]) (by rw [h2, h.size]; decide) B999_len, h1]
  rfl
theorem last_crash (d : Dev) (zs : List Int) (i : Int) : ((D2 d).crash zs).last i = if i = 3 then (if pickOf zs 0 = 1 then (B999, false) else if pickOf zs 0 = 2 then (zeros, true) else d.flushed.last 3) else d.flushed.last i := by
  show ((D2 d).apply (crashF zs) 1).last i = _
  have hat : (D2 d).waits[0]? = some ((3 : Int), B999) := rfl
  rw [apply_next hat]
  unfold crashF
  have h0 : ((D2 d).apply (crashF zs) 0).last = d.flushed.last := rfl
  by_cases e : i = 3
  · subst e
    by_cases h1 : pickOf zs 0 = 1
    · simp [h1, Dev.keep, upd]
    · by_cases h2 : pickOf zs 0 = 2
      · simp [h2, Dev.keep, upd]
      · simp only [h1, h2, if_false, if_true]
        rw [show (fun k p => if pickOf zs k = 1 then some (p.2, false) else if pickOf zs k = 2 then some (zeros, true) else none) = crashF zs from rfl, h0]
  · rw [if_neg e]
    by_cases h1 : pickOf zs 0 = 1
    · simp [h1, Dev.keep, upd, e]; rfl
    · by_cases h2 : pickOf zs 0 = 2
      · simp [h2, Dev.keep, upd, e]; rfl
      · simp only [h1, h2, if_false]; rfl
theorem La.read {k : Nat} {d : Dev} {L : List Int} (h : La k d L) (zs : List Int) {a : Nat} (ha : a < 8) : ((D2 d).crash zs).read a = if a = 3 then (if pickOf zs 0 = 1 then (B999, 0) else if pickOf zs 0 = 2 then ([], 3) else (bytesL (L.getD 3 0) 256, 0)) else (bytesL (L.getD a 0) 256, 0) := by
  obtain ⟨h1, h2, h3, _, _⟩ := crash_same (D2 d) zs
  have hs : (D2 d).size = 8 := by show d.flushed.size = 8; rw [(flushed_same d).2.1, h.size]
  rw [read_free h3 (by rw [h2, hs]; omega), h1, last_crash]
  by_cases e : a = 3
  · subst e
    rw [if_pos (show ((3 : Nat) : Int) = 3 from rfl), if_pos rfl]
    by_cases p1 : pickOf zs 0 = 1
    · rw [if_pos p1, if_pos p1]; rfl
    · by_cases p2 : pickOf zs 0 = 2
      · rw [if_neg p1, if_pos p2, if_neg p1, if_pos p2]; rfl
      · have := h.flushed (a := 3) (by decide)
        rw [show ((3 : Nat) : Int) = 3 from rfl] at this
        rw [if_neg p1, if_neg p2, if_neg p1, if_neg p2, this]; rfl
  · rw [if_neg (show ¬ (a : Int) = 3 by omega), if_neg e, h.flushed ha]; rfl

/-- A row of ints. -/
def RowZ (w : World) (g : Nat) (L : List Int) : Prop := w.heap[g]? = some (.cells (L.map (Value.int .i64)).toArray 3 (0, 0))
theorem RowZ.below {w w' : World} {g : Nat} {L : List Int} (h : RowZ w g L) (hb : Below w.heap.size w w') : RowZ w' g L := (hb.block g (lt_of_heap h)).trans h
theorem RowZ.fr {B : Nat} {w w' : World} {g : Nat} {L : List Int} (h : RowZ w g L) (hf : Fr FK B w w') : RowZ w' g L := hf.keep g _ h (Or.inr rfl)
theorem RowZ.lt {w : World} {g : Nat} {L : List Int} (h : RowZ w g L) : g < w.heap.size := lt_of_heap h
theorem RowZ.cell {w : World} {g : Nat} {L : List Int} (h : RowZ w g L) {i : Nat} (hi : i < L.length) : w.cell? ⟨g, 0 + i, none⟩ = some (.int .i64 (L.getD i 0)) := by
  rw [Nat.zero_add, cell_of_row w g i _ _ _ h]; simp [List.getD_eq_getElem?_getD, hi]
theorem RowZ.set {w : World} {g : Nat} {L : List Int} (h : RowZ w g L) (i : Nat) (x : Int) : RowZ (w.setCell ⟨g, i, none⟩ (.int .i64 x)) g (L.set i x) := by
  have := heap_setCell_same w g i _ _ (.int .i64 x) h
  unfold RowZ
  rw [this]
  simp
def KZ : Obj → Bool
  | .cells _ t _ => t == 3
  | _ => false
theorem KZ_FK (o : Obj) (h : FK o = true) : KZ o = false := by
  unfold FK at h; unfold KZ
  split at h
  · simp_all
  · simp at h
    rcases h with rfl | rfl <;> rfl
  all_goals simp_all
theorem RowZ.frame {w : World} {g : Nat} {L : List Int} (h : RowZ w g L) {B : Nat} (hB : B ≤ g) (i : Nat) (x : Int) : Fr KZ B w (w.setCell ⟨g, i, none⟩ (.int .i64 x)) :=
  (Fr.refl KZ B w).setCell (p := ⟨g, i, none⟩) h hB rfl _
theorem made8 (w : World) : (Instr.makeSlice 40 (.int .i64 8) (.int .i64 8)).run Try.prog w = .ok (.slice (some ⟨w.heap.size, 0, none⟩) 8 8) (w.alloc (.cells ((List.replicate 8 (0 : Int)).map (Value.int .i64)).toArray 3)) := by kernel_rfl
theorem ownsRow_below' {w w' : World} {base : Nat} {e : TypeId} {size : Nat} {v : Value} {n : Nat} {xs : List Value} (h : w.ownsRow base e size v n xs) (hb : Below w.heap.size w w') : w'.ownsRow base e size v n xs :=
  row_keep (K := fun _ => false) (B' := 0) h (Fr.of_below hb) (fun _ => rfl)

set_option maxHeartbeats 6400000 in
set_option maxRecDepth 400000 in
theorem walk (v0 : Value) (z0 : List OpF) (v1 : Value) (z1 : List Int) (W : World) (w0 : OpsArg W v0 z0) (w1 : IntsArg W v1 z1) :
    Calls Try.prog 4 #[v0, v1] W fun e w' => e = .returned (.bool true) ∧ Below W.heap.size W w' := by
  obtain ⟨ao, cap, rfl, hlen⟩ := w0.form
  obtain ⟨po, pcap, rfl, hplen, -⟩ := w1.1.form
  go_enter Try.func4, Try.ntmps4
  go_wp2_with fail
  refine (known_any W).mono ?_
  rintro e wa ⟨rfl, ba⟩
  go_wp2_with fail
  refine (new_any W.heap.size wa 8 (by decide) (by decide) ba.size).mono ?_
  rintro e wb ⟨rfl, db, bb, -⟩
  have bc : Below W.heap.size W wb := ba.trans (bb.mono ba.size)
  have hmk := made8 wb
  have hr0 : RowZ (wb.alloc (.cells ((List.replicate 8 (0 : Int)).map (Value.int .i64)).toArray 3)) wb.heap.size (List.replicate 8 0) := heap_alloc_new wb _
  have bm : Below wb.heap.size wb (wb.alloc (.cells ((List.replicate 8 (0 : Int)).map (Value.int .i64)).toArray 3)) := (Below.refl _ _).alloc (Nat.le_refl _) _
  have db := db.below bm
  have bc' := bc.trans (bm.mono bc.size)
  have hBg : W.heap.size ≤ wb.heap.size := bc.size
  generalize (wb.alloc (.cells ((List.replicate 8 (0 : Int)).map (Value.int .i64)).toArray 3)) = wm at hmk hr0 db bc'
  clear bm bc bb ba
  go_wp2
  go_loopw [8] (fun iv wr => ∃ (k : Nat) (d : Dev) (L : List Int), k ≤ 60 ∧ k ≤ z0.length ∧ iv = .int .i64 k ∧ La k d L ∧ DevAt W.heap.size wr wa.heap.size d 0 ∧ RowZ wr wb.heap.size L ∧ Below W.heap.size W wr) (fun iv _ => z0.length - (intOf iv).toNat)
  case atStart => exact ⟨0, _, _, Nat.zero_le _, Nat.zero_le _, rfl, La.start, db, hr0, bc'⟩
  case round =>
    clear db hr0 bc' hmk
    obtain ⟨k, d, L, hk60, hkl, rfl, hla, dk, rk, bk⟩ := hrel
    by_cases hlt : k < z0.length ∧ k < 60
    · obtain ⟨hlt1, hlt2⟩ := hlt
      obtain ⟨ob, off, rfl, hok, -, cat, cfill, -, -⟩ := w0.get bk hlt1
      generalize (opAt z0 k).at' = xat at cat
      generalize (opAt z0 k).fill = xfill at cfill
      clear hok
      go_wp2_with fail
      obtain ⟨a, ha, ea⟩ := mod_form xat 8 (by decide) (by decide)
      obtain ⟨f, hf, ef⟩ := mod_form xfill 1000000 (by decide) (by decide)
      rw [ea, ef]
      clear ea ef cat cfill
      refine (bytes0_any wr (f : Int) (by omega)).mono ?_
      rintro e wd ⟨vd, rfl, od, bd⟩
      have hbl : (bytesL (f : Int) 256).length = 256 := bytesL_length _ _
      have hwr := write_any (dk.below bd) (a : Int) (od.bytes (by rw [hbl]; unfold maxLen; omega)) (by rw [hla.len]; omega) (Nat.le_trans bk.size bd.size)
      obtain ⟨d', hw, hla'⟩ := hla.write (a := a) (by omega) (f := f) (by omega)
      rw [hw] at hwr
      go_wp2_with fail
      refine hwr.mono ?_
      rintro e we ⟨rfl, de, fe⟩
      have be := (bk.trans (bd.mono bk.size)).trans (fe.below (Nat.le_trans bk.size bd.size))
      have re := (rk.below bd).fr fe
      have hce := re.cell (i := a) (by rw [hla.ll]; omega)
      rw [Nat.zero_add] at hce
      have hfr := free_row re a
      have hf2 := re.frame hBg a (f : Int)
      have d2 := de.fr hf2 KZ_FK
      have r2 := re.set a (f : Int)
      have b2 := be.trans (hf2.below be.size)
      have ha8 : a < 8 := by omega
      clear hwr dk fe bk od bd hbl hw hla rk de re hf2 be
      go_wp2
      go_roundw
      case rel => exact ⟨k + 1, d', _, by omega, by omega, by go_num, hla', d2, r2, b2⟩
      case measure => simp [intOf]; omega
    · have hfl := flush_any dk (by rw [hla.len]; unfold maxLen; omega) (by rw [hla.len]; omega)
      rw [flush_free hla.off hla.arm] at hfl
      have hcond : ¬ (k < z0.length) ∨ (k < z0.length ∧ ¬ k < 60) := by omega
      clear hlt
      have hgo : ∀ {Q : Prop}, (k < z0.length → ¬ k < 60 → Q) → (¬ k < z0.length → Q) → Q := fun h1 h2 => by
        rcases hcond with h | ⟨h, h'⟩
        · exact h2 h
        · exact h1 h h'
      clear hcond
      go_upto_region 8 with fail
      go_cut [35] from 28 to 63 (fun s wx => s = .bool false ∧ wx = wr)
      case first =>
        refine hgo (fun h1 h2 => ?_) (fun h1 => ?_)
        all_goals
          go_wp2
          go_meet
          exact ⟨by first | rfl | (simp; omega), rfl⟩
      case rest =>
        obtain ⟨rfl, rfl⟩ := hcut
        clear hgo
        go_wp2_with fail
        refine hfl.mono ?_
        rintro e we ⟨rfl, de, fe⟩
        have be := bk.trans (fe.below bk.size)
        have re := rk.fr fe
        have hpe := pending_any de
        rw [(flushed_same d).1] at hpe
        clear hfl dk bk rk fe
        go_wp2_with fail
        refine hpe.mono ?_
        rintro e we' ⟨rfl, rfl⟩
        clear hpe
        go_wp2_with fail
        refine (bytes0_any we 999 (by decide)).mono ?_
        rintro e wd ⟨vd, rfl, od, bd⟩
        have hwr := write_any (de.below bd) 3 (od.bytes (by rw [bytesL_length]; unfold maxLen; omega)) (by rw [(flushed_same d).1]; simp) (Nat.le_trans be.size bd.size)
        rw [show bytesL 999 256 = B999 from rfl, hla.write3] at hwr
        go_wp2_with fail
        refine hwr.mono ?_
        rintro e wf ⟨rfl, df, ff⟩
        have bf := (be.trans (bd.mono be.size)).trans (ff.below (Nat.le_trans be.size bd.size))
        have rf := (re.below bd).fr ff
        clear hwr de be od bd re ff
        have HL : (D2 d).waits.length = 1 := rfl
        go_wp2_with (at_builtin; refine wpList_copy_ints (W := W) rfl (.tmp 77) (.tmp 78) rfl wf.heap.size rfl (World.ownsRow_made wf #[] 0 (Nat.le_refl _) (by simp [maxLen]) rfl) rfl w1 (bf.alloc bf.size _) (by simp) ?_)
        intro vp wp hop hgp
        have bp : Below wf.heap.size wf wp := ((Below.refl wf.heap.size wf).alloc (Nat.le_refl _) _).grown hgp (by simp) (fun k e => by cases e; exact Nat.le_refl _)
        have hip : Ints FK W.heap.size wp vp z1 := ints_own hop w1.2.2.1 (fun _ => rfl)
        have dp := df.below bp
        have bW := bf.trans (bp.mono bf.size)
        have rp := rf.below bp
        clear hop hgp bp df bf rf
        go_wp2_with fail
        refine (crash_any dp (by rw [HL, hla.len]; unfold maxLen; omega) (by rw [HL]; omega) hip).mono ?_
        rintro e wq ⟨rfl, dq, fq⟩
        have bq := bW.trans (fq.below bW.size)
        have rq := rp.fr fq
        clear hip dp bW fq rp
        go_wp2
        go_loopw [11] (fun iv wr => ∃ j : Nat, j ≤ 8 ∧ iv = .int .i64 j ∧ DevAt W.heap.size wr wa.heap.size ((D2 d).crash z1) (0 + d.waits.length + (D2 d).waits.length) ∧ RowZ wr wb.heap.size L ∧ Below W.heap.size W wr) (fun iv _ => 8 - (intOf iv).toNat)
        case atStart => exact ⟨0, Nat.zero_le _, rfl, dq, rq, bq⟩
        case round =>
          clear dq bq rq
          obtain ⟨j, hj1, rfl, dj, rj, bj⟩ := hrel
          by_cases hj : j < 8
          · have hx : -9223372036854775808 ≤ L.getD j 0 ∧ L.getD j 0 ≤ 9223372036854775807 := by
              have hm : L.getD j 0 ∈ L := by
                rw [List.getD_eq_getElem?_getD, List.getElem?_eq_getElem (by rw [hla.ll]; exact hj)]
                exact List.getElem_mem _
              have := hla.fit _ hm
              omega
            have hcellx : ∀ {w : World}, RowZ w wb.heap.size L → w.cell? ⟨wb.heap.size, 0 + j, none⟩ = some (.int .i64 (L.getD j 0)) := fun h => h.cell (by rw [hla.ll]; exact hj)
            by_cases h3 : j = 3
            · subst h3
              have hpr := pick_range z1 0
              rcases (show pickOf z1 0 = 0 ∨ pickOf z1 0 = 1 ∨ pickOf z1 0 = 2 by omega) with hq | hq | hq
              · have hrd := read_any dj ((3 : Nat) : Int) (by rw [(crash_same (D2 d) z1).1]; simp)
                rw [hla.read z1 hj, if_pos rfl, if_neg (by omega), if_neg (by omega)] at hrd
                go_wp2_with fail
                refine hrd.mono ?_
                rintro e wd ⟨vd, rfl, od, bd⟩
                have dd := dj.below bd
                have bW := bj.trans (bd.mono bj.size)
                have hrw := rj.below bd
                clear hrd dj bd bj rj
                obtain ⟨sa, sn, sc, hvd⟩ : ∃ sa sn sc, vd = .slice sa sn sc := by obtain ⟨a, c, h⟩ := ownsRow_slice od; exact ⟨a, _, c, h⟩
                have hbw := hrw.lt
                have cx := hcellx hrw
                clear hcellx
                generalize L.getD 3 0 = x at cx hx od
                have hpk := Pick_any (K := FK) (w1.ints bW) 0 (by omega)
                rw [hq] at hpk
                clear hq hpr
                subst hvd
                go_wp2_with fail
                refine hpk.mono ?_
                rintro e wd' ⟨rfl, rfl⟩
                clear hpk
                go_wp2_with fail
                have hS : Below wd.heap.size wd wd.drew := (Below.refl _ _).drew
                refine wp_region_held_drew (S := fun w' => Below wd.heap.size wd w') mixed hS (fun _ => ?_)
                show wpAnyH _ _ _ _ _ 31 (Array.replicate 31 false) _ _
                refine wpAnyH_take_d 0 (some 95) (.int .i64 0) rfl (by kernel_rfl) (by kernel_rfl) (by kernel_rfl) (by kernel_rfl) rfl (fun _ _ _ h => h) (fun _ _ => by kernel_rfl) (by exact hS) ?_
                simp only [Act.put, List.setIfInBounds_toArray, List.set_cons_succ, List.set_cons_zero]
                refine wpAnyH_take_d 1 (some 96) (.bool false) rfl (by kernel_rfl) (by kernel_rfl) (by kernel_rfl) (by kernel_rfl) rfl (fun _ _ _ h => h) (fun _ _ => by kernel_rfl) (by exact hS) ?_
                simp only [Act.put, List.setIfInBounds_toArray, List.set_cons_succ, List.set_cons_zero]
                refine wpAnyH_take_d 2 (some 97) (.bool false) rfl (by kernel_rfl) (by kernel_rfl) (by kernel_rfl) (by kernel_rfl) rfl (fun _ _ _ h => h) (fun _ _ => by kernel_rfl) (by exact hS) ?_
                simp only [Act.put, List.setIfInBounds_toArray, List.set_cons_succ, List.set_cons_zero]
                refine wpAnyH_skip_d 3 (some 98) rfl (by kernel_rfl) (by kernel_rfl) (by kernel_rfl) (by kernel_rfl) rfl (fun _ _ _ h => h) (by exact hS) ?_
                simp only [Act.put, List.setIfInBounds_toArray, List.set_cons_succ, List.set_cons_zero]
                refine wpAnyH_skip_d 4 (some 99) rfl (by kernel_rfl) (by kernel_rfl) (by kernel_rfl) (by kernel_rfl) rfl (fun _ _ _ h => h) (by exact hS) ?_
                simp only [Act.put, List.setIfInBounds_toArray, List.set_cons_succ, List.set_cons_zero]
                refine wpAnyH_take_d 5 (some 100) (.bool false) rfl (by kernel_rfl) (by kernel_rfl) (by kernel_rfl) (by kernel_rfl) rfl (fun _ _ _ h => h) (fun _ _ => by kernel_rfl) (by exact hS) ?_
                simp only [Act.put, List.setIfInBounds_toArray, List.set_cons_succ, List.set_cons_zero]
                refine wpAnyH_take_d 6 (some 101) (.bool false) rfl (by kernel_rfl) (by kernel_rfl) (by kernel_rfl) (by kernel_rfl) rfl (fun _ _ _ h => h) (fun _ _ => by kernel_rfl) (by exact hS) ?_
                simp only [Act.put, List.setIfInBounds_toArray, List.set_cons_succ, List.set_cons_zero]
                refine wpAnyH_take_d 7 (some 102) (.int .i64 0) rfl (by kernel_rfl) (by kernel_rfl) (by kernel_rfl) (by kernel_rfl) rfl (fun _ _ _ h => h) (fun _ _ => by kernel_rfl) (by exact hS) ?_
                simp only [Act.put, List.setIfInBounds_toArray, List.set_cons_succ, List.set_cons_zero]
                refine wpAnyH_take_d 8 (some 103) (.bool false) rfl (by kernel_rfl) (by kernel_rfl) (by kernel_rfl) (by kernel_rfl) rfl (fun _ _ _ h => h) (fun _ _ => by kernel_rfl) (by exact hS) ?_
                simp only [Act.put, List.setIfInBounds_toArray, List.set_cons_succ, List.set_cons_zero]
                refine wpAnyH_take_d 9 (some 104) (.bool false) rfl (by kernel_rfl) (by kernel_rfl) (by kernel_rfl) (by kernel_rfl) rfl (fun _ _ _ h => h) (fun _ _ => by kernel_rfl) (by exact hS) ?_
                simp only [Act.put, List.setIfInBounds_toArray, List.set_cons_succ, List.set_cons_zero]
                refine wpAnyH_skip_d 10 (some 105) rfl (by kernel_rfl) (by kernel_rfl) (by kernel_rfl) (by kernel_rfl) rfl (fun _ _ _ h => h) (by exact hS) ?_
                simp only [Act.put, List.setIfInBounds_toArray, List.set_cons_succ, List.set_cons_zero]
                refine wpAnyH_skip_d 11 (some 106) rfl (by kernel_rfl) (by kernel_rfl) (by kernel_rfl) (by kernel_rfl) rfl (fun _ _ _ h => h) (by exact hS) ?_
                simp only [Act.put, List.setIfInBounds_toArray, List.set_cons_succ, List.set_cons_zero]
                refine wpAnyH_skip_d 12 (some 107) rfl (by kernel_rfl) (by kernel_rfl) (by kernel_rfl) (by kernel_rfl) rfl (fun _ _ _ h => h) (by exact hS) ?_
                simp only [Act.put, List.setIfInBounds_toArray, List.set_cons_succ, List.set_cons_zero]
                refine wpAnyH_skip_d 13 (some 108) rfl (by kernel_rfl) (by kernel_rfl) (by kernel_rfl) (by kernel_rfl) rfl (fun _ _ _ h => h) (by exact hS) ?_
                simp only [Act.put, List.setIfInBounds_toArray, List.set_cons_succ, List.set_cons_zero]
                refine wpAnyH_skip_d 14 (some 109) rfl (by kernel_rfl) (by kernel_rfl) (by kernel_rfl) (by kernel_rfl) rfl (fun _ _ _ h => h) (by exact hS) ?_
                simp only [Act.put, List.setIfInBounds_toArray, List.set_cons_succ, List.set_cons_zero]
                refine wpAnyH_take_d 15 (some 110) (.bool false) rfl (by kernel_rfl) (by kernel_rfl) (by kernel_rfl) (by kernel_rfl) rfl (fun _ _ _ h => h) (fun _ _ => by kernel_rfl) (by exact hS) ?_
                simp only [Act.put, List.setIfInBounds_toArray, List.set_cons_succ, List.set_cons_zero]
                refine wpAnyH_take_d 16 (some 111) (.bool false) rfl (by kernel_rfl) (by kernel_rfl) (by kernel_rfl) (by kernel_rfl) rfl (fun _ _ _ h => h) (fun _ _ => by kernel_rfl) (by exact hS) ?_
                simp only [Act.put, List.setIfInBounds_toArray, List.set_cons_succ, List.set_cons_zero]
                refine wpAnyH_take_d 17 (some 112) (.bool false) rfl (by kernel_rfl) (by kernel_rfl) (by kernel_rfl) (by kernel_rfl) rfl (fun _ _ _ h => h) (fun _ _ => by kernel_rfl) (by exact hS) ?_
                simp only [Act.put, List.setIfInBounds_toArray, List.set_cons_succ, List.set_cons_zero]
                refine wpAnyH_take_d 18 (some 113) (.int .i64 0) rfl (by kernel_rfl) (by kernel_rfl) (by kernel_rfl) (by kernel_rfl) rfl (fun _ _ _ h => h) (fun _ _ => by kernel_rfl) (by exact hS) ?_
                simp only [Act.put, List.setIfInBounds_toArray, List.set_cons_succ, List.set_cons_zero]
                refine wpAnyH_take_d 19 (some 114) (.bool true) rfl (by kernel_rfl) (by kernel_rfl) (by kernel_rfl) (by kernel_rfl) rfl (fun _ _ _ h => h) (fun _ _ => by kernel_rfl) (by exact hS) ?_
                simp only [Act.put, List.setIfInBounds_toArray, List.set_cons_succ, List.set_cons_zero]
                refine wpAnyH_take_d 20 (some 115) (.bool true) rfl (by kernel_rfl) (by kernel_rfl) (by kernel_rfl) (by kernel_rfl) rfl (fun _ _ _ h => h) (fun _ _ => by kernel_rfl) (by exact hS) ?_
                simp only [Act.put, List.setIfInBounds_toArray, List.set_cons_succ, List.set_cons_zero]
                refine wpAnyH_take_d 21 (some 116) ((.slice sa sn sc)) rfl (by kernel_rfl) (by kernel_rfl) (by kernel_rfl) (by kernel_rfl) rfl (fun _ _ _ h => h) (fun _ _ => by kernel_rfl) (by exact hS) ?_
                simp only [Act.put, List.setIfInBounds_toArray, List.set_cons_succ, List.set_cons_zero]
                refine wpAnyH_take_d 22 (some 117) (.string (strOf (bytesL x 256))) rfl (by kernel_rfl) (by kernel_rfl) (by kernel_rfl) (by kernel_rfl) rfl (fun _ _ _ h => h) (fun w' h => exec_convert rfl rfl (run_string (ownsRow_below' od h))) (by exact hS) ?_
                simp only [Act.put, List.setIfInBounds_toArray, List.set_cons_succ, List.set_cons_zero]
                refine wpAnyH_take_d 23 (some 118) (.slice (some ⟨wb.heap.size, 0, none⟩) 8 8) rfl (by kernel_rfl) (by kernel_rfl) (by kernel_rfl) (by kernel_rfl) rfl (fun _ _ _ h => h) (fun _ _ => by kernel_rfl) (by exact hS) ?_
                simp only [Act.put, List.setIfInBounds_toArray, List.set_cons_succ, List.set_cons_zero]
                refine wpAnyH_take_d 24 (some 119) (.pointer (some ⟨wb.heap.size, 0 + 3, none⟩)) rfl (by kernel_rfl) (by kernel_rfl) (by kernel_rfl) (by kernel_rfl) rfl (fun _ _ _ h => h) (fun w' h => exec_indexAddr (k := 3) rfl rfl rfl (by decide) Try.underlying40 szInt) (by exact hS) ?_
                simp only [Act.put, List.setIfInBounds_toArray, List.set_cons_succ, List.set_cons_zero]
                refine wpAnyH_take_d 25 (some 120) (.int .i64 x) rfl (by kernel_rfl) (by kernel_rfl) (by kernel_rfl) (by kernel_rfl) rfl (fun _ _ _ h => h) (fun w' h => exec_load_cell rfl rfl ((h.cell (p := ⟨wb.heap.size, 0 + 3, none⟩) hbw).trans cx) Try.underlying3 rfl) (by exact hS) ?_
                simp only [Act.put, List.setIfInBounds_toArray, List.set_cons_succ, List.set_cons_zero]
                refine wpAnyH_call 26 (some 121) 16 #[.int .i64 x, .int .i64 0] rfl (by kernel_rfl) (by kernel_rfl) rfl (by kernel_rfl) (bytes0_any _ x hx) ?_
                rintro e wn ⟨vn, rfl, on, bn⟩
                have hS := hS.trans (bn.mono hS.size)
                have hS : Below wd.heap.size wd wn := hS
                refine ⟨_, rfl, hS, ?_⟩
                simp only [Act.put, List.setIfInBounds_toArray, List.set_cons_succ, List.set_cons_zero]
                refine wpAnyH_one 27 (some 122) (.string (strOf (bytesL x 256))) rfl (by kernel_rfl) (by kernel_rfl) rfl (exec_convert rfl rfl (run_string on)) (by exact hS) ?_
                simp only [Act.put, List.setIfInBounds_toArray, List.set_cons_succ, List.set_cons_zero]
                clear on bn
                refine wpAnyH_take_d 28 (some 123) (.bool false) rfl (by kernel_rfl) (by kernel_rfl) (by kernel_rfl) (by kernel_rfl) rfl (fun _ _ _ h => h) (fun w' h => exec_strneq rfl rfl rfl (by simp)) (by exact hS) ?_
                simp only [Act.put, List.setIfInBounds_toArray, List.set_cons_succ, List.set_cons_zero]
                refine wpAnyH_take_d 29 (some 124) (.bool false) rfl (by kernel_rfl) (by kernel_rfl) (by kernel_rfl) (by kernel_rfl) rfl (fun _ _ _ h => h) (fun _ _ => by kernel_rfl) (by exact hS) ?_
                simp only [Act.put, List.setIfInBounds_toArray, List.set_cons_succ, List.set_cons_zero]
                refine wpAnyH_take_d 30 (some 125) (.bool false) rfl (by kernel_rfl) (by kernel_rfl) (by kernel_rfl) (by kernel_rfl) rfl (fun _ _ _ h => h) (fun _ _ => by kernel_rfl) (by exact hS) ?_
                simp only [Act.put, List.setIfInBounds_toArray, List.set_cons_succ, List.set_cons_zero]
                refine wpAnyH_done (by kernel_rfl) ?_ _
                have dn := dd.below hS
                have bN := bW.trans (hS.mono bW.size)
                have rn := hrw.below hS
                clear hS od dd bW hrw cx
                go_wp2
                go_roundw
                case rel => exact ⟨3 + 1, by omega, by go_num, dn, rn, bN⟩
                case measure => simp [intOf]
              · have hrd := read_any dj ((3 : Nat) : Int) (by rw [(crash_same (D2 d) z1).1]; simp)
                rw [hla.read z1 hj, if_pos rfl, if_pos hq] at hrd
                go_wp2_with fail
                refine hrd.mono ?_
                rintro e wd ⟨vd, rfl, od, bd⟩
                have dd := dj.below bd
                have bW := bj.trans (bd.mono bj.size)
                have hrw := rj.below bd
                clear hrd dj bd bj rj
                obtain ⟨sa, sn, sc, hvd⟩ : ∃ sa sn sc, vd = .slice sa sn sc := by obtain ⟨a, c, h⟩ := ownsRow_slice od; exact ⟨a, _, c, h⟩
                have hbw := hrw.lt
                have cx := hcellx hrw
                clear hcellx
                clear cx hx
                have hpk := Pick_any (K := FK) (w1.ints bW) 0 (by omega)
                rw [hq] at hpk
                clear hq hpr
                subst hvd
                go_wp2_with fail
                refine hpk.mono ?_
                rintro e wd' ⟨rfl, rfl⟩
                clear hpk
                go_wp2_with fail
                have hS : Below wd.heap.size wd wd.drew := (Below.refl _ _).drew
                refine wp_region_held_drew (S := fun w' => Below wd.heap.size wd w') mixed hS (fun _ => ?_)
                show wpAnyH _ _ _ _ _ 31 (Array.replicate 31 false) _ _
                refine wpAnyH_take_d 0 (some 95) (.int .i64 1) rfl (by kernel_rfl) (by kernel_rfl) (by kernel_rfl) (by kernel_rfl) rfl (fun _ _ _ h => h) (fun _ _ => by kernel_rfl) (by exact hS) ?_
                simp only [Act.put, List.setIfInBounds_toArray, List.set_cons_succ, List.set_cons_zero]
                refine wpAnyH_take_d 1 (some 96) (.bool false) rfl (by kernel_rfl) (by kernel_rfl) (by kernel_rfl) (by kernel_rfl) rfl (fun _ _ _ h => h) (fun _ _ => by kernel_rfl) (by exact hS) ?_
                simp only [Act.put, List.setIfInBounds_toArray, List.set_cons_succ, List.set_cons_zero]
                refine wpAnyH_take_d 2 (some 97) (.bool false) rfl (by kernel_rfl) (by kernel_rfl) (by kernel_rfl) (by kernel_rfl) rfl (fun _ _ _ h => h) (fun _ _ => by kernel_rfl) (by exact hS) ?_
                simp only [Act.put, List.setIfInBounds_toArray, List.set_cons_succ, List.set_cons_zero]
                refine wpAnyH_skip_d 3 (some 98) rfl (by kernel_rfl) (by kernel_rfl) (by kernel_rfl) (by kernel_rfl) rfl (fun _ _ _ h => h) (by exact hS) ?_
                simp only [Act.put, List.setIfInBounds_toArray, List.set_cons_succ, List.set_cons_zero]
                refine wpAnyH_skip_d 4 (some 99) rfl (by kernel_rfl) (by kernel_rfl) (by kernel_rfl) (by kernel_rfl) rfl (fun _ _ _ h => h) (by exact hS) ?_
                simp only [Act.put, List.setIfInBounds_toArray, List.set_cons_succ, List.set_cons_zero]
                refine wpAnyH_take_d 5 (some 100) (.bool false) rfl (by kernel_rfl) (by kernel_rfl) (by kernel_rfl) (by kernel_rfl) rfl (fun _ _ _ h => h) (fun _ _ => by kernel_rfl) (by exact hS) ?_
                simp only [Act.put, List.setIfInBounds_toArray, List.set_cons_succ, List.set_cons_zero]
                refine wpAnyH_take_d 6 (some 101) (.bool false) rfl (by kernel_rfl) (by kernel_rfl) (by kernel_rfl) (by kernel_rfl) rfl (fun _ _ _ h => h) (fun _ _ => by kernel_rfl) (by exact hS) ?_
                simp only [Act.put, List.setIfInBounds_toArray, List.set_cons_succ, List.set_cons_zero]
                refine wpAnyH_take_d 7 (some 102) (.int .i64 1) rfl (by kernel_rfl) (by kernel_rfl) (by kernel_rfl) (by kernel_rfl) rfl (fun _ _ _ h => h) (fun _ _ => by kernel_rfl) (by exact hS) ?_
                simp only [Act.put, List.setIfInBounds_toArray, List.set_cons_succ, List.set_cons_zero]
                refine wpAnyH_take_d 8 (some 103) (.bool true) rfl (by kernel_rfl) (by kernel_rfl) (by kernel_rfl) (by kernel_rfl) rfl (fun _ _ _ h => h) (fun _ _ => by kernel_rfl) (by exact hS) ?_
                simp only [Act.put, List.setIfInBounds_toArray, List.set_cons_succ, List.set_cons_zero]
                refine wpAnyH_take_d 9 (some 104) (.bool true) rfl (by kernel_rfl) (by kernel_rfl) (by kernel_rfl) (by kernel_rfl) rfl (fun _ _ _ h => h) (fun _ _ => by kernel_rfl) (by exact hS) ?_
                simp only [Act.put, List.setIfInBounds_toArray, List.set_cons_succ, List.set_cons_zero]
                refine wpAnyH_take_d 10 (some 105) ((.slice sa sn sc)) rfl (by kernel_rfl) (by kernel_rfl) (by kernel_rfl) (by kernel_rfl) rfl (fun _ _ _ h => h) (fun _ _ => by kernel_rfl) (by exact hS) ?_
                simp only [Act.put, List.setIfInBounds_toArray, List.set_cons_succ, List.set_cons_zero]
                refine wpAnyH_take_d 11 (some 106) (.string (strOf B999)) rfl (by kernel_rfl) (by kernel_rfl) (by kernel_rfl) (by kernel_rfl) rfl (fun _ _ _ h => h) (fun w' h => exec_convert rfl rfl (run_string (ownsRow_below' od h))) (by exact hS) ?_
                simp only [Act.put, List.setIfInBounds_toArray, List.set_cons_succ, List.set_cons_zero]
                refine wpAnyH_call 12 (some 107) 16 #[.int .i64 999, .int .i64 0] rfl (by kernel_rfl) (by kernel_rfl) rfl (by kernel_rfl) (bytes0_any _ 999 (by decide)) ?_
                rintro e wn ⟨vn, rfl, on, bn⟩
                have hS := hS.trans (bn.mono hS.size)
                have hS : Below wd.heap.size wd wn := hS
                refine ⟨_, rfl, hS, ?_⟩
                simp only [Act.put, List.setIfInBounds_toArray, List.set_cons_succ, List.set_cons_zero]
                refine wpAnyH_one 13 (some 108) (.string (strOf B999)) rfl (by kernel_rfl) (by kernel_rfl) rfl (exec_convert rfl rfl (run_string on)) (by exact hS) ?_
                simp only [Act.put, List.setIfInBounds_toArray, List.set_cons_succ, List.set_cons_zero]
                clear on bn
                refine wpAnyH_take_d 14 (some 109) (.bool false) rfl (by kernel_rfl) (by kernel_rfl) (by kernel_rfl) (by kernel_rfl) rfl (fun _ _ _ h => h) (fun w' h => exec_strneq rfl rfl rfl (by simp)) (by exact hS) ?_
                simp only [Act.put, List.setIfInBounds_toArray, List.set_cons_succ, List.set_cons_zero]
                refine wpAnyH_take_d 15 (some 110) (.bool false) rfl (by kernel_rfl) (by kernel_rfl) (by kernel_rfl) (by kernel_rfl) rfl (fun _ _ _ h => h) (fun _ _ => by kernel_rfl) (by exact hS) ?_
                simp only [Act.put, List.setIfInBounds_toArray, List.set_cons_succ, List.set_cons_zero]
                refine wpAnyH_take_d 16 (some 111) (.bool false) rfl (by kernel_rfl) (by kernel_rfl) (by kernel_rfl) (by kernel_rfl) rfl (fun _ _ _ h => h) (fun _ _ => by kernel_rfl) (by exact hS) ?_
                simp only [Act.put, List.setIfInBounds_toArray, List.set_cons_succ, List.set_cons_zero]
                refine wpAnyH_take_d 17 (some 112) (.bool false) rfl (by kernel_rfl) (by kernel_rfl) (by kernel_rfl) (by kernel_rfl) rfl (fun _ _ _ h => h) (fun _ _ => by kernel_rfl) (by exact hS) ?_
                simp only [Act.put, List.setIfInBounds_toArray, List.set_cons_succ, List.set_cons_zero]
                refine wpAnyH_take_d 18 (some 113) (.int .i64 1) rfl (by kernel_rfl) (by kernel_rfl) (by kernel_rfl) (by kernel_rfl) rfl (fun _ _ _ h => h) (fun _ _ => by kernel_rfl) (by exact hS) ?_
                simp only [Act.put, List.setIfInBounds_toArray, List.set_cons_succ, List.set_cons_zero]
                refine wpAnyH_take_d 19 (some 114) (.bool false) rfl (by kernel_rfl) (by kernel_rfl) (by kernel_rfl) (by kernel_rfl) rfl (fun _ _ _ h => h) (fun _ _ => by kernel_rfl) (by exact hS) ?_
                simp only [Act.put, List.setIfInBounds_toArray, List.set_cons_succ, List.set_cons_zero]
                refine wpAnyH_take_d 20 (some 115) (.bool false) rfl (by kernel_rfl) (by kernel_rfl) (by kernel_rfl) (by kernel_rfl) rfl (fun _ _ _ h => h) (fun _ _ => by kernel_rfl) (by exact hS) ?_
                simp only [Act.put, List.setIfInBounds_toArray, List.set_cons_succ, List.set_cons_zero]
                refine wpAnyH_skip_d 21 (some 116) rfl (by kernel_rfl) (by kernel_rfl) (by kernel_rfl) (by kernel_rfl) rfl (fun _ _ _ h => h) (by exact hS) ?_
                simp only [Act.put, List.setIfInBounds_toArray, List.set_cons_succ, List.set_cons_zero]
                refine wpAnyH_skip_d 22 (some 117) rfl (by kernel_rfl) (by kernel_rfl) (by kernel_rfl) (by kernel_rfl) rfl (fun _ _ _ h => h) (by exact hS) ?_
                simp only [Act.put, List.setIfInBounds_toArray, List.set_cons_succ, List.set_cons_zero]
                refine wpAnyH_skip_d 23 (some 118) rfl (by kernel_rfl) (by kernel_rfl) (by kernel_rfl) (by kernel_rfl) rfl (fun _ _ _ h => h) (by exact hS) ?_
                simp only [Act.put, List.setIfInBounds_toArray, List.set_cons_succ, List.set_cons_zero]
                refine wpAnyH_skip_d 24 (some 119) rfl (by kernel_rfl) (by kernel_rfl) (by kernel_rfl) (by kernel_rfl) rfl (fun _ _ _ h => h) (by exact hS) ?_
                simp only [Act.put, List.setIfInBounds_toArray, List.set_cons_succ, List.set_cons_zero]
                refine wpAnyH_skip_d 25 (some 120) rfl (by kernel_rfl) (by kernel_rfl) (by kernel_rfl) (by kernel_rfl) rfl (fun _ _ _ h => h) (by exact hS) ?_
                simp only [Act.put, List.setIfInBounds_toArray, List.set_cons_succ, List.set_cons_zero]
                refine wpAnyH_skip_d 26 (some 121) rfl (by kernel_rfl) (by kernel_rfl) (by kernel_rfl) (by kernel_rfl) rfl (fun _ _ _ h => h) (by exact hS) ?_
                simp only [Act.put, List.setIfInBounds_toArray, List.set_cons_succ, List.set_cons_zero]
                refine wpAnyH_skip_d 27 (some 122) rfl (by kernel_rfl) (by kernel_rfl) (by kernel_rfl) (by kernel_rfl) rfl (fun _ _ _ h => h) (by exact hS) ?_
                simp only [Act.put, List.setIfInBounds_toArray, List.set_cons_succ, List.set_cons_zero]
                refine wpAnyH_skip_d 28 (some 123) rfl (by kernel_rfl) (by kernel_rfl) (by kernel_rfl) (by kernel_rfl) rfl (fun _ _ _ h => h) (by exact hS) ?_
                simp only [Act.put, List.setIfInBounds_toArray, List.set_cons_succ, List.set_cons_zero]
                refine wpAnyH_take_d 29 (some 124) (.bool false) rfl (by kernel_rfl) (by kernel_rfl) (by kernel_rfl) (by kernel_rfl) rfl (fun _ _ _ h => h) (fun _ _ => by kernel_rfl) (by exact hS) ?_
                simp only [Act.put, List.setIfInBounds_toArray, List.set_cons_succ, List.set_cons_zero]
                refine wpAnyH_take_d 30 (some 125) (.bool false) rfl (by kernel_rfl) (by kernel_rfl) (by kernel_rfl) (by kernel_rfl) rfl (fun _ _ _ h => h) (fun _ _ => by kernel_rfl) (by exact hS) ?_
                simp only [Act.put, List.setIfInBounds_toArray, List.set_cons_succ, List.set_cons_zero]
                refine wpAnyH_done (by kernel_rfl) ?_ _
                have dn := dd.below hS
                have bN := bW.trans (hS.mono bW.size)
                have rn := hrw.below hS
                clear hS od dd bW hrw
                go_wp2
                go_roundw
                case rel => exact ⟨3 + 1, by omega, by go_num, dn, rn, bN⟩
                case measure => simp [intOf]
              · have hrd := read_any dj ((3 : Nat) : Int) (by rw [(crash_same (D2 d) z1).1]; simp)
                rw [hla.read z1 hj, if_pos rfl, if_neg (by omega), if_pos hq] at hrd
                go_wp2_with fail
                refine hrd.mono ?_
                rintro e wd ⟨vd, rfl, od, bd⟩
                have dd := dj.below bd
                have bW := bj.trans (bd.mono bj.size)
                have hrw := rj.below bd
                clear hrd dj bd bj rj
                obtain ⟨sa, sn, sc, hvd⟩ : ∃ sa sn sc, vd = .slice sa sn sc := by obtain ⟨a, c, h⟩ := ownsRow_slice od; exact ⟨a, _, c, h⟩
                have hbw := hrw.lt
                have cx := hcellx hrw
                clear hcellx
                clear cx hx
                have hpk := Pick_any (K := FK) (w1.ints bW) 0 (by omega)
                rw [hq] at hpk
                clear hq hpr
                subst hvd
                go_wp2_with fail
                refine hpk.mono ?_
                rintro e wd' ⟨rfl, rfl⟩
                clear hpk
                go_wp2_with fail
                have hS : Below wd.heap.size wd wd.drew := (Below.refl _ _).drew
                refine wp_region_held_drew (S := fun w' => Below wd.heap.size wd w') mixed hS (fun _ => ?_)
                show wpAnyH _ _ _ _ _ 31 (Array.replicate 31 false) _ _
                refine wpAnyH_take_d 0 (some 95) (.int .i64 2) rfl (by kernel_rfl) (by kernel_rfl) (by kernel_rfl) (by kernel_rfl) rfl (fun _ _ _ h => h) (fun _ _ => by kernel_rfl) (by exact hS) ?_
                simp only [Act.put, List.setIfInBounds_toArray, List.set_cons_succ, List.set_cons_zero]
                refine wpAnyH_take_d 1 (some 96) (.bool true) rfl (by kernel_rfl) (by kernel_rfl) (by kernel_rfl) (by kernel_rfl) rfl (fun _ _ _ h => h) (fun _ _ => by kernel_rfl) (by exact hS) ?_
                simp only [Act.put, List.setIfInBounds_toArray, List.set_cons_succ, List.set_cons_zero]
                refine wpAnyH_take_d 2 (some 97) (.bool true) rfl (by kernel_rfl) (by kernel_rfl) (by kernel_rfl) (by kernel_rfl) rfl (fun _ _ _ h => h) (fun _ _ => by kernel_rfl) (by exact hS) ?_
                simp only [Act.put, List.setIfInBounds_toArray, List.set_cons_succ, List.set_cons_zero]
                refine wpAnyH_take_d 3 (some 98) (.int .i64 3) rfl (by kernel_rfl) (by kernel_rfl) (by kernel_rfl) (by kernel_rfl) rfl (fun _ _ _ h => h) (fun _ _ => by kernel_rfl) (by exact hS) ?_
                simp only [Act.put, List.setIfInBounds_toArray, List.set_cons_succ, List.set_cons_zero]
                refine wpAnyH_take_d 4 (some 99) (.bool false) rfl (by kernel_rfl) (by kernel_rfl) (by kernel_rfl) (by kernel_rfl) rfl (fun _ _ _ h => h) (fun _ _ => by kernel_rfl) (by exact hS) ?_
                simp only [Act.put, List.setIfInBounds_toArray, List.set_cons_succ, List.set_cons_zero]
                refine wpAnyH_take_d 5 (some 100) (.bool false) rfl (by kernel_rfl) (by kernel_rfl) (by kernel_rfl) (by kernel_rfl) rfl (fun _ _ _ h => h) (fun _ _ => by kernel_rfl) (by exact hS) ?_
                simp only [Act.put, List.setIfInBounds_toArray, List.set_cons_succ, List.set_cons_zero]
                refine wpAnyH_take_d 6 (some 101) (.bool false) rfl (by kernel_rfl) (by kernel_rfl) (by kernel_rfl) (by kernel_rfl) rfl (fun _ _ _ h => h) (fun _ _ => by kernel_rfl) (by exact hS) ?_
                simp only [Act.put, List.setIfInBounds_toArray, List.set_cons_succ, List.set_cons_zero]
                refine wpAnyH_take_d 7 (some 102) (.int .i64 2) rfl (by kernel_rfl) (by kernel_rfl) (by kernel_rfl) (by kernel_rfl) rfl (fun _ _ _ h => h) (fun _ _ => by kernel_rfl) (by exact hS) ?_
                simp only [Act.put, List.setIfInBounds_toArray, List.set_cons_succ, List.set_cons_zero]
                refine wpAnyH_take_d 8 (some 103) (.bool false) rfl (by kernel_rfl) (by kernel_rfl) (by kernel_rfl) (by kernel_rfl) rfl (fun _ _ _ h => h) (fun _ _ => by kernel_rfl) (by exact hS) ?_
                simp only [Act.put, List.setIfInBounds_toArray, List.set_cons_succ, List.set_cons_zero]
                refine wpAnyH_take_d 9 (some 104) (.bool false) rfl (by kernel_rfl) (by kernel_rfl) (by kernel_rfl) (by kernel_rfl) rfl (fun _ _ _ h => h) (fun _ _ => by kernel_rfl) (by exact hS) ?_
                simp only [Act.put, List.setIfInBounds_toArray, List.set_cons_succ, List.set_cons_zero]
                refine wpAnyH_skip_d 10 (some 105) rfl (by kernel_rfl) (by kernel_rfl) (by kernel_rfl) (by kernel_rfl) rfl (fun _ _ _ h => h) (by exact hS) ?_
                simp only [Act.put, List.setIfInBounds_toArray, List.set_cons_succ, List.set_cons_zero]
                refine wpAnyH_skip_d 11 (some 106) rfl (by kernel_rfl) (by kernel_rfl) (by kernel_rfl) (by kernel_rfl) rfl (fun _ _ _ h => h) (by exact hS) ?_
                simp only [Act.put, List.setIfInBounds_toArray, List.set_cons_succ, List.set_cons_zero]
                refine wpAnyH_skip_d 12 (some 107) rfl (by kernel_rfl) (by kernel_rfl) (by kernel_rfl) (by kernel_rfl) rfl (fun _ _ _ h => h) (by exact hS) ?_
                simp only [Act.put, List.setIfInBounds_toArray, List.set_cons_succ, List.set_cons_zero]
                refine wpAnyH_skip_d 13 (some 108) rfl (by kernel_rfl) (by kernel_rfl) (by kernel_rfl) (by kernel_rfl) rfl (fun _ _ _ h => h) (by exact hS) ?_
                simp only [Act.put, List.setIfInBounds_toArray, List.set_cons_succ, List.set_cons_zero]
                refine wpAnyH_skip_d 14 (some 109) rfl (by kernel_rfl) (by kernel_rfl) (by kernel_rfl) (by kernel_rfl) rfl (fun _ _ _ h => h) (by exact hS) ?_
                simp only [Act.put, List.setIfInBounds_toArray, List.set_cons_succ, List.set_cons_zero]
                refine wpAnyH_take_d 15 (some 110) (.bool false) rfl (by kernel_rfl) (by kernel_rfl) (by kernel_rfl) (by kernel_rfl) rfl (fun _ _ _ h => h) (fun _ _ => by kernel_rfl) (by exact hS) ?_
                simp only [Act.put, List.setIfInBounds_toArray, List.set_cons_succ, List.set_cons_zero]
                refine wpAnyH_take_d 16 (some 111) (.bool false) rfl (by kernel_rfl) (by kernel_rfl) (by kernel_rfl) (by kernel_rfl) rfl (fun _ _ _ h => h) (fun _ _ => by kernel_rfl) (by exact hS) ?_
                simp only [Act.put, List.setIfInBounds_toArray, List.set_cons_succ, List.set_cons_zero]
                refine wpAnyH_take_d 17 (some 112) (.bool false) rfl (by kernel_rfl) (by kernel_rfl) (by kernel_rfl) (by kernel_rfl) rfl (fun _ _ _ h => h) (fun _ _ => by kernel_rfl) (by exact hS) ?_
                simp only [Act.put, List.setIfInBounds_toArray, List.set_cons_succ, List.set_cons_zero]
                refine wpAnyH_take_d 18 (some 113) (.int .i64 2) rfl (by kernel_rfl) (by kernel_rfl) (by kernel_rfl) (by kernel_rfl) rfl (fun _ _ _ h => h) (fun _ _ => by kernel_rfl) (by exact hS) ?_
                simp only [Act.put, List.setIfInBounds_toArray, List.set_cons_succ, List.set_cons_zero]
                refine wpAnyH_take_d 19 (some 114) (.bool false) rfl (by kernel_rfl) (by kernel_rfl) (by kernel_rfl) (by kernel_rfl) rfl (fun _ _ _ h => h) (fun _ _ => by kernel_rfl) (by exact hS) ?_
                simp only [Act.put, List.setIfInBounds_toArray, List.set_cons_succ, List.set_cons_zero]
                refine wpAnyH_take_d 20 (some 115) (.bool false) rfl (by kernel_rfl) (by kernel_rfl) (by kernel_rfl) (by kernel_rfl) rfl (fun _ _ _ h => h) (fun _ _ => by kernel_rfl) (by exact hS) ?_
                simp only [Act.put, List.setIfInBounds_toArray, List.set_cons_succ, List.set_cons_zero]
                refine wpAnyH_skip_d 21 (some 116) rfl (by kernel_rfl) (by kernel_rfl) (by kernel_rfl) (by kernel_rfl) rfl (fun _ _ _ h => h) (by exact hS) ?_
                simp only [Act.put, List.setIfInBounds_toArray, List.set_cons_succ, List.set_cons_zero]
                refine wpAnyH_skip_d 22 (some 117) rfl (by kernel_rfl) (by kernel_rfl) (by kernel_rfl) (by kernel_rfl) rfl (fun _ _ _ h => h) (by exact hS) ?_
                simp only [Act.put, List.setIfInBounds_toArray, List.set_cons_succ, List.set_cons_zero]
                refine wpAnyH_skip_d 23 (some 118) rfl (by kernel_rfl) (by kernel_rfl) (by kernel_rfl) (by kernel_rfl) rfl (fun _ _ _ h => h) (by exact hS) ?_
                simp only [Act.put, List.setIfInBounds_toArray, List.set_cons_succ, List.set_cons_zero]
                refine wpAnyH_skip_d 24 (some 119) rfl (by kernel_rfl) (by kernel_rfl) (by kernel_rfl) (by kernel_rfl) rfl (fun _ _ _ h => h) (by exact hS) ?_
                simp only [Act.put, List.setIfInBounds_toArray, List.set_cons_succ, List.set_cons_zero]
                refine wpAnyH_skip_d 25 (some 120) rfl (by kernel_rfl) (by kernel_rfl) (by kernel_rfl) (by kernel_rfl) rfl (fun _ _ _ h => h) (by exact hS) ?_
                simp only [Act.put, List.setIfInBounds_toArray, List.set_cons_succ, List.set_cons_zero]
                refine wpAnyH_skip_d 26 (some 121) rfl (by kernel_rfl) (by kernel_rfl) (by kernel_rfl) (by kernel_rfl) rfl (fun _ _ _ h => h) (by exact hS) ?_
                simp only [Act.put, List.setIfInBounds_toArray, List.set_cons_succ, List.set_cons_zero]
                refine wpAnyH_skip_d 27 (some 122) rfl (by kernel_rfl) (by kernel_rfl) (by kernel_rfl) (by kernel_rfl) rfl (fun _ _ _ h => h) (by exact hS) ?_
                simp only [Act.put, List.setIfInBounds_toArray, List.set_cons_succ, List.set_cons_zero]
                refine wpAnyH_skip_d 28 (some 123) rfl (by kernel_rfl) (by kernel_rfl) (by kernel_rfl) (by kernel_rfl) rfl (fun _ _ _ h => h) (by exact hS) ?_
                simp only [Act.put, List.setIfInBounds_toArray, List.set_cons_succ, List.set_cons_zero]
                refine wpAnyH_take_d 29 (some 124) (.bool false) rfl (by kernel_rfl) (by kernel_rfl) (by kernel_rfl) (by kernel_rfl) rfl (fun _ _ _ h => h) (fun _ _ => by kernel_rfl) (by exact hS) ?_
                simp only [Act.put, List.setIfInBounds_toArray, List.set_cons_succ, List.set_cons_zero]
                refine wpAnyH_take_d 30 (some 125) (.bool false) rfl (by kernel_rfl) (by kernel_rfl) (by kernel_rfl) (by kernel_rfl) rfl (fun _ _ _ h => h) (fun _ _ => by kernel_rfl) (by exact hS) ?_
                simp only [Act.put, List.setIfInBounds_toArray, List.set_cons_succ, List.set_cons_zero]
                refine wpAnyH_done (by kernel_rfl) ?_ _
                have dn := dd.below hS
                have bN := bW.trans (hS.mono bW.size)
                have rn := hrw.below hS
                clear hS od dd bW hrw
                go_wp2
                go_roundw
                case rel => exact ⟨3 + 1, by omega, by go_num, dn, rn, bN⟩
                case measure => simp [intOf]
            · have hrd := read_any dj (j : Int) (by rw [(crash_same (D2 d) z1).1]; simp)
              rw [hla.read z1 hj, if_neg h3] at hrd
              go_wp2_with fail
              refine hrd.mono ?_
              rintro e wd ⟨vd, rfl, od, bd⟩
              have dd := dj.below bd
              have bW := bj.trans (bd.mono bj.size)
              have hrw := rj.below bd
              clear hrd dj bd bj rj
              obtain ⟨sa, sn, sc, hvd⟩ : ∃ sa sn sc, vd = .slice sa sn sc := by obtain ⟨a, c, h⟩ := ownsRow_slice od; exact ⟨a, _, c, h⟩
              have hbw := hrw.lt
              have cx := hcellx hrw
              clear hcellx
              generalize L.getD j 0 = x at cx hx od
              subst hvd
              have hj3 : ¬ (j : Int) = 3 := by omega
              go_wp2_with fail
              have hS : Below wd.heap.size wd wd.drew := (Below.refl _ _).drew
              refine wp_region_held_drew (S := fun w' => Below wd.heap.size wd w') mixed hS (fun _ => ?_)
              show wpAnyH _ _ _ _ _ 13 (Array.replicate 13 false) _ _
              refine wpAnyH_take_d 0 (some 126) (.int .i64 0) rfl (by kernel_rfl) (by kernel_rfl) (by kernel_rfl) (by kernel_rfl) rfl (fun _ _ _ h => h) (fun _ _ => by kernel_rfl) (by exact hS) ?_
              simp only [Act.put, List.setIfInBounds_toArray, List.set_cons_succ, List.set_cons_zero]
              refine wpAnyH_take_d 1 (some 127) (.bool false) rfl (by kernel_rfl) (by kernel_rfl) (by kernel_rfl) (by kernel_rfl) rfl (fun _ _ _ h => h) (fun _ _ => by kernel_rfl) (by exact hS) ?_
              simp only [Act.put, List.setIfInBounds_toArray, List.set_cons_succ, List.set_cons_zero]
              refine wpAnyH_take_d 2 (some 128) (.bool false) rfl (by kernel_rfl) (by kernel_rfl) (by kernel_rfl) (by kernel_rfl) rfl (fun _ _ _ h => h) (fun _ _ => by kernel_rfl) (by exact hS) ?_
              simp only [Act.put, List.setIfInBounds_toArray, List.set_cons_succ, List.set_cons_zero]
              refine wpAnyH_take_d 3 (some 129) ((.slice sa sn sc)) rfl (by kernel_rfl) (by kernel_rfl) (by kernel_rfl) (by kernel_rfl) rfl (fun _ _ _ h => h) (fun _ _ => by kernel_rfl) (by exact hS) ?_
              simp only [Act.put, List.setIfInBounds_toArray, List.set_cons_succ, List.set_cons_zero]
              refine wpAnyH_take_d 4 (some 130) (.string (strOf (bytesL x 256))) rfl (by kernel_rfl) (by kernel_rfl) (by kernel_rfl) (by kernel_rfl) rfl (fun _ _ _ h => h) (fun w' h => exec_convert rfl rfl (run_string (ownsRow_below' od h))) (by exact hS) ?_
              simp only [Act.put, List.setIfInBounds_toArray, List.set_cons_succ, List.set_cons_zero]
              refine wpAnyH_take_d 5 (some 131) (.slice (some ⟨wb.heap.size, 0, none⟩) 8 8) rfl (by kernel_rfl) (by kernel_rfl) (by kernel_rfl) (by kernel_rfl) rfl (fun _ _ _ h => h) (fun _ _ => by kernel_rfl) (by exact hS) ?_
              simp only [Act.put, List.setIfInBounds_toArray, List.set_cons_succ, List.set_cons_zero]
              refine wpAnyH_take_d 6 (some 132) (.int .i64 (j : Int)) rfl (by kernel_rfl) (by kernel_rfl) (by kernel_rfl) (by kernel_rfl) rfl (fun _ _ _ h => h) (fun _ _ => by kernel_rfl) (by exact hS) ?_
              simp only [Act.put, List.setIfInBounds_toArray, List.set_cons_succ, List.set_cons_zero]
              refine wpAnyH_take_d 7 (some 133) (.pointer (some ⟨wb.heap.size, 0 + j, none⟩)) rfl (by kernel_rfl) (by kernel_rfl) (by kernel_rfl) (by kernel_rfl) rfl (fun _ _ _ h => h) (fun w' h => exec_indexAddr (k := j) rfl rfl rfl hj Try.underlying40 szInt) (by exact hS) ?_
              simp only [Act.put, List.setIfInBounds_toArray, List.set_cons_succ, List.set_cons_zero]
              refine wpAnyH_take_d 8 (some 134) (.int .i64 x) rfl (by kernel_rfl) (by kernel_rfl) (by kernel_rfl) (by kernel_rfl) rfl (fun _ _ _ h => h) (fun w' h => exec_load_cell rfl rfl ((h.cell (p := ⟨wb.heap.size, 0 + j, none⟩) hbw).trans cx) Try.underlying3 rfl) (by exact hS) ?_
              simp only [Act.put, List.setIfInBounds_toArray, List.set_cons_succ, List.set_cons_zero]
              refine wpAnyH_call 9 (some 135) 16 #[.int .i64 x, .int .i64 0] rfl (by kernel_rfl) (by kernel_rfl) rfl (by kernel_rfl) (bytes0_any _ x hx) ?_
              rintro e wn ⟨vn, rfl, on, bn⟩
              have hS := hS.trans (bn.mono hS.size)
              have hS : Below wd.heap.size wd wn := hS
              refine ⟨_, rfl, hS, ?_⟩
              simp only [Act.put, List.setIfInBounds_toArray, List.set_cons_succ, List.set_cons_zero]
              refine wpAnyH_one 10 (some 136) (.string (strOf (bytesL x 256))) rfl (by kernel_rfl) (by kernel_rfl) rfl (exec_convert rfl rfl (run_string on)) (by exact hS) ?_
              simp only [Act.put, List.setIfInBounds_toArray, List.set_cons_succ, List.set_cons_zero]
              clear on bn
              refine wpAnyH_take_d 11 (some 137) (.bool false) rfl (by kernel_rfl) (by kernel_rfl) (by kernel_rfl) (by kernel_rfl) rfl (fun _ _ _ h => h) (fun w' h => exec_strneq rfl rfl rfl (by simp)) (by exact hS) ?_
              simp only [Act.put, List.setIfInBounds_toArray, List.set_cons_succ, List.set_cons_zero]
              refine wpAnyH_take_d 12 (some 138) (.bool false) rfl (by kernel_rfl) (by kernel_rfl) (by kernel_rfl) (by kernel_rfl) rfl (fun _ _ _ h => h) (fun _ _ => by kernel_rfl) (by exact hS) ?_
              simp only [Act.put, List.setIfInBounds_toArray, List.set_cons_succ, List.set_cons_zero]
              refine wpAnyH_done (by kernel_rfl) ?_ _
              have dn := dd.below hS
              have bN := bW.trans (hS.mono bW.size)
              have rn := hrw.below hS
              clear hS od dd bW hrw cx
              go_wp2
              go_roundw
              case rel => exact ⟨j + 1, by omega, by go_num, dn, rn, bN⟩
              case measure => simp [intOf]; omega
          · obtain rfl : j = 8 := by omega
            go_wp2
            go_ret
            exact ⟨rfl, bj⟩

/-! ### the row -/
theorem laidOut : laidOutB Try.prog = true := by kernel_rfl
theorem bytesInt : Try.prog.bytesOf 3 = 8 := by kernel_rfl
set_option maxRecDepth 100000 in
theorem lifted (os : Os) (started : os.Started) (H : Type) (enc : TypeId × Value → H) :
    ReturnsInHanded {} Try.checked os 4 .any (Rows.flashLastsSpec.pre6 enc Try.prog Try.f4 Rows.flashLastsRow.domain false) (Rows.flashLastsSpec.post enc Try.prog Try.f4 false true false false) := by
  refine returnsInHanded_of_change_sized (C := Try.checked) own started (by kernel_rfl) Try.func4
    (ChangeSpec.witness6 (enc := enc) (C := Try.checked) false ⟨#[], #[.slice none 0 0, .slice none 0 0], []⟩ 8 (by kernel_rfl) (by kernel_rfl) (by kernel_rfl) (by kernel_rfl)) ?_
  intro W base args ds gs before hval0 hW hcnd hsz0 _
  have hval : ∀ (j : Nat) t v, Try.f4.params[j]? = some t → args[j]? = some v → Value.okWide Try.prog W .any base t v := hval0
  have hW' := hW
  obtain ⟨p, q, hA0, hV, rfl, hfz, hnd⟩ := hW
  have hA : DataW.TrodAll enc Try.prog W 0 (fun _ => true) true Try.f4.params.toList args.toList ds p := hA0
  have hsz : (DataW.weightsEach Try.prog (Try.f4.params.toList ++ Rows.flashLastsSpec.plain.varTypes Try.prog) (ds ++ gs)).all (· ≤ reachBytes) = true := hsz0
  rw [Try.params4] at hA hval hsz
  obtain ⟨v0, vs0, d0, ds0, p0, q0, hargs, rfl, rfl, h0, r0⟩ := trodAll_cons hA
  obtain ⟨v1, vs1, d1, ds1, p1, q1, rfl, rfl, rfl, h1, r1⟩ := trodAll_cons r0
  obtain ⟨rfl, rfl, rfl⟩ := trodAll_nil r1
  obtain rfl : args = #[v0, v1] := by cases args; simp_all
  obtain ⟨rfl, rfl⟩ := trodVars_none hV
  have k0 := h0
  have lt0 := args_lt k0
  obtain ⟨z0, w0⟩ := ops_arg (hval 0 22 v0 rfl rfl) (fun k hk => of_decide_eq_true (List.all_eq_true.1 hsz _ (DataW.weights_mem_each (j := 0) (t := 22) (d := d0) rfl rfl k hk))) h0
  have k1 := h1
  have lt1 := args_lt k1
  obtain ⟨z1, w1⟩ := ints_arg Try.underlying40 Try.underlying3 (by kernel_rfl) (hval 1 40 v1 rfl rfl) (fun el sp e => by subst e; have := sized_slice hsz (j := 1) (t := 40) (e := 3) rfl rfl Try.underlying40; rwa [bytesInt] at this) h1
  clear hA0 hval0 hsz0
  refine (walk v0 z0 v1 z1 W w0 w1).mono fun e W' ⟨he, bel⟩ => ?_
  subst he
  exact ⟨_, rfl, _, _, _, [], _, [], hW', trodAll_mk1 (shut_bool Try.underlying4 _), (trodAll_cons_mk (Below.trod laidOut (by kernel_rfl) (of_decide_eq_true (by kernel_rfl)) k0 bel lt0) (trodAll_cons_mk (Below.trod laidOut (by kernel_rfl) (of_decide_eq_true (by kernel_rfl)) k1 bel lt1) trodAll_mk0)), rfl, bel.frame _, fun h => by cases h⟩

theorem over : Rows.flashLastsRow.holds Try.pinned (OpenSpec.ofChange Rows.flashLastsSpec) :=
  OpenClaim.holds_of_wide 4 Try.f4 rfl rfl rfl rfl rfl rfl rfl ⟨rfl, rfl, rfl, rfl, rfl⟩ rfl rfl rfl rfl rfl (by kernel_rfl) Try.func4 (by kernel_rfl)
    (of_decide_eq_true (by kernel_rfl)) (by unfold Func.isWrapper; first | (rw [if_pos (by decide +kernel)]; kernel_rfl) | (rw [if_neg (by decide +kernel)]; exact ⟨rfl, rfl⟩))
    (fun os started H enc _ => lifted os started H enc)
end Go.Proofs.Ytnlkkgnigldhcaa.flashLasts

namespace Go.Proofs.Ytnlkkgnigldhcaa
/-- The law returns true at every input. -/
theorem flashLasts_holds : Rows.FlashLastsSaid := flashLasts.over
end Go.Proofs.Ytnlkkgnigldhcaa

