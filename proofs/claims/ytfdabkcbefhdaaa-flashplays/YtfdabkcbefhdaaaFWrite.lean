/- The contract of the flash device's Write. No statement of the seat is proved here. -/
import Derived.Test.YtfdabkcbefhdaaaFKeep
import Derived.Test.YtfdabkcbefhdaaaFill
import Derived.Laws.CopyOwn
namespace Go.Proofs.Ytfdabkcbefhdaaa
set_option maxRecDepth 20000
open Go.RowKit

/-- A slice of bytes that reads as bs in w. -/
def BytesAt (w : World) (v : Value) (bs : List UInt8) : Prop :=
  ∃ ao cap, v = .slice ao bs.length cap ∧ bs.length ≤ maxLen ∧ (0 < bs.length → ∃ b off cs fz, ao = some ⟨b, off, none⟩ ∧ w.heap[b]? = some (.cells cs 5 fz) ∧ ∀ i, i < bs.length → cs[off + i]? = some (byteV (bs.getD i 0)))
theorem BytesAt.fr {K : Obj → Bool} {B : Nat} {w w' : World} {v : Value} {bs : List UInt8} (h : BytesAt w v bs) (hf : Fr K B w w') (hK : ∀ cs fz, K (.cells cs 5 fz) = false) : BytesAt w' v bs := by
  obtain ⟨ao, cap, hv, hl, hc⟩ := h
  refine ⟨ao, cap, hv, hl, fun h0 => ?_⟩
  obtain ⟨b, off, cs, fz, h1, h2, h3⟩ := hc h0
  exact ⟨b, off, cs, fz, h1, hf.keep _ _ h2 (Or.inr (hK _ _)), h3⟩
theorem BytesAt.below {w w' : World} {v : Value} {bs : List UInt8} (h : BytesAt w v bs) (hb : Below w.heap.size w w') : BytesAt w' v bs :=
  h.fr (K := fun _ => false) (B := 0) (Fr.of_below hb) (fun _ _ => rfl)
theorem BytesAt.src {w : World} {ao : Option Addr} {n cap : Nat} {bs : List UInt8} (h : BytesAt w (.slice ao n cap) bs) (h0 : 0 < (cellsB bs).length) : ∃ ad, ao = some ad ∧ ∀ j v, (cellsB bs)[j]? = some v → w.cell? (ad.add j) = some v := by
  obtain ⟨ao', cap', hv, hl, hc⟩ := h
  rw [cellsB_length] at h0
  obtain ⟨b, off, cs, fz, h1, h2, h3⟩ := hc h0
  cases hv
  refine ⟨_, h1, fun j v hj => ?_⟩
  have hjl : j < bs.length := by have := (List.getElem?_eq_some_iff.1 hj).1; rwa [cellsB_length] at this
  rw [Addr.add_mid, cell_of_row w b (off + j) cs _ fz h2, h3 j hjl]
  simp only [cellsB, List.getElem?_map] at hj
  rw [← hj, List.getElem?_eq_getElem hjl, List.getD_eq_getElem?_getD, List.getElem?_eq_getElem hjl]; rfl
theorem sz5 : (Try.prog.info? 5).map (·.size) = some 1 := by kernel_rfl
theorem FK_bytes (cs : Array Value) (fz : Nat × Nat) : FK (.cells cs 5 fz) = false := rfl

def Dev.write (d : Dev) (i : Int) (bs : List UInt8) : Int × Dev :=
  if d.has i = false ∨ bs.length ≠ 256 then (1, d) else if d.spend.1 = false then (4, d.spend.2) else (0, { d.spend.2 with waits := d.spend.2.waits ++ [(i, bs)] })

theorem spend_waits (d : Dev) : d.spend.2.waits = d.waits ∧ d.spend.2.size = d.size ∧ d.spend.2.last = d.last := by unfold Dev.spend; (repeat' split) <;> exact ⟨rfl, rfl, rfl⟩

theorem build65 (i : Int) (w : World) : (Instr.build 65 #[(0, .int .i64 i)]).run Try.prog w = .ok (.agg (wrCells (i, zeros)).toArray) w := by kernel_rfl
theorem zero65 (w : World) : (zeroValue 65).run Try.prog w = .ok (.agg (wrCells (0, zeros)).toArray) w := by kernel_rfl
theorem wrCells_size (p : Int × List UInt8) (h : p.2.length = 256) : (wrCells p).length = 257 := by simp [wrCells, cellsB_length, h]
theorem wrCells_one (p : Int × List UInt8) : ∀ u ∈ wrCells p, u.oneCell' = true := by
  intro u hu
  simp only [wrCells, List.mem_cons] at hu
  rcases hu with rfl | hu
  · rfl
  · exact oneCell_cellsB _ u hu
theorem szs (i j : Int) : (wrCells (i, zeros)).toArray.size = (wrCells (j, zeros)).toArray.size := by simp [wrCells, cellsB_length]
theorem sz65i {i : Int} : (Try.prog.info? 65).map (·.size) = some (wrCells (i, zeros)).toArray.size := by rw [sz65, List.size_toArray, wrCells_size _ zeros_length]
theorem splice_wr (i : Int) (bs : List UInt8) (h : bs.length = 256) : splice (wrCells (i, zeros)) 1 (cellsB bs) = wrCells (i, bs) := by
  simp only [splice, wrCells, List.take_succ_cons, List.take_zero, cellsB_length, h]
  rw [List.drop_eq_nil_of_le (by simp [cellsB_length, zeros_length])]
  simp

theorem info65 : (Try.prog.info? 65).map (fun i => (i.zero, i.size, i.bytes)) = some (some (.agg (wrCells (0, zeros)).toArray), 257, 264) := by kernel_rfl
theorem zc65 : (Value.cells (.agg (wrCells (0, zeros)).toArray)).size = 257 := by
  have := wrCells_size (0, zeros) zeros_length
  simpa [Value.cells] using this
theorem szSlice : (Try.prog.info? 59).map (·.size) = some 1 := by kernel_rfl
/-- What the append and the store of the field make of the device. -/
theorem write_end {B : Nat} {w w7 : World} {db : Nat} {d : Dev} {N : Nat} {mv sv : Value} {g cap : Nat} (ok : d.Ok) (ge : B ≤ db)
    (hd : w.heap[db]? = some (.cells #[.int .i64 d.size, mv, sv, .bool d.off, .bool d.armed, .int .i64 d.left] 61 (0, 0))) (hl : LastIs B w mv d.last N) (hr : w.ownsRow B 65 257 sv d.waits.length (d.waits.flatMap wrCells))
    (i : Int) (bs : List UInt8) (hi : 0 ≤ i ∧ i < d.size) (hbs : bs.length = 256)
    (ho : w7.ownsRow B 65 257 (.slice (some ⟨g, 0, none⟩) (d.waits.length + 1) cap) (d.waits.length + 1) (d.waits.flatMap wrCells ++ wrCells (i, bs))) (hgr : w.grownBy w7 sv.ownBlock) :
    DevAt B (w7.setCell ⟨db, 2, none⟩ (.slice (some ⟨g, 0, none⟩) (d.waits.length + 1) cap)) db { d with waits := d.waits ++ [(i, bs)] } N ∧ Fr FK B w (w7.setCell ⟨db, 2, none⟩ (.slice (some ⟨g, 0, none⟩) (d.waits.length + 1) cap)) := by
  have hrow : ∀ k, sv.ownBlock = some k → B ≤ k ∧ ∃ cs, w.heap[k]? = some (.cells cs 65 (0, 0)) := by
    intro k hk
    rcases hr.2 with ⟨rfl, _⟩ | ⟨g', cap', cur, rfl, hb, hg, _⟩
    · simp [Value.ownBlock] at hk
    · simp [Value.ownBlock] at hk; subst hk; exact ⟨hb, cur, hg⟩
  have hk : ∀ (k : Nat) o, w.heap[k]? = some o → (∀ cs, o ≠ .cells cs 65 (0, 0)) → w7.heap[k]? = some o := fun k o hh hne =>
    (hgr.block k (lt_of_heap hh) (fun e => by obtain ⟨_, cs, h2⟩ := hrow k e.symm; rw [hh] at h2; exact hne cs (Option.some.inj h2))).trans hh
  have hd7 := hk _ _ hd (fun cs e => by simp at e)
  have hd8 := heap_setCell_same w7 db 2 _ _ (.slice (some ⟨g, 0, none⟩) (d.waits.length + 1) cap) hd7
  simp only [List.setIfInBounds_toArray, List.set_cons_succ, List.set_cons_zero] at hd8
  refine ⟨⟨⟨ok.1, ok.2, ?_, ?_, ok.5⟩, ge, mv, _, hd8, ?_, ?_⟩, ?_⟩
  · intro p hp
    rcases List.mem_append.1 hp with hp | hp
    · exact ok.at_ p hp
    · rw [List.mem_singleton.1 hp]; exact hi
  · intro p hp
    rcases List.mem_append.1 hp with hp | hp
    · exact ok.len p hp
    · rw [List.mem_singleton.1 hp]; exact hbs
  · refine hl.of_map (fun k es c hh => ?_)
    rw [Below.heap_setCell _ _ _ _ (by rintro rfl; rw [hd] at hh; cases hh)]
    exact hk _ _ hh (fun cs e => by cases e)
  · simp only [List.length_append, List.length_singleton, List.flatMap_append, List.flatMap_cons, List.flatMap_nil, List.append_nil]
    refine ownsRow_of_row ho (fun k cs hh => ?_)
    rw [Below.heap_setCell _ _ _ _ (by rintro rfl; rw [hd7] at hh; simp at hh)]; exact hh
  · exact ((Fr.refl _ _ _).grown hgr (fun k e => by obtain ⟨h1, cs, h2⟩ := hrow k e; exact ⟨h1, _, h2, rfl⟩)).setCell hd7 ge rfl _

set_option maxHeartbeats 400000 in
theorem write_nil (w : World) (i : Int) (v : Value) : Calls Try.prog 15 #[.pointer none, .int .i64 i, v] w fun e w' => e = .returned (.int .i64 1) ∧ w = w' := by
  go_enter Try.func15, Try.ntmps15
  go_wp2_with (go_at_call 25; refine (has_nil _ _).mono ?_; rintro e w' ⟨rfl, rfl⟩)
  go_ret
  exact ⟨rfl, rfl⟩
set_option maxHeartbeats 400000 in
theorem write_any {B : Nat} {w : World} {db : Nat} {d : Dev} {N : Nat} (h : DevAt B w db d N) (i : Int) {v : Value} {bs : List UInt8} (hv : BytesAt w v bs) (hlen : d.waits.length < 1000000) (hB : B ≤ w.heap.size) :
    Calls Try.prog 15 #[.pointer (some ⟨db, 0, none⟩), .int .i64 i, v] w fun e w' => e = .returned (.int .i64 (d.write i bs).1) ∧ DevAt B w' db (d.write i bs).2 N ∧ Fr FK B w w' := by
  have hc := has_any h i
  by_cases hh : d.has i = true
  · rw [hh] at hc
    by_cases hl : bs.length = 256
    · have hsp := spend_any h
      by_cases hs : d.spend.1 = true
      · have HW : Hid (d.write i bs = (0, { d.spend.2 with waits := d.spend.2.waits ++ [(i, bs)] })) := by unfold Dev.write; rw [if_neg (by simp [hh, hl]), if_neg (by simp [hs])]; exact rfl
        rw [hs] at hsp
        obtain ⟨ao, cap, rfl⟩ : ∃ ao cap, v = .slice ao bs.length cap := by obtain ⟨ao, cap, e, _⟩ := hv; exact ⟨ao, cap, e⟩
        have HC := Lib.hid hc
        have HS := Lib.hid hsp
        have HL := Lib.hid hl
        have hl' : ((bs.length : Int) != 256) = false := by simp [hl]
        have HV := Lib.hid hv
        have HI : Hid (0 ≤ i ∧ i < d.size) := by simpa [Dev.has, Hid] using hh
        clear hc hsp hl hv hh hs
        go_enter Try.func15, Try.ntmps15
        go_wp2_with fail
        refine HC.out.mono ?_
        rintro e w' ⟨rfl, rfl⟩
        go_wp2_with fail
        refine HS.out.mono ?_
        rintro e w1 ⟨rfl, h1, f1⟩
        go_wp2_with (first
          | (with_reducible refine wpList_build1 rfl 65 0 (.tmp 20) rfl (.int .i64 i) (.agg (wrCells (i, zeros)).toArray) rfl (build65 i _) ?_)
          | (with_reducible refine wpList_alloc_row rfl 65 rfl (wrCells (0, zeros)).toArray (zero65 _) ?_; intro w2 hg2 hb2 hs2)
          | (with_reducible refine wpList_store_row rfl 65 (.tmp 7) (.tmp 21) rfl w1.heap.size 65 (wrCells (0, zeros)).toArray (wrCells (i, zeros)).toArray rfl rfl hg2 sz65i (szs _ _) (all_oneCell_toArray (wrCells_one _)) ?_; intro w3 hg3 hgr3 hs3; have hb3 := Below.grown hb2 hgr3 (Nat.le_of_lt hs2) (fun k e => by cases e; exact Nat.le_refl _); have hv3 := (HV.out.fr f1 FK_bytes).below hb3)
          | (with_reducible refine wpList_copy_splice rfl (.tmp 23) (.tmp 24) 31 31 rfl 5 Try.underlying31 sz5 (some ⟨w1.heap.size, 1, none⟩) ao 256 256 bs.length cap rfl rfl w1.heap.size 1 (wrCells (i, zeros)) 65 hg3 (cellsB bs) ?hn (fun h0 => ⟨rfl, hv3.src h0⟩) ?hfit (oneCell_cellsB bs) w1.heap.size w1 hb3 (Nat.le_refl _) ?_))
        case hn => simp [cellsB_length, HL.out]
        case hfit => simp [cellsB_length, HL.out, wrCells, zeros_length]
        intro w4 hg4 hb4
        have hg4' : w4.heap[w1.heap.size]? = some (.cells (wrCells (i, bs)).toArray 65 (0, 0)) := by rw [← splice_wr i bs HL.out]; exact hg4.out
        clear hg4 hg3 hgr3 hs3 hb3 hv3 hg2 hb2 hs2
        have HG := Lib.hid hg4'
        have h4 := h1.below hb4
        have HB4 := Lib.hid hb4
        clear hg4' hb4
        go_wp2
        obtain ⟨ok4, ge4, mv, sv, hd4, hl4, hr4⟩ := h4
        refine wp_region_any mixed ?_
        show wpAny _ _ _ _ 11 (Array.replicate 11 false) _ w4.drew
        refine wpAny_take_d 0 (some 26) (.pointer (some ⟨db, 0, none⟩)) rfl (by kernel_rfl) (by kernel_rfl) (by kernel_rfl) rfl rfl (fun _ _ _ h => h) (fun _ => by kernel_rfl) ?_
        simp only [Act.put, List.setIfInBounds_toArray, List.set_cons_succ, List.set_cons_zero]
        refine wpAny_take_d 1 (some 27) (.pointer (some ⟨db, 0, none⟩)) rfl (by kernel_rfl) (by kernel_rfl) (by kernel_rfl) rfl rfl (fun _ _ _ h => h) (fun _ => by kernel_rfl) ?_
        simp only [Act.put, List.setIfInBounds_toArray, List.set_cons_succ, List.set_cons_zero]
        refine wpAny_take_d 2 (some 28) (.pointer (some ⟨db, 0, none⟩)) rfl (by kernel_rfl) (by kernel_rfl) (by kernel_rfl) rfl rfl (fun _ _ _ h => h) (fun _ => by kernel_rfl) ?_
        simp only [Act.put, List.setIfInBounds_toArray, List.set_cons_succ, List.set_cons_zero]
        refine wpAny_take_d 3 (some 29) (.pointer (some ⟨db, 2, none⟩)) rfl (by kernel_rfl) (by kernel_rfl) (by kernel_rfl) rfl rfl (fun _ _ _ h => h) (fun _ => by kernel_rfl) ?_
        simp only [Act.put, List.setIfInBounds_toArray, List.set_cons_succ, List.set_cons_zero]
        have hWr : (wrCells (i, bs)).length = 257 := wrCells_size _ HL.out
        obtain ⟨i0, hi0, hz0, hz1, hz2⟩ := info_parts info65
        have hc5 : w4.drew.cell? ⟨db, 2, none⟩ = some sv := cell_row hd4 2 rfl
        have hg5 : w4.drew.heap[w1.heap.size]? = some (.cells (wrCells (i, bs)).toArray 65 (0, 0)) := HG.out
        have hd6 : (w4.drew.alloc (.cells (wrCells (i, bs)).toArray 65)).heap[db]? = _ := (Below.heap_alloc _ _ _ (lt_of_heap hd4)).trans hd4
        have hc6 : (w4.drew.alloc (.cells (wrCells (i, bs)).toArray 65)).cell? ⟨db, 2, none⟩ = some sv := cell_row hd6 2 rfl
        have hbs := run_buildSlice_one (P := Try.prog) w4.drew 59 65 i0 _ (wrCells (i, bs)) Try.underlying59 hi0 hz0 (by rw [hz1, hWr]) (by omega) (by omega)
        have HW1 := wrCells_one (i, bs)
        generalize hWc : wrCells (i, bs) = Wc at *
        have HWc := Lib.hid hWc
        clear hWc
        refine wpAny_two_loads 4 5 6 (some 30) (some 31) (some 32) rfl rfl rfl rfl rfl rfl (by decide) (by decide) rfl rfl rfl (by rintro d h; cases h; simp) (by rintro d h; cases h; simp) (by kernel_rfl) (by kernel_rfl) (by kernel_rfl) (by kernel_rfl) (by kernel_rfl)
          (w := w4.drew) (v4 := sv) (v5 := .agg Wc.toArray) (v6 := .slice (some ⟨w4.heap.size, 0, none⟩) 1 1) (w6 := w4.drew.alloc (.cells Wc.toArray 65))
          (exec_load_cell rfl rfl hc5 Try.underlying59 rfl) (exec_load_row rfl rfl hg5 Try.underlying65 rfl (by rw [sz65]; simp [hWr]))
          (exec_load_row rfl rfl hg5 Try.underlying65 rfl (by rw [sz65]; simp [hWr])) (exec_load_cell rfl rfl hc5 Try.underlying59 rfl)
          (exec_buildSlice_one rfl rfl hbs) (exec_buildSlice_one rfl rfl hbs) (exec_load_cell rfl rfl hc6 Try.underlying59 rfl) ?_
        simp only [Act.put, List.setIfInBounds_toArray, List.set_cons_succ, List.set_cons_zero]
        have hr6 : (w4.drew.alloc (.cells Wc.toArray 65)).ownsRow B 65 257 sv d.spend.2.waits.length (d.spend.2.waits.flatMap wrCells) := World.ownsRow.alloc (w := w4.drew) hr4 _
        have hnew := heap_alloc_new w4.drew (.cells Wc.toArray 65)
        have hsw := (spend_waits d).1
        obtain ⟨g, cap7, w7, hrun7, hown7, hgr7, -, -⟩ := run_append_lies (P := Try.prog) (w4.drew.alloc (.cells Wc.toArray 65)) 59 59 B 65 i0 _ 257 264 Try.underlying59 hi0 hz0 hz1 hz2 zc65 (by decide)
          sv d.spend.2.waits.length _ hr6 ⟨w4.heap.size, 0, none⟩ 1 1 Wc (by rw [hWr]) (fun j u hu => World.news_of_block hnew j u (by simpa using hu)) HW1 (by decide) (by rw [hsw]; simp only [maxLen]; omega) (by rw [hsw]; omega)
          (by have := HB4.out.size; have := f1.size; simp; omega) _ rfl
        refine wpAny_one 7 (some 33) rfl (by kernel_rfl) rfl rfl (exec_append rfl rfl rfl hrun7) ?_
        simp only [Act.put, List.setIfInBounds_toArray, List.set_cons_succ, List.set_cons_zero]
        have hd7 : w7.heap[db]? = _ := (hgr7.block db (lt_of_heap hd6) (fun e => by
          rcases hr4.2 with ⟨e1, _⟩ | ⟨g', c', cur, e1, _, hg', _⟩
          · rw [e1] at e; cases e
          · rw [e1] at e; simp only [Value.ownBlock, Option.some.injEq] at e; subst e; rw [hd4] at hg'; simp at hg')).trans hd6
        refine wpAny_one 8 (some 34) rfl (by kernel_rfl) rfl rfl (v := .pointer (some ⟨db, 0, none⟩)) (w1 := w7) (by kernel_rfl) ?_
        simp only [Act.put, List.setIfInBounds_toArray, List.set_cons_succ, List.set_cons_zero]
        refine wpAny_one 9 (some 35) rfl (by kernel_rfl) rfl rfl (v := .pointer (some ⟨db, 2, none⟩)) (w1 := w7) (by kernel_rfl) ?_
        simp only [Act.put, List.setIfInBounds_toArray, List.set_cons_succ, List.set_cons_zero]
        refine wpAny_one_skip 10 rfl (by kernel_rfl) rfl (exec_store_cell rfl rfl rfl rfl (cell_row hd7 2 rfl) (free_row hd7 2) szSlice) ?_
        refine wpAny_done (by kernel_rfl) ?_ _
        have hhas : 0 ≤ i ∧ i < d.spend.2.size := by rw [(spend_waits d).2.1]; exact HI.out
        have HE := Lib.hid (write_end ok4 ge4 hd6 (hl4.of_map (fun k es c hh => (Below.heap_alloc w4.drew _ _ (lt_of_heap hh)).trans hh)) hr6 i bs hhas HL.out (by rw [HWc.out]; exact hown7) hgr7)
        have F6 : Fr FK B w (w4.drew.alloc (.cells Wc.toArray 65)) := (f1.trans (Fr.of_below HB4.out)).drew.alloc _
        clear hown7 hgr7 hrun7 hd7 hr6 hnew hd6 hc6 hg5 hc5 hbs HW1 hWr hsw
        go_wp2
        go_ret
        rw [HW.out]
        exact ⟨rfl, HE.out.1, F6.trans HE.out.2⟩
      · have hs' : d.spend.1 = false := by simpa using hs
        have HW : Hid (d.write i bs = (4, d.spend.2)) := by unfold Dev.write; rw [if_neg (by simp [hh, hl]), if_pos hs']; exact rfl
        rw [hs'] at hsp
        obtain ⟨ao, cap, rfl⟩ : ∃ ao cap, v = .slice ao bs.length cap := by obtain ⟨ao, cap, e, _⟩ := hv; exact ⟨ao, cap, e⟩
        have HC := Lib.hid hc
        have HS := Lib.hid hsp
        have hl' : ((bs.length : Int) != 256) = false := by simp [hl]
        clear hc hsp hl hv hh hs hs'
        go_enter Try.func15, Try.ntmps15
        go_wp2_with fail
        refine HC.out.mono ?_
        rintro e w' ⟨rfl, rfl⟩
        go_wp2_with fail
        refine HS.out.mono ?_
        rintro e w1 ⟨rfl, h1, f1⟩
        go_wp2
        go_ret
        rw [HW.out]
        exact ⟨rfl, h1, f1⟩
    · have HW : Hid (d.write i bs = (1, d)) := by unfold Dev.write; rw [if_pos (Or.inr hl)]; exact rfl
      obtain ⟨ao, cap, rfl⟩ : ∃ ao cap, v = .slice ao bs.length cap := by obtain ⟨ao, cap, e, _⟩ := hv; exact ⟨ao, cap, e⟩
      have HC := Lib.hid hc
      have hl' : ((bs.length : Int) != 256) = true := by simp; omega
      have HH := Lib.hid h
      clear hc hl hv hh h
      go_enter Try.func15, Try.ntmps15
      go_wp2_with fail
      refine HC.out.mono ?_
      rintro e w' ⟨rfl, rfl⟩
      go_wp2
      go_ret
      rw [HW.out]
      exact ⟨rfl, HH.out, Fr.refl _ _ _⟩
  · have hh' : d.has i = false := by simpa using hh
    have HW : Hid (d.write i bs = (1, d)) := by unfold Dev.write; rw [if_pos (Or.inl hh')]; exact rfl
    rw [hh'] at hc
    have HC := Lib.hid hc
    have HH := Lib.hid h
    clear hc hv hh hh' h
    go_enter Try.func15, Try.ntmps15
    go_wp2_with fail
    refine HC.out.mono ?_
    rintro e w' ⟨rfl, rfl⟩
    go_wp2
    go_ret
    rw [HW.out]
    exact ⟨rfl, HH.out, Fr.refl _ _ _⟩
end Go.Proofs.Ytfdabkcbefhdaaa
