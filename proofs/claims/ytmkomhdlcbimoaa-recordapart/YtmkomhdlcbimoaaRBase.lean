/- The contracts of record's small calls. No statement of the seat is proved here. -/
import Derived.Test.YtmkomhdlcbimoaaRMath
namespace Go.Proofs.Ytmkomhdlcbimoaa
set_option maxRecDepth 20000
open Go.RowKit

/-- A slice of numbers that reads as zs in w, cell by cell. -/
def IntC (w : World) (v : Value) (zs : List Int) : Prop :=
  ∃ ao cap, v = .slice ao zs.length cap ∧ zs.length ≤ cap ∧ zs.length ≤ 4000 ∧ (0 < zs.length → ∃ b off, ao = some ⟨b, off, none⟩ ∧ ∀ i, i < zs.length → w.cell? ⟨b, off + i, none⟩ = some (.int .i64 (zs.getD i 0)))
theorem IntC.below {w w' : World} {v : Value} {zs : List Int} (h : IntC w v zs) (hb : Below w.heap.size w w') : IntC w' v zs := by
  obtain ⟨ao, cap, hv, hc, hl, h1⟩ := h
  refine ⟨ao, cap, hv, hc, hl, fun h0 => ?_⟩
  obtain ⟨b, off, e, h2⟩ := h1 h0
  exact ⟨b, off, e, fun i hi => (hb.cell (World.block_lt_of_cell? w _ (h2 i hi))).trans (h2 i hi)⟩
theorem IntC.get {w : World} {ao : Option Addr} {n cap : Nat} {zs : List Int} (h : IntC w (.slice ao n cap) zs) {k : Nat} (hk : k < zs.length) : ∃ b off, ao = some ⟨b, off, none⟩ ∧ w.cell? ⟨b, off + k, none⟩ = some (.int .i64 (zs.getD k 0)) := by
  obtain ⟨ao', cap', hv, _, _, hc⟩ := h
  cases hv
  obtain ⟨b, off, h1, h3⟩ := hc (by omega)
  exact ⟨b, off, h1, h3 k hk⟩
theorem intc_new (w : World) (zs : List Int) (hz : zs.length ≤ 4000) : IntC (w.alloc (.cells (zs.map (Value.int .i64)).toArray 3)) (.slice (some ⟨w.heap.size, 0, none⟩) zs.length zs.length) zs := by
  refine ⟨_, _, rfl, Nat.le_refl _, hz, fun _ => ⟨_, _, rfl, fun i hi => ?_⟩⟩
  rw [cell_of_row _ _ _ _ _ _ (heap_alloc_new w _)]
  simp [List.getD_eq_getElem?_getD, List.getElem?_eq_getElem hi]
def allNat (zs : List Int) : Bool := zs.all fun z => decide (0 ≤ z)
set_option maxHeartbeats 800000 in
theorem fromNought_any {w : World} {v : Value} {zs : List Int} (h : IntC w v zs) : Calls Try.prog 53 #[v] w fun e w' => e = .returned (.bool (allNat zs)) ∧ w = w' := by
  have hh := h
  obtain ⟨ao, cap, rfl, hc, hl, -⟩ := h
  go_enter Try.func53, Try.ntmps53
  go_wp2
  go_loop [7] (fun i => ∃ k : Nat, k ≤ zs.length ∧ i = .int .i64 k ∧ Hid (∀ j, j < k → 0 ≤ zs.getD j 0)) (fun i => zs.length - (intOf i).toNat)
  case atStart => exact ⟨0, Nat.zero_le _, rfl, Lib.hid (fun j hj => by omega)⟩
  case round =>
    obtain ⟨k, hk, rfl, hz⟩ := hrel
    by_cases hlt : k < zs.length
    · obtain ⟨b, off, rfl, hcell⟩ := hh.get hlt
      by_cases h0 : 0 ≤ zs.getD k 0
      · have h1 : ¬ zs.getD k 0 < 0 := by omega
        generalize hx : zs.getD k 0 = x at h1 hcell
        have HX := Lib.hid hx
        have H0 := Lib.hid h0
        clear hx h0
        go_wp2
        go_round
        case rel => exact ⟨k + 1, by omega, by go_num, Lib.hid (fun j hj => by
            by_cases e : j = k
            · subst e; exact H0.out
            · exact hz.out j (by omega))⟩
        case measure => first | (simp [intOf]; omega) | omega
      · have h1 : zs.getD k 0 < 0 := by omega
        have hf : allNat zs = false := by
          unfold allNat
          rw [List.all_eq_false]
          refine ⟨zs.getD k 0, ?_, by simpa using h1⟩
          rw [List.getD_eq_getElem?_getD, List.getElem?_eq_getElem hlt]; exact List.getElem_mem _
        have HF := Lib.hid hf
        generalize hx : zs.getD k 0 = x at h1 hcell
        clear hf h0 hx
        go_wp2
        go_ret
        exact ⟨by rw [HF.out]; rfl, rfl⟩
    · have hf : allNat zs = true := by
        unfold allNat
        rw [List.all_eq_true]
        intro x hx
        obtain ⟨j, hj, rfl⟩ := List.mem_iff_getElem.1 hx
        have := hz.out j (by omega)
        rw [List.getD_eq_getElem?_getD, List.getElem?_eq_getElem hj] at this
        simpa using this
      have HF := Lib.hid hf
      clear hf
      go_wp2
      go_ret
      exact ⟨by rw [HF.out]; rfl, rfl⟩
theorem numsI_succ (zs : List Int) (k : Nat) (h : k < zs.length) : (zs.take (k + 1)).map numI = (zs.take k).map numI ++ [numI (zs.getD k 0)] := by
  rw [List.take_succ_eq_append_getElem h, List.map_append, List.getD_eq_getElem?_getD, List.getElem?_eq_getElem h]; rfl
def OwnRetI (base : Nat) (w : World) (l : List It) (e : Ending) (w' : World) : Prop := ∃ v', e = .returned v' ∧ OwnI base w' v' l ∧ Below base w w'
set_option maxHeartbeats 1600000 in
theorem numbers_any {w : World} {v : Value} {zs : List Int} (h : IntC w v zs) (hok : ∀ z ∈ zs, inI z) : Calls Try.prog 32 #[v] w (OwnRetI w.heap.size w (zs.map numI)) := by
  have hh := h
  obtain ⟨ao, cap, rfl, hc, hl, -⟩ := h
  have HOK := Lib.hid hok
  clear hok
  go_enter Try.func32, Try.ntmps32
  go_wp2
  go_loopw [3, 8] (fun lv iv wr => ∃ k : Nat, k ≤ zs.length ∧ iv = .int .i64 k ∧ OwnI w.heap.size wr lv ((zs.take k).map numI) ∧ Below w.heap.size w wr) (fun _ iv _ => zs.length - (intOf iv).toNat)
  case atStart => exact ⟨0, Nat.zero_le _, rfl, OwnI.nil _ _, Below.refl _ _⟩
  case round =>
    obtain ⟨k, hk, rfl, ho, hbel⟩ := hrel
    obtain ⟨lo, lm, lc, hlv, hlm⟩ := ho.form'
    subst hlv
    by_cases hlt : k < zs.length
    · obtain ⟨b, off, rfl, hcell0⟩ := hh.get hlt
      have hcell := (hbel.cell (World.block_lt_of_cell? w _ hcell0)).trans hcell0
      have hin : inI (zs.getD k 0) := HOK.out _ (by rw [List.getD_eq_getElem?_getD, List.getElem?_eq_getElem hlt]; exact List.getElem_mem _)
      have HS := Lib.hid (numsI_succ zs k hlt)
      generalize hx : zs.getD k 0 = x at hcell hin HS
      have hbs : (Instr.buildSlice 74 1 #[(0, .agg #[.int .i64 1, .int .i64 x, .string ⟨#[]⟩])]).run Try.prog wr = .ok (.slice (some ⟨wr.heap.size, 0, none⟩) 1 1) (wr.alloc (.cells #[.int .i64 1, .int .i64 x, .string ⟨#[]⟩] 77)) := build_slice_one wr (numI x)
      have hit := items_one wr (numI x) (numI_ok hin)
      obtain ⟨v4, w4, hr4, h4, b4, s4⟩ := own_append_items (ho.alloc (.cells #[.int .i64 1, .int .i64 x, .string ⟨#[]⟩] 77)) hit (by simp; omega) (by have := hbel.size; simp; omega) 74
      have bb4 := (hbel.alloc hbel.size (.cells #[.int .i64 1, .int .i64 x, .string ⟨#[]⟩] 77)).trans b4
      have hbi := build_it1 x wr
      obtain ⟨lo4, lm4, lc4, hv4, hm4⟩ := h4.form'
      subst hv4
      have HR4 := Lib.hid hr4
      rw [← HS.out] at h4
      clear hr4 hit b4 s4 ho hbel hcell0 hx
      go_wp2_with (with_reducible refine wpList_append_eq rfl (.tmp 12) (.tmp 15) 74 74 rfl (.slice lo lm lc) (.slice (some ⟨wr.heap.size, 0, none⟩) 1 1) (.slice lo4 lm4 lc4) rfl rfl HR4.out ?_)
      go_roundw
      case rel => exact ⟨k + 1, by omega, by go_num, h4, bb4⟩
      case measure => simp [intOf]; omega
    · rw [List.take_of_length_le (by omega)] at ho
      go_wp2
      go_ret
      exact ⟨_, rfl, ho, hbel⟩
set_option maxHeartbeats 800000 in
theorem textOf_any (s : ByteArray) (w : World) : Calls Try.prog 34 #[.string s] w fun e w' => e = .returned (.agg #[.int .i64 2, .int .i64 0, .string s]) ∧ Below w.heap.size w w' := by
  have hb := build_it2 s (w.alloc (.cells #[.int .i64 0, .int .i64 0, .string ⟨#[]⟩] 77))
  go_enter Try.func34, Try.ntmps34
  go_wp2
  exact bodyPost_ret (v := .agg #[.int .i64 2, .int .i64 0, .string s]) (by simp [results, Try.results34, go_sem]) rfl ⟨rfl, below_new w _⟩
set_option maxHeartbeats 1600000 in
theorem sector_any {w : World} {v : Value} {l : List It} (h : ItemsAt w.heap.size w v l) (hE : encE l = 0) (hs : (packB l).length ≤ 250) : Calls Try.prog 31 #[v] w (OwnRetE w.heap.size w (sectB l) 0) := by
  have he := encode_any h
  rw [hE, encR_pack hE] at he
  obtain ⟨ao, m, cap, hv, hm⟩ : ∃ ao m cap, v = .slice ao m cap ∧ Hid (m = l.length) := by
    obtain ⟨ao, cap, hv, _⟩ := h
    exact ⟨ao, _, cap, hv, Lib.hid rfl⟩
  subst hv
  go_enter Try.func31, Try.ntmps31
  go_wp2_with fail
  refine he.mono ?_
  rintro e w1 ⟨v1, rfl, h1, b1⟩
  have hse := seal_any h1.at (by omega)
  obtain ⟨ao1, m1, cap1, hv1, hm1⟩ := h1.form'
  subst hv1
  clear he h1
  go_wp2_with fail
  refine hse.mono ?_
  rintro e w2 ⟨v2, rfl, h2, b2⟩
  have bb2 := b1.trans (b2.mono b1.size)
  have hfr := frame_any h2.at 256
  have hfe : frameE (sealed (packB l)).length 256 = 0 := by unfold frameE; rw [sealed_length, if_neg (by omega), if_neg (by omega)]
  have hfR : frameR (sealed (packB l)) 256 = sectB l := by unfold frameR; rw [hfe, if_pos rfl]; rfl
  rw [hfe, hfR] at hfr
  obtain ⟨ao2, m2, cap2, hv2, hm2⟩ := h2.form'
  subst hv2
  clear hse h2 hfe hfR
  go_wp2_with fail
  refine hfr.mono ?_
  rintro e w3 ⟨v3, rfl, h3, b3⟩
  have bb3 := bb2.trans (b3.mono bb2.size)
  obtain ⟨ao3, m3, cap3, hv3, hm3⟩ := h3.form'
  subst hv3
  clear hfr
  go_wp2
  go_ret2
  exact ⟨_, rfl, ownsRow_base h3 (fun k hk => Nat.le_trans (Nat.le_trans bb2.size (Nat.le_refl _)) (World.ownsRow.lt h3 k hk).1), bb3⟩
end Go.Proofs.Ytmkomhdlcbimoaa
