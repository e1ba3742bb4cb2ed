/- The document's allocator: Settle, New; equal lists. No statement of the seat is proved here. -/
import Derived.Test.YtkmaikmbjebjeaaDoorADoc3
namespace Go.Proofs.YtkmaikmbjebjeaaDoor
set_option maxRecDepth 20000
open Go.RowKit

theorem OwnZ.at {base : Nat} {w : World} {ao : Option Addr} {m cap : Nat} {zs : List Int} (h : OwnZ base w (.slice ao m cap) zs) {i : Nat} (hi : i < zs.length) : m = zs.length ∧ ∃ g, ao = some ⟨g, 0, none⟩ ∧ base ≤ g ∧ w.cell? ⟨g, i, none⟩ = some (.int .i64 (zs.getD i 0)) ∧ w.frozen? ⟨g, i, none⟩ = false := by
  obtain ⟨ao', cap', e, -, -⟩ := ownsRow_form h
  obtain ⟨-, hm, -⟩ : ao = ao' ∧ m = zs.length ∧ cap = cap' := by cases e; exact ⟨rfl, rfl, rfl⟩
  obtain ⟨g, rfl, hg, c⟩ := ownsRow_cell h (j := i) (u := iV (zs.getD i 0)) (by
    rw [List.getElem?_map, List.getElem?_eq_getElem hi, Option.map_some, List.getD_eq_getElem?_getD, List.getElem?_eq_getElem hi]; rfl)
  subst hm
  exact ⟨rfl, g, rfl, hg, c, World.ownsRow.frozenAt h i⟩
set_option maxRecDepth 20000 in
set_option maxHeartbeats 1600000 in
theorem dsettle_any {B : Nat} {w : World} {rb : Nat} {A : Al} (h : RS B w rb A.n (stA A) A.k) (ok : A.Ok) : Calls Tryd.prog 19 #[.pointer (some ⟨rb, 0, none⟩)] w fun e w' => e = .returned (.int .i64 (cnt A.l 4096 : Nat)) ∧ RS B w' rb A.settle.n (stA A.settle) A.settle.k ∧ Fr KR B w w' := by
  have n1 := ok.n1
  have n2 := ok.n2
  have hli := rlist_any h 2
  have hlen : (listN (fun i => stA A i == 2) A.n).length = cnt A.l 4096 := by rw [list_leaving ok, listN_length]
  have hget : ∀ i, i < (listN (fun i => stA A i == 2) A.n).length → ∃ j : Nat, (listN (fun i => stA A i == 2) A.n).getD i 0 = j ∧ j < A.n := fun i hi => by
    obtain ⟨j, h1, h2, -⟩ := listN_getD_lt hi
    exact ⟨j, h1, h2⟩
  have hend : ∀ w2, RS B w2 rb A.n (setK (stA A) (listN (fun i => stA A i == 2) A.n) (listN (fun i => stA A i == 2) A.n).length) A.k → RS B w2 rb A.settle.n (stA A.settle) A.settle.k := fun w2 h2 => RS.congr (n := A.n) h2 (fun i hi => setK_settle ok hi)
  generalize listN (fun i => stA A i == 2) A.n = zs at *
  have hzl : zs.length ≤ 4096 := by rw [hlen]; exact cnt_le _ _
  rw [← hlen]
  generalize A.settle.n = n' at *
  generalize A.settle.k = k' at *
  generalize stA A.settle = st' at *
  generalize A.n = n at *
  generalize A.k = k at *
  generalize stA A = st at *
  clear ok hlen
  obtain ⟨m, hm⟩ : ∃ m, zs.length = m := ⟨_, rfl⟩
  rw [hm] at hget hend hzl ⊢
  have HM := Lib.hid hm
  have HEND := Lib.hid hend
  have HGET := Lib.hid hget
  have HH := Lib.hid h
  obtain ⟨ao, cap, hc0, -, -, hcs⟩ := h.cells
  obtain ⟨g, rfl, hcg, -⟩ := hcs 0 n1
  have hgl := World.block_lt_of_cell? w _ hcg
  have hc0' := Lib.hid hc0
  clear hm hend hget h hc0 hcs hcg
  go_enter Tryd.func19, Tryd.ntmps19
  go_wp2_with fail
  refine Calls.mono hli ?_
  rintro e w2 ⟨v, rfl, o2, b2⟩
  have h2 := HH.out.below b2
  have hc2 : w2.cell? ⟨rb, 0, none⟩ = some (.slice (some ⟨g, 0, none⟩) n cap) := (b2.cell (p := ⟨rb, 0, none⟩) (World.block_lt_of_cell? w _ hc0'.out)).trans hc0'.out
  have HC2 := Lib.hid hc2
  have f2 : Fr KR B w w2 := Fr.of_below b2
  obtain ⟨vo, vm, vc, rfl, hvm⟩ := o2.form'
  obtain rfl : m = vm := (hvm.out.trans HM.out).symm
  clear hli b2 hc2 hvm
  go_wp2
  go_loopw [4] (fun iv wr => ∃ i : Nat, i ≤ m ∧ iv = .int .i64 i ∧ RS B wr rb n (setK st zs i) k ∧ OwnZ w.heap.size wr (.slice vo m vc) zs ∧ Fr KR B w wr ∧ Hid (wr.cell? ⟨rb, 0, none⟩ = some (.slice (some ⟨g, 0, none⟩) n cap))) (fun iv _ => m - (intOf iv).toNat)
  case atStart => exact ⟨0, Nat.zero_le _, rfl, h2, o2, f2, HC2⟩
  case round =>
    clear h2 o2 f2 HC2
    obtain ⟨i, hi, rfl, hr, ho, hf, hcr⟩ := hrel
    by_cases hlt : i < m
    · obtain ⟨j, ej, hj⟩ := HGET.out i hlt
      obtain ⟨-, gv, rfl, -, cv, -⟩ := ho.at (i := i) (by rw [HM.out]; exact hlt)
      rw [ej] at cv
      obtain ⟨g', cap', d0, d1, fz, r1, r2⟩ := hr.turn (Below.refl _ _) hj 0
      have c0 := hcr.out
      rw [c0] at d0
      injection d0 with d0
      obtain ⟨rfl, rfl⟩ : g = g' ∧ cap = cap' := by cases d0; exact ⟨rfl, rfl⟩
      have hne : (⟨rb, 0, none⟩ : Addr).block ≠ g := by
        intro e
        have e : rb = g := e
        subst e
        obtain ⟨-, -, sv, q1, q2⟩ := hr
        rw [cell_of_row _ _ _ _ _ _ q1] at c0
        have e2 : sv = .slice (some ⟨rb, 0, none⟩) n cap := by simpa using c0
        rw [e2] at q2
        rcases q2.2 with ⟨hv, _⟩ | ⟨g3, cap3, cur, hv, _, hgc, _⟩
        · cases hv
        · cases hv
          rw [q1] at hgc
          injection hgc with e
          injection e with _ e _
          exact absurd e (by decide)
      have FIN := Lib.hid (show RS B (wr.setCell ⟨g, j, none⟩ (.int .i64 0)).drew rb n (setK st zs (i + 1)) k ∧ OwnZ w.heap.size (wr.setCell ⟨g, j, none⟩ (.int .i64 0)).drew (.slice (some ⟨gv, 0, none⟩) m vc) zs ∧ Fr KR B w (wr.setCell ⟨g, j, none⟩ (.int .i64 0)).drew ∧ Hid ((wr.setCell ⟨g, j, none⟩ (.int .i64 0)).drew.cell? ⟨rb, 0, none⟩ = some (.slice (some ⟨g, 0, none⟩) n cap)) from by
        refine ⟨?_, ?_, (hf.trans r2).drew, Lib.hid ?_⟩
        · have := r1.drew
          rw [setK, ej, Int.toNat_natCast]; exact this
        · exact ho.setCell hgl j _
        · exact (World.cell?_of_block (Below.heap_setCell _ _ _ _ hne)).trans c0)
      clear hr ho hf hcr d0 r1 r2 ej hne
      go_wp2
      go_region
      all_goals
        go_wp2
        go_roundw
        case rel => exact ⟨i + 1, by omega, by go_num, FIN.out⟩
        case measure => simp [intOf]; omega
    · obtain rfl : i = m := by omega
      have FIN := Lib.hid (And.intro (HEND.out _ hr) hf)
      clear hr ho hf hcr
      go_wp2
      go_ret
      exact ⟨rfl, FIN.out⟩
end Go.Proofs.YtkmaikmbjebjeaaDoor
