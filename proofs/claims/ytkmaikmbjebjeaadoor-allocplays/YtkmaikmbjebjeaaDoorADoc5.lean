/- The document's allocator: New; equal lists. No statement of the seat is proved here. -/
import Derived.Test.YtkmaikmbjebjeaaDoorADoc4
namespace Go.Proofs.YtkmaikmbjebjeaaDoor
set_option maxRecDepth 20000
open Go.RowKit

theorem RS.mono {B B' : Nat} {w : World} {rb n : Nat} {st : Nat → Int} {k : Nat} (h : RS B w rb n st k) (hB : B' ≤ B) : RS B' w rb n st k := by
  obtain ⟨ge, n2, sv, h1, h2⟩ := h
  refine ⟨Nat.le_trans hB ge, n2, sv, h1, h2.1, ?_⟩
  rcases h2.2 with q | ⟨g, cap, cur, hv, hb, r⟩
  · exact .inl q
  · exact .inr ⟨g, cap, cur, hv, Nat.le_trans hB hb, r⟩
theorem zeros_row (n : Nat) : (madeCells (Value.int .i64 0).cells (n * 1)).toList = (List.range n).map fun _ => iV 0 := by
  apply List.ext_getElem?
  intro j
  by_cases hj : j < n
  · simp [madeCells, hj, Nat.mod_one, Value.cells, iV]
  · simp [madeCells, hj]
theorem make_ints (w : World) (n : Nat) (hn : n ≤ 4096) : ∃ w', (Instr.makeSlice 22 (.int .i64 (n : Nat)) (.int .i64 (n : Nat))).run Tryd.prog w = .ok (.slice (some ⟨w.heap.size, 0, none⟩) n n) w' ∧ w'.ownsRow w.heap.size 3 1 (.slice (some ⟨w.heap.size, 0, none⟩) n n) n ((List.range n).map fun _ => iV 0) ∧ Below w.heap.size w w' ∧ w.heap.size < w'.heap.size := by
  obtain ⟨i, hi, hi0, hi1, hi2⟩ := infoInt'
  obtain ⟨w', hr, ho, hg⟩ := run_make_full (P := Tryd.prog) w w.heap.size 22 3 i (.int .i64 0) 1 Tryd.underlying22 hi hi0 hi1 .i64 .i64 n (by rw [hi2]; omega) (by unfold maxLen; omega) (Nat.le_refl _)
  rw [zeros_row] at ho
  refine ⟨w', hr, ho, (Below.refl _ _).grown hg (Nat.le_refl _) (fun k e => by cases e), ?_⟩
  rcases ho.2 with ⟨h1, _⟩ | ⟨g, cap, cur, hv, hb', hgr, _⟩
  · cases h1
  · cases hv
    exact lt_of_heap hgr
def DNewPost (w : World) (n : Nat) (zs : List Int) (e : Ending) (w' : World) : Prop :=
  (e = .returned (.tuple #[.pointer none, .int .i64 1]) ∧ (∃ i, i < zs.length ∧ inR n (zs.getD i 0) = false) ∧ Below w.heap.size w w') ∨
  ((∀ i, i < zs.length → inR n (zs.getD i 0) = true) ∧ Below w.heap.size w w' ∧
    ((e = .returned (.tuple #[.pointer none, .int .i64 8]) ∧ cnt (memK zs zs.length) 4096 < zs.length) ∨
     ∃ rb, e = .returned (.tuple #[.pointer (some ⟨rb, 0, none⟩), .int .i64 0]) ∧ RS w.heap.size w' rb n (stA (newA n zs zs.length)) 0 ∧ cnt (memK zs zs.length) 4096 = zs.length))
set_option maxHeartbeats 800000 in
theorem dnew_no (w : World) (z : Int) (hz : z < 1 ∨ 4096 < z) (v : Value) : Calls Tryd.prog 14 #[.int .i64 z, v] w fun e w' => e = .returned (.tuple #[.pointer none, .int .i64 1]) ∧ w = w' := by
  by_cases h1 : z < 1
  · go_enter Tryd.func14, Tryd.ntmps14
    go_wp2
    go_returns
    exact ⟨rfl, rfl⟩
  · have h2 : 4096 < z := by omega
    go_enter Tryd.func14, Tryd.ntmps14
    go_wp2
    go_returns
    exact ⟨rfl, rfl⟩
set_option maxRecDepth 20000 in
set_option maxHeartbeats 3200000 in
theorem dnew_any {w : World} {v : Value} {zs : List Int} (h : ReadZ w v zs) {n : Nat} (h1 : 1 ≤ n) (h2 : n ≤ 4096) : Calls Tryd.prog 14 #[.int .i64 (n : Nat), v] w (DNewPost w n zs) := by
  have hh := Lib.hid h
  obtain ⟨ao, cap, rfl, hl, -⟩ := h
  obtain ⟨m, hm⟩ : ∃ m, zs.length = m := ⟨_, rfl⟩
  have HM := Lib.hid hm
  rw [hm] at hl hh ⊢
  clear hm
  go_enter Tryd.func14, Tryd.ntmps14
  go_wp2
  go_loopw [6] (fun iv wr => ∃ k : Nat, k ≤ m ∧ iv = .int .i64 k ∧ Hid (∀ i, i < k → inR n (zs.getD i 0) = true) ∧ wr = w) (fun iv _ => m - (intOf iv).toNat)
  case atStart => exact ⟨0, Nat.zero_le _, rfl, Lib.hid (fun i hi => by omega), rfl⟩
  case round =>
    obtain ⟨k, hk, rfl, hin, rfl⟩ := hrel
    obtain ⟨ao', cap', he, -, hc⟩ := hh.out
    by_cases hlt : k < m
    · obtain ⟨b, off, eb, hbl, hcl⟩ := hc k (by rw [HM.out]; exact hlt)
      injection he with e1 e2 e3
      rw [← e1] at eb
      subst eb
      obtain ⟨z, hz⟩ : ∃ z, zs.getD k 0 = z := ⟨_, rfl⟩
      rw [hz] at hcl
      have HZ := Lib.hid hz
      clear hz e1 e2 e3 hc
      by_cases q1 : z < 0
      · have FIN : Hid (DNewPost wr n zs (.returned (.tuple #[.pointer none, .int .i64 1])) wr) := Lib.hid (.inl ⟨rfl, ⟨k, by rw [HM.out]; exact hlt, by rw [HZ.out]; unfold inR; simp; omega⟩, Below.refl _ _⟩)
        go_wp2
        go_returns
        exact FIN.out
      · by_cases q2 : z < (n : Int)
        · have hin2 := Lib.hid (show ∀ i, i < k + 1 → inR n (zs.getD i 0) = true from fun i hi => by
            by_cases e : i = k
            · subst e; rw [HZ.out]; unfold inR; simp; omega
            · exact hin.out i (by omega))
          clear hin
          go_wp2
          go_roundw
          case rel => exact ⟨k + 1, by omega, by go_num, hin2, by trivial⟩
          case measure => simp [intOf]; omega
        · have FIN : Hid (DNewPost wr n zs (.returned (.tuple #[.pointer none, .int .i64 1])) wr) := Lib.hid (.inl ⟨rfl, ⟨k, by rw [HM.out]; exact hlt, by rw [HZ.out]; unfold inR; simp; omega⟩, Below.refl _ _⟩)
          go_wp2
          go_returns
          exact FIN.out
    · obtain rfl : k = m := by omega
      have hall : ∀ i, i < zs.length → inR n (zs.getD i 0) = true := fun i hi => hin.out i (by rw [HM.out] at hi; exact hi)
      have HALL := Lib.hid hall
      obtain ⟨w1, hmk, ow, bw, sw⟩ := make_ints wr n h2
      clear hall hin hc he
      obtain ⟨wo, rfl⟩ : ∃ x, x = wr := ⟨_, rfl⟩
      have R0 : RS wo.heap.size (w1.alloc (.cells #[.slice (some ⟨wo.heap.size, 0, none⟩) n n, .int .i64 0] 55)) w1.heap.size n (stA (newA n zs 0)) 0 := by
        rw [stA_new]
        exact ⟨by omega, h2, _, heap_alloc_new w1 _, ownsRow_below ow (below_new w1 _)⟩
      have B0 : Below wo.heap.size wo (w1.alloc (.cells #[.slice (some ⟨wo.heap.size, 0, none⟩) n n, .int .i64 0] 55)) := bw.trans ((below_new w1 _).mono (by omega))
      have C0 : cnt (memK zs 0) 4096 = 0 := cnt_void 4096
      clear ow bw
      go_wp2
      go_loopw [8] (fun iv w3 => ∃ i : Nat, i ≤ k ∧ iv = .int .i64 i ∧ RS wo.heap.size w3 w1.heap.size n (stA (newA n zs i)) 0 ∧ Hid (cnt (memK zs i) 4096 = i) ∧ Below wo.heap.size wo w3) (fun iv _ => k - (intOf iv).toNat)
      case atStart => exact ⟨0, Nat.zero_le _, rfl, R0, Lib.hid C0, B0⟩
      case round =>
        clear R0 B0 C0 hmk
        obtain ⟨i, hi, rfl, hr, hcn, hb⟩ := hrel
        obtain ⟨ao2, cap2, he2, -, hc2⟩ := hh.out
        have HALLi := HALL.out
        by_cases hlt2 : i < k
        · obtain ⟨b, off, eb, hbl, hcl⟩ := hc2 i (by rw [HM.out]; exact hlt2)
          injection he2 with e1 e2 e3
          rw [← e1] at eb
          subst eb
          have hcl := (hb.cell (p := ⟨b, off + i, none⟩) hbl).trans hcl
          have hin := HALLi i (by rw [HM.out]; exact hlt2)
          obtain ⟨j, hj, hjn⟩ : ∃ j : Nat, zs.getD i 0 = j ∧ j < n := by
            unfold inR at hin
            simp only [decide_eq_true_eq] at hin
            exact ⟨(zs.getD i 0).toNat, by omega, by omega⟩
          have hsv := stA_new_val n zs i j
          rw [hj] at hcl
          obtain ⟨g, cap3, d0, d1, fz, r1, r2⟩ := hr.turn (Below.refl _ _) hjn 1
          cases hmm : memK zs i j
          · have hx : stA (newA n zs i) j = 0 := by rw [hsv, hmm]; rfl
            rw [hx] at d1
            have hcn2 : Hid (cnt (memK zs (i + 1)) 4096 = i + 1) := Lib.hid (cnt_fresh h2 hin hcn.out (by rw [hj, Int.toNat_natCast]; exact hmm))
            have hb2 : Below wo.heap.size wo (wr.setCell ⟨g, j, none⟩ (.int .i64 1)).drew.drew := (hb.trans ((r2.below (by have := hb.size; omega)))).drew.drew
            have hr2 : RS wo.heap.size (wr.setCell ⟨g, j, none⟩ (.int .i64 1)).drew.drew w1.heap.size n (stA (newA n zs (i + 1))) 0 := by
              rw [stA_new_succ, hj, Int.toNat_natCast]; exact r1.drew.drew
            have FIN := Lib.hid (And.intro hr2 (And.intro hcn2 hb2))
            clear hr hcn hb hc2 e1 e2 e3 hin hj hsv hmm hx r1 r2 hcn2 hb2 hr2 HALLi
            go_wp2
            go_region
            go_wp2
            go_region
            all_goals
              go_wp2
              go_roundw
              case rel => exact ⟨i + 1, by omega, by go_num, FIN.out⟩
              case measure => simp [intOf]; omega
          · have hx : stA (newA n zs i) j = 1 := by rw [hsv, hmm]; rfl
            rw [hx] at d1
            have htw := cnt_twice h2 HALLi hcn.out (by rw [HM.out]; exact hlt2) (by rw [hj, Int.toNat_natCast]; exact hmm)
            have FIN : Hid (DNewPost wo n zs (.returned (.tuple #[.pointer none, .int .i64 8])) wr.drew) := Lib.hid (.inr ⟨HALLi, hb.drew, .inl ⟨rfl, htw⟩⟩)
            clear hr hcn hb hc2 e1 e2 e3 hin hj hsv hmm hx r1 r2 htw HALLi
            go_wp2
            go_region
            go_wp2
            go_returns
            exact FIN.out
        · obtain rfl : i = k := by omega
          have FIN : Hid (DNewPost wo n zs (.returned (.tuple #[.pointer (some ⟨w1.heap.size, 0, none⟩), .int .i64 0])) wr) := Lib.hid (.inr ⟨HALLi, hb, .inr ⟨_, rfl, by rw [HM.out]; exact hr, by rw [HM.out]; exact hcn.out⟩⟩)
          clear hr hcn hb he2 hc2 HALLi
          go_wp2
          go_returns
          exact FIN.out
end Go.Proofs.YtkmaikmbjebjeaaDoor
