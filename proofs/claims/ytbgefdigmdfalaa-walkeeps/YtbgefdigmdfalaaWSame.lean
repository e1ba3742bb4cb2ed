/- The contract of the document's SameAll, at lists that are the same. No statement of the seat is proved here. -/
import Derived.Test.YtbgefdigmdfalaaWLst
import Derived.Laws.StructEq
namespace Go.Proofs.Ytbgefdigmdfalaa
set_option maxRecDepth 20000
open Go.RowKit

theorem eq_im (p : Int) (s : ByteArray) (w : World) : (Op.equalIn 10000 50 (.agg #[.int .i64 p, .string s]) (.agg #[.int .i64 p, .string s])).run Try.prog w = .ok true w := by
  have u3 := Try.underlying3
  have u9 := Try.underlying9
  have hS : Try.prog.underlying 50 = some (.struct (Try.prog.fieldsOf 50)) := by kernel_rfl
  rw [show (10000 : Nat) = 9999 + 1 from rfl, run_equalIn_agg w 9999 50 _ _ hS (by kernel_rfl)]
  simp only [Program.fieldsOf, Try.underlying50]
  go_simp
theorem neq_im (p : Int) (s : ByteArray) (w : World) : (binOp .neq 50 (.agg #[.int .i64 p, .string s]) (.agg #[.int .i64 p, .string s])).run Try.prog w = .ok (.bool false) w := by
  have := eq_im p s w
  simp only [binOp]
  simp [Op.equal, Op.maxDepth, this]
def LstsAt (w : World) (v : Value) (L : List (List Im)) : Prop :=
  ∃ ao cap, v = .slice ao L.length cap ∧ L.length ≤ 9223372036854775807 ∧ ∀ i, i < L.length → ∃ b off u, ao = some ⟨b, off, none⟩ ∧ w.cell? ⟨b, off + i, none⟩ = some u ∧ ImgsAt w.heap.size w u (lstAt L i)
theorem OutT.lsts {base : Nat} {w : World} {v : Value} {L : List (List Im)} (h : OutT base w v L) : LstsAt w v L := by
  have hh := h
  obtain ⟨vs, ⟨ao, cap, rfl, h2, h3, h4⟩, hl, _⟩ := hh
  refine ⟨ao, cap, by rw [hl], by unfold maxLen at h3; omega, fun i hi => ?_⟩
  obtain ⟨b, off, u, e, hb, hc, hr⟩ := h.get hi
  exact ⟨b, off, u, e, hc, hr.at⟩
theorem LstsAt.drewN {w : World} {v : Value} {L : List (List Im)} (h : LstsAt w v L) (n : Nat) : LstsAt (w.drewN n) v L := by
  obtain ⟨ao, cap, hv, h1, h2⟩ := h
  refine ⟨ao, cap, hv, h1, fun i hi => ?_⟩
  obtain ⟨b, off, u, e, hc, hr⟩ := h2 i hi
  exact ⟨b, off, u, e, hc, hr⟩
set_option maxRecDepth 20000 in
set_option maxHeartbeats 3200000 in
theorem sameAll_any {w : World} {v u : Value} {L : List (List Im)} (h : LstsAt w v L) (g : LstsAt w u L) : Calls Try.prog 13 #[v, u] w fun e w' => e = .returned (.bool true) ∧ Below w.heap.size w w' := by
  obtain ⟨ao, cap, rfl, hl, h4⟩ := h
  obtain ⟨bo, bap, rfl, -, g4⟩ := g
  obtain ⟨m, hm⟩ : ∃ m, L.length = m := ⟨_, rfl⟩
  have HM := Lib.hid hm
  have H4 := Lib.hid h4
  have G4 := Lib.hid g4
  rw [hm] at hl ⊢
  clear hm h4 g4
  go_enter Try.func13, Try.ntmps13
  go_wp2
  go_loopw [5] (fun iv wr => ∃ k : Nat, k ≤ m ∧ iv = .int .i64 k ∧ Hid (∃ q, wr = w.drewN q)) (fun iv _ => m - (intOf iv).toNat)
  case atStart => exact ⟨0, Nat.zero_le _, rfl, Lib.hid ⟨0, rfl⟩⟩
  case round =>
    obtain ⟨k, hk, rfl, hwr⟩ := hrel
    obtain ⟨q, hwr'⟩ := hwr.out
    subst hwr'
    clear hwr
    by_cases hlt : k < m
    · obtain ⟨b, off, x, rfl, hx, ix⟩ := H4.out k (by rw [HM.out]; exact hlt)
      obtain ⟨c, off2, y, rfl, hy, iy⟩ := G4.out k (by rw [HM.out]; exact hlt)
      obtain ⟨xo, xc, hxv, -, hxl, -, x4⟩ := ix
      obtain ⟨yo, yc, hyv, -, -, -, y4⟩ := iy
      subst hxv; subst hyv
      obtain ⟨n, hn⟩ : ∃ n, (lstAt L k).length = n := ⟨_, rfl⟩
      have HN := Lib.hid hn
      rw [hn] at hx hy hxl
      have X4 := Lib.hid x4
      have Y4 := Lib.hid y4
      clear hn x4 y4
      go_wp2_with fail
      go_quiet (fail)
      go_wp2
      go_loopw [6] (fun jv wr => ∃ j : Nat, j ≤ n ∧ jv = .int .i64 j ∧ Hid (∃ q, wr = w.drewN q)) (fun jv _ => n - (intOf jv).toNat)
      case atStart => exact ⟨0, Nat.zero_le _, rfl, Lib.hid ⟨q + nq, by simp⟩⟩
      case round =>
        obtain ⟨j, hj, rfl, hwr⟩ := hrel
        obtain ⟨q2, hwr'⟩ := hwr.out
        subst hwr'
        clear hwr
        have hx' : (w.drewN q2).cell? ⟨b, off + k, none⟩ = some (.slice xo n xc) := hx
        have hy' : (w.drewN q2).cell? ⟨c, off2 + k, none⟩ = some (.slice yo n yc) := hy
        by_cases hjn : j < n
        · obtain ⟨xb, xoff, rfl, -, xcell⟩ := X4.out (by rw [HN.out]; omega)
          obtain ⟨yb, yoff, rfl, -, ycell⟩ := Y4.out (by rw [HN.out]; omega)
          obtain ⟨c1, c2⟩ := xcell j (by rw [HN.out]; exact hjn)
          obtain ⟨c3, c4⟩ := ycell j (by rw [HN.out]; exact hjn)
          generalize (imAt (lstAt L k) j).p = p at c1 c3
          generalize (imAt (lstAt L k) j).d = s at c2 c4
          have hn := neq_im p s
          clear xcell ycell
          go_wp2_with fail
          go_quiet (fail)
          go_wp2
          go_roundw
          case rel => exact ⟨j + 1, by omega, by go_num, Lib.hid ⟨_, rfl⟩⟩
          case measure => simp [intOf]; omega
        · go_wp2
          go_roundw
          case rel => exact ⟨k + 1, by omega, by go_num, Lib.hid ⟨_, rfl⟩⟩
          case measure => simp [intOf]; omega
    · go_wp2
      go_ret
      exact ⟨rfl, below_drewN _ w _⟩
end Go.Proofs.Ytbgefdigmdfalaa
