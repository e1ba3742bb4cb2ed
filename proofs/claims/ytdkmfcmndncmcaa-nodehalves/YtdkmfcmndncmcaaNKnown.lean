/- The contract of the law's own known; what a law has of its node. No statement of the seat is proved here. -/
import Derived.Test.YtdkmfcmndncmcaaNOf
import Derived.Test.YtdkmfcmndncmcaaNArgs
namespace Go.Proofs.Ytdkmfcmndncmcaa
set_option maxRecDepth 20000
open Go.RowKit

def kPr : Pr := ⟨⟨#[97]⟩, ⟨#[49]⟩⟩
def kNd : Nd := ⟨true, [kPr], [], []⟩
theorem kEncE : encE kNd = 0 := by kernel_rfl
theorem kEncS : encS kNd = ⟨#[1, 1, 1, 97, 1, 49]⟩ := by kernel_rfl
theorem build_pr (a b : ByteArray) (w : World) : (Instr.build 50 #[(0, .string a), (1, .string b)]).run Try.prog w = .ok (.agg #[.string a, .string b]) w := run_build w 50 _ _ (by kernel_rfl)
theorem build_prs (x : Pr) (w : World) : (Instr.buildSlice 22 1 #[(0, .agg #[.string x.k, .string x.v])]).run Try.prog w = .ok (.slice (some ⟨w.heap.size, 0, none⟩) 1 1) (w.alloc (prO x)) := by
  obtain ⟨i, hi, hi0, hi1, hi2⟩ := okP.info
  exact run_buildSlice_one w 22 50 i _ [.string x.k, .string x.v] Try.underlying22 hi hi0 hi1 (by simp) (by simp)
theorem one_pr (w : World) (x : Pr) : SlAt elP (w.alloc (prO x)).heap.size (w.alloc (prO x)) (.slice (some ⟨w.heap.size, 0, none⟩) 1 1) [x] := by
  refine ⟨_, 1, rfl, Nat.le_refl _, by show 1 * 32 ≤ _; omega, fun _ => ⟨w.heap.size, 0, rfl, by simp, fun j u hj => ?_⟩⟩
  rw [Nat.zero_add]
  match j, hj with
  | 0, hj => simp [cells] at hj; subst hj; exact cell_new w _ _ 0 _ rfl
  | 1, hj => simp [cells] at hj; subst hj; exact cell_new w _ _ 1 _ rfl
theorem build_leaf (v : Value) (hv : SlV v) (w : World) : (Instr.build 32 #[(0, .bool true), (1, v)]).run Try.prog w = .ok (.agg #[.bool true, v, .slice none 0 0, .slice none 0 0]) w := by
  obtain ⟨_, _, _, rfl⟩ := hv
  exact run_build w 32 _ _ (by kernel_rfl)
theorem nknown_any (w : World) : Calls Try.prog 12 #[] w fun e w' => e = .returned (.bool true) ∧ Below w.heap.size w w' := by
  have h1 := build_pr ⟨#[97]⟩ ⟨#[49]⟩ w
  have h2 : (Instr.buildSlice 22 1 #[(0, .agg #[.string ⟨#[97]⟩, .string ⟨#[49]⟩])]).run Try.prog w = .ok (.slice (some ⟨w.heap.size, 0, none⟩) 1 1) (w.alloc (prO kPr)) := build_prs kPr w
  have h3 := build_leaf (.slice (some ⟨w.heap.size, 0, none⟩) 1 1) (.mk _ _ _) (w.alloc (prO kPr))
  have hb := below_new w (prO kPr)
  have he := encode_any (n := kNd) ⟨_, _, _, rfl, one_pr w kPr, SlAt.nil _ _ _, SlAt.nil _ _ _⟩
  rw [kEncE, kEncS] at he
  go_enter Try.func12, Try.ntmps12
  go_wp2_with fail
  refine Calls.mono he ?_
  rintro e w2 ⟨rfl, b2⟩
  have hb2 := Below.then hb b2 (Nat.le_refl _)
  clear he hb b2 h1 h2 h3
  go_wp2
  go_ret
  exact ⟨rfl, hb2⟩
/-- the law's own node, as a call wants it -/
theorem NdFull.own {base : Nat} {w : World} {v : Value} {n : Nd} (h : NdFull base w v n) (hs : n.small) : NdOwn base w v n := by
  obtain ⟨pv, kv, iv, hv, h1, h2, h3⟩ := h
  obtain ⟨s1, s2, s3⟩ := hs
  exact ⟨pv, kv, iv, hv, h1.own okP (by unfold maxLen; omega), h2.own okS (by unfold maxLen; omega), h3.own okZ (by unfold maxLen; omega)⟩
theorem NdFull.at {base : Nat} {w : World} {v : Value} {n : Nd} (h : NdFull base w v n) (hs : n.small) : NdAt w.heap.size w v n := (h.own hs).at hs
theorem NdFull.below {base : Nat} {w w' : World} {v : Value} {n : Nd} (h : NdFull base w v n) (hb : Below w.heap.size w w') : NdFull base w' v n := by
  obtain ⟨pv, kv, iv, hv, h1, h2, h3⟩ := h
  exact ⟨pv, kv, iv, hv, h1.below hb, h2.below hb, h3.below hb⟩
abbrev rbO (lf : Bool) (pv kv iv : Value) : Obj := .cells #[.bool lf, pv, kv, iv] 26
/-- the law's own box of its argument -/
theorem rbox_facts {W : World} {lf : Bool} {pv kv iv : Value} {w1 : World} (b : Below (W.heap.size + 1) (W.alloc (rbO lf pv kv iv)) w1) : NdCells w1 W.heap.size lf pv kv iv ∧ Below W.heap.size W w1 ∧ W.heap.size + 1 ≤ w1.heap.size := by
  have hz : (W.alloc (rbO lf pv kv iv)).heap.size = W.heap.size + 1 := by simp
  exact ⟨NdCells.of ((b.block W.heap.size (Nat.lt_succ_self _)).trans (heap_alloc_new _ _)), (below_new _ _).trans (b.mono (Nat.le_succ _)), by have := b.size; omega⟩
theorem Below.thenB {B : Nat} {w w1 w2 : World} (h : Below B w w1) (k : Below w1.heap.size w1 w2) (hB : B ≤ w1.heap.size) : Below B w w2 := h.trans (k.mono hB)
theorem strOf_size (bs : List UInt8) : (strOf bs).size = bs.length := by unfold strOf ByteArray.size; simp
/-- of, for a law: in whatever world lies behind the argument's -/
theorem of_in {W w : World} {v : Value} {n : Nd} (h : NdAt W.heap.size W v n) (hb : Below W.heap.size W w) : Calls Try.prog 15 #[v] w fun e w' => ∃ v', e = .returned v' ∧ NdAt w'.heap.size w' v' n ∧ Below w.heap.size w w' :=
  (of_any ((h.below hb).more hb.size)).mono fun _ _ ⟨v', h1, h2, h3⟩ => ⟨v', h1, h2.at h.small, h3⟩
end Go.Proofs.Ytdkmfcmndncmcaa
