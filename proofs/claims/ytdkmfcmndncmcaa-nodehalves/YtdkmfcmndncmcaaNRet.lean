/- A node as a result; the contract of inForm. No statement of the seat is proved here. -/
import Derived.Test.YtdkmfcmndncmcaaNListS
import Derived.Test.YtdkmfcmndncmcaaNListI
import Derived.Deep.WholeRow
namespace Go.Proofs.Ytdkmfcmndncmcaa
set_option maxRecDepth 20000
open Go.RowKit

abbrev zNd : Value := .agg #[.bool false, .slice none 0 0, .slice none 0 0, .slice none 0 0]
abbrev zNdO : Obj := .cells #[.bool false, .slice none 0 0, .slice none 0 0, .slice none 0 0] 32
structure NdCells (w : World) (g : Nat) (lf : Bool) (pv kv iv : Value) : Prop where
  c0 : w.cell? ⟨g, 0, none⟩ = some (.bool lf)
  c1 : w.cell? ⟨g, 1, none⟩ = some pv
  c2 : w.cell? ⟨g, 2, none⟩ = some kv
  c3 : w.cell? ⟨g, 3, none⟩ = some iv
theorem NdCells.of {w : World} {g : Nat} {lf : Bool} {pv kv iv : Value} {t : TypeId} {fz : Nat × Nat} (h : w.heap[g]? = some (.cells #[.bool lf, pv, kv, iv] t fz)) : NdCells w g lf pv kv iv :=
  ⟨by rw [cell_of_row _ _ _ _ _ _ h]; rfl, by rw [cell_of_row _ _ _ _ _ _ h]; rfl, by rw [cell_of_row _ _ _ _ _ _ h]; rfl, by rw [cell_of_row _ _ _ _ _ _ h]; rfl⟩
def SlV (v : Value) : Prop := ∃ ao n c, v = .slice ao n c
theorem SlV.mk (ao : Option Addr) (n c : Nat) : SlV (.slice ao n c) := ⟨_, _, _, rfl⟩
theorem wpList_store_nd {ops : Array Oper} {rest : List Oper} {o : Oper} {a : Act} {w a0 : World} {B : Nat} {Q : Exit → Act → World → Prop} (hgd : o.guard = none) (x y : Operand) (ho : o.op = .store 32 x y)
    (g : Nat) (lf : Bool) (pv kv iv : Value) (hx : a.eval x = .pointer (some ⟨g, 0, none⟩)) (hy : a.eval y = .agg #[.bool lf, pv, kv, iv]) (old : Array Value) (hg : w.heap[g]? = some (.cells old 32 (0, 0))) (hold : old.size = 4) (h1 : SlV pv) (h2 : SlV kv) (h3 : SlV iv) (hb : Below B a0 w) (hB : B ≤ g)
    (h : ∀ w1, NdCells w1 g lf pv kv iv → w1.heap[g]? = some (ndO lf pv kv iv) → Below B a0 w1 → (∀ k, k ≠ g → w1.heap[k]? = w.heap[k]?) → wpList Try.prog ops Q rest (a.put o.dst undef) w1) : wpList Try.prog ops Q (o :: rest) a w := by
  have hn := setRow_heap w g old #[.bool lf, pv, kv, iv] _ _ hg
  obtain ⟨_, _, _, rfl⟩ := h1
  obtain ⟨_, _, _, rfl⟩ := h2
  obtain ⟨_, _, _, rfl⟩ := h3
  refine Go.wpList_store_row hgd 32 x y ho g _ hx hy 32 old hg (by kernel_rfl) (by rw [hold]; rfl) (by simp [Value.oneCell']) (h _ (NdCells.of hn) hn ?_ (fun k hk => setRow_other w g k _ hk))
  exact ⟨hb.os, hb.tape, hb.output, by have := hb.size; simpa using this, fun k hk => by rw [setRow_other w g k _ (by omega)]; exact hb.block k hk⟩
theorem OwnR.keepg {α : Type} {E : El α} {base g : Nat} {w w1 : World} {v : Value} {l : List α} (h : OwnR E base w v l) (hg : g < base) (hk : ∀ k, k ≠ g → w1.heap[k]? = w.heap[k]?) : OwnR E base w1 v l :=
  ownsRow_keep h fun k hk' => hk k (by have := (World.ownsRow.lt h k hk').1; omega)
theorem OwnR.slv {α : Type} {E : El α} {base : Nat} {w : World} {v : Value} {l : List α} (h : OwnR E base w v l) : SlV v := by
  obtain ⟨_, _, rfl, _⟩ := h.form
  exact .mk _ _ _
theorem build_nd (w : World) : (Instr.build 32 #[]).run Try.prog w = .ok zNd w := run_build w 32 _ _ (by kernel_rfl)
set_option maxHeartbeats 1600000 in
theorem inForm_any {w : World} {v : Value} {n : Nd} (h : NdAt w.heap.size w v n) : Calls Try.prog 48 #[v] w fun e w' => e = .returned (.tuple #[if okN n then v else zNd, .int .i64 (if okN n then 0 else 2)]) ∧ Below w.heap.size w w' := by
  have fc := fun o o' => formed_in h ((below_new w o).trans ((below_new (w.alloc o) o').mono (by simp)))
  obtain ⟨pv, kv, iv, rfl, h1, h2, h3⟩ := h
  obtain ⟨pa, pm, pc, rfl, hpm⟩ := h1.form
  obtain ⟨ka, km, kc, rfl, hkm⟩ := h2.form
  obtain ⟨ia, im, ic, rfl, him⟩ := h3.form
  clear h1 h2 h3 hpm hkm him
  generalize n.leaf = lf at *
  have hbn : Below w.heap.size w ((w.alloc (ndO lf (.slice pa pm pc) (.slice ka km kc) (.slice ia im ic))).alloc zNdO) := (below_new _ _).trans ((below_new _ _).mono (by simp))
  have hga : ((w.alloc (ndO lf (.slice pa pm pc) (.slice ka km kc) (.slice ia im ic))).alloc zNdO).heap[w.heap.size]? = some (ndO lf (.slice pa pm pc) (.slice ka km kc) (.slice ia im ic)) := by
    rw [Below.heap_alloc _ _ _ (by simp)]; exact heap_alloc_new _ _
  have hgz := heap_alloc_new (w.alloc (ndO lf (.slice pa pm pc) (.slice ka km kc) (.slice ia im ic))) zNdO
  have hz1 : (w.alloc (ndO lf (.slice pa pm pc) (.slice ka km kc) (.slice ia im ic))).heap.size = w.heap.size + 1 := by simp
  have hz2 : ((w.alloc (ndO lf (.slice pa pm pc) (.slice ka km kc) (.slice ia im ic))).alloc zNdO).heap.size = w.heap.size + 2 := by simp
  rw [hz1] at hgz
  have HZ := Lib.hid hz2
  have GA := Lib.hid hga
  have GZ := Lib.hid hgz
  have BN := Lib.hid hbn
  have FC := Lib.hid fc
  have bz := build_nd
  clear hga hgz hbn hz2 fc hz1
  cases hk : okN n
  · have fc := FC.out (ndO lf (.slice pa pm pc) (.slice ka km kc) (.slice ia im ic)) zNdO
    rw [hk] at fc
    clear hk FC
    go_enter Try.func48, Try.ntmps48
    go_wp2_with fail
    refine Calls.mono fc ?_
    rintro e w1 ⟨rfl, b1⟩
    have hb2 := Below.then BN.out b1 (Nat.le_refl _)
    have hg1 := (b1.block (w.heap.size + 1) (by rw [HZ.out]; omega)).trans GZ.out
    have bz1 := bz w1
    clear fc b1 bz
    go_wp2_with (with_reducible refine wpList_store_nd rfl (.tmp 2) (.tmp 7) rfl (w.heap.size + 1) false (.slice none 0 0) (.slice none 0 0) (.slice none 0 0) rfl rfl #[.bool false, .slice none 0 0, .slice none 0 0, .slice none 0 0] hg1 rfl (.mk _ _ _) (.mk _ _ _) (.mk _ _ _) hb2 (Nat.le_succ _) ?_)
    rintro w2 ⟨s0, s1, s2, s3⟩ - B2 -
    go_wp2
    exact bodyPost_ret (v := .tuple #[zNd, .int .i64 2]) (by simp [results, Try.results48, go_sem, s0, s1, s2, s3]) rfl ⟨rfl, B2⟩
  · have fc := FC.out (ndO lf (.slice pa pm pc) (.slice ka km kc) (.slice ia im ic)) zNdO
    rw [hk] at fc
    clear hk FC
    go_enter Try.func48, Try.ntmps48
    go_wp2_with fail
    refine Calls.mono fc ?_
    rintro e w1 ⟨rfl, b1⟩
    have hb2 := Below.then BN.out b1 (Nat.le_refl _)
    have hg1 := (b1.block (w.heap.size + 1) (by rw [HZ.out]; omega)).trans GZ.out
    have hg0 := (b1.block w.heap.size (by rw [HZ.out]; omega)).trans GA.out
    obtain ⟨q0, q1, q2, q3⟩ := NdCells.of hg0
    clear fc b1 bz
    go_wp2_with (with_reducible refine wpList_store_nd rfl (.tmp 2) (.tmp 8) rfl (w.heap.size + 1) lf (.slice pa pm pc) (.slice ka km kc) (.slice ia im ic) rfl rfl #[.bool false, .slice none 0 0, .slice none 0 0, .slice none 0 0] hg1 rfl (.mk _ _ _) (.mk _ _ _) (.mk _ _ _) hb2 (Nat.le_succ _) ?_)
    rintro w2 ⟨s0, s1, s2, s3⟩ - B2 -
    go_wp2
    exact bodyPost_ret (v := .tuple #[.agg #[.bool lf, .slice pa pm pc, .slice ka km kc, .slice ia im ic], .int .i64 0]) (by simp [results, Try.results48, go_sem, s0, s1, s2, s3]) rfl ⟨rfl, B2⟩
end Go.Proofs.Ytdkmfcmndncmcaa
