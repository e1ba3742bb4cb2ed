/- The contract of the law's back. No statement of the seat is proved here. -/
import Derived.Test.YtdkmfcmndncmcaaNSame
namespace Go.Proofs.Ytdkmfcmndncmcaa
set_option maxRecDepth 20000
open Go.RowKit

theorem wpList_store_rn {ops : Array Oper} {rest : List Oper} {o : Oper} {a : Act} {w a0 : World} {B : Nat} {Q : Exit → Act → World → Prop} (hgd : o.guard = none) (x y : Operand) (ho : o.op = .store 26 x y)
    (g : Nat) (lf : Bool) (pv kv iv : Value) (hx : a.eval x = .pointer (some ⟨g, 0, none⟩)) (hy : a.eval y = .agg #[.bool lf, pv, kv, iv]) (old : Array Value) (hg : w.heap[g]? = some (.cells old 26 (0, 0))) (hold : old.size = 4) (h1 : SlV pv) (h2 : SlV kv) (h3 : SlV iv) (hb : Below B a0 w) (hB : B ≤ g)
    (h : ∀ w1, NdCells w1 g lf pv kv iv → w1.heap[g]? = some (rbO lf pv kv iv) → Below B a0 w1 → (∀ k, k ≠ g → w1.heap[k]? = w.heap[k]?) → wpList Try.prog ops Q rest (a.put o.dst undef) w1) : wpList Try.prog ops Q (o :: rest) a w := by
  have hn := setRow_heap w g old #[.bool lf, pv, kv, iv] _ _ hg
  obtain ⟨_, _, _, rfl⟩ := h1
  obtain ⟨_, _, _, rfl⟩ := h2
  obtain ⟨_, _, _, rfl⟩ := h3
  refine Go.wpList_store_row hgd 26 x y ho g _ hx hy 26 old hg (by kernel_rfl) (by rw [hold]; rfl) (by simp [Value.oneCell']) (h _ (NdCells.of hn) hn ?_ (fun k hk => setRow_other w g k _ hk))
  exact ⟨hb.os, hb.tape, hb.output, by have := hb.size; simpa using this, fun k hk => by rw [setRow_other w g k _ (by omega)]; exact hb.block k hk⟩
theorem build_rn (lf : Bool) (pv kv iv : Value) (h1 : SlV pv) (h2 : SlV kv) (h3 : SlV iv) (w : World) : (Instr.build 26 #[(0, .bool lf), (1, pv), (2, kv), (3, iv)]).run Try.prog w = .ok (.agg #[.bool lf, pv, kv, iv]) w := by
  obtain ⟨_, _, _, rfl⟩ := h1
  obtain ⟨_, _, _, rfl⟩ := h2
  obtain ⟨_, _, _, rfl⟩ := h3
  exact run_build w 26 _ _ (by kernel_rfl)
set_option maxHeartbeats 1600000 in
theorem back_any {w : World} {lf : Bool} {pv kv iv : Value} (h1 : SlV pv) (h2 : SlV kv) (h3 : SlV iv) : Calls Try.prog 23 #[.agg #[.bool lf, pv, kv, iv]] w fun e w' => e = .returned (.agg #[.bool lf, pv, kv, iv]) ∧ Below w.heap.size w w' := by
  obtain ⟨pa, pm, pc, rfl⟩ := h1
  obtain ⟨ka, km, kc, rfl⟩ := h2
  obtain ⟨ia, im, ic, rfl⟩ := h3
  have hg : ((w.alloc (ndO lf (.slice pa pm pc) (.slice ka km kc) (.slice ia im ic))).alloc (rbO false (.slice none 0 0) (.slice none 0 0) (.slice none 0 0))).heap[w.heap.size + 1]? = some (rbO false (.slice none 0 0) (.slice none 0 0) (.slice none 0 0)) := by
    have := heap_alloc_new (w.alloc (ndO lf (.slice pa pm pc) (.slice ka km kc) (.slice ia im ic))) (rbO false (.slice none 0 0) (.slice none 0 0) (.slice none 0 0))
    rwa [show (w.alloc (ndO lf (.slice pa pm pc) (.slice ka km kc) (.slice ia im ic))).heap.size = w.heap.size + 1 by simp] at this
  have hb : Below w.heap.size w ((w.alloc (ndO lf (.slice pa pm pc) (.slice ka km kc) (.slice ia im ic))).alloc (rbO false (.slice none 0 0) (.slice none 0 0) (.slice none 0 0))) := (below_new _ _).trans ((below_new _ _).mono (by simp))
  have hbu := build_rn lf (.slice pa pm pc) (.slice ka km kc) (.slice ia im ic) (.mk _ _ _) (.mk _ _ _) (.mk _ _ _) ((w.alloc (ndO lf (.slice pa pm pc) (.slice ka km kc) (.slice ia im ic))).alloc (rbO false (.slice none 0 0) (.slice none 0 0) (.slice none 0 0)))
  go_enter Try.func23, Try.ntmps23
  go_wp2_with (with_reducible refine wpList_store_rn rfl (.tmp 2) (.tmp 11) rfl (w.heap.size + 1) lf (.slice pa pm pc) (.slice ka km kc) (.slice ia im ic) rfl rfl #[.bool false, .slice none 0 0, .slice none 0 0, .slice none 0 0] hg rfl (.mk _ _ _) (.mk _ _ _) (.mk _ _ _) hb (Nat.le_succ _) ?_)
  rintro w2 ⟨s0, s1, s2, s3⟩ - B2 -
  go_wp2
  exact bodyPost_ret (v := .agg #[.bool lf, .slice pa pm pc, .slice ka km kc, .slice ia im ic]) (by simp [results, Try.results23, go_sem, s0, s1, s2, s3]) rfl ⟨rfl, B2⟩
end Go.Proofs.Ytdkmfcmndncmcaa
