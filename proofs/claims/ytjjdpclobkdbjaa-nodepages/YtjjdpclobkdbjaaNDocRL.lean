/- The node that the document's Decode builds, while it is built; operations that it takes. No statement of the seat is proved here. -/
import Derived.Test.YtjjdpclobkdbjaaNDocRM
import Derived.Test.YtjjdpclobkdbjaaNRdL
namespace Go.Proofs.Ytjjdpclobkdbjaa
set_option maxRecDepth 20000
open Go.RowKit

abbrev zrO : Obj := rbO false (.slice none 0 0) (.slice none 0 0) (.slice none 0 0)
/-- The result's block is w's next one, the node's the one behind it. -/
structure DI (w : World) (lf : Bool) (pv kv iv : Value) (wr : World) : Prop where
  fr : Below w.heap.size w wr
  zr : wr.heap[w.heap.size]? = some zrO
  nd : wr.heap[w.heap.size + 1]? = some (rbO lf pv kv iv)
section
variable {w wr w' : World} {lf : Bool} {pv kv iv : Value}
theorem DI.sz (h : DI w lf pv kv iv wr) : w.heap.size + 2 ≤ wr.heap.size := (Array.getElem?_eq_some_iff.1 h.nd).1
theorem DI.below (h : DI w lf pv kv iv wr) (b : Below (w.heap.size + 2) wr w') : DI w lf pv kv iv w' :=
  ⟨h.fr.trans (b.mono (by omega)), (b.block _ (by omega)).trans h.zr, (b.block _ (by omega)).trans h.nd⟩
theorem DI.drew (h : DI w lf pv kv iv wr) : DI w lf pv kv iv wr.drew := ⟨h.fr.drew, h.zr, h.nd⟩
theorem DI.cs (h : DI w lf pv kv iv wr) : NdCells wr (w.heap.size + 1) lf pv kv iv := NdCells.of h.nd
theorem DI.free (h : DI w lf pv kv iv wr) (j : Nat) : wr.frozen? ⟨w.heap.size + 1, j, none⟩ = false := free_row h.nd j
theorem DI.put (h : DI w lf pv kv iv wr) {pv' kv' iv' : Value} (i : Nat) (v : Value) (he : (#[Value.bool lf, pv, kv, iv]).setIfInBounds i v = #[Value.bool lf, pv', kv', iv']) : DI w lf pv' kv' iv' (wr.setCell ⟨w.heap.size + 1, i, none⟩ v) := by
  have hk : ∀ k, k ≠ w.heap.size + 1 → (wr.setCell ⟨w.heap.size + 1, i, none⟩ v).heap[k]? = wr.heap[k]? := fun k hk => Below.heap_setCell _ _ _ _ hk
  have hs : (wr.setCell ⟨w.heap.size + 1, i, none⟩ v).heap.size = wr.heap.size := by simp [World.setCell]
  refine ⟨⟨h.fr.os, h.fr.tape, h.fr.output, by rw [hs]; exact h.fr.size, fun k hk' => (hk k (by omega)).trans (h.fr.block k hk')⟩, (hk _ (by omega)).trans h.zr, ?_⟩
  have := heap_setCell_same wr (w.heap.size + 1) i _ _ v h.nd
  rw [he] at this
  exact this
theorem DI.put1 (h : DI w lf pv kv iv wr) (v : Value) : DI w lf v kv iv (wr.setCell ⟨w.heap.size + 1, 1, none⟩ v) := h.put 1 v rfl
theorem DI.put2 (h : DI w lf pv kv iv wr) (v : Value) : DI w lf pv v iv (wr.setCell ⟨w.heap.size + 1, 2, none⟩ v) := h.put 2 v rfl
theorem DI.put3 (h : DI w lf pv kv iv wr) (v : Value) : DI w lf pv kv v (wr.setCell ⟨w.heap.size + 1, 3, none⟩ v) := h.put 3 v rfl
theorem DI.app {α : Type} {E : El α} (hE : ElOk E) {v : Value} {l : List α} (h : DI w lf pv kv iv wr) (o : OwnR E (w.heap.size + 2) wr v l) {ob : Obj} {x : α} (hx : SlAt E (wr.alloc ob).heap.size (wr.alloc ob) (.slice (some ⟨wr.heap.size, 0, none⟩) 1 1) [x]) (hl : (l.length + 1) * E.bytes ≤ 140737488355328) (ty : TypeId) :
    ∃ v' w', (Builtin.append_ #[E.st, E.st] ty #[v, .slice (some ⟨wr.heap.size, 0, none⟩) 1 1]).run Try.prog (wr.alloc ob) = .ok v' w' ∧ OwnR E (w.heap.size + 2) w' v' (l ++ [x]) ∧ DI w lf pv kv iv w' := by
  have hs : w.heap.size + 2 ≤ (wr.alloc ob).heap.size := by have := h.sz; simp; omega
  obtain ⟨v', w', hr, ho, hb, -, -⟩ := own_app hE (own_new o ob) hx hl hs ty
  exact ⟨v', w', hr, ho, h.below (((Below.refl _ _).alloc h.sz ob).trans hb)⟩
theorem DI.appP {v : Value} {l : List Pr} (h : DI w lf pv kv iv wr) (o : OwnR elP (w.heap.size + 2) wr v l) (x : Pr) (hl : l.length ≤ 1000) (ty : TypeId) :
    ∃ v' w', (Builtin.append_ #[22, 22] ty #[v, .slice (some ⟨wr.heap.size, 0, none⟩) 1 1]).run Try.prog (wr.alloc (prO x)) = .ok v' w' ∧ OwnR elP (w.heap.size + 2) w' v' (l ++ [x]) ∧ DI w lf pv kv iv w' :=
  h.app okP o (one_pr wr x) (by show (_ + 1) * 32 ≤ _; omega) ty
theorem DI.appI {v : Value} {l : List Int} (h : DI w lf pv kv iv wr) (o : OwnR elI (w.heap.size + 2) wr v l) (x : Int) (hl : l.length ≤ 1000) (ty : TypeId) :
    ∃ v' w', (Builtin.append_ #[24, 24] ty #[v, .slice (some ⟨wr.heap.size, 0, none⟩) 1 1]).run Try.prog (wr.alloc (boxI x)) = .ok v' w' ∧ OwnR elI (w.heap.size + 2) w' v' (l ++ [x]) ∧ DI w lf pv kv iv w' :=
  h.app okZ o (one_i wr x) (by show (_ + 1) * 8 ≤ _; omega) ty
theorem DI.appK {ws : World} {v : Value} {l : List ByteArray} (h : DI w lf pv kv iv wr) (kp : KP ws (w.heap.size + 1) (w.heap.size + 1) wr) (hn : w.heap.size + 2 ≤ ws.heap.size) (o : OwnR elS ws.heap.size wr v l) (x : ByteArray) (hl : l.length ≤ 1000) (ty : TypeId) :
    ∃ v' w', (Builtin.append_ #[23, 23] ty #[v, .slice (some ⟨wr.heap.size, 0, none⟩) 1 1]).run Try.prog (wr.alloc (boxS x)) = .ok v' w' ∧ OwnR elS ws.heap.size w' v' (l ++ [x]) ∧ DI w lf pv kv iv w' ∧ KP ws (w.heap.size + 1) (w.heap.size + 1) w' := by
  obtain ⟨v', w', hr, ho, hb, -, -⟩ := own_app okS (o.below (below_new wr (boxS x))) (one_s wr x) (by show (_ + 1) * 16 ≤ _; omega) (by have := kp.sz; simp; omega) ty
  have b := ((Below.refl _ _).alloc kp.sz (boxS x)).trans hb
  exact ⟨v', w', hr, ho, h.below (b.mono hn), kp.below b⟩
end
theorem ex_sidx {w : World} {ρ : Operand → Value} {o : Oper} {x y : Operand} {s : ByteArray} {i : Nat} {u : UInt8} (ho : o.op = .index 9 x y) (hx : ρ x = .string s) (hy : ρ y = .int .i64 (i : Nat)) (h : (bts s)[i]? = some u) : (execOp ρ o).run Try.prog w = .ok (.value (.int .u8 (u.toNat : Nat))) w := by
  obtain ⟨hlt, hu⟩ := List.getElem?_eq_some_iff.1 h
  have hl : i < s.size := by rw [← bts_size]; exact hlt
  have e : s[i]'hl = u := by rw [← hu]; cases s; rfl
  unfold execOp
  simp [ho, hx, hy, go_sem, hl, e]
theorem run_c53 {z c : Int} (h : IntKind.i64.wrap z = c) (w : World) : (convert 5 3 (.int .u8 z)).run Try.prog w = .ok (.int .i64 c) w := by
  subst h; kernel_rfl
theorem run_mul {a b c : Int} (h : IntKind.i64.wrap (a * b) = c) (w : World) : (binOp .mul 3 (.int .i64 a) (.int .i64 b)).run Try.prog w = .ok (.int .i64 c) w := by
  subst h; kernel_rfl
theorem run_rest2 {s : ByteArray} (h : 2 ≤ s.size) (w : World) : (Instr.sliceAt 9 (.string s) (some (.int .i64 2)) none none).run Try.prog w = .ok (.string (s.extract 2 s.size)) w := by
  simp [Instr.sliceAt, go_sem, run_underlying Try.underlying9]
  intro h'; omega
theorem rest2 {s : ByteArray} {x y : UInt8} {l : List UInt8} (h : bts s = x :: y :: l) : bts (s.extract 2 s.size) = l := by
  have hz := bts_size s
  rw [h] at hz
  have d : s.data.toList = x :: y :: l := h
  rw [Lib.extract_eq, d, ← hz]
  simp [bts]
theorem build_rlf (b : Bool) (w : World) : (Instr.build 26 #[(0, .bool b)]).run Try.prog w = .ok (.agg #[.bool b, .slice none 0 0, .slice none 0 0, .slice none 0 0]) w := run_build w 26 _ _ (by kernel_rfl)
theorem build_rzz (w : World) : (Instr.build 26 #[]).run Try.prog w = .ok (.agg #[.bool false, .slice none 0 0, .slice none 0 0, .slice none 0 0]) w := run_build w 26 _ _ (by kernel_rfl)
end Go.Proofs.Ytjjdpclobkdbjaa
