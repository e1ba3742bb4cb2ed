/- The node that a reader builds, while it is built. No statement of the seat is proved here. -/
import Derived.Test.YtdkmfcmndncmcaaNRdM
import Derived.Test.YtdkmfcmndncmcaaNKnown
namespace Go.Proofs.Ytdkmfcmndncmcaa
set_option maxRecDepth 20000
open Go.RowKit

section
variable {P : Program} {md : Region.Mode} {ops : Array Oper} {Q : Exit → Act → World → Prop} {S : World → Prop} {fuel : Nat} {L : Array Bool} {a : Act} {w : World}
theorem wpAnyH_load_call (j i : Nat) (dj di : Option Tmp) (f : FuncId) (args : Array Value) (vj : Value) {w2 : World} {oi oj : Oper} (hj : ops[j]? = some oj) (hi : ops[i]? = some oi) (hr : Region.ready md ops L = [j, i])
    (hwj : Region.wanted oj (yielded ops a.tmps) = true) (hwi : Region.wanted oi (yielded ops a.tmps) = true) (hdj : oj.dst = dj) (hdi : oi.dst = di) (hyi : (execOp a.eval oi).run P w = .ok (.enter f args) w) {R : Ending → World → Prop} (hc : Calls P f args w R)
    (hyj : (execOp a.eval oj).run P w = .ok (.value vj) w2) (hS2 : S w2)
    (h1 : ∀ e w1, R e w1 → ∃ v, e = .returned v ∧ S w1 ∧ wpAnyH P md ops Q S fuel (L.setIfInBounds i true) (a.put di v) w1) (h2 : wpAnyH P md ops Q S fuel (L.setIfInBounds j true) (a.put dj vj) w2) : wpAnyH P md ops Q S (fuel + 1) L a w := by
  subst hdi
  subst hdj
  refine wpAnyH_ready hr (by simp) (AllReadyH.cons hj (fun K hK => ?_) (AllReadyH.cons hi (fun K hK => ?_) AllReadyH.nil))
  · rw [if_pos hwj]
    unfold Oper.wp
    rw [hyj]; exact hK.out _ _ hS2 (fun _ => h2)
  · rw [if_pos hwi]
    unfold Oper.wp
    rw [hyi, Oper.upon_enter]
    refine hc.mono fun e w1 hR => ?_
    obtain ⟨v, rfl, hS, h3⟩ := h1 e w1 hR
    exact hK.out _ _ hS (fun _ => h3)
theorem wpAnyH_skip1 {w1 : World} (i : Nat) {o : Oper} (hi : ops[i]? = some o) (hr : Region.ready md ops L = [i]) (hw : Region.wanted o (yielded ops a.tmps) = true)
    (hy : (execOp a.eval o).run P w = .ok .skip w1) (hS : S w1) (h : wpAnyH P md ops Q S fuel (L.setIfInBounds i true) (a.put o.dst undef) w1) : wpAnyH P md ops Q S (fuel + 1) L a w := by
  refine wpAnyH_ready hr (by simp) (AllReadyH.cons hi (fun K hK => ?_) AllReadyH.nil)
  rw [if_pos hw]
  unfold Oper.wp
  rw [hy]; exact hK.out _ _ hS (fun _ => h)
end
theorem ex_b1 {P : Program} {w w1 : World} {ρ : Operand → Value} {o : Oper} {t : TypeId} {x : Operand} {u r : Value} (ho : o.op = .buildSlice t 1 #[(0, x)]) (hx : ρ x = u) (hrun : (Instr.buildSlice t 1 #[(0, u)]).run P w = .ok r w1) : (execOp ρ o).run P w = .ok (.value r) w1 := by
  unfold execOp
  simp [ho, hx, hrun]

/-- The reader, and the node (block nb) that it builds; the result's block is that behind the caller's. -/
structure LI (w : World) (rb nb : Nat) (R : Rd) (lf : Bool) (pv kv iv : Value) (wr : World) : Prop where
  lt : rb < w.heap.size
  gt : w.heap.size < nb
  sz : nb < wr.heap.size
  rd : RdIs wr rb R
  on : OnlyR rb w wr
  zr : wr.heap[w.heap.size]? = some zNdO
  nd : wr.heap[nb]? = some (ndO lf pv kv iv)
section
variable {w wr w' : World} {rb nb : Nat} {R R' : Rd} {lf : Bool} {pv kv iv : Value}
theorem LI.call (h : LI w rb nb R lf pv kv iv wr) (rd : RdIs w' rb R') (o : OnlyR rb wr w') : LI w rb nb R' lf pv kv iv w' :=
  ⟨h.lt, h.gt, Nat.lt_of_lt_of_le h.sz o.size, rd, h.on.trans o, (o.keep _ (Nat.lt_trans h.gt h.sz) (by have := h.lt; omega)).trans h.zr, (o.keep _ h.sz (by have := h.lt; have := h.gt; omega)).trans h.nd⟩
theorem LI.below (h : LI w rb nb R lf pv kv iv wr) (b : Below (nb + 1) wr w') : LI w rb nb R lf pv kv iv w' := by
  have h1 := h.lt; have h2 := h.gt; have h3 := h.sz
  exact ⟨h1, h2, Nat.lt_of_lt_of_le h3 b.size, h.rd.keep (b.block rb (by omega)), ⟨b.os.trans h.on.os, b.tape.trans h.on.tape, b.output.trans h.on.output, Nat.le_trans h.on.size b.size, fun k hk hn => (b.block k (by omega)).trans (h.on.keep k hk hn)⟩, (b.block _ (by omega)).trans h.zr, (b.block _ (by omega)).trans h.nd⟩
theorem LI.drew (h : LI w rb nb R lf pv kv iv wr) : LI w rb nb R lf pv kv iv wr.drew := ⟨h.lt, h.gt, h.sz, h.rd, h.on.drew, h.zr, h.nd⟩
theorem LI.cs (h : LI w rb nb R lf pv kv iv wr) : NdCells wr nb lf pv kv iv := NdCells.of h.nd
theorem LI.free (h : LI w rb nb R lf pv kv iv wr) (j : Nat) : wr.frozen? ⟨nb, j, none⟩ = false := free_row h.nd j
theorem LI.put (h : LI w rb nb R lf pv kv iv wr) {pv' kv' iv' : Value} (i : Nat) (v : Value) (he : (#[Value.bool lf, pv, kv, iv]).setIfInBounds i v = #[Value.bool lf, pv', kv', iv']) : LI w rb nb R lf pv' kv' iv' (wr.setCell ⟨nb, i, none⟩ v) := by
  have h1 := h.lt; have h2 := h.gt; have h3 := h.sz
  have hk : ∀ k, k ≠ nb → (wr.setCell ⟨nb, i, none⟩ v).heap[k]? = wr.heap[k]? := fun k hk => Below.heap_setCell _ _ _ _ hk
  have hs : (wr.setCell ⟨nb, i, none⟩ v).heap.size = wr.heap.size := by simp [World.setCell]
  refine ⟨h1, h2, by rw [hs]; exact h3, h.rd.keep (hk _ (by omega)), ⟨h.on.os, h.on.tape, h.on.output, by rw [hs]; exact h.on.size, fun k hk' hn => (hk k (by omega)).trans (h.on.keep k hk' hn)⟩, (hk _ (by omega)).trans h.zr, ?_⟩
  have := heap_setCell_same wr nb i _ _ v h.nd
  rw [he] at this
  exact this
theorem LI.put1 (h : LI w rb nb R lf pv kv iv wr) (v : Value) : LI w rb nb R lf v kv iv (wr.setCell ⟨nb, 1, none⟩ v) := h.put 1 v rfl
theorem LI.put2 (h : LI w rb nb R lf pv kv iv wr) (v : Value) : LI w rb nb R lf pv v iv (wr.setCell ⟨nb, 2, none⟩ v) := h.put 2 v rfl
theorem LI.put3 (h : LI w rb nb R lf pv kv iv wr) (v : Value) : LI w rb nb R lf pv kv v (wr.setCell ⟨nb, 3, none⟩ v) := h.put 3 v rfl
theorem own_call {α : Type} {E : El α} {v : Value} {l : List α} (h : LI w rb nb R lf pv kv iv wr) (o : OwnR E (nb + 1) wr v l) (c : OnlyR rb wr w') : OwnR E (nb + 1) w' v l :=
  ownsRow_keep o fun k hk => c.keep k (World.ownsRow.lt o k hk).2 (by have := (World.ownsRow.lt o k hk).1; have := h.lt; have := h.gt; omega)
theorem own_put {α : Type} {E : El α} {v : Value} {l : List α} (o : OwnR E (nb + 1) wr v l) (i : Nat) (u : Value) : OwnR E (nb + 1) (wr.setCell ⟨nb, i, none⟩ u) v l :=
  o.keepg (Nat.lt_succ_self _) fun _ hk => Below.heap_setCell _ _ _ _ hk
theorem own_new {α : Type} {E : El α} {v : Value} {l : List α} (o : OwnR E (nb + 1) wr v l) (ob : Obj) : OwnR E (nb + 1) (wr.alloc ob) v l := o.below (below_new wr ob)
/-- an append of one element -/
theorem LI.app {α : Type} {E : El α} (hE : ElOk E) {v : Value} {l : List α} (h : LI w rb nb R lf pv kv iv wr) (o : OwnR E (nb + 1) wr v l) {ob : Obj} {x : α} (hx : SlAt E (wr.alloc ob).heap.size (wr.alloc ob) (.slice (some ⟨wr.heap.size, 0, none⟩) 1 1) [x]) (hl : (l.length + 1) * E.bytes ≤ 140737488355328) (ty : TypeId) :
    ∃ v' w', (Builtin.append_ #[E.st, E.st] ty #[v, .slice (some ⟨wr.heap.size, 0, none⟩) 1 1]).run Try.prog (wr.alloc ob) = .ok v' w' ∧ OwnR E (nb + 1) w' v' (l ++ [x]) ∧ LI w rb nb R lf pv kv iv w' := by
  have hs : nb + 1 ≤ (wr.alloc ob).heap.size := by have := h.sz; simp; omega
  obtain ⟨v', w', hr, ho, hb, -, -⟩ := own_app hE (own_new o ob) hx hl hs ty
  exact ⟨v', w', hr, ho, h.below (((Below.refl _ _).alloc (by have := h.sz; omega) ob).trans hb)⟩
theorem LI.on' (h : LI w rb nb R lf pv kv iv wr) (b : Below w.heap.size wr w') : OnlyR rb w w' ∧ RdIs w' rb R :=
  ⟨⟨b.os.trans h.on.os, b.tape.trans h.on.tape, b.output.trans h.on.output, Nat.le_trans h.on.size b.size, fun k hk hn => (b.block k hk).trans (h.on.keep k hk hn)⟩, h.rd.keep (b.block rb h.lt)⟩
theorem own_end {α : Type} {E : El α} {v : Value} {l : List α} (h : LI w rb nb R lf pv kv iv wr) (o : OwnR E (nb + 1) wr v l) (hk : ∀ k, k ≠ w.heap.size → w'.heap[k]? = wr.heap[k]?) : OwnR E w.heap.size w' v l :=
  (o.keepg (by have := h.gt; omega) hk).base (by have := h.gt; omega)
end
def boxS (s : ByteArray) : Obj := .cells #[.string s] 9
def boxI (z : Int) : Obj := .cells #[.int .i64 z] 3
theorem build_s (s : ByteArray) (w : World) : (Instr.buildSlice 23 1 #[(0, .string s)]).run Try.prog w = .ok (.slice (some ⟨w.heap.size, 0, none⟩) 1 1) (w.alloc (boxS s)) := by kernel_rfl
theorem build_i (z : Int) (w : World) : (Instr.buildSlice 24 1 #[(0, .int .i64 z)]).run Try.prog w = .ok (.slice (some ⟨w.heap.size, 0, none⟩) 1 1) (w.alloc (boxI z)) := by kernel_rfl
theorem one_s (w : World) (x : ByteArray) : SlAt elS (w.alloc (boxS x)).heap.size (w.alloc (boxS x)) (.slice (some ⟨w.heap.size, 0, none⟩) 1 1) [x] := by
  refine ⟨_, 1, rfl, Nat.le_refl _, by show 1 * 16 ≤ _; omega, fun _ => ⟨w.heap.size, 0, rfl, by simp, fun j u hj => ?_⟩⟩
  rw [Nat.zero_add]
  match j, hj with
  | 0, hj => simp [cells] at hj; subst hj; exact cell_new w _ _ 0 _ rfl
theorem one_i (w : World) (x : Int) : SlAt elI (w.alloc (boxI x)).heap.size (w.alloc (boxI x)) (.slice (some ⟨w.heap.size, 0, none⟩) 1 1) [x] := by
  refine ⟨_, 1, rfl, Nat.le_refl _, by show 1 * 8 ≤ _; omega, fun _ => ⟨w.heap.size, 0, rfl, by simp, fun j u hj => ?_⟩⟩
  rw [Nat.zero_add]
  match j, hj with
  | 0, hj => simp [cells] at hj; subst hj; exact cell_new w _ _ 0 _ rfl
theorem LI.appP {w wr : World} {rb nb : Nat} {R : Rd} {lf : Bool} {pv kv iv v : Value} {l : List Pr} (h : LI w rb nb R lf pv kv iv wr) (o : OwnR elP (nb + 1) wr v l) (x : Pr) (hl : l.length ≤ 1000) (ty : TypeId) :
    ∃ v' w', (Builtin.append_ #[22, 22] ty #[v, .slice (some ⟨wr.heap.size, 0, none⟩) 1 1]).run Try.prog (wr.alloc (prO x)) = .ok v' w' ∧ OwnR elP (nb + 1) w' v' (l ++ [x]) ∧ LI w rb nb R lf pv kv iv w' :=
  h.app okP o (one_pr wr x) (by show (_ + 1) * 32 ≤ _; omega) ty
theorem LI.appS {w wr : World} {rb nb : Nat} {R : Rd} {lf : Bool} {pv kv iv v : Value} {l : List ByteArray} (h : LI w rb nb R lf pv kv iv wr) (o : OwnR elS (nb + 1) wr v l) (x : ByteArray) (hl : l.length ≤ 1000) (ty : TypeId) :
    ∃ v' w', (Builtin.append_ #[23, 23] ty #[v, .slice (some ⟨wr.heap.size, 0, none⟩) 1 1]).run Try.prog (wr.alloc (boxS x)) = .ok v' w' ∧ OwnR elS (nb + 1) w' v' (l ++ [x]) ∧ LI w rb nb R lf pv kv iv w' :=
  h.app okS o (one_s wr x) (by show (_ + 1) * 16 ≤ _; omega) ty
theorem LI.appI {w wr : World} {rb nb : Nat} {R : Rd} {lf : Bool} {pv kv iv v : Value} {l : List Int} (h : LI w rb nb R lf pv kv iv wr) (o : OwnR elI (nb + 1) wr v l) (x : Int) (hl : l.length ≤ 1000) (ty : TypeId) :
    ∃ v' w', (Builtin.append_ #[24, 24] ty #[v, .slice (some ⟨wr.heap.size, 0, none⟩) 1 1]).run Try.prog (wr.alloc (boxI x)) = .ok v' w' ∧ OwnR elI (nb + 1) w' v' (l ++ [x]) ∧ LI w rb nb R lf pv kv iv w' :=
  h.app okZ o (one_i wr x) (by show (_ + 1) * 8 ≤ _; omega) ty
/-- What stood when the second loop began stands, but for the reader and the node. -/
structure KP (ws : World) (rb nb : Nat) (wr : World) : Prop where
  sz : ws.heap.size ≤ wr.heap.size
  kp : ∀ k, k < ws.heap.size → k ≠ rb → k ≠ nb → wr.heap[k]? = ws.heap[k]?
theorem KP.refl (ws : World) (rb nb : Nat) : KP ws rb nb ws := ⟨Nat.le_refl _, fun _ _ _ _ => rfl⟩
section
variable {w ws wr w' : World} {rb nb : Nat} {R : Rd} {lf : Bool} {pv kv iv : Value}
theorem KP.call (h : KP ws rb nb wr) (o : OnlyR rb wr w') : KP ws rb nb w' :=
  ⟨Nat.le_trans h.sz o.size, fun k hk h1 h2 => (o.keep k (Nat.lt_of_lt_of_le hk h.sz) h1).trans (h.kp k hk h1 h2)⟩
theorem KP.below (h : KP ws rb nb wr) (b : Below ws.heap.size wr w') : KP ws rb nb w' :=
  ⟨Nat.le_trans h.sz b.size, fun k hk h1 h2 => (b.block k hk).trans (h.kp k hk h1 h2)⟩
theorem KP.drew (h : KP ws rb nb wr) : KP ws rb nb wr.drew := ⟨h.sz, h.kp⟩
theorem KP.put (h : KP ws rb nb wr) (i : Nat) (v : Value) : KP ws rb nb (wr.setCell ⟨nb, i, none⟩ v) :=
  ⟨Nat.le_trans h.sz (Nat.le_of_eq (by simp [World.setCell])), fun k hk h1 h2 => (Below.heap_setCell _ _ _ _ h2).trans (h.kp k hk h1 h2)⟩
theorem KP.own {α : Type} {E : El α} {v : Value} {l : List α} (h : KP ws rb nb wr) (hr : rb < nb) (o : OwnR E (nb + 1) ws v l) : OwnR E (nb + 1) wr v l :=
  ownsRow_keep o fun k hk => h.kp k (World.ownsRow.lt o k hk).2 (by have := (World.ownsRow.lt o k hk).1; omega) (by have := (World.ownsRow.lt o k hk).1; omega)
theorem own_callB {α : Type} {E : El α} {v : Value} {l : List α} {b : Nat} (hb : rb < b) (o : OwnR E b wr v l) (c : OnlyR rb wr w') : OwnR E b w' v l :=
  ownsRow_keep o fun k hk => c.keep k (World.ownsRow.lt o k hk).2 (by have := (World.ownsRow.lt o k hk).1; omega)
theorem own_putB {α : Type} {E : El α} {v : Value} {l : List α} {b : Nat} (hb : nb < b) (o : OwnR E b wr v l) (i : Nat) (u : Value) : OwnR E b (wr.setCell ⟨nb, i, none⟩ u) v l :=
  o.keepg hb fun _ hk => Below.heap_setCell _ _ _ _ hk
theorem LI.appK {v : Value} {l : List ByteArray} (h : LI w rb nb R lf pv kv iv wr) (kp : KP ws rb nb wr) (hn : nb < ws.heap.size) (o : OwnR elS ws.heap.size wr v l) (x : ByteArray) (hl : l.length ≤ 1000) (ty : TypeId) :
    ∃ v' w', (Builtin.append_ #[23, 23] ty #[v, .slice (some ⟨wr.heap.size, 0, none⟩) 1 1]).run Try.prog (wr.alloc (boxS x)) = .ok v' w' ∧ OwnR elS ws.heap.size w' v' (l ++ [x]) ∧ LI w rb nb R lf pv kv iv w' ∧ KP ws rb nb w' := by
  obtain ⟨v', w', hr, ho, hb, -, -⟩ := own_app okS (o.below (below_new wr (boxS x))) (one_s wr x) (by show (_ + 1) * 16 ≤ _; omega) (by have := kp.sz; simp; omega) ty
  have b := ((Below.refl _ _).alloc kp.sz (boxS x)).trans hb
  exact ⟨v', w', hr, ho, h.below (b.mono hn), kp.below b⟩
end
end Go.Proofs.Ytdkmfcmndncmcaa
