/- Rows of one's own, of any element: appending one element; reading one. No statement of the seat is proved here. -/
import Derived.Test.YtkmaikmbjebjeaaDoorRows
import Derived.Test.YtkmaikmbjebjeaaDoorFill
import Derived.Deep.MidRow
import Derived.Maps.AppendAt
namespace Go.Proofs.YtkmaikmbjebjeaaDoor
set_option maxRecDepth 20000
open Go.RowKit

/-- The blocks that were there are as they were, but for v's own; v' lies there or in a new one. -/
def GrV (v : Value) (w w' : World) (v' : Value) : Prop := (∀ k : Nat, k < w.heap.size → some k ≠ v.ownBlock → w'.heap[k]? = w.heap[k]?) ∧ w.heap.size ≤ w'.heap.size ∧ (v'.ownBlock = v.ownBlock ∨ ∃ k, w.heap.size ≤ k ∧ v'.ownBlock = some k)
theorem own_push {t e ty : TypeId} {size bytes : Nat} {i : TypeInfo} {z : Value} (ht : Tryd.prog.underlying t = some (.slice e)) (hi : Tryd.prog.info? e = some i) (hz : i.zero = some z) (hs : i.size = size) (hby : i.bytes = bytes) (hzs : z.cells.size = size) (hp : 0 < size)
    {base : Nat} {w : World} {v : Value} {n : Nat} {xs : List Value} (h : w.ownsRow base e size v n xs) {b : Nat} {ys : List Value} {fz : Nat × Nat} (hy : w.heap[b]? = some (.cells ys.toArray e fz)) (hl : ys.length = size) (h1 : ∀ u ∈ ys, u.oneCell' = true)
    (hlen : (n + 1) * bytes ≤ 140737488355328) (hm : n + 1 ≤ maxLen) (hb : base ≤ w.heap.size) :
    ∃ v' w', (Builtin.append_ #[t, t] ty #[v, .slice (some ⟨b, 0, none⟩) 1 1]).run Tryd.prog w = .ok v' w' ∧ w'.ownsRow base e size v' (n + 1) (xs ++ ys) ∧ Below base w w' ∧ w.heap.size ≤ w'.heap.size ∧ GrV v w w' v' := by
  obtain ⟨v', w', hr, ho, hgr, -, hob⟩ := run_append_own_at (P := Tryd.prog) w base t ty e i z size bytes ht hi hz hs hby hzs hp v n xs h ⟨b, 0, none⟩ 1 1 ys (by rw [hl]; omega) (fun j u hu => by
      rw [Addr.add_mid, Nat.zero_add, cell_of_row w b j _ _ _ hy]; simpa using hu) h1 hm hlen hb
  exact ⟨v', w', hr, ho, (Below.refl _ _).grown hgr hb (fun k hk => (World.ownsRow.lt h k hk).1), hgr.size, hgr.block, hgr.size, hob.imp id fun e => ⟨_, Nat.le_refl _, e⟩⟩
theorem wpList_append_own {P : Program} {ops : Array Oper} {rest : List Oper} {o : Oper} {a : Act} {w w1 : World} {Q : Exit → Act → World → Prop} (hgd : o.guard = none) (s x : Operand) (t u : TypeId) (ho : o.op = .call { callee := .builtin .append, args := #[s, x], argTypes := #[t, u] }) (v0 v1 v : Value) (hs : a.eval s = v0) (hx : a.eval x = v1)
    (hrun : (Builtin.append_ #[t, u] o.type #[v0, v1]).run P w = .ok v w1) (h : wpList P ops Q rest (a.put o.dst v) w1) : wpList P ops Q (o :: rest) a w := by
  refine wpList_value hgd ?_ h
  unfold execOp
  simp only [ho, resolve, invoke, builtin, Sem.run_bind, Sem.run_pure, Result.andThen_ok, List.map_toArray, List.map_cons, List.map_nil, hs, hx, hrun]
theorem ownsRow_form {w : World} {base : Nat} {e : TypeId} {size : Nat} {v : Value} {n : Nat} {xs : List Value} (h : w.ownsRow base e size v n xs) : ∃ ao cap, v = .slice ao n cap ∧ n ≤ cap ∧ n ≤ maxLen := by
  rcases h.2 with ⟨h1, h2⟩ | ⟨g, cap, cur, hv, hb, hg, hn, hm, hs, htake⟩
  · exact ⟨none, 0, by rw [h1, h2], by omega, by rw [h2]; exact Nat.zero_le _⟩
  · exact ⟨_, cap, hv, hn, Nat.le_trans hn hm⟩
theorem ownsRow_keep {w w' : World} {base : Nat} {e : TypeId} {size : Nat} {v : Value} {n : Nat} {xs : List Value} (h : w.ownsRow base e size v n xs) (hk : ∀ k, v.ownBlock = some k → w'.heap[k]? = w.heap[k]?) : w'.ownsRow base e size v n xs := by
  refine ⟨h.1, ?_⟩
  rcases h.2 with h2 | ⟨g, cap, cur, hv, hg, hh, r⟩
  · exact .inl h2
  · exact .inr ⟨g, cap, cur, hv, hg, (hk g (by rw [hv]; rfl)).trans hh, r⟩
theorem ownsRow_below {w w' : World} {base : Nat} {e : TypeId} {size : Nat} {v : Value} {n : Nat} {xs : List Value} (h : w.ownsRow base e size v n xs) (hb : Below w.heap.size w w') : w'.ownsRow base e size v n xs :=
  ownsRow_keep h fun k hk => hb.block k (World.ownsRow.lt h k hk).2
/-- a cell of an own row -/
theorem ownsRow_cell {w : World} {base : Nat} {e : TypeId} {size : Nat} {ao : Option Addr} {m cap n : Nat} {xs : List Value} (h : w.ownsRow base e size (.slice ao m cap) n xs) {j : Nat} {u : Value} (hu : xs[j]? = some u) : ∃ b, ao = some ⟨b, 0, none⟩ ∧ base ≤ b ∧ w.cell? ⟨b, j, none⟩ = some u := by
  have hj : j < xs.length := (List.getElem?_eq_some_iff.1 hu).1
  have h0 : 0 < n := by have := h.1; cases n with | zero => simp at this; subst this; simp at hj | succ n => omega
  obtain ⟨g, cap', hv', hb, hlt⟩ := World.ownsRow.form h h0
  have hc := World.ownsRow.cells h (g := g) (by rw [hv']; rfl)
  have ha : ao = some ⟨g, 0, none⟩ := by injection hv'
  refine ⟨g, ha, hb, ?_⟩
  have := hc j u hu
  rwa [Addr.add_mid, Nat.zero_add] at this
end Go.Proofs.YtkmaikmbjebjeaaDoor
