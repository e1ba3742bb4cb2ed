/- The contract of slices.Insert at pairs, one pair. No statement of the seat is proved here. -/
import Derived.Test.YtdkmfcmndncmcaaNKnown
import Derived.Lib.Overlaps
import Derived.Lib.AppendZerosOnto
namespace Go.Proofs.Ytdkmfcmndncmcaa
set_option maxRecDepth 20000
open Go.RowKit

theorem ex_copy {P : Program} {w w1 : World} {ρ : Operand → Value} {o : Oper} {t u : TypeId} {x y : Operand} {v0 v1 v : Value} (ho : o.op = .call { callee := .builtin .copy, args := #[x, y], argTypes := #[t, u] }) (hs : ρ x = v0) (hx : ρ y = v1) (hrun : (Builtin.copy_ #[t, u] o.type #[v0, v1]).run P w = .ok v w1) : (execOp ρ o).run P w = .ok (.value v) w1 := by
  unfold execOp
  simp only [ho, resolve, invoke, builtin, Sem.run_bind, Sem.run_pure, Result.andThen_ok, List.map_toArray, List.map_cons, List.map_nil, hs, hx, hrun]
theorem wpList_copyN {P : Program} {ops : Array Oper} {rest : List Oper} {o : Oper} {a : Act} {w w1 : World} {Q : Exit → Act → World → Prop} (hgd : o.guard = none) (s x : Operand) (t u : TypeId) (ho : o.op = .call { callee := .builtin .copy, args := #[s, x], argTypes := #[t, u] }) (v0 v1 v : Value) (hs : a.eval s = v0) (hx : a.eval x = v1)
    (hrun : (Builtin.copy_ #[t, u] o.type #[v0, v1]).run P w = .ok v w1) (h : wpList P ops Q rest (a.put o.dst v) w1) : wpList P ops Q (o :: rest) a w :=
  wpList_value hgd (ex_copy ho hs hx hrun) h
theorem run_copy_k {P : Program} (w : World) (dT sT ty elem : TypeId) (k g o dLen dCap : Nat) (a : Addr) (sLen sCap : Nat) (cur : Array Value) (t : TypeId) (cs : List Value)
    (hu : P.underlying dT = some (.slice elem)) (hs : (P.info? elem).map (·.size) = some k)
    (hg : w.heap[g]? = some (.cells cur t (0, 0))) (hn : cs.length = Nat.min sLen dLen * k)
    (hsrc : ∀ j v, cs[j]? = some v → w.cell? (a.add j) = some v) (hfit : o + cs.length ≤ cur.size) (h1 : ∀ v ∈ cs, v.oneCell' = true) :
    (Builtin.copy_ #[dT, sT] ty #[.slice (some ⟨g, o, none⟩) dLen dCap, .slice (some a) sLen sCap]).run P w =
      .ok (goInt (Nat.min sLen dLen)) (w.setRow g (cur.toList.take o ++ cs ++ cur.toList.drop (o + cs.length)).toArray) := by
  have hl := run_loadCells_list (P := P) w a cs hsrc
  have hst := run_storeCells_at P g o t cs 0 cur w hg (by simpa using hfit) h1
  cases hq : P.info? elem with
  | none => simp [hq] at hs
  | some i =>
    have hi : i.size = k := by simpa [hq] using hs
    simp [Builtin.copy_, run_underlying hu, Builtin.lenOf, Builtin.firstCells, sizeOf, typeInfo, hq, hi, ← hn, hl, hst]
theorem szP (w : World) : (sizeOf (Try.prog.elem 22)).run Try.prog w = .ok 2 w := by kernel_rfl
theorem uP : Try.prog.underlying 22 = some (.slice (Try.prog.elem 22)) := by kernel_rfl
theorem slP_lo {g o n c i : Nat} (hi : i ≤ n) (hc : c ≠ i) (w : World) : (Instr.sliceAt 22 (.slice (some ⟨g, o, none⟩) n c) (some (.int .i64 (i : Nat))) none none).run Try.prog w = .ok (.slice (some ⟨g, o + i * 2, none⟩) (n - i) (c - i)) w := by
  rw [run_sliceAt_slice (P := Try.prog) w 22 _ _ _ _ uP, run_slice_l (P := Try.prog) w 22 (some ⟨g, o, none⟩) n c uP .i64 (i : Int) (by omega) (by omega), szP]
  have e : ((i : Int)).toNat = i := by omega
  simp only [Result.andThen, e, sliced, if_neg hc, Option.map_some]
  rw [show (⟨g, o, none⟩ : Addr).add (i * 2) = ⟨g, o + i * 2, none⟩ from Addr.add_mid g o (i * 2)]
theorem slP_hi {g o n c i : Nat} (hi : i ≤ c) (w : World) : (Instr.sliceAt 22 (.slice (some ⟨g, o, none⟩) n c) none (some (.int .i64 (i : Nat))) none).run Try.prog w = .ok (.slice (some ⟨g, o, none⟩) i c) w := by
  rw [run_sliceAt_slice (P := Try.prog) w 22 _ _ _ _ uP, run_slice_h (P := Try.prog) w 22 (some ⟨g, o, none⟩) n c uP .i64 (i : Int) (by omega) (by omega), szP]
  have e : ((i : Int)).toNat = i := by omega
  simp only [Result.andThen, e, sliced, Nat.zero_mul, Nat.sub_zero, Option.map_some]
  have e2 : (⟨g, o, none⟩ : Addr).add 0 = ⟨g, o, none⟩ := by rw [Addr.add_mid]; rfl
  rw [e2, ite_self]
/-! ### the row -/
theorem take_len {α : Type} {l m : List α} {k : Nat} (h : l.length = k) : (l ++ m).take k = l := by subst h; exact List.take_left
theorem drop_len {α : Type} {l m : List α} {k : Nat} (h : l.length = k) : (l ++ m).drop k = m := by subst h; exact List.drop_left
theorem shift_row {L C X : List Value} {n i : Nat} (hC : L.take (n * 2) = C) (hl : (n + 1) * 2 ≤ L.length) (hi : i < n) (hX : X.length = 2) (hCl : C.length = n * 2) :
    ((L.take ((i + 1) * 2) ++ C.drop (i * 2) ++ L.drop ((i + 1) * 2 + (C.drop (i * 2)).length)).take (i * 2) ++ X ++ (L.take ((i + 1) * 2) ++ C.drop (i * 2) ++ L.drop ((i + 1) * 2 + (C.drop (i * 2)).length)).drop (i * 2 + X.length)).take ((n + 1) * 2) = C.take (i * 2) ++ X ++ C.drop (i * 2) := by
  have h1 : (L.take ((i + 1) * 2)).length = (i + 1) * 2 := by rw [List.length_take]; omega
  have h2 : (L.take ((i + 1) * 2) ++ C.drop (i * 2) ++ L.drop ((i + 1) * 2 + (C.drop (i * 2)).length)).take (i * 2) = C.take (i * 2) := by
    rw [List.append_assoc, List.take_append_of_le_length (by omega), List.take_take, Nat.min_eq_left (by omega), ← hC, List.take_take, Nat.min_eq_left (by omega)]
  have h3 : (L.take ((i + 1) * 2) ++ C.drop (i * 2) ++ L.drop ((i + 1) * 2 + (C.drop (i * 2)).length)).drop (i * 2 + X.length) = C.drop (i * 2) ++ L.drop ((i + 1) * 2 + (C.drop (i * 2)).length) := by
    rw [List.append_assoc, hX, show i * 2 + 2 = (i + 1) * 2 by omega, drop_len h1]
  rw [h2, h3, ← List.append_assoc]
  have h4 : (C.take (i * 2) ++ X ++ C.drop (i * 2)).length = (n + 1) * 2 := by
    simp only [List.length_append, List.length_take, List.length_drop, hX, hCl]; omega
  exact take_len h4
theorem grow_row {C X Z : List Value} {n i : Nat} (hi : i < n) (hX : X.length = 2) (hCl : C.length = n * 2) :
    (((C.take (i * 2) ++ Z).take (i * 2) ++ X ++ (C.take (i * 2) ++ Z).drop (i * 2 + X.length)).take ((i + 1) * 2) ++ C.drop (i * 2) ++ ((C.take (i * 2) ++ Z).take (i * 2) ++ X ++ (C.take (i * 2) ++ Z).drop (i * 2 + X.length)).drop ((i + 1) * 2 + (C.drop (i * 2)).length)).take ((n + 1) * 2) = C.take (i * 2) ++ X ++ C.drop (i * 2) := by
  have h0 : (C.take (i * 2)).length = i * 2 := by rw [List.length_take]; omega
  have h1 : (C.take (i * 2) ++ Z).take (i * 2) = C.take (i * 2) := take_len h0
  have h2 : ((C.take (i * 2) ++ Z).take (i * 2) ++ X ++ (C.take (i * 2) ++ Z).drop (i * 2 + X.length)).take ((i + 1) * 2) = C.take (i * 2) ++ X := by
    rw [h1]
    have : (C.take (i * 2) ++ X).length = (i + 1) * 2 := by rw [List.length_append, h0, hX]; omega
    exact take_len this
  rw [h2]
  have h4 : (C.take (i * 2) ++ X ++ C.drop (i * 2)).length = (n + 1) * 2 := by
    simp only [List.length_append, h0, List.length_drop, hX, hCl]; omega
  exact take_len h4
end Go.Proofs.Ytdkmfcmndncmcaa
