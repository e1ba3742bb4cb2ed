/- Parts of many cells laid into a struct, an array or a new slice. No statement of the seat is proved here. -/
import Derived.Test.YtkmaikmbjebjeaaDoorWide
import Derived.Laws.CopyOwn
namespace Go.Proofs.YtkmaikmbjebjeaaDoor
set_option maxRecDepth 20000
open Go.RowKit

theorem fold_set (off : Nat) : ∀ (l : List Value) (s : Nat) (L : List Value), off + s + l.length ≤ L.length →
    (l.zipIdx s).foldl (fun (cs : Array Value) (x : Value × Nat) => cs.setIfInBounds (off + x.2) x.1) L.toArray = (L.take (off + s) ++ (l ++ L.drop (off + s + l.length))).toArray
  | [], s, L, h => by simp
  | c :: l, s, L, h => by
    simp only [List.length_cons] at h
    simp only [List.zipIdx_cons, List.foldl_cons, List.setIfInBounds_toArray]
    rw [fold_set off l (s + 1) (L.set (off + s) c) (by simp; omega)]
    congr 1
    rw [List.take_set, List.drop_set_of_lt (by omega)]
    have e1 : off + (s + 1) = off + s + 1 := by omega
    rw [e1, List.take_succ_eq_append_getElem (by omega), List.set_append]
    rw [if_neg (by simp; omega)]
    simp only [List.length_take]
    rw [Nat.min_eq_left (by omega), Nat.sub_self]
    simp only [List.set_cons_zero, List.append_assoc, List.cons_append, List.nil_append, List.length_cons]
    congr 4
    omega

theorem fill_one {place : Nat → Option (Nat × Nat)} {i off : Nat} {L : List Value} {cs : List Value} (hp : place i = some (off, cs.length)) (h : off + cs.length ≤ L.length) {v : Value} (hv : v.cells = cs.toArray) :
    Instr.fill place L.toArray [(i, v)] = some (splice L off cs).toArray := by
  have hf := fold_set off cs 0 L (by simpa using h)
  simp only [Instr.fill, hp, hv, List.size_toArray]
  rw [if_neg (by simp; omega)]
  have e : cs.toArray.zipIdx = (cs.zipIdx 0).toArray := by simp
  rw [e]
  simp only [List.foldl_toArray', Nat.add_zero] at hf ⊢
  first
    | rw [hf]; rfl
    | (simp only [Instr.fill]; rw [show (List.foldl (fun (x : Array Value) (x_1 : Value × Nat) => match x_1 with | (c, j) => x.setIfInBounds (off + j) c) L.toArray (cs.zipIdx 0)) = _ from hf]; rfl)

theorem splice_all {L cs : List Value} (h : cs.length = L.length) : splice L 0 cs = cs := by simp [splice, h]

/-- '[]T{x}', x of many cells: a new block with its cells. -/
theorem run_buildSlice_one {P : Program} (w : World) (t e : TypeId) (i : TypeInfo) (z : Value) (cs : List Value) (ht : P.underlying t = some (.slice e)) (hi : P.info? e = some i) (hz : i.zero = some z) (hs : i.size = cs.length) (hb : cs.length ≤ 16777216) (h0 : 0 < cs.length) :
    (Instr.buildSlice t 1 #[(0, .agg cs.toArray)]).run P w = .ok (.slice (some ⟨w.heap.size, 0, none⟩) 1 1) (w.alloc (.cells cs.toArray e)) := by
  have hfill : ∀ Z : Array Value, Z.size = cs.length → Instr.fill (fun i => some (i * cs.length, cs.length)) Z [(0, .agg cs.toArray)] = some cs.toArray := by
    intro Z hZ
    have := fill_one (place := fun i => some (i * cs.length, cs.length)) (i := 0) (off := 0) (L := Z.toList) (cs := cs) (by simp) (by simp [hZ]) (v := .agg cs.toArray) rfl
    rw [Array.toArray_toList] at this
    rw [this, splice_all (by simp [hZ])]
  unfold Instr.buildSlice
  simp only [Sem.run_bind, run_underlying ht, Result.andThen_ok, sizeOf, typeInfo, Sem.run_pure, hi, run_program, hs, Nat.one_mul]
  rw [if_neg (by omega), if_neg (by omega)]
  simp only [zeroValue, typeInfo, Sem.run_bind, Sem.run_pure, Result.andThen_ok, hi, hz, run_program]
  rw [hfill _ (by simp)]
  simp [newRow, go_sem]

/-! ### a region that draws its order: two loads, and a new block that waits for the second alone -/
theorem step_value {P : Program} {ops : Array Oper} {o : Oper} {a : Act} {w w1 : World} {K : Act → World → Prop} {Q : Exit → Act → World → Prop} {E : Prop} {v : Value} (hgd : o.guard = none)
    (hrun : (execOp a.eval o).run P w = .ok (.value v) w1) (h : K (a.put o.dst v) w1) : if Region.wanted o (yielded ops a.tmps) = true then Oper.wp P o a w K Q else E := by
  rw [if_pos (by simp [Region.wanted, hgd])]
  unfold Oper.wp
  rw [hrun]; exact h
theorem step_skip {P : Program} {ops : Array Oper} {o : Oper} {a : Act} {w w1 : World} {K : Act → World → Prop} {Q : Exit → Act → World → Prop} {E : Prop} (hgd : o.guard = none)
    (hrun : (execOp a.eval o).run P w = .ok .skip w1) (h : K (a.put o.dst undef) w1) : if Region.wanted o (yielded ops a.tmps) = true then Oper.wp P o a w K Q else E := by
  rw [if_pos (by simp [Region.wanted, hgd])]
  unfold Oper.wp
  rw [hrun]; exact h
/-- An operation that yields in whatever world is taken first. -/
theorem wpAny_take_d {P : Program} {md : Region.Mode} {ops : Array Oper} {Q : Exit → Act → World → Prop} {fuel : Nat} {L : Array Bool} {a : Act} {w : World} (i : Nat) (d : Option Tmp) (v : Value) {o : Oper} (hi : ops[i]? = some o) (hs : Region.noSelect ops = true) (hf : Region.free md ops L i = true)
    (hr : (Region.ready md ops L).contains i = true) (hgd : o.guard = none) (hd : o.dst = d) (hQ : ∀ c a w, Q (.panic c) (a.put d v) w → Q (.panic c) a w) (hy : ∀ w, (execOp a.eval o).run P w = .ok (.value v) w)
    (h : wpAny P md ops Q fuel (L.setIfInBounds i true) (a.put d v) w) : wpAny P md ops Q (fuel + 1) L a w := by
  subst hd
  exact wpAny_take hi hs hf hr hQ (Or.inl ⟨by simp [Region.wanted, hgd], hy⟩) h
/-- One operation alone may come up. -/
theorem wpAny_one {P : Program} {md : Region.Mode} {ops : Array Oper} {Q : Exit → Act → World → Prop} {fuel : Nat} {L : Array Bool} {a : Act} {w w1 : World} (i : Nat) (d : Option Tmp) {o : Oper} (hi : ops[i]? = some o) (hr : Region.ready md ops L = [i]) {v : Value} (hgd : o.guard = none) (hd : o.dst = d)
    (hrun : (execOp a.eval o).run P w = .ok (.value v) w1) (h : wpAny P md ops Q fuel (L.setIfInBounds i true) (a.put d v) w1) : wpAny P md ops Q (fuel + 1) L a w := by
  subst hd
  exact wpAny_ready hr (by simp) (AllReady.cons hi (fun _ hK => step_value hgd hrun (hK _ _ h)) AllReady.nil)
theorem wpAny_one_skip {P : Program} {md : Region.Mode} {ops : Array Oper} {Q : Exit → Act → World → Prop} {fuel : Nat} {L : Array Bool} {a : Act} {w w1 : World} (i : Nat) {o : Oper} (hi : ops[i]? = some o) (hr : Region.ready md ops L = [i]) (hgd : o.guard = none)
    (hrun : (execOp a.eval o).run P w = .ok .skip w1) (h : wpAny P md ops Q fuel (L.setIfInBounds i true) (a.put o.dst undef) w1) : wpAny P md ops Q (fuel + 1) L a w :=
  wpAny_ready hr (by simp) (AllReady.cons hi (fun _ hK => step_skip hgd hrun (hK _ _ h)) AllReady.nil)
theorem wpAny_two_loads {P : Program} {md : Region.Mode} {ops : Array Oper} {Q : Exit → Act → World → Prop} {fuel : Nat} {L : Array Bool} {a : Act} {w w6 : World} (i4 i5 i6 : Nat) (x4 x5 x6 : Option Tmp) {o4 o5 o6 : Oper} (h4 : ops[i4]? = some o4) (h5 : ops[i5]? = some o5) (h6 : ops[i6]? = some o6)
    (g4 : o4.guard = none) (g5 : o5.guard = none) (g6 : o6.guard = none) (n45 : i4 ≠ i5) (n46 : i4 ≠ i6) (y4 : o4.dst = x4) (y5 : o5.dst = x5) (y6 : o6.dst = x6) (d45 : ∀ d, x4 = some d → x5 ≠ some d) (d46 : ∀ d, x4 = some d → x6 ≠ some d)
    (r0 : Region.ready md ops L = [i4, i5]) (r4 : Region.ready md ops (L.setIfInBounds i4 true) = [i5]) (r45 : Region.ready md ops ((L.setIfInBounds i4 true).setIfInBounds i5 true) = [i6])
    (r5 : Region.ready md ops (L.setIfInBounds i5 true) = [i4, i6]) (r56 : Region.ready md ops ((L.setIfInBounds i5 true).setIfInBounds i6 true) = [i4])
    {v4 v5 v6 : Value} (e4 : (execOp a.eval o4).run P w = .ok (.value v4) w) (e5 : (execOp a.eval o5).run P w = .ok (.value v5) w)
    (e45 : (execOp (a.put x4 v4).eval o5).run P w = .ok (.value v5) w) (e54 : (execOp (a.put x5 v5).eval o4).run P w = .ok (.value v4) w)
    (e456 : (execOp ((a.put x4 v4).put x5 v5).eval o6).run P w = .ok (.value v6) w6) (e56 : (execOp (a.put x5 v5).eval o6).run P w = .ok (.value v6) w6)
    (e564 : (execOp ((a.put x5 v5).put x6 v6).eval o4).run P w6 = .ok (.value v4) w6)
    (h : wpAny P md ops Q fuel (((L.setIfInBounds i4 true).setIfInBounds i5 true).setIfInBounds i6 true) (((a.put x4 v4).put x5 v5).put x6 v6) w6) : wpAny P md ops Q (fuel + 3) L a w := by
  subst y4
  subst y5
  subst y6
  have c54 : (a.put o5.dst v5).put o4.dst v4 = (a.put o4.dst v4).put o5.dst v5 := (Act.put_comm a v4 v5 d45).symm
  have c64 : ((a.put o5.dst v5).put o6.dst v6).put o4.dst v4 = ((a.put o4.dst v4).put o5.dst v5).put o6.dst v6 := by
    rw [← Act.put_comm _ v4 v6 d46, c54]
  have L54 : (L.setIfInBounds i5 true).setIfInBounds i4 true = (L.setIfInBounds i4 true).setIfInBounds i5 true := Array.setIfInBounds_comm _ _ (Ne.symm n45)
  have L64 : ((L.setIfInBounds i5 true).setIfInBounds i6 true).setIfInBounds i4 true = ((L.setIfInBounds i4 true).setIfInBounds i5 true).setIfInBounds i6 true := by
    rw [Array.setIfInBounds_comm _ _ (Ne.symm n46), L54]
  refine wpAny_ready r0 (by simp) (AllReady.cons h4 (fun K hK => step_value g4 e4 (hK _ _ ?_)) (AllReady.cons h5 (fun K hK => step_value g5 e5 (hK _ _ ?_)) AllReady.nil))
  · exact wpAny_one i5 _ h5 r4 g5 rfl e45 (wpAny_one i6 _ h6 r45 g6 rfl e456 h)
  · refine wpAny_ready r5 (by simp) (AllReady.cons h4 (fun K hK => step_value g4 e54 (hK _ _ ?_)) (AllReady.cons h6 (fun K hK => step_value g6 e56 (hK _ _ ?_)) AllReady.nil))
    · rw [L54, c54]; exact wpAny_one i6 _ h6 r45 g6 rfl e456 h
    · refine wpAny_one i4 _ h4 r56 g4 rfl e564 ?_
      rw [L64, c64]; exact h
/-- The runs of the operations, said of the operand's value alone. -/
theorem exec_load_cell {P : Program} {w : World} {ρ : Operand → Value} {o : Oper} {ty : TypeId} {x : Operand} {p : Addr} {v : Value} {d : TypeDesc} (ho : o.op = .load ty x) (hx : ρ x = .pointer (some p)) (hc : w.cell? p = some v) (hu : P.underlying ty = some d) (hd : d.isRow = false) :
    (execOp ρ o).run P w = .ok (.value v) w := by
  unfold execOp
  have ha : (isAgg ty).run P w = .ok false w := by
    unfold isAgg
    rw [Sem.run_bind, run_underlying hu w]
    cases d <;> simp_all
  simp [ho, hx, Instr.loadAt, Instr.sureAddr, loadVar, ha, run_load, hc]
theorem exec_load_row {P : Program} {w : World} {ρ : Operand → Value} {o : Oper} {ty : TypeId} {x : Operand} {g : Nat} {t : TypeId} {fz : Nat × Nat} {cs : Array Value} {d : TypeDesc} (ho : o.op = .load ty x) (hx : ρ x = .pointer (some ⟨g, 0, none⟩)) (hg : w.heap[g]? = some (.cells cs t fz)) (hu : P.underlying ty = some d) (hd : d.isRow = true)
    (hi : (P.info? ty).map (·.size) = some cs.size) : (execOp ρ o).run P w = .ok (.value (.agg cs)) w := by
  have hrun := run_loadVar_row (P := P) w g t ty cs fz d hg hu (by cases d <;> simp_all) hi
  unfold execOp
  simp only [ho, hx, Instr.loadAt, Instr.sureAddr, Sem.run_bind, Sem.run_pure, Result.andThen_ok, hrun]
theorem exec_buildSlice_one {P : Program} {w : World} {ρ : Operand → Value} {o : Oper} {t : TypeId} {x : Operand} {cs : List Value} (ho : o.op = .buildSlice t 1 #[(0, x)]) (hx : ρ x = .agg cs.toArray) {w1 : World} {v : Value}
    (hrun : (Instr.buildSlice t 1 #[(0, .agg cs.toArray)]).run P w = .ok v w1) : (execOp ρ o).run P w = .ok (.value v) w1 := by
  unfold execOp
  simp [ho, hx, hrun]
theorem exec_store_cell {P : Program} {w : World} {ρ : Operand → Value} {o : Oper} {ty : TypeId} {x y : Operand} {p : Addr} {u v : Value} (ho : o.op = .store ty x y) (hx : ρ x = .pointer (some p)) (hy : ρ y = v) (hv : v.oneCell' = true) (hc : w.cell? p = some u) (hf : w.frozen? p = false)
    (hi : (P.info? ty).map (·.size) = some 1) : (execOp ρ o).run P w = .ok .skip (w.setCell p v) := by
  have hcs : v.cells = #[v] := by cases v <;> first | rfl | (simp [Value.oneCell'] at hv)
  have hadd : p.add 0 = p := rfl
  cases hq : P.info? ty with
  | none => simp [hq] at hi
  | some i =>
    have hs : i.size = 1 := by simpa [hq] using hi
    unfold execOp
    simp [ho, hx, hy, Instr.storeAt, Instr.sureAddr, storeVar, sizeOf, typeInfo, hq, hs, hcs, storeCells, hadd, run_store _ _ _ _ _ hv, hc, hf]
theorem exec_append {P : Program} {w w1 : World} {ρ : Operand → Value} {o : Oper} {t : TypeId} {s x : Operand} {v0 v1 v : Value} (ho : o.op = .call { callee := .builtin .append, args := #[s, x], argTypes := #[t, t] }) (hs : ρ s = v0) (hx : ρ x = v1)
    (hrun : (Builtin.append_ #[t, t] o.type #[v0, v1]).run P w = .ok v w1) : (execOp ρ o).run P w = .ok (.value v) w1 := by
  unfold execOp
  simp only [ho, resolve, invoke, builtin, Sem.run_bind, Sem.run_pure, Result.andThen_ok, List.map_toArray, List.map_cons, List.map_nil, hs, hx, hrun]
end Go.Proofs.YtkmaikmbjebjeaaDoor
