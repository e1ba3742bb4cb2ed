/- Texts that belong together, joined. No statement of the seat is proved here. -/
import Derived.WalkKit
import Derived.WalkSpells
import Derived.Handy
import Derived.Lib.Hide
import Derived.WalkLawsBesides
import Derived.Maps.OwnSet
import Derived.Deep.AppendLies
import Derived.Deep.MidRow
import Derived.Deep.WholeRow
import Derived.StillTailTactics
import Derived.Laws.CopyOwn
import Derived.Test.YtmkomhdlcbimoaaRows
import Derived.Laws.BitsAllLaws
import Derived.Maps.AppendAt
import Derived.Deep.QuietTactic
import Derived.BigQuiet
import Derived.Lib.AppendStr
import Derived.Deep.RegionHeld
/- A frame by kinds of blocks: what a call of an object's method may turn; plain lemmas on worlds. No statement of the seat is proved here. -/
namespace Go.Proofs.Ytmkomhdlcbimoaa
set_option maxRecDepth 20000
open Go.RowKit

/-- Below B, and of all blocks whose kind is not one of K's, w' is as w was. -/
structure Fr (K : Obj → Bool) (B : Nat) (w w' : World) : Prop where
  os : w'.os = w.os
  tape : w'.tape = w.tape
  output : w'.output = w.output
  size : w.heap.size ≤ w'.heap.size
  keep : ∀ (k : Nat) o, w.heap[k]? = some o → (k < B ∨ K o = false) → w'.heap[k]? = some o

theorem Fr.refl (K : Obj → Bool) (B : Nat) (w : World) : Fr K B w w := ⟨rfl, rfl, rfl, Nat.le_refl _, fun _ _ h _ => h⟩
theorem Fr.trans {K : Obj → Bool} {B : Nat} {a b c : World} (h : Fr K B a b) (k : Fr K B b c) : Fr K B a c :=
  ⟨k.os.trans h.os, k.tape.trans h.tape, k.output.trans h.output, Nat.le_trans h.size k.size, fun i o hi ho => k.keep i o (h.keep i o hi ho) ho⟩
theorem Fr.mono {K K' : Obj → Bool} {B B' : Nat} {w w' : World} (h : Fr K B w w') (hB : B' ≤ B) (hK : ∀ o, K' o = false → K o = false) : Fr K' B' w w' :=
  ⟨h.os, h.tape, h.output, h.size, fun i o hi ho => h.keep i o hi (ho.imp (fun x => Nat.lt_of_lt_of_le x hB) (hK o))⟩
theorem Fr.drew {K : Obj → Bool} {B : Nat} {a w : World} (h : Fr K B a w) : Fr K B a w.drew := ⟨h.os, h.tape, h.output, h.size, h.keep⟩
theorem Fr.drewN {K : Obj → Bool} {B : Nat} {a w : World} (h : Fr K B a w) (n : Nat) : Fr K B a (w.drewN n) := ⟨h.os, h.tape, h.output, h.size, h.keep⟩
theorem lt_of_heap {w : World} {k : Nat} {o : Obj} (h : w.heap[k]? = some o) : k < w.heap.size := (Array.getElem?_eq_some_iff.1 h).1
theorem Fr.alloc {K : Obj → Bool} {B : Nat} {a w : World} (h : Fr K B a w) (o : Obj) : Fr K B a (w.alloc o) :=
  h.trans ⟨rfl, rfl, rfl, by simp, fun k _ hk _ => (Below.heap_alloc w o k (lt_of_heap hk)).trans hk⟩
theorem Fr.of_below {K : Obj → Bool} {B : Nat} {w w' : World} (h : Below w.heap.size w w') : Fr K B w w' :=
  ⟨h.os, h.tape, h.output, h.size, fun k _ hk _ => (h.block k (lt_of_heap hk)).trans hk⟩
theorem Fr.below {K : Obj → Bool} {B : Nat} {w w' : World} (h : Fr K B w w') (hB : B ≤ w.heap.size) : Below B w w' :=
  ⟨h.os, h.tape, h.output, h.size, fun k hk => by
    have : k < w.heap.size := Nat.lt_of_lt_of_le hk hB
    have e : w.heap[k]? = some w.heap[k] := Array.getElem?_eq_getElem this
    rw [e]; exact h.keep k _ e (Or.inl hk)⟩
/-- A store into a block of K's kind, from B on. -/
theorem Fr.setCell {K : Obj → Bool} {B : Nat} {a w : World} (h : Fr K B a w) {p : Addr} {o : Obj} (ho : w.heap[p.block]? = some o) (hp : B ≤ p.block) (hK : K o = true) (u : Value) : Fr K B a (w.setCell p u) :=
  h.trans ⟨rfl, rfl, rfl, by simp [World.setCell], fun k o' hk hko => by
    have hne : k ≠ p.block := by
      rintro rfl
      rw [ho] at hk; cases hk
      rcases hko with hko | hko
      · omega
      · rw [hK] at hko; cases hko
    rw [Below.heap_setCell _ _ _ _ hne]; exact hk⟩
theorem Fr.grown {K : Obj → Bool} {B : Nat} {a w w' : World} {row : Option Nat} (h : Fr K B a w) (hg : w.grownBy w' row) (hr : ∀ k, row = some k → B ≤ k ∧ ∃ o, w.heap[k]? = some o ∧ K o = true) : Fr K B a w' :=
  h.trans ⟨hg.os, hg.tape, hg.output, hg.size, fun k o hk hko => by
    refine (hg.block k (lt_of_heap hk) (fun e => ?_)).trans hk
    obtain ⟨h1, o', h2, h3⟩ := hr k e.symm
    rw [hk] at h2; cases h2
    rcases hko with hko | hko
    · omega
    · rw [h3] at hko; cases hko⟩
/-- What is of another kind stays, with all that hangs on its block. -/
theorem Fr.row {K : Obj → Bool} {B : Nat} {w w' : World} (h : Fr K B w w') {g : Nat} {cs : Array Value} {t : TypeId} {fz : Nat × Nat} (hg : w.heap[g]? = some (.cells cs t fz)) (hK : K (.cells cs t fz) = false) : w'.heap[g]? = some (.cells cs t fz) :=
  h.keep g _ hg (Or.inr hK)
theorem Fr.ownsRow {K : Obj → Bool} {B : Nat} {w w' : World} (h : Fr K B w w') {base : Nat} {e : TypeId} {size : Nat} {v : Value} {n : Nat} {xs : List Value} (ho : w.ownsRow base e size v n xs) (hK : ∀ cs, K (.cells cs e (0, 0)) = false) : w'.ownsRow base e size v n xs := by
  refine ⟨ho.1, ?_⟩
  rcases ho.2 with h2 | ⟨g, cap, cur, hv, hg, hh, r⟩
  · exact Or.inl h2
  · exact Or.inr ⟨g, cap, cur, hv, hg, h.keep g _ hh (Or.inr (hK _)), r⟩
theorem ownsRow_base {w : World} {base base' : Nat} {e : TypeId} {size : Nat} {v : Value} {n : Nat} {xs : List Value} (ho : w.ownsRow base e size v n xs) (hb : ∀ k, v.ownBlock = some k → base' ≤ k) : w.ownsRow base' e size v n xs := by
  refine ⟨ho.1, ?_⟩
  rcases ho.2 with h2 | ⟨g, cap, cur, hv, hg, hh, r⟩
  · exact Or.inl h2
  · exact Or.inr ⟨g, cap, cur, hv, hb g (by rw [hv]; rfl), hh, r⟩

theorem cell_row {w : World} {g : Nat} {cs : Array Value} {t : TypeId} {fz : Nat × Nat} (h : w.heap[g]? = some (.cells cs t fz)) (i : Nat) {v : Value} (hv : cs[i]? = some v) : w.cell? ⟨g, i, none⟩ = some v := by
  rw [cell_of_row w g i cs t fz h]; exact hv
theorem free_row {w : World} {g : Nat} {cs : Array Value} {t : TypeId} (h : w.heap[g]? = some (.cells cs t (0, 0))) (i : Nat) : w.frozen? ⟨g, i, none⟩ = false := frozen_of_row w g i cs t h
theorem Fr.cell {K : Obj → Bool} {B : Nat} {w w' : World} (h : Fr K B w w') {p : Addr} {v : Value} (hc : w.cell? p = some v) (hp : p.block < B) : w'.cell? p = some v := by
  have hb := World.block_lt_of_cell? w p hc
  have e : w.heap[p.block]? = some w.heap[p.block] := Array.getElem?_eq_getElem hb
  have e' := h.keep p.block _ e (Or.inl hp)
  rw [World.cell?_of_block (e'.trans e.symm)]; exact hc

/-- The cells of bytes. -/
def byteV (x : UInt8) : Value := .int .u8 x.toNat
def cellsB (bs : List UInt8) : List Value := bs.map byteV
theorem cellsB_length (bs : List UInt8) : (cellsB bs).length = bs.length := by simp [cellsB]
theorem byteV_inj {x y : UInt8} (h : byteV x = byteV y) : x = y := by
  simp only [byteV, Value.int.injEq] at h
  exact UInt8.toNat_inj.1 (by omega)
theorem cellsB_inj : ∀ {a b : List UInt8}, cellsB a = cellsB b → a = b
  | [], [], _ => rfl
  | [], _ :: _, h => by simp [cellsB] at h
  | _ :: _, [], h => by simp [cellsB] at h
  | x :: a, y :: b, h => by
    simp only [cellsB, List.map_cons, List.cons.injEq] at h
    rw [byteV_inj h.1, cellsB_inj (a := a) (b := b) h.2]
theorem oneCell_cellsB (bs : List UInt8) : ∀ u ∈ cellsB bs, u.oneCell' = true := by
  intro u hu
  simp only [cellsB, List.mem_map] at hu
  obtain ⟨x, _, rfl⟩ := hu
  rfl

end Go.Proofs.Ytmkomhdlcbimoaa

/- Laws at the operations for values of many cells (whole structs and arrays by value): the world behind each is a letter of which only what counts is known. No statement of the seat is proved here. -/
namespace Go.Proofs.Ytmkomhdlcbimoaa
set_option maxRecDepth 20000
open Go.RowKit
variable {P : Program}

theorem wpList_value {ops : Array Oper} {rest : List Oper} {o : Oper} {a : Act} {w w1 : World} {Q : Exit → Act → World → Prop} {v : Value} (hgd : o.guard = none)
    (hrun : (execOp a.eval o).run P w = .ok (.value v) w1) (h : wpList P ops Q rest (a.put o.dst v) w1) : wpList P ops Q (o :: rest) a w :=
  wpList_plain hgd fun K hK => by unfold Oper.wp; rw [hrun]; exact hK _ _ h

/-- 'x := T{..}': a struct or an array made anew. -/
theorem wpList_build_eq {ops : Array Oper} {rest : List Oper} {o : Oper} {a : Act} {w : World} {Q : Exit → Act → World → Prop} (hgd : o.guard = none) (ty : TypeId) (parts : Array (Nat × Operand)) (ho : o.op = .build ty parts) (v : Value)
    (hrun : (Instr.build ty (parts.map fun (i, x) => (i, a.eval x))).run P w = .ok v w) (h : wpList P ops Q rest (a.put o.dst v) w) : wpList P ops Q (o :: rest) a w := by
  refine wpList_value hgd (w1 := w) (v := v) ?_ h
  unfold execOp
  simp only [ho, Sem.run_bind, hrun, Result.andThen_ok, Sem.run_pure]

theorem wpList_build1 {ops : Array Oper} {rest : List Oper} {o : Oper} {a : Act} {w : World} {Q : Exit → Act → World → Prop} (hgd : o.guard = none) (ty : TypeId) (k : Nat) (x : Operand) (ho : o.op = .build ty #[(k, x)]) (v0 v : Value) (hx : a.eval x = v0)
    (hrun : (Instr.build ty #[(k, v0)]).run P w = .ok v w) (h : wpList P ops Q rest (a.put o.dst v) w) : wpList P ops Q (o :: rest) a w :=
  wpList_build_eq hgd ty #[(k, x)] ho v (by simpa [hx] using hrun) h

/-- 'var x T' in a block of its own. -/
theorem wpList_alloc_row {ops : Array Oper} {rest : List Oper} {o : Oper} {a : Act} {w : World} {Q : Exit → Act → World → Prop} (hgd : o.guard = none) (ty : TypeId) (ho : o.op = .alloc ty) (z : Array Value)
    (hz : (zeroValue ty).run P w = .ok (.agg z) w)
    (h : ∀ w1, w1.heap[w.heap.size]? = some (.cells z ty (0, 0)) → Below w.heap.size w w1 → w.heap.size < w1.heap.size → wpList P ops Q rest (a.put o.dst (.pointer (some ⟨w.heap.size, 0, none⟩))) w1) : wpList P ops Q (o :: rest) a w := by
  refine wpList_value hgd (w1 := w.alloc (.cells z ty)) ?_ (h _ (heap_alloc_new w _) ((Below.refl _ _).alloc (Nat.le_refl _) _) (by simp))
  unfold execOp
  simp [ho, Instr.alloc, newVar, newRow, Value.cells, hz, go_sem]

/-- A value of many cells boxed. -/
theorem wpList_box_row {ops : Array Oper} {rest : List Oper} {o : Oper} {a : Act} {w : World} {Q : Exit → Act → World → Prop} (hgd : o.guard = none) (ty : TypeId) (x : Operand) (ho : o.op = .box ty x) (cs : Array Value)
    (hx : a.eval x = .agg cs)
    (h : ∀ w1, w1.heap[w.heap.size]? = some (.cells cs ty (0, 0)) → Below w.heap.size w w1 → w.heap.size < w1.heap.size → wpList P ops Q rest (a.put o.dst (.pointer (some ⟨w.heap.size, 0, none⟩))) w1) : wpList P ops Q (o :: rest) a w := by
  refine wpList_value hgd (w1 := w.alloc (.cells cs ty)) ?_ (h _ (heap_alloc_new w _) ((Below.refl _ _).alloc (Nat.le_refl _) _) (by simp))
  unfold execOp
  simp only [ho, hx]
  simp [Instr.box, newVar, newRow, Value.cells, go_sem]

/-- A value of many cells stored into a whole block. -/
theorem wpList_store_row {ops : Array Oper} {rest : List Oper} {o : Oper} {a : Act} {w : World} {Q : Exit → Act → World → Prop} (hgd : o.guard = none) (ty : TypeId) (x y : Operand) (ho : o.op = .store ty x y) (g : Nat) (t : TypeId) (old cs : Array Value)
    (hx : a.eval x = .pointer (some ⟨g, 0, none⟩)) (hy : a.eval y = .agg cs) (hg : w.heap[g]? = some (.cells old t (0, 0))) (hi : (P.info? ty).map (·.size) = some cs.size) (hs : old.size = cs.size) (h1 : cs.all (·.oneCell') = true)
    (h : ∀ w1, w1.heap[g]? = some (.cells cs t (0, 0)) → w.grownBy w1 (some g) → w1.heap.size = w.heap.size → wpList P ops Q rest (a.put o.dst undef) w1) : wpList P ops Q (o :: rest) a w := by
  have hrun := run_storeVar_row (P := P) w g t ty old cs hg hi hs h1
  refine wpList_plain hgd fun K hK => ?_
  unfold Oper.wp execOp
  simp only [ho, hx, hy, Instr.storeAt, Instr.sureAddr, Sem.run_bind, Sem.run_pure, Result.andThen_ok, hrun]
  exact hK _ _ (h _ (setRow_heap w g old cs t _ hg) ⟨rfl, rfl, rfl, by simp, fun k _ hk => setRow_other w g k _ (fun e => hk (by rw [e]))⟩ (by simp))

/-- A whole block, or a part of it, loaded. -/
theorem wpList_load_part {ops : Array Oper} {rest : List Oper} {o : Oper} {a : Act} {w : World} {Q : Exit → Act → World → Prop} (hgd : o.guard = none) (ty : TypeId) (x : Operand) (ho : o.op = .load ty x) (g off : Nat) (t : TypeId) (fz : Nat × Nat) (cur : Array Value) (cs : List Value)
    (hx : a.eval x = .pointer (some ⟨g, off, none⟩)) (hg : w.heap[g]? = some (.cells cur t fz)) (hc : ∀ j v, cs[j]? = some v → cur[off + j]? = some v) (d : TypeDesc) (hu : P.underlying ty = some d) (hd : d.isRow = true) (hi : (P.info? ty).map (·.size) = some cs.length)
    (h : wpList P ops Q rest (a.put o.dst (.agg cs.toArray)) w) : wpList P ops Q (o :: rest) a w :=
  wpList_load_mid hgd ty x ho g off hx cs d (fun j v hv => by rw [cell_of_row w g (off + j) cur t fz hg]; exact hc j v hv) hu hd hi h

/-- 'm[k]'. -/
theorem wpList_lookup_eq {ops : Array Oper} {rest : List Oper} {o : Oper} {a : Act} {w : World} {Q : Exit → Act → World → Prop} (hgd : o.guard = none) (ty : TypeId) (m x : Operand) (c : Bool) (ho : o.op = .lookup ty m x c) (mv key v : Value) (hm : a.eval m = mv) (hx : a.eval x = key)
    (hrun : (Instr.lookup ty mv key c).run P w = .ok v w) (h : wpList P ops Q rest (a.put o.dst v) w) : wpList P ops Q (o :: rest) a w := by
  refine wpList_value hgd (w1 := w) (v := v) ?_ h
  unfold execOp
  simp only [ho, hm, hx, Sem.run_bind, hrun, Result.andThen_ok, Sem.run_pure]

/-- 'make(map[K]V)'. -/
theorem wpList_makeMap {ops : Array Oper} {rest : List Oper} {o : Oper} {a : Act} {w : World} {Q : Exit → Act → World → Prop} (hgd : o.guard = none) (ty : TypeId) (ho : o.op = .makeMap ty none)
    (h : ∀ w1, w1.heap[w.heap.size]? = some (.map #[] 0) → Below w.heap.size w w1 → w.heap.size < w1.heap.size → wpList P ops Q rest (a.put o.dst (.map (some w.heap.size))) w1) : wpList P ops Q (o :: rest) a w := by
  refine wpList_value hgd (w1 := w.alloc (.map #[] 0)) ?_ (h _ (heap_alloc_new w _) ((Below.refl _ _).alloc (Nat.le_refl _) _) (by simp))
  unfold execOp
  simp only [ho, Option.map_none, Sem.run_bind, run_makeMap, Result.andThen_ok, Sem.run_pure]

/-- .. in the still head of a region that draws its order. -/
theorem wpStill_load_row {ops : Array Oper} {rest : List Oper} {o : Oper} {a : Act} {w : World} {Q : Act → Prop} (hgd : o.guard = none) (ty : TypeId) (x : Operand) (ho : o.op = .load ty x) (g : Nat) (t : TypeId) (fz : Nat × Nat) (cs : Array Value)
    (hx : a.eval x = .pointer (some ⟨g, 0, none⟩)) (hg : w.heap[g]? = some (.cells cs t fz)) (d : TypeDesc) (hu : P.underlying ty = some d) (hd : d.isRow = true) (hi : (P.info? ty).map (·.size) = some cs.size)
    (h : wpStill P ops w Q rest (a.put o.dst (.agg cs))) : wpStill P ops w Q (o :: rest) a := by
  refine wpStill_step (fun K hK => ?_)
  rw [if_pos (by simp [Region.wanted, hgd])]
  have hrun := run_loadVar_row (P := P) w g t ty cs fz d hg hu (by cases d <;> simp_all) hi
  unfold Oper.still execOp
  simp only [ho, hx, Instr.loadAt, Instr.sureAddr, Sem.run_bind, Sem.run_pure, Result.andThen_ok, hrun, Oper.stillUpon]
  exact ⟨trivial, hK _ h⟩
end Go.Proofs.Ytmkomhdlcbimoaa

/- Parts of many cells laid into a struct, an array or a new slice. No statement of the seat is proved here. -/
namespace Go.Proofs.Ytmkomhdlcbimoaa
set_option maxRecDepth 20000
open Go.RowKit

theorem fold_set (off : Nat) : ∀ (l : List Value) (s : Nat) (L : List Value), off + s + l.length ≤ L.length →
    (l.zipIdx s).foldl (fun (cs : Array Value) (x : Value × Nat) => cs.setIfInBounds (off + x.2) x.1) L.toArray = (L.take (off + s) ++ (l ++ L.drop (off + s + l.length))).toArray
  | [], s, L, h => by simp
  | c :: l, s, L, h => by
    simp only [List.length_cons] at h
    simp only [List.zipIdx_cons, List.foldl_cons, List.setIfInBounds_toArray]
    rw [fold_set off l (s + 1) (L.set (off + s) c) (by simp; omega)]
    congr 1
    rw [List.take_set, List.drop_set_of_lt (by omega)]
    have e1 : off + (s + 1) = off + s + 1 := by omega
    rw [e1, List.take_succ_eq_append_getElem (by omega), List.set_append]
    rw [if_neg (by simp; omega)]
    simp only [List.length_take]
    rw [Nat.min_eq_left (by omega), Nat.sub_self]
    simp only [List.set_cons_zero, List.append_assoc, List.cons_append, List.nil_append, List.length_cons]
    congr 4
    omega

theorem fill_one {place : Nat → Option (Nat × Nat)} {i off : Nat} {L : List Value} {cs : List Value} (hp : place i = some (off, cs.length)) (h : off + cs.length ≤ L.length) {v : Value} (hv : v.cells = cs.toArray) :
    Instr.fill place L.toArray [(i, v)] = some (splice L off cs).toArray := by
  have hf := fold_set off cs 0 L (by simpa using h)
  simp only [Instr.fill, hp, hv, List.size_toArray]
  rw [if_neg (by simp; omega)]
  have e : cs.toArray.zipIdx = (cs.zipIdx 0).toArray := by simp
  rw [e]
  simp only [List.foldl_toArray', Nat.add_zero] at hf ⊢
  first
    | rw [hf]; rfl
    | (simp only [Instr.fill]; rw [show (List.foldl (fun (x : Array Value) (x_1 : Value × Nat) => match x_1 with | (c, j) => x.setIfInBounds (off + j) c) L.toArray (cs.zipIdx 0)) = _ from hf]; rfl)

theorem splice_all {L cs : List Value} (h : cs.length = L.length) : splice L 0 cs = cs := by simp [splice, h]

/-- '[]T{x}', x of many cells: a new block with its cells. -/
theorem run_buildSlice_one {P : Program} (w : World) (t e : TypeId) (i : TypeInfo) (z : Value) (cs : List Value) (ht : P.underlying t = some (.slice e)) (hi : P.info? e = some i) (hz : i.zero = some z) (hs : i.size = cs.length) (hb : cs.length ≤ 16777216) (h0 : 0 < cs.length) :
    (Instr.buildSlice t 1 #[(0, .agg cs.toArray)]).run P w = .ok (.slice (some ⟨w.heap.size, 0, none⟩) 1 1) (w.alloc (.cells cs.toArray e)) := by
  have hfill : ∀ Z : Array Value, Z.size = cs.length → Instr.fill (fun i => some (i * cs.length, cs.length)) Z [(0, .agg cs.toArray)] = some cs.toArray := by
    intro Z hZ
    have := fill_one (place := fun i => some (i * cs.length, cs.length)) (i := 0) (off := 0) (L := Z.toList) (cs := cs) (by simp) (by simp [hZ]) (v := .agg cs.toArray) rfl
    rw [Array.toArray_toList] at this
    rw [this, splice_all (by simp [hZ])]
  unfold Instr.buildSlice
  simp only [Sem.run_bind, run_underlying ht, Result.andThen_ok, sizeOf, typeInfo, Sem.run_pure, hi, run_program, hs, Nat.one_mul]
  rw [if_neg (by omega), if_neg (by omega)]
  simp only [zeroValue, typeInfo, Sem.run_bind, Sem.run_pure, Result.andThen_ok, hi, hz, run_program]
  rw [hfill _ (by simp)]
  simp [newRow, go_sem]

/-! ### a region that draws its order: two loads, and a new block that waits for the second alone -/
theorem step_value {P : Program} {ops : Array Oper} {o : Oper} {a : Act} {w w1 : World} {K : Act → World → Prop} {Q : Exit → Act → World → Prop} {E : Prop} {v : Value} (hgd : o.guard = none)
    (hrun : (execOp a.eval o).run P w = .ok (.value v) w1) (h : K (a.put o.dst v) w1) : if Region.wanted o (yielded ops a.tmps) = true then Oper.wp P o a w K Q else E := by
  rw [if_pos (by simp [Region.wanted, hgd])]
  unfold Oper.wp
  rw [hrun]; exact h
theorem step_skip {P : Program} {ops : Array Oper} {o : Oper} {a : Act} {w w1 : World} {K : Act → World → Prop} {Q : Exit → Act → World → Prop} {E : Prop} (hgd : o.guard = none)
    (hrun : (execOp a.eval o).run P w = .ok .skip w1) (h : K (a.put o.dst undef) w1) : if Region.wanted o (yielded ops a.tmps) = true then Oper.wp P o a w K Q else E := by
  rw [if_pos (by simp [Region.wanted, hgd])]
  unfold Oper.wp
  rw [hrun]; exact h
/-- An operation that yields in whatever world is taken first. -/
theorem wpAny_take_d {P : Program} {md : Region.Mode} {ops : Array Oper} {Q : Exit → Act → World → Prop} {fuel : Nat} {L : Array Bool} {a : Act} {w : World} (i : Nat) (d : Option Tmp) (v : Value) {o : Oper} (hi : ops[i]? = some o) (hs : Region.noSelect ops = true) (hf : Region.free md ops L i = true)
    (hr : (Region.ready md ops L).contains i = true) (hgd : o.guard = none) (hd : o.dst = d) (hQ : ∀ c a w, Q (.panic c) (a.put d v) w → Q (.panic c) a w) (hy : ∀ w, (execOp a.eval o).run P w = .ok (.value v) w)
    (h : wpAny P md ops Q fuel (L.setIfInBounds i true) (a.put d v) w) : wpAny P md ops Q (fuel + 1) L a w := by
  subst hd
  exact wpAny_take hi hs hf hr hQ (Or.inl ⟨by simp [Region.wanted, hgd], hy⟩) h
/-- One operation alone may come up. -/
theorem wpAny_one {P : Program} {md : Region.Mode} {ops : Array Oper} {Q : Exit → Act → World → Prop} {fuel : Nat} {L : Array Bool} {a : Act} {w w1 : World} (i : Nat) (d : Option Tmp) {o : Oper} (hi : ops[i]? = some o) (hr : Region.ready md ops L = [i]) {v : Value} (hgd : o.guard = none) (hd : o.dst = d)
    (hrun : (execOp a.eval o).run P w = .ok (.value v) w1) (h : wpAny P md ops Q fuel (L.setIfInBounds i true) (a.put d v) w1) : wpAny P md ops Q (fuel + 1) L a w := by
  subst hd
  exact wpAny_ready hr (by simp) (AllReady.cons hi (fun _ hK => step_value hgd hrun (hK _ _ h)) AllReady.nil)
theorem wpAny_one_skip {P : Program} {md : Region.Mode} {ops : Array Oper} {Q : Exit → Act → World → Prop} {fuel : Nat} {L : Array Bool} {a : Act} {w w1 : World} (i : Nat) {o : Oper} (hi : ops[i]? = some o) (hr : Region.ready md ops L = [i]) (hgd : o.guard = none)
    (hrun : (execOp a.eval o).run P w = .ok .skip w1) (h : wpAny P md ops Q fuel (L.setIfInBounds i true) (a.put o.dst undef) w1) : wpAny P md ops Q (fuel + 1) L a w :=
  wpAny_ready hr (by simp) (AllReady.cons hi (fun _ hK => step_skip hgd hrun (hK _ _ h)) AllReady.nil)
theorem wpAny_two_loads {P : Program} {md : Region.Mode} {ops : Array Oper} {Q : Exit → Act → World → Prop} {fuel : Nat} {L : Array Bool} {a : Act} {w w6 : World} (i4 i5 i6 : Nat) (x4 x5 x6 : Option Tmp) {o4 o5 o6 : Oper} (h4 : ops[i4]? = some o4) (h5 : ops[i5]? = some o5) (h6 : ops[i6]? = some o6)
    (g4 : o4.guard = none) (g5 : o5.guard = none) (g6 : o6.guard = none) (n45 : i4 ≠ i5) (n46 : i4 ≠ i6) (y4 : o4.dst = x4) (y5 : o5.dst = x5) (y6 : o6.dst = x6) (d45 : ∀ d, x4 = some d → x5 ≠ some d) (d46 : ∀ d, x4 = some d → x6 ≠ some d)
    (r0 : Region.ready md ops L = [i4, i5]) (r4 : Region.ready md ops (L.setIfInBounds i4 true) = [i5]) (r45 : Region.ready md ops ((L.setIfInBounds i4 true).setIfInBounds i5 true) = [i6])
    (r5 : Region.ready md ops (L.setIfInBounds i5 true) = [i4, i6]) (r56 : Region.ready md ops ((L.setIfInBounds i5 true).setIfInBounds i6 true) = [i4])
    {v4 v5 v6 : Value} (e4 : (execOp a.eval o4).run P w = .ok (.value v4) w) (e5 : (execOp a.eval o5).run P w = .ok (.value v5) w)
    (e45 : (execOp (a.put x4 v4).eval o5).run P w = .ok (.value v5) w) (e54 : (execOp (a.put x5 v5).eval o4).run P w = .ok (.value v4) w)
    (e456 : (execOp ((a.put x4 v4).put x5 v5).eval o6).run P w = .ok (.value v6) w6) (e56 : (execOp (a.put x5 v5).eval o6).run P w = .ok (.value v6) w6)
    (e564 : (execOp ((a.put x5 v5).put x6 v6).eval o4).run P w6 = .ok (.value v4) w6)
    (h : wpAny P md ops Q fuel (((L.setIfInBounds i4 true).setIfInBounds i5 true).setIfInBounds i6 true) (((a.put x4 v4).put x5 v5).put x6 v6) w6) : wpAny P md ops Q (fuel + 3) L a w := by
  subst y4
  subst y5
  subst y6
  have c54 : (a.put o5.dst v5).put o4.dst v4 = (a.put o4.dst v4).put o5.dst v5 := (Act.put_comm a v4 v5 d45).symm
  have c64 : ((a.put o5.dst v5).put o6.dst v6).put o4.dst v4 = ((a.put o4.dst v4).put o5.dst v5).put o6.dst v6 := by
    rw [← Act.put_comm _ v4 v6 d46, c54]
  have L54 : (L.setIfInBounds i5 true).setIfInBounds i4 true = (L.setIfInBounds i4 true).setIfInBounds i5 true := Array.setIfInBounds_comm _ _ (Ne.symm n45)
  have L64 : ((L.setIfInBounds i5 true).setIfInBounds i6 true).setIfInBounds i4 true = ((L.setIfInBounds i4 true).setIfInBounds i5 true).setIfInBounds i6 true := by
    rw [Array.setIfInBounds_comm _ _ (Ne.symm n46), L54]
  refine wpAny_ready r0 (by simp) (AllReady.cons h4 (fun K hK => step_value g4 e4 (hK _ _ ?_)) (AllReady.cons h5 (fun K hK => step_value g5 e5 (hK _ _ ?_)) AllReady.nil))
  · exact wpAny_one i5 _ h5 r4 g5 rfl e45 (wpAny_one i6 _ h6 r45 g6 rfl e456 h)
  · refine wpAny_ready r5 (by simp) (AllReady.cons h4 (fun K hK => step_value g4 e54 (hK _ _ ?_)) (AllReady.cons h6 (fun K hK => step_value g6 e56 (hK _ _ ?_)) AllReady.nil))
    · rw [L54, c54]; exact wpAny_one i6 _ h6 r45 g6 rfl e456 h
    · refine wpAny_one i4 _ h4 r56 g4 rfl e564 ?_
      rw [L64, c64]; exact h
/-- The runs of the operations, said of the operand's value alone. -/
theorem exec_load_cell {P : Program} {w : World} {ρ : Operand → Value} {o : Oper} {ty : TypeId} {x : Operand} {p : Addr} {v : Value} {d : TypeDesc} (ho : o.op = .load ty x) (hx : ρ x = .pointer (some p)) (hc : w.cell? p = some v) (hu : P.underlying ty = some d) (hd : d.isRow = false) :
    (execOp ρ o).run P w = .ok (.value v) w := by
  unfold execOp
  have ha : (isAgg ty).run P w = .ok false w := by
    unfold isAgg
    rw [Sem.run_bind, run_underlying hu w]
    cases d <;> simp_all
  simp [ho, hx, Instr.loadAt, Instr.sureAddr, loadVar, ha, run_load, hc]
theorem exec_load_row {P : Program} {w : World} {ρ : Operand → Value} {o : Oper} {ty : TypeId} {x : Operand} {g : Nat} {t : TypeId} {fz : Nat × Nat} {cs : Array Value} {d : TypeDesc} (ho : o.op = .load ty x) (hx : ρ x = .pointer (some ⟨g, 0, none⟩)) (hg : w.heap[g]? = some (.cells cs t fz)) (hu : P.underlying ty = some d) (hd : d.isRow = true)
    (hi : (P.info? ty).map (·.size) = some cs.size) : (execOp ρ o).run P w = .ok (.value (.agg cs)) w := by
  have hrun := run_loadVar_row (P := P) w g t ty cs fz d hg hu (by cases d <;> simp_all) hi
  unfold execOp
  simp only [ho, hx, Instr.loadAt, Instr.sureAddr, Sem.run_bind, Sem.run_pure, Result.andThen_ok, hrun]
theorem exec_buildSlice_one {P : Program} {w : World} {ρ : Operand → Value} {o : Oper} {t : TypeId} {x : Operand} {cs : List Value} (ho : o.op = .buildSlice t 1 #[(0, x)]) (hx : ρ x = .agg cs.toArray) {w1 : World} {v : Value}
    (hrun : (Instr.buildSlice t 1 #[(0, .agg cs.toArray)]).run P w = .ok v w1) : (execOp ρ o).run P w = .ok (.value v) w1 := by
  unfold execOp
  simp [ho, hx, hrun]
theorem exec_store_cell {P : Program} {w : World} {ρ : Operand → Value} {o : Oper} {ty : TypeId} {x y : Operand} {p : Addr} {u v : Value} (ho : o.op = .store ty x y) (hx : ρ x = .pointer (some p)) (hy : ρ y = v) (hv : v.oneCell' = true) (hc : w.cell? p = some u) (hf : w.frozen? p = false)
    (hi : (P.info? ty).map (·.size) = some 1) : (execOp ρ o).run P w = .ok .skip (w.setCell p v) := by
  have hcs : v.cells = #[v] := by cases v <;> first | rfl | (simp [Value.oneCell'] at hv)
  have hadd : p.add 0 = p := rfl
  cases hq : P.info? ty with
  | none => simp [hq] at hi
  | some i =>
    have hs : i.size = 1 := by simpa [hq] using hi
    unfold execOp
    simp [ho, hx, hy, Instr.storeAt, Instr.sureAddr, storeVar, sizeOf, typeInfo, hq, hs, hcs, storeCells, hadd, run_store _ _ _ _ _ hv, hc, hf]
theorem exec_append {P : Program} {w w1 : World} {ρ : Operand → Value} {o : Oper} {t : TypeId} {s x : Operand} {v0 v1 v : Value} (ho : o.op = .call { callee := .builtin .append, args := #[s, x], argTypes := #[t, t] }) (hs : ρ s = v0) (hx : ρ x = v1)
    (hrun : (Builtin.append_ #[t, t] o.type #[v0, v1]).run P w = .ok v w1) : (execOp ρ o).run P w = .ok (.value v) w1 := by
  unfold execOp
  simp only [ho, resolve, invoke, builtin, Sem.run_bind, Sem.run_pure, Result.andThen_ok, List.map_toArray, List.map_cons, List.map_nil, hs, hx, hrun]
end Go.Proofs.Ytmkomhdlcbimoaa

/- Slices of bytes, as they came in and of one's own; texts of them. No statement of the seat is proved here. -/
namespace Go.Proofs.Ytmkomhdlcbimoaa
set_option maxRecDepth 20000
open Go.RowKit

theorem mixed : Try.prog.follows .mixedOrders = true := by kernel_rfl
/-- A slice of bytes that reads as bs in w. -/
def BytesAt (w : World) (v : Value) (bs : List UInt8) : Prop :=
  ∃ ao cap, v = .slice ao bs.length cap ∧ bs.length ≤ maxLen ∧ (0 < bs.length → ∃ b off cs fz, ao = some ⟨b, off, none⟩ ∧ w.heap[b]? = some (.cells cs 5 fz) ∧ ∀ i, i < bs.length → cs[off + i]? = some (byteV (bs.getD i 0)))
theorem BytesAt.fr {K : Obj → Bool} {B : Nat} {w w' : World} {v : Value} {bs : List UInt8} (h : BytesAt w v bs) (hf : Fr K B w w') (hK : ∀ cs fz, K (.cells cs 5 fz) = false) : BytesAt w' v bs := by
  obtain ⟨ao, cap, hv, hl, hc⟩ := h
  refine ⟨ao, cap, hv, hl, fun h0 => ?_⟩
  obtain ⟨b, off, cs, fz, h1, h2, h3⟩ := hc h0
  exact ⟨b, off, cs, fz, h1, hf.keep _ _ h2 (Or.inr (hK _ _)), h3⟩
theorem BytesAt.below {w w' : World} {v : Value} {bs : List UInt8} (h : BytesAt w v bs) (hb : Below w.heap.size w w') : BytesAt w' v bs :=
  h.fr (K := fun _ => false) (B := 0) (Fr.of_below hb) (fun _ _ => rfl)
theorem BytesAt.src {w : World} {ao : Option Addr} {n cap : Nat} {bs : List UInt8} (h : BytesAt w (.slice ao n cap) bs) (h0 : 0 < (cellsB bs).length) : ∃ ad, ao = some ad ∧ ∀ j v, (cellsB bs)[j]? = some v → w.cell? (ad.add j) = some v := by
  obtain ⟨ao', cap', hv, hl, hc⟩ := h
  rw [cellsB_length] at h0
  obtain ⟨b, off, cs, fz, h1, h2, h3⟩ := hc h0
  cases hv
  refine ⟨_, h1, fun j v hj => ?_⟩
  have hjl : j < bs.length := by have := (List.getElem?_eq_some_iff.1 hj).1; rwa [cellsB_length] at this
  rw [Addr.add_mid, cell_of_row w b (off + j) cs _ fz h2, h3 j hjl]
  simp only [cellsB, List.getElem?_map] at hj
  rw [← hj, List.getElem?_eq_getElem hjl, List.getD_eq_getElem?_getD, List.getElem?_eq_getElem hjl]; rfl
theorem sz5 : (Try.prog.info? 5).map (·.size) = some 1 := by kernel_rfl
theorem ownsRow_of_row {w w' : World} {base : Nat} {e : TypeId} {size : Nat} {v : Value} {n : Nat} {xs : List Value} (ho : w.ownsRow base e size v n xs) (hk : ∀ (k : Nat) cs, w.heap[k]? = some (.cells cs e (0, 0)) → w'.heap[k]? = some (.cells cs e (0, 0))) : w'.ownsRow base e size v n xs := by
  refine ⟨ho.1, ?_⟩
  rcases ho.2 with h2 | ⟨g, cap, cur, hv, hg, hh, r⟩
  · exact Or.inl h2
  · exact Or.inr ⟨g, cap, cur, hv, hg, hk _ _ hh, r⟩
theorem row_keep {K : Obj → Bool} {B B' : Nat} {w w' : World} {e : TypeId} {size : Nat} {v : Value} {n : Nat} {xs : List Value} (ho : w.ownsRow B e size v n xs) (hf : Fr K B' w w') (hK : ∀ cs, K (.cells cs e (0, 0)) = false) : w'.ownsRow B e size v n xs :=
  ownsRow_of_row ho (fun _ _ hh => hf.keep _ _ hh (Or.inr (hK _)))

/-- A slice of the call's own that holds bs. -/
def OwnB (base : Nat) (w : World) (v : Value) (bs : List UInt8) : Prop := w.ownsRow base 5 1 v bs.length (cellsB bs)
theorem OwnB.bytes {base : Nat} {w : World} {v : Value} {bs : List UInt8} (h : OwnB base w v bs) (hl : bs.length ≤ maxLen) : BytesAt w v bs := by
  rcases h.2 with ⟨h1, h2⟩ | ⟨g, cap, cur, hv, _, hg, _, _, _, htake⟩
  · exact ⟨none, 0, by rw [h1, h2], hl, fun h0 => by omega⟩
  · refine ⟨_, cap, hv, hl, fun h0 => ⟨g, 0, cur, (0, 0), rfl, hg, fun i hi => ?_⟩⟩
    have : (cellsB bs)[i]? = some (byteV (bs.getD i 0)) := by
      simp only [cellsB, List.getElem?_map, List.getElem?_eq_getElem hi, Option.map_some, List.getD_eq_getElem?_getD, Option.getD_some]
    rw [← htake, List.getElem?_take] at this
    split at this
    · simpa using this
    · cases this
theorem info5 : (Try.prog.info? 5).map (fun i => (i.zero, i.size, i.bytes)) = some (some (.int .u8 0), 1, 1) := by kernel_rfl

/-- Bytes of one's own are told as a text. -/
def strOf (bs : List UInt8) : ByteArray := ⟨bs.toArray⟩
set_option maxRecDepth 20000 in
theorem run_string {w : World} {base : Nat} {v : Value} {bs : List UInt8} (h : OwnB base w v bs) : (convert 36 9 v).run Try.prog w = .ok (.string (strOf bs)) w := by
  rcases h.2 with ⟨h1, h2⟩ | ⟨g, cap, cur, hv, _, hg, _, _, _, htake⟩
  · have hb : bs = [] := List.eq_nil_of_length_eq_zero h2
    subst hb
    rw [h1]
    exact run_convert_bytes_nil (P := Try.prog) w 36 5 Try.underlying36 Try.underlying5 0 0 9 Try.underlying9
  · rw [hv]
    have := run_convert_bytes_arg (P := Try.prog) w 36 5 Try.underlying36 Try.underlying5 g 0 bs.length cap (bs.map fun x => (x.toNat : Int)) (by simp) (fun i hi => by
      rw [cell_of_row w g (0 + i) cur _ _ hg, Nat.zero_add]
      have hc : (cellsB bs)[i]? = some (byteV (bs.getD i 0)) := by
        simp only [cellsB, List.getElem?_map, List.getElem?_eq_getElem hi, Option.map_some, List.getD_eq_getElem?_getD, Option.getD_some]
      rw [← htake, List.getElem?_take, Nat.mul_one, if_pos hi] at hc
      have hc' : cur[i]? = some (byteV (bs.getD i 0)) := by simpa using hc
      rw [hc']
      simp [byteV, List.getD_eq_getElem?_getD, List.getElem?_eq_getElem hi]) 9 Try.underlying9
    rw [this]
    congr 2
    simp [strOfNums, strOf, Function.comp_def]

end Go.Proofs.Ytmkomhdlcbimoaa

/- Bytes of numbers: plain mathematics. No statement of the seat is proved here. -/
namespace Go.Proofs.Ytmkomhdlcbimoaa
set_option maxRecDepth 20000

/-- the number whose bytes are l, the lowest first -/
def le : List UInt8 → Nat
  | [] => 0
  | c :: r => c.toNat + 256 * le r
/-- k bytes of n, the lowest first -/
def lowB (n i : Nat) : UInt8 := UInt8.ofNat (n / 2 ^ (8 * i))
def low (n k : Nat) : List UInt8 := (List.range k).map (lowB n)

theorem low_zero (n : Nat) : low n 0 = [] := rfl
theorem low_succ (n k : Nat) : low n (k + 1) = low n k ++ [lowB n k] := by
  simp [low, List.range_succ]
theorem low_length (n k : Nat) : (low n k).length = k := by simp [low]
theorem le_snoc (l : List UInt8) (c : UInt8) : le (l ++ [c]) = le l + c.toNat * 2 ^ (8 * l.length) := by
  induction l with
  | nil => simp [le]
  | cons a r ih =>
    simp only [List.cons_append, le, ih, List.length_cons]
    rw [show 8 * (r.length + 1) = 8 * r.length + 8 by omega, Nat.pow_add]
    have : (2 : Nat) ^ 8 = 256 := by decide
    rw [this, Nat.mul_add, ← Nat.mul_assoc (c.toNat), Nat.mul_comm _ 256]; omega
theorem le_lt (l : List UInt8) : le l < 2 ^ (8 * l.length) := by
  induction l with
  | nil => simp [le]
  | cons a r ih =>
    simp only [le, List.length_cons]
    rw [show 8 * (r.length + 1) = 8 * r.length + 8 by omega, Nat.pow_add]
    have h : (2 : Nat) ^ 8 = 256 := by decide
    have := a.toNat_lt
    rw [h]; omega
theorem le_inj {l m : List UInt8} (hl : l.length = m.length) (h : le l = le m) : l = m := by
  induction l generalizing m with
  | nil => cases m with
    | nil => rfl
    | cons b s => simp at hl
  | cons a r ih => cases m with
    | nil => simp at hl
    | cons b s =>
      simp only [le] at h
      have ha := a.toNat_lt
      have hb := b.toNat_lt
      have e1 : a.toNat = b.toNat := by omega
      have e2 : le r = le s := by omega
      rw [UInt8.toNat_inj.1 e1, ih (by simpa using hl) e2]
theorem le_low (n k : Nat) : le (low n k) = n % 2 ^ (8 * k) := by
  induction k with
  | zero => simp [low, le, Nat.mod_one]
  | succ k ih =>
    rw [low_succ, le_snoc, ih, low_length]
    unfold lowB
    rw [show 8 * (k + 1) = 8 * k + 8 by omega, Nat.pow_add, Nat.mod_mul, UInt8.toNat_ofNat']
    rw [Nat.mul_comm (2 ^ (8 * k))]
theorem low_le (l : List UInt8) : low (le l) l.length = l := by
  refine le_inj (low_length _ _) ?_
  rw [le_low, Nat.mod_eq_of_lt (le_lt l)]
theorem take_snoc' (l : List UInt8) (k : Nat) (h : k < l.length) : l.take (k + 1) = l.take k ++ [l.getD k 0] := by
  rw [List.take_succ_eq_append_getElem h, List.getD_eq_getElem?_getD, List.getElem?_eq_getElem h]; rfl
/-- a byte, as a number -/
def byteAt (l : List UInt8) (k : Nat) : Nat := (l.getD k 0).toNat
theorem byteAt_le (l : List UInt8) (k : Nat) : byteAt l k ≤ 255 := by unfold byteAt; have := (l.getD k 0).toNat_lt; omega
theorem byteAt_zero (l : List UInt8) (k : Nat) : byteAt l k = 0 ↔ l.getD k 0 = 0 := by
  unfold byteAt
  constructor
  · intro h; exact UInt8.toNat_inj.1 (by rw [h]; rfl)
  · intro h; rw [h]; rfl
theorem le_take (l : List UInt8) (k : Nat) (h : k < l.length) : le (l.take (k + 1)) = le (l.take k) + byteAt l k * 2 ^ (8 * k) := by
  unfold byteAt
  rw [take_snoc' l k h, le_snoc, List.length_take, Nat.min_eq_left (by omega)]
theorem le_take_lt (l : List UInt8) (k : Nat) (h : k ≤ l.length) : le (l.take k) < 2 ^ (8 * k) := by
  have := le_lt (l.take k); rwa [List.length_take, Nat.min_eq_left h] at this
/-- putting the next byte in by 'or' is adding it -/
theorem or_byte (a c k : Nat) (ha : a < 2 ^ (8 * k)) : a ||| c * 2 ^ (8 * k) = a + c * 2 ^ (8 * k) := by
  rw [Nat.or_comm, Nat.mul_comm, ← Nat.two_pow_add_eq_or_of_lt ha, Nat.add_comm]
theorem byte_fits (c : Nat) (k : Nat) (hc : c ≤ 255) (h : k < 8) : c * 2 ^ (8 * k) < 18446744073709551616 := by
  have hp : 2 ^ (8 * k) ≤ 2 ^ 56 := Nat.pow_le_pow_right (by decide) (by omega)
  have : c * 2 ^ (8 * k) ≤ 255 * 2 ^ 56 := Nat.mul_le_mul hc hp
  have e : 255 * 2 ^ 56 < 18446744073709551616 := by decide
  omega
theorem sum_fits (l : List UInt8) (k : Nat) (h : k < l.length) (h8 : l.length ≤ 8) : le (l.take (k + 1)) < 18446744073709551616 := by
  have := le_take_lt l (k + 1) h
  have hp : 2 ^ (8 * (k + 1)) ≤ 2 ^ 64 := Nat.pow_le_pow_right (by decide) (by omega)
  have e : (2 : Nat) ^ 64 = 18446744073709551616 := by decide
  omega
end Go.Proofs.Ytmkomhdlcbimoaa

/- The contracts of pack's small calls on bytes. No statement of the seat is proved here. -/
namespace Go.Proofs.Ytmkomhdlcbimoaa
set_option maxRecDepth 20000
open Go.RowKit

/-- A slice that reads as bytes in w, cell by cell. -/
def ByC (w : World) (v : Value) (bs : List UInt8) : Prop :=
  ∃ ao cap, v = .slice ao bs.length cap ∧ bs.length ≤ maxLen ∧ (0 < bs.length → ∃ b off, ao = some ⟨b, off, none⟩ ∧ ∀ i, i < bs.length → w.cell? ⟨b, off + i, none⟩ = some (byteV (bs.getD i 0)))
theorem BytesAt.c {w : World} {v : Value} {bs : List UInt8} (h : BytesAt w v bs) : ByC w v bs := by
  obtain ⟨ao, cap, hv, hl, hc⟩ := h
  refine ⟨ao, cap, hv, hl, fun h0 => ?_⟩
  obtain ⟨b, off, cs, fz, h1, h2, h3⟩ := hc h0
  exact ⟨b, off, h1, fun i hi => by rw [cell_of_row w b (off + i) cs _ fz h2, h3 i hi]⟩
theorem ByC.below {w w' : World} {v : Value} {bs : List UInt8} (h : ByC w v bs) (hb : Below w.heap.size w w') : ByC w' v bs := by
  obtain ⟨ao, cap, hv, hl, hc⟩ := h
  refine ⟨ao, cap, hv, hl, fun h0 => ?_⟩
  obtain ⟨b, off, h1, h2⟩ := hc h0
  exact ⟨b, off, h1, fun i hi => (hb.cell (World.block_lt_of_cell? w _ (h2 i hi))).trans (h2 i hi)⟩
/-- a cell of bytes -/
theorem ByC.get {w : World} {ao : Option Addr} {n cap : Nat} {bs : List UInt8} (h : ByC w (.slice ao n cap) bs) {k : Nat} (hk : k < bs.length) : ∃ b off, ao = some ⟨b, off, none⟩ ∧ w.cell? ⟨b, off + k, none⟩ = some (.int .u8 (byteAt bs k : Nat)) := by
  obtain ⟨ao', cap', hv, _, hc⟩ := h
  cases hv
  obtain ⟨b, off, h1, h3⟩ := hc (by omega)
  exact ⟨b, off, h1, by rw [h3 k hk]; rfl⟩
set_option maxRecDepth 20000 in
theorem run_string_c {w : World} {v : Value} {bs : List UInt8} (h : ByC w v bs) : (convert 36 9 v).run Try.prog w = .ok (.string (strOf bs)) w := by
  obtain ⟨ao, cap, rfl, hl, hc⟩ := h
  by_cases h0 : 0 < bs.length
  · obtain ⟨g, off, rfl, hat⟩ := hc h0
    have := run_convert_bytes_arg (P := Try.prog) w 36 5 Try.underlying36 Try.underlying5 g off bs.length cap (bs.map fun x => (x.toNat : Int)) (by simp) (fun i hi => by
      rw [hat i hi]
      simp [byteV, List.getD_eq_getElem?_getD, List.getElem?_eq_getElem hi]) 9 Try.underlying9
    rw [this]
    congr 2
    simp [strOfNums, strOf, Function.comp_def]
  · have hb : bs = [] := List.eq_nil_of_length_eq_zero (by omega)
    subst hb
    cases ao with
    | none => exact run_convert_bytes_nil (P := Try.prog) w 36 5 Try.underlying36 Try.underlying5 _ _ 9 Try.underlying9
    | some a =>
      obtain ⟨g, off, sp⟩ := a
      simp [convert, Conv.bytesToString, loadCells, run_underlying Try.underlying36, run_underlying Try.underlying9, run_underlying Try.underlying5, Result.andThen, strOf]
      rfl
theorem ByC.form {w : World} {v : Value} {bs : List UInt8} (h : ByC w v bs) : ∃ ao cap, v = .slice ao bs.length cap ∧ bs.length ≤ 9223372036854775807 := by
  obtain ⟨ao, cap, hv, hl, _⟩ := h
  exact ⟨ao, cap, hv, by unfold maxLen at hl; omega⟩

theorem wrap_nat (n : Nat) (h : n < 18446744073709551616) : IntKind.u64.wrap (n : Int) = n := by rw [IntKind.wrap_u64]; omega
set_option maxHeartbeats 400000 in
theorem noughts_any {w : World} {v : Value} {bs : List UInt8} (h : ByC w v bs) : Calls Try.prog 69 #[v] w fun e w' => e = .returned (.bool (bs.all (· == 0))) ∧ w = w' := by
  obtain ⟨ao, cap, rfl, hl⟩ := h.form
  have hh := h
  go_enter Try.func69, Try.ntmps69
  go_wp2
  go_loop [7] (fun i => ∃ k : Nat, k ≤ bs.length ∧ i = .int .i64 k ∧ Hid (∀ j, j < k → bs.getD j 0 = 0)) (fun i => bs.length - (intOf i).toNat)
  case atStart => exact ⟨0, Nat.zero_le _, rfl, Lib.hid (fun j hj => by omega)⟩
  case round =>
    obtain ⟨k, hk, rfl, hz⟩ := hrel
    by_cases hlt : k < bs.length
    · obtain ⟨b, off, rfl, hcell⟩ := hh.get hlt
      by_cases h0 : bs.getD k 0 = 0
      · have h0' : (((byteAt bs k : Nat) : Int) != 0) = false := by rw [(byteAt_zero bs k).2 h0]; rfl
        go_wp2
        go_round
        case rel => exact ⟨k + 1, by omega, by go_num, Lib.hid (fun j hj => by
            by_cases e : j = k
            · subst e; exact h0
            · exact hz.out j (by omega))⟩
        case measure => first | (simp [intOf]; omega) | omega
      · have h0' : (((byteAt bs k : Nat) : Int) != 0) = true := by
          have : byteAt bs k ≠ 0 := fun e => h0 ((byteAt_zero bs k).1 e)
          simp; omega
        have hf : bs.all (· == 0) = false := by
          rw [List.all_eq_false]
          refine ⟨bs.getD k 0, ?_, by simpa using h0⟩
          rw [List.getD_eq_getElem?_getD, List.getElem?_eq_getElem hlt]; exact List.getElem_mem _
        have HF := Lib.hid hf
        clear hf h0
        go_wp2
        go_ret
        exact ⟨by rw [HF.out]; rfl, rfl⟩
    · have hf : bs.all (· == 0) = true := by
        rw [List.all_eq_true]
        intro x hx
        obtain ⟨j, hj, rfl⟩ := List.mem_iff_getElem.1 hx
        have := hz.out j (by omega)
        rw [List.getD_eq_getElem?_getD, List.getElem?_eq_getElem hj] at this
        simpa using this
      have HF := Lib.hid hf
      clear hf
      go_wp2
      go_ret
      exact ⟨by rw [HF.out]; rfl, rfl⟩

set_option maxHeartbeats 400000 in
theorem readLow_any {w : World} {v : Value} {bs : List UInt8} (h : ByC w v bs) (h8 : bs.length ≤ 8) : Calls Try.prog 68 #[v] w fun e w' => e = .returned (.int .u64 (le bs)) ∧ w = w' := by
  obtain ⟨ao, cap, rfl, hl⟩ := h.form
  have hh := h
  go_enter Try.func68, Try.ntmps68
  go_wp2
  go_loop [3, 8] (fun n i => ∃ k : Nat, k ≤ bs.length ∧ i = .int .i64 k ∧ n = .int .u64 (le (bs.take k))) (fun _ i => bs.length - (intOf i).toNat)
  case atStart => exact ⟨0, Nat.zero_le _, rfl, by simp [le]⟩
  case round =>
    obtain ⟨k, hk, rfl, rfl⟩ := hrel
    by_cases hlt : k < bs.length
    · obtain ⟨b, off, rfl, hcell⟩ := hh.get hlt
      have hb := byteAt_le bs k
      have hf := byte_fits (byteAt bs k) k hb (by omega)
      have e1 : IntKind.u64.wrap ((byteAt bs k : Int) * 2 ^ (8 * k)) = ((byteAt bs k * 2 ^ (8 * k) : Nat) : Int) := by
        have e : ((byteAt bs k : Int) * (2 : Int) ^ (8 * k)) = ((byteAt bs k * 2 ^ (8 * k) : Nat) : Int) := by rw [Int.natCast_mul, Int.natCast_pow]; rfl
        rw [e]; exact wrap_nat _ hf
      have hs := sum_fits bs k hlt h8
      have ht := le_take bs k hlt
      have e2 : bits .or .u64 (le (bs.take k) : Int) ((byteAt bs k * 2 ^ (8 * k) : Nat) : Int) = (le (bs.take (k + 1)) : Int) := by
        rw [u64_or_nat _ _ (by omega) hf, or_byte _ _ _ (le_take_lt bs k hk), ← ht]
      have E1 := Lib.hid e1
      have E2 := Lib.hid e2
      clear e1 e2 ht hs hf
      go_wp2
      go_round
      case rel => exact ⟨k + 1, by omega, by go_num, by rw [E1.out, E2.out]⟩
      case measure => first | (simp [intOf]; omega) | omega
    · go_wp2
      go_ret
      exact ⟨by rw [List.take_of_length_le (by omega)]; rfl, rfl⟩

/-! ### append onto bytes of one's own -/
theorem OwnB.form {base : Nat} {w : World} {v : Value} {bs : List UInt8} (h : OwnB base w v bs) : ∃ ao cap, v = .slice ao bs.length cap ∧ bs.length ≤ cap ∧ bs.length ≤ maxLen := by
  rcases h.2 with ⟨h1, h2⟩ | ⟨g, cap, cur, hv, hb, hg, hn, hm, hs, htake⟩
  · exact ⟨none, 0, by rw [h1, h2], by omega, by rw [h2]; exact Nat.zero_le _⟩
  · exact ⟨_, cap, hv, hn, Nat.le_trans hn hm⟩
theorem OwnB.form' {base : Nat} {w : World} {v : Value} {bs : List UInt8} (h : OwnB base w v bs) : ∃ ao m cap, v = .slice ao m cap ∧ Hid (m = bs.length) := by
  obtain ⟨ao, cap, hv, _, _⟩ := h.form
  exact ⟨ao, _, cap, hv, Lib.hid rfl⟩
theorem OwnB.alloc {base : Nat} {w : World} {v : Value} {bs : List UInt8} (h : OwnB base w v bs) (o : Obj) : OwnB base (w.alloc o) v bs := World.ownsRow.alloc h o
theorem OwnB.at {base : Nat} {w : World} {v : Value} {bs : List UInt8} (h : OwnB base w v bs) : ByC w v bs := (h.bytes (by obtain ⟨_, _, _, _, h2⟩ := h.form; exact h2)).c
theorem OwnB.nil (base : Nat) (w : World) : OwnB base w (.slice none 0 0) [] := World.ownsRow_nil w base 5 1
theorem below_grown {base : Nat} {w w' : World} {v : Value} {bs : List UInt8} (h : OwnB base w v bs) (hb : base ≤ w.heap.size) (hg : w.grownBy w' v.ownBlock) : Below base w w' :=
  (Below.refl _ _).grown hg hb (fun k hk => (World.ownsRow.lt h k hk).1)
theorem cellsB_one (bs : List UInt8) : ∀ u ∈ cellsB bs, u.oneCell' = true := by
  intro u hu
  simp only [cellsB, List.mem_map] at hu
  obtain ⟨x, _, rfl⟩ := hu
  rfl
theorem info5' : ∃ i, Try.prog.info? 5 = some i ∧ i.zero = some (.int .u8 0) ∧ i.size = 1 ∧ i.bytes = 1 := by
  have h := info5
  cases hq : Try.prog.info? 5 with
  | none => rw [hq] at h; simp at h
  | some i => rw [hq] at h; simp at h; exact ⟨i, rfl, h.1, h.2.1, h.2.2⟩
theorem run_append_none (w : World) (t ty e : TypeId) (ht : Try.prog.underlying t = some (.slice e)) (i : TypeInfo) (hi : Try.prog.info? e = some i) (ao bo : Option Addr) (n cap c : Nat) (h : n ≤ cap) :
    (Builtin.append_ #[t, t] ty #[.slice ao n cap, .slice bo 0 c]).run Try.prog w = .ok (.slice ao n cap) w := by
  cases ao <;> cases bo <;> simp [Builtin.append_, run_underlying ht, sizeOf, typeInfo, hi, Builtin.lenOf, h, Builtin.firstCells, loadCells, storeCells, Result.andThen] <;> rfl
/-- The blocks that were there are as they were, but for v's own; v' lies there or in a new one. -/
def Gr (v : Value) (w w' : World) (v' : Value) : Prop := (∀ k : Nat, k < w.heap.size → some k ≠ v.ownBlock → w'.heap[k]? = w.heap[k]?) ∧ w.heap.size ≤ w'.heap.size ∧ (v'.ownBlock = v.ownBlock ∨ ∃ k, w.heap.size ≤ k ∧ v'.ownBlock = some k)
theorem Gr.refl (v : Value) (w : World) : Gr v w w v := ⟨fun _ _ _ => rfl, Nat.le_refl _, .inl rfl⟩
theorem Gr.trans {v v1 v2 : Value} {a b c : World} (h : Gr v a b v1) (g : Gr v1 b c v2) : Gr v a c v2 := by
  refine ⟨fun k hk hne => ?_, Nat.le_trans h.2.1 g.2.1, ?_⟩
  · rw [g.1 k (Nat.lt_of_lt_of_le hk h.2.1) ?_, h.1 k hk hne]
    rcases h.2.2 with e | ⟨j, hj, e⟩
    · rw [e]; exact hne
    · rw [e]; intro e'; cases e'; omega
  · rcases g.2.2 with e | ⟨j, hj, e⟩
    · rw [e]; exact h.2.2
    · exact .inr ⟨j, Nat.le_trans h.2.1 hj, e⟩
theorem Gr.alloc {v v1 : Value} {a b : World} (h : Gr v a b v1) (o : Obj) : Gr v a (b.alloc o) v1 :=
  ⟨fun k hk hne => (Below.heap_alloc b o k (Nat.lt_of_lt_of_le hk h.2.1)).trans (h.1 k hk hne), by have := h.2.1; simp; omega, h.2.2⟩
theorem Gr.cell {v v1 : Value} {a b : World} (h : Gr v a b v1) {p : Addr} (hp : p.block < a.heap.size) (hne : some p.block ≠ v.ownBlock) : b.cell? p = a.cell? p := World.cell?_of_block (h.1 p.block hp hne)
theorem OwnB.ne_new {base : Nat} {w : World} {v : Value} {bs : List UInt8} (h : OwnB base w v bs) {k : Nat} (hk : w.heap.size ≤ k) : some k ≠ v.ownBlock := fun e => by
  have := (World.ownsRow.lt h k e.symm).2; omega
theorem own_append {base : Nat} {w : World} {v : Value} {bs : List UInt8} (h : OwnB base w v bs) {x : Value} {cs : List UInt8} (hx : ByC w x cs) (hlen : bs.length + cs.length ≤ 140737488355328) (hb : base ≤ w.heap.size) (ty : TypeId) :
    ∃ v' w', (Builtin.append_ #[36, 36] ty #[v, x]).run Try.prog w = .ok v' w' ∧ OwnB base w' v' (bs ++ cs) ∧ Below base w w' ∧ w.heap.size ≤ w'.heap.size ∧ Gr v w w' v' := by
  obtain ⟨i, hi, hi0, hi1, hi2⟩ := info5'
  obtain ⟨bo, c, hxv, hxl, hxc⟩ := hx
  subst hxv
  by_cases h0 : 0 < cs.length
  · obtain ⟨b', off', rfl, hat⟩ := hxc h0
    obtain ⟨v', w', hr, ho, hgr, -, hob⟩ := run_append_own_at (P := Try.prog) w base 36 ty 5 i _ 1 1 Try.underlying36 hi hi0 hi1 hi2 rfl (by decide) v bs.length (cellsB bs) h ⟨b', off', none⟩ cs.length c (cellsB cs) (by rw [cellsB_length]; simp) (fun j u hu => by
        have hj : j < cs.length := by have := (List.getElem?_eq_some_iff.1 hu).1; rwa [cellsB_length] at this
        rw [Addr.add_mid, hat j hj]
        simp only [cellsB, List.getElem?_map, List.getElem?_eq_getElem hj, Option.map_some] at hu
        rw [← hu, List.getD_eq_getElem?_getD, List.getElem?_eq_getElem hj]; rfl) (cellsB_one cs) (by unfold maxLen; omega) (by omega) hb
    refine ⟨v', w', hr, ?_, below_grown h hb hgr, hgr.size, hgr.block, hgr.size, hob.imp id fun e => ⟨_, Nat.le_refl _, e⟩⟩
    unfold OwnB
    rw [List.length_append, show cellsB (bs ++ cs) = cellsB bs ++ cellsB cs by simp [cellsB]]
    exact ho
  · have hcs : cs = [] := List.eq_nil_of_length_eq_zero (by omega)
    subst hcs
    obtain ⟨ao, cap, hv, hc1, _⟩ := h.form
    subst hv
    refine ⟨_, w, run_append_none w 36 ty 5 Try.underlying36 i hi ao bo bs.length cap c hc1, by rw [List.append_nil]; exact h, Below.refl _ _, Nat.le_refl _, Gr.refl _ _⟩
theorem wpList_append_eq {P : Program} {ops : Array Oper} {rest : List Oper} {o : Oper} {a : Act} {w w1 : World} {Q : Exit → Act → World → Prop} (hgd : o.guard = none) (s x : Operand) (t u : TypeId) (ho : o.op = .call { callee := .builtin .append, args := #[s, x], argTypes := #[t, u] }) (v0 v1 v : Value) (hs : a.eval s = v0) (hx : a.eval x = v1)
    (hrun : (Builtin.append_ #[t, u] o.type #[v0, v1]).run P w = .ok v w1) (h : wpList P ops Q rest (a.put o.dst v) w1) : wpList P ops Q (o :: rest) a w := by
  refine wpList_value hgd ?_ h
  unfold execOp
  simp only [ho, resolve, invoke, builtin, Sem.run_bind, Sem.run_pure, Result.andThen_ok, List.map_toArray, List.map_cons, List.map_nil, hs, hx, hrun]

/-- what a call that answers bytes of its own leaves -/
def OwnRetG (v : Value) (base : Nat) (w : World) (bs : List UInt8) (e : Ending) (w' : World) : Prop := ∃ v', e = .returned v' ∧ OwnB base w' v' bs ∧ Below base w w' ∧ Gr v w w' v'
def OwnRet (base : Nat) (w : World) (bs : List UInt8) (e : Ending) (w' : World) : Prop := ∃ v', e = .returned v' ∧ OwnB base w' v' bs ∧ Below base w w'
theorem bytes_one (w : World) (x : UInt8) : ByC (w.alloc (.cells #[.int .u8 (x.toNat : Int)] 5)) (.slice (some ⟨w.heap.size, 0, none⟩) 1 1) [x] := by
  refine BytesAt.c ⟨_, 1, rfl, by simp [maxLen], fun _ => ⟨w.heap.size, 0, _, _, rfl, heap_alloc_new w _, fun i hi => ?_⟩⟩
  have : i = 0 := by simpa using hi
  subst this
  rfl
theorem bytes_one' (w : World) (x : UInt8) (n : Int) (hn : n = x.toNat) (k : Nat) (hk : w.heap.size = k) : ByC (w.alloc (.cells #[.int .u8 n] 5)) (.slice (some ⟨k, 0, none⟩) 1 1) [x] := by
  subst hn; subst hk; exact bytes_one w x
theorem shr_low (n k : Nat) : IntKind.u8.wrap ((n : Int) / 2 ^ (8 * k)) = ((lowB n k).toNat : Int) := by
  unfold lowB
  rw [IntKind.wrap_u8, UInt8.toNat_ofNat']
  have : ((n : Int) / 2 ^ (8 * k)) = ((n / 2 ^ (8 * k) : Nat) : Int) := by rw [Int.natCast_ediv, Int.natCast_pow]; rfl
  rw [this]; simp
set_option maxHeartbeats 800000 in
theorem appendLow_any {base : Nat} {w : World} {v : Value} {bs : List UInt8} (h : OwnB base w v bs) (n c : Nat) (hc : c ≤ 8) (hb : base ≤ w.heap.size) (hl : bs.length + 8 ≤ 140737488355328) :
    Calls Try.prog 62 #[v, .int .u64 n, .int .i64 c] w (OwnRetG v base w (bs ++ low n c)) := by
  obtain ⟨ao, m0, cap, rfl, hm0⟩ := h.form'
  go_enter Try.func62, Try.ntmps62
  go_wp2
  go_loopw [0, 9] (fun bv iv wr => ∃ k : Nat, k ≤ c ∧ iv = .int .i64 k ∧ OwnB base wr bv (bs ++ low n k) ∧ Below base w wr ∧ Gr (.slice ao m0 cap) w wr bv) (fun _ iv _ => c - (intOf iv).toNat)
  case atStart => exact ⟨0, Nat.zero_le _, rfl, by rw [low_zero, List.append_nil]; exact h, Below.refl _ _, Gr.refl _ _⟩
  case round =>
    obtain ⟨k, hk, rfl, ho, hbel, hgr⟩ := hrel
    obtain ⟨bo, m, bc, hform, hm⟩ := ho.form'
    by_cases hlt : k < c
    · have hs := shr_low n k
      have hx := bytes_one wr (lowB n k)
      obtain ⟨v', w', hr, ho', hb', hsz, hg'⟩ := own_append (ho.alloc (.cells #[.int .u8 ((lowB n k).toNat : Int)] 5)) hx (by rw [List.length_append, low_length]; simp; omega) (by have := hbel.size; simp; omega) 36
      rw [List.append_assoc, ← low_succ] at ho'
      have HB := (hbel.alloc (by have := hbel.size; omega) (.cells #[.int .u8 ((lowB n k).toNat : Int)] 5)).trans hb'
      have HG := (hgr.alloc (.cells #[.int .u8 ((lowB n k).toNat : Int)] 5)).trans hg'
      have HR := Lib.hid hr
      clear hr hx ho hb' hsz hbel hgr hg'
      subst hform
      go_wp2_with (with_reducible refine wpList_append_eq rfl (.tmp 12) (.tmp 18) 36 36 rfl (.slice bo m bc) (.slice (some ⟨wr.heap.size, 0, none⟩) 1 1) v' rfl rfl HR.out ?_)
      go_roundw
      case rel => exact ⟨k + 1, by omega, by go_num, ho', HB, HG⟩
      case measure => simp [intOf]; omega
    · subst hform
      go_wp2
      go_ret
      exact ⟨_, rfl, by rw [show c = k by omega]; exact ho, hbel, hgr⟩
end Go.Proofs.Ytmkomhdlcbimoaa

/- The checksum: its mathematics, and the contract of pack.Crc. No statement of the seat is proved here. -/
namespace Go.Proofs.Ytmkomhdlcbimoaa
set_option maxRecDepth 20000
open Go.RowKit

/-- one bit's step -/
def bitS (s : Nat) : Nat := if s % 2 = 1 then (s / 2) ^^^ 3988292384 else s / 2
def bitsS : Nat → Nat → Nat
  | 0, s => s
  | k + 1, s => bitS (bitsS k s)
def byteS (s c : Nat) : Nat := bitsS 8 (s ^^^ c)
def crcS (bs : List UInt8) : Nat := bs.foldl (fun s c => byteS s c.toNat) 4294967295
def crc (bs : List UInt8) : Nat := 4294967295 ^^^ crcS bs
theorem bitS_lt {s : Nat} (h : s < 4294967296) : bitS s < 4294967296 := by
  unfold bitS
  split
  · exact Nat.xor_lt_two_pow (n := 32) (by omega) (by decide)
  · omega
theorem bitsS_lt (k : Nat) {s : Nat} (h : s < 4294967296) : bitsS k s < 4294967296 := by
  induction k with
  | zero => exact h
  | succ k ih => exact bitS_lt ih
theorem byteS_lt {s c : Nat} (h : s < 4294967296) (hc : c ≤ 255) : byteS s c < 4294967296 := bitsS_lt 8 (Nat.xor_lt_two_pow (n := 32) (by omega) (by omega))
theorem crcS_lt (bs : List UInt8) : crcS bs < 4294967296 := by
  unfold crcS
  suffices ∀ (l : List UInt8) s, s < 4294967296 → l.foldl (fun s c => byteS s c.toNat) s < 4294967296 from this _ _ (by decide)
  intro l
  induction l with
  | nil => intro s h; exact h
  | cons a r ih => intro s h; exact ih _ (byteS_lt h (by have := a.toNat_lt; omega))
theorem crc_lt (bs : List UInt8) : crc bs < 4294967296 := Nat.xor_lt_two_pow (n := 32) (by decide) (by have := crcS_lt bs; omega)
theorem crcS_take (bs : List UInt8) (k : Nat) (h : k < bs.length) : crcS (bs.take (k + 1)) = byteS (crcS (bs.take k)) (byteAt bs k) := by
  unfold crcS byteAt
  rw [take_snoc' bs k h, List.foldl_append]; rfl
theorem xor32 (a b : Nat) (ha : a < 4294967296) (hb : b < 4294967296) : bits .xor .u32 (a : Int) (b : Int) = ((a ^^^ b : Nat) : Int) := u32_xor_nat a b ha hb
theorem and_one (a : Nat) (ha : a < 4294967296) : bits .and .u32 (a : Int) 1 = ((a % 2 : Nat) : Int) := by
  rw [show (1 : Int) = ((1 : Nat) : Int) from rfl, u32_and_nat a 1 ha (by decide), Nat.and_one_is_mod]

theorem xor_half (q : Nat) (hq : q < 4294967296) : bits .xor .u32 ((q : Int) / 2) 3988292384 = ((q / 2 ^^^ 3988292384 : Nat) : Int) := by
  show bits .xor .u32 ((q / 2 : Nat) : Int) ((3988292384 : Nat) : Int) = _
  exact xor32 _ _ (by omega) (by decide)
theorem xor_all (q : Nat) (hq : q < 4294967296) : bits .xor .u32 4294967295 (q : Int) = ((4294967295 ^^^ q : Nat) : Int) := xor32 4294967295 q (by decide) hq
set_option maxHeartbeats 800000 in
theorem crc_any {w : World} {v : Value} {bs : List UInt8} (h : ByC w v bs) : Calls Try.prog 63 #[v] w fun e w' => e = .returned (.int .i64 (crc bs)) ∧ w = w' := by
  obtain ⟨ao, cap, rfl, hl⟩ := h.form
  have hh := h
  go_enter Try.func63, Try.ntmps63
  go_wp2
  go_loop [3, 9] (fun s i => ∃ k : Nat, k ≤ bs.length ∧ i = .int .i64 k ∧ s = .int .u32 (crcS (bs.take k))) (fun _ i => bs.length - (intOf i).toNat)
  case atStart => exact ⟨0, Nat.zero_le _, rfl, by simp [crcS]⟩
  case round =>
    obtain ⟨k, hk, rfl, rfl⟩ := hrel
    have hs := crcS_lt (bs.take k)
    by_cases hlt : k < bs.length
    · obtain ⟨b, off, rfl, hcell⟩ := hh.get hlt
      have hb := byteAt_le bs k
      have hx := xor32 (crcS (bs.take k)) (byteAt bs k) hs (by omega)
      have hN := Lib.hid (crcS_take bs k hlt)
      have hz : crcS (bs.take k) ^^^ byteAt bs k < 4294967296 := Nat.xor_lt_two_pow (n := 32) (by omega) (by omega)
      go_wp2
      generalize hZ : crcS (bs.take k) ^^^ byteAt bs k = z at hz ⊢
      have HZ := Lib.hid hZ
      clear hZ hx
      go_loop [3, 17] (fun s j => ∃ m : Nat, m ≤ 8 ∧ j = .int .i64 m ∧ s = .int .u32 (bitsS m z)) (fun _ j => 8 - (intOf j).toNat)
      case atStart => exact ⟨0, Nat.zero_le _, rfl, rfl⟩
      case round =>
        obtain ⟨m, hm, rfl, rfl⟩ := hrel
        have hq := bitsS_lt m hz
        have hS : Hid (bitsS (m + 1) z = bitS (bitsS m z)) := Lib.hid rfl
        generalize hQ' : bitsS m z = q at hq hS ⊢
        have hQ := Lib.hid hQ'
        clear hQ'
        have ha := and_one q hq
        by_cases hlm : m < 8
        · by_cases ho : q % 2 = 1
          · rw [ho] at ha
            have hx2 := Lib.hid (xor_half q hq)
            have hS' : Hid (bitsS (m + 1) z = (q / 2) ^^^ 3988292384) := Lib.hid (by rw [hS.out, bitS, if_pos ho])
            clear ho hS
            go_wp2
            go_round
            case rel => exact ⟨m + 1, by omega, by go_num, by rw [hS'.out, hx2.out]⟩
            case measure => simp [intOf]; omega
          · have ho' : q % 2 = 0 := by omega
            rw [ho'] at ha
            have hS' : Hid (bitsS (m + 1) z = q / 2) := Lib.hid (by rw [hS.out, bitS, if_neg ho])
            clear ho ho' hS
            go_wp2
            go_round
            case rel => exact ⟨m + 1, by omega, by go_num, by rw [hS'.out]; rfl⟩
            case measure => simp [intOf]; omega
        · have hm8 : m = 8 := by omega
          have hS' : Hid (crcS (bs.take (k + 1)) = q) := Lib.hid (by rw [hN.out, byteS, HZ.out, ← hQ.out, hm8])
          clear ha
          go_wp2
          go_round
          case rel => exact ⟨k + 1, by omega, by go_num, by rw [hS'.out]⟩
          case measure => simp [intOf]; omega
    · have hx := Lib.hid (xor_all (crcS (bs.take k)) hs)
      have ht : Hid (bs.take k = bs) := Lib.hid (List.take_of_length_le (by omega))
      have hw : Hid (wrap64 ((4294967295 ^^^ crcS (bs.take k) : Nat) : Int) = (crc bs : Nat)) := Lib.hid (by
        rw [ht.out]; have := crc_lt bs; show wrap64 ((crc bs : Nat) : Int) = _; unfold wrap64; omega)
      have hmax : IntKind.u32.max = 4294967295 := by decide
      have hsg : IntKind.u32.signed = false := rfl
      go_wp2
      go_ret
      refine ⟨?_, rfl⟩
      show Ending.returned (.int .i64 (wrap64 (bits .xor .u32 4294967295 (crcS (bs.take k) : Nat)))) = _
      rw [hx.out, hw.out]
end Go.Proofs.Ytmkomhdlcbimoaa

/- The contracts of bytes.Clone, pack.Seal, pack.Frame. No statement of the seat is proved here. -/
namespace Go.Proofs.Ytmkomhdlcbimoaa
set_option maxRecDepth 20000
open Go.RowKit

theorem own_empty (w : World) : OwnB w.heap.size (w.alloc (.cells #[] 5)) (.slice (some ⟨w.heap.size, 0, none⟩) 0 0) [] :=
  ⟨rfl, .inr ⟨w.heap.size, 0, #[], rfl, Nat.le_refl _, heap_alloc_new w _, Nat.le_refl _, Nat.zero_le _, rfl, rfl⟩⟩
theorem below_new (w : World) (o : Obj) : Below w.heap.size w (w.alloc o) := (Below.refl _ _).alloc (Nat.le_refl _) _
set_option maxHeartbeats 800000 in
theorem clone_any {w : World} {v : Value} {bs : List UInt8} (h : ByC w v bs) (hlen : bs.length ≤ 140737488355328) : Calls Try.prog 70 #[v] w (OwnRet w.heap.size w bs) := by
  obtain ⟨v', w', hr, ho, hb, hs, -⟩ := own_append (own_empty w) (h.below (below_new w (.cells #[] 5))) (by simpa using hlen) (by simp) 36
  have hh := h
  obtain ⟨ao, m, cap, hv, hm⟩ : ∃ ao m cap, v = .slice ao m cap ∧ Hid (m = bs.length) := by
    obtain ⟨ao, cap, hv, _⟩ := h
    exact ⟨ao, _, cap, hv, Lib.hid rfl⟩
  subst hv
  rw [List.nil_append] at ho
  have HR := Lib.hid hr
  have HB := (below_new w (.cells #[] 5)).trans hb
  clear hr hb hs h
  cases ao with
  | none =>
    have he : bs = [] := by
      obtain ⟨ao', cap', hv', _, hc⟩ := hh
      rcases Nat.eq_zero_or_pos bs.length with h0 | h0
      · exact List.eq_nil_of_length_eq_zero h0
      · obtain ⟨_, _, h1, _⟩ := hc h0
        cases hv'; cases h1
    subst he
    clear ho HB HR
    have hq := Lib.run_eql_slice_nil (P := Try.prog) w 36 5 none m cap 0 0 Try.underlying36
    go_enter Try.func70, Try.ntmps70
    go_wp2
    go_ret
    exact ⟨_, rfl, OwnB.nil _ _, Below.refl _ _⟩
  | some ad =>
    clear hh
    have hq := Lib.run_eql_slice_nil (P := Try.prog) w 36 5 (some ad) m cap 0 0 Try.underlying36
    go_enter Try.func70, Try.ntmps70
    go_wp2_with (with_reducible refine wpList_append_eq rfl (.tmp 5) (.tmp 6) 36 36 rfl (.slice (some ⟨w.heap.size, 0, none⟩) 0 0) (.slice (some ad) m cap) v' rfl rfl HR.out ?_)
    go_ret
    exact ⟨_, rfl, ho, HB⟩

def sealed (bs : List UInt8) : List UInt8 := bs ++ low (crc bs) 4
set_option maxHeartbeats 800000 in
theorem seal_any {w : World} {v : Value} {bs : List UInt8} (h : ByC w v bs) (hlen : bs.length + 8 ≤ 140737488355328) : Calls Try.prog 45 #[v] w (OwnRet w.heap.size w (sealed bs)) := by
  obtain ⟨i, hi, hi0, hi1, hi2⟩ := info5'
  obtain ⟨w1, hmk, hown, hg1⟩ := run_make_own (P := Try.prog) w w.heap.size 36 5 i (.int .u8 0) 1 Try.underlying36 hi hi0 hi1 .i64 .i64 (bs.length + 4) (by rw [hi2]; omega) (by unfold maxLen; omega) (Nat.le_refl _)
  have b1 : Below w.heap.size w w1 := (Below.refl _ _).grown hg1 (Nat.le_refl _) (by simp)
  have hown' : OwnB w.heap.size w1 (.slice (some ⟨w.heap.size, 0, none⟩) 0 (bs.length + 4)) [] := hown
  obtain ⟨v2, w2, hr, ho, hb2, hs2, -⟩ := own_append hown' (h.below b1) (by simp; omega) b1.size 36
  rw [List.nil_append] at ho
  have hc := crc_any (h.below (b1.trans hb2))
  have hl := appendLow_any ho (crc bs) 4 (by decide) (Nat.le_trans b1.size hs2) (by omega)
  obtain ⟨ao, m, cap, hv, hm⟩ : ∃ ao m cap, v = .slice ao m cap ∧ Hid (m = bs.length) := by
    obtain ⟨ao, cap, hv, _⟩ := h
    exact ⟨ao, _, cap, hv, Lib.hid rfl⟩
  subst hv
  obtain ⟨ao2, m2, cap2, hv2, hm2⟩ := ho.form'
  subst hv2
  rw [← hm.out] at hmk hr
  have hmk' : (Instr.makeSlice 36 (.int .i64 0) (.int .i64 ((m : Int) + 4))).run Try.prog w = .ok (.slice (some ⟨w.heap.size, 0, none⟩) 0 (m + 4)) w1 := by
    rw [← hmk]; rfl
  have hmb : m ≤ 9223372036854775000 := by rw [hm.out]; omega
  have hw : IntKind.u64.wrap ((crc bs : Nat) : Int) = crc bs := wrap_nat _ (by have := crc_lt bs; omega)
  have HR := Lib.hid hr
  have BB := b1.trans hb2
  clear hr hmk hown hown' hg1 b1 hb2 hs2 h ho hi hi0 hi1 hi2
  go_enter Try.func45, Try.ntmps45
  go_wp2_with (first | (with_reducible refine wpList_append_eq rfl (.tmp 8) (.tmp 9) 36 36 rfl (.slice (some ⟨w.heap.size, 0, none⟩) 0 (m + 4)) (.slice ao m cap) (.slice ao2 m2 cap2) rfl rfl HR.out ?_) | fail)
  refine hc.mono ?_
  rintro e _ ⟨rfl, rfl⟩
  go_wp2_with fail
  refine hl.mono ?_
  rintro e w3 ⟨v3, rfl, h3, b3, -⟩
  obtain ⟨ao3, m3, cap3, hv3, hm3⟩ := h3.form'
  subst hv3
  go_wp2
  go_ret
  exact ⟨_, rfl, h3, BB.trans b3⟩
end Go.Proofs.Ytmkomhdlcbimoaa

/- The contracts of pack.Frame and pack.Unframe. No statement of the seat is proved here. -/
namespace Go.Proofs.Ytmkomhdlcbimoaa
set_option maxRecDepth 20000
open Go.RowKit

def zerosV (n : Nat) : List Value := List.replicate n (.int .u8 0)
theorem zerosV_cells (n : Nat) : zerosV n = cellsB (List.replicate n 0) := by
  unfold zerosV cellsB; rw [List.map_replicate]; rfl
theorem zeroCells_list (n : Nat) : (Builtin.zeroCells (Value.int .u8 0).cells n).toList = zerosV n := by
  have hz : (Value.int IntKind.u8 0).cells = #[.int .u8 0] := rfl
  rw [hz]
  unfold Builtin.zeroCells zerosV
  apply List.ext_getElem
  · simp
  · intro i h1 h2
    simp [Nat.mod_one]
theorem zeroCells_eq (n : Nat) : Builtin.zeroCells (Value.int .u8 0).cells n = (zerosV n).toArray := by
  rw [← zeroCells_list]
theorem zerosV_length (n : Nat) : (zerosV n).length = n := by simp [zerosV]
theorem zerosV_one (n : Nat) : ∀ u ∈ zerosV n, u.oneCell' = true := by
  intro u hu
  rw [(List.mem_replicate.1 hu).2]; rfl
/-- 'append(v, make([]byte, n)...)' onto bytes of one's own -/
theorem own_zeros {base : Nat} {w : World} {v : Value} {bs : List UInt8} (h : OwnB base w v bs) (n : Nat) (hlen : bs.length + n ≤ 140737488355328) (hb : base ≤ w.heap.size) (ty : TypeId) :
    ∃ v' w', (Builtin.append_ #[36, 3] ty #[v, .int .i64 n]).run Try.prog w = .ok v' w' ∧ OwnB base w' v' (bs ++ List.replicate n 0) ∧ Below base w w' ∧ w.heap.size ≤ w'.heap.size := by
  obtain ⟨i, hi, hi0, hi1, hi2⟩ := info5'
  have ht := Try.underlying36
  have hu := Try.underlying3
  have hwn : IntKind.i64.wrap (n : Int) = n := by rw [IntKind.wrap_i64]; omega
  have hcs : cellsB (bs ++ List.replicate n 0) = cellsB bs ++ zerosV n := by rw [zerosV_cells]; simp [cellsB]
  have hll : (cellsB bs ++ zerosV n).length = (bs.length + n) * 1 := by rw [List.length_append, cellsB_length, zerosV_length, Nat.mul_one]
  have hneg : ¬ ((n : Int) < 0) := by omega
  have hbig : ¬ (281474976710656 < (n : Int)) := by omega
  have fin : ∀ v' w' row, w'.ownsRow base 5 1 v' (bs.length + n) (cellsB bs ++ zerosV n) → w.grownBy w' row → (∀ k, row = some k → base ≤ k) → OwnB base w' v' (bs ++ List.replicate n 0) ∧ Below base w w' ∧ w.heap.size ≤ w'.heap.size := fun v' w' row ho hg hr => by
    refine ⟨?_, (Below.refl _ _).grown hg hb hr, hg.size⟩
    unfold OwnB
    rw [List.length_append, List.length_replicate, hcs]; exact ho
  by_cases h0 : n = 0
  · subst h0
    obtain ⟨ao, cap, hv, hc1, _⟩ := h.form
    refine ⟨v, w, ?_, by simpa using h, Below.refl _ _, Nat.le_refl _⟩
    subst hv
    cases ao <;> simp [Builtin.append_, run_underlying ht, run_underlying hu, sizeOf, typeInfo, hi, hi1, asInt, asIntOf, hc1, storeCells, Result.andThen, IntKind.wrap_i64]
  · have hn0 : ¬ (n * 1 = 0) := by omega
    rcases h.2 with ⟨hv, hlz⟩ | ⟨g, cap, cur, hv, hbg, hg, hnc, hcm, hcs', htake⟩
    · have hbs : bs = [] := List.eq_nil_of_length_eq_zero hlz
      subst hbs
      subst hv
      have hcap := grownCap_ge w n 0 5
      have hcm := grownCap_le_maxLen w n 0 5 (by unfold maxLen; omega)
      have h48 : ¬ (281474976710656 < Builtin.nextslicecap n 0) := by have := growslice_fits (need := n) (old := 0) (bytes := 1) (by omega) (by simpa using hlen); omega
      have h63 : ¬ (9223372036854775807 < (n : Int)) := by omega
      have hrun : (Builtin.append_ #[36, 3] ty #[.slice none 0 0, .int .i64 n]).run Try.prog w = .ok (.slice (some ⟨w.heap.size, 0, none⟩) n (grownCap w n 0 5)) (w.drew.alloc (.cells ((zerosV n).toArray ++ (zerosV (grownCap w n 0 5 - n)).toArray) 5)) := by
        simp [Builtin.append_, run_underlying ht, run_underlying hu, sizeOf, typeInfo, zeroValue, hi, hi0, hi1, hi2, asInt, asIntOf, hwn, hneg, hbig, h0, h63, h48, Question.forced, newRow, zeroCells_eq, Builtin.firstCells, grownCap]
      refine ⟨_, _, hrun, fin _ _ none ?_ ?_ (by simp)⟩
      · refine ⟨hll, .inr ⟨w.heap.size, _, _, by simp, hb, heap_alloc_new w.drew _, by simpa using hcap, hcm, ?_, ?_⟩⟩
        · simp [zerosV_length]; omega
        · simp [cellsB, zerosV_length]
      · exact ⟨rfl, rfl, rfl, by simp, fun k hk _ => Below.heap_alloc w.drew _ k hk⟩
    · subst hv
      have hcur : cur.size = cap := by simpa using hcs'
      by_cases hroom : bs.length + n ≤ cap
      · have hst := run_storeCells_at Try.prog g bs.length 5 (zerosV n) 0 cur w hg (by rw [zerosV_length]; omega) (zerosV_one n)
        simp only [Nat.add_zero, zerosV_length] at hst
        have hrun : (Builtin.append_ #[36, 3] ty #[.slice (some ⟨g, 0, none⟩) bs.length cap, .int .i64 n]).run Try.prog w = .ok (.slice (some ⟨g, 0, none⟩) (bs.length + n) cap) (w.setRow g (cur.toList.take bs.length ++ zerosV n ++ cur.toList.drop (bs.length + n)).toArray) := by
          simp [Builtin.append_, run_underlying ht, run_underlying hu, sizeOf, typeInfo, zeroValue, hi, hi0, hi1, hi2, asInt, asIntOf, hwn, hneg, hbig, h0, hroom, zeroCells_list, Addr.add_lit, hst]
        refine ⟨_, _, hrun, fin _ _ (some g) ?_ ?_ (by rintro k ⟨⟩; exact hbg)⟩
        · refine ⟨hll, .inr ⟨g, cap, _, rfl, hbg, setRow_heap w g cur _ _ _ hg, hroom, hcm, ?_, ?_⟩⟩
          · simp only [List.size_toArray, List.length_append, List.length_take, List.length_drop, Array.length_toList, zerosV_length]; omega
          · have ht' : cur.toList.take bs.length = cellsB bs := by simpa using htake
            rw [ht', ← hll]
            exact List.take_left
        · exact ⟨rfl, rfl, rfl, by simp, fun k _ hk => setRow_other w g k _ (fun e => hk (by simp [e]))⟩
      · have hcap := grownCap_ge w (bs.length + n) cap 5
        have hcm' := grownCap_le_maxLen w (bs.length + n) cap 5 (by unfold maxLen; omega)
        have h48 : ¬ (281474976710656 < Builtin.nextslicecap (bs.length + n) cap) := by have := growslice_fits (need := bs.length + n) (old := cap) (bytes := 1) (by omega) (by simpa using hlen); omega
        have h63 : ¬ (9223372036854775807 < (bs.length : Int) + n) := by omega
        have holds : ∀ j u, (cellsB bs)[j]? = some u → w.cell? ((⟨g, 0, none⟩ : Addr).add j) = some u := World.ownsRow.cells h (g := g) rfl
        have hfo := run_firstCells_some (P := Try.prog) w.drew 1 bs.length ⟨g, 0, none⟩ bs.length cap (cellsB bs) (by rw [cellsB_length, Nat.mul_one]) (by simpa using holds)
        have hrun : (Builtin.append_ #[36, 3] ty #[.slice (some ⟨g, 0, none⟩) bs.length cap, .int .i64 n]).run Try.prog w = .ok (.slice (some ⟨w.heap.size, 0, none⟩) (bs.length + n) (grownCap w (bs.length + n) cap 5)) (w.drew.alloc (.cells ((cellsB bs).toArray ++ (zerosV n).toArray ++ (zerosV (grownCap w (bs.length + n) cap 5 - (bs.length + n))).toArray) 5)) := by
          simp [Builtin.append_, run_underlying ht, run_underlying hu, sizeOf, typeInfo, zeroValue, hi, hi0, hi1, hi2, asInt, asIntOf, hwn, hneg, hbig, h0, hroom, h63, h48, Question.forced, newRow, zeroCells_eq, hfo, grownCap]
        refine ⟨_, _, hrun, fin _ _ none ?_ ?_ (by simp)⟩
        · refine ⟨hll, .inr ⟨w.heap.size, _, _, rfl, hb, heap_alloc_new w.drew _, hcap, hcm', ?_, ?_⟩⟩
          · simp [zerosV_length, cellsB_length]; omega
          · simp only [Array.toList_append, List.append_assoc]
            rw [← List.append_assoc, ← hll]
            exact List.take_left
        · exact ⟨rfl, rfl, rfl, by simp, fun k hk _ => Below.heap_alloc w.drew _ k hk⟩

/-- what a call that answers bytes of its own and an error leaves -/
def OwnRetE (base : Nat) (w : World) (bs : List UInt8) (er : Int) (e : Ending) (w' : World) : Prop := ∃ v', e = .returned (.tuple #[v', .int .i64 er]) ∧ OwnB base w' v' bs ∧ Below base w w'
def frameE (n : Nat) (size : Int) : Int := if size < 2 ∨ 60000 < size then 1 else if size - 2 < n then 14 else 0
def frameB (bs : List UInt8) (size : Int) : List UInt8 := low bs.length 2 ++ bs ++ List.replicate (size.toNat - (2 + bs.length)) 0
def frameR (bs : List UInt8) (size : Int) : List UInt8 := if frameE bs.length size = 0 then frameB bs size else []
set_option maxHeartbeats 800000 in
theorem frame_any {w : World} {v : Value} {bs : List UInt8} (h : ByC w v bs) (size : Int) : Calls Try.prog 54 #[v, .int .i64 size] w (OwnRetE w.heap.size w (frameR bs size) (frameE bs.length size)) := by
  obtain ⟨ao, m, cap, hv, hm⟩ : ∃ ao m cap, v = .slice ao m cap ∧ Hid (m = bs.length) := by
    obtain ⟨ao, cap, hv, _⟩ := h
    exact ⟨ao, _, cap, hv, Lib.hid rfl⟩
  have hmb : m ≤ 9223372036854775807 := by rw [hm.out]; obtain ⟨_, _, _, hh⟩ := h.form; exact hh
  by_cases c1 : size < 2
  · have e0 : frameE bs.length size = 1 := by unfold frameE; rw [if_pos (.inl c1)]
    unfold frameR; rw [e0, if_neg (by decide)]
    clear e0
    subst hv
    go_enter Try.func54, Try.ntmps54
    go_wp2
    go_ret2
    exact ⟨_, rfl, OwnB.nil _ _, Below.refl _ _⟩
  · by_cases c2 : 60000 < size
    · have e0 : frameE bs.length size = 1 := by unfold frameE; rw [if_pos (.inr c2)]
      unfold frameR; rw [e0, if_neg (by decide)]
      clear e0
      subst hv
      go_enter Try.func54, Try.ntmps54
      go_wp2
      go_ret2
      exact ⟨_, rfl, OwnB.nil _ _, Below.refl _ _⟩
    · by_cases c3 : size - 2 < (m : Int)
      · have e0 : frameE bs.length size = 14 := by unfold frameE; rw [if_neg (by omega), if_pos (by rw [← hm.out]; exact c3)]
        unfold frameR; rw [e0, if_neg (by decide)]
        clear e0
        subst hv
        go_enter Try.func54, Try.ntmps54
        go_wp2
        go_ret2
        exact ⟨_, rfl, OwnB.nil _ _, Below.refl _ _⟩
      · have e0 : frameE bs.length size = 0 := by unfold frameE; rw [if_neg (by omega), if_neg (by rw [← hm.out]; exact c3)]
        unfold frameR; rw [e0, if_pos rfl]
        clear e0
        obtain ⟨S, rfl⟩ := Int.eq_ofNat_of_zero_le (show 0 ≤ size by omega)
        have hS : S ≤ 60000 := by omega
        have hmS : m + 2 ≤ S := by omega
        have hbl : bs.length + 2 ≤ S := by rw [← hm.out]; exact hmS
        obtain ⟨i, hi, hi0, hi1, hi2⟩ := info5'
        obtain ⟨w1, hmk, hown, hg1⟩ := run_make_own (P := Try.prog) w w.heap.size 36 5 i (.int .u8 0) 1 Try.underlying36 hi hi0 hi1 .i64 .i64 S (by rw [hi2]; omega) (by unfold maxLen; omega) (Nat.le_refl _)
        have b1 : Below w.heap.size w w1 := (Below.refl _ _).grown hg1 (Nat.le_refl _) (by simp)
        have hown' : OwnB w.heap.size w1 (.slice (some ⟨w.heap.size, 0, none⟩) 0 S) [] := hown
        have hl := appendLow_any hown' m 2 (by decide) b1.size (by decide)
        have hw : IntKind.u64.wrap ((m : Nat) : Int) = m := wrap_nat _ (by omega)
        clear hown hown' hg1 hi hi0 hi1 hi2 c1 c2 c3
        subst hv
        go_enter Try.func54, Try.ntmps54
        go_wp2_with fail
        refine hl.mono ?_
        rintro e w2 ⟨v2, rfl, h2, b2, -⟩
        clear hl hmk
        obtain ⟨v3, w3, hr3, h3, b3, s3, -⟩ := own_append h2 (h.below (b1.trans b2)) (by simp [low_length]; omega) (Nat.le_trans b1.size b2.size) 36
        obtain ⟨v4, w4, hr4, h4, b4, s4⟩ := own_zeros h3 (S - (2 + m)) (by simp [low_length]; omega) (Nat.le_trans b1.size (Nat.le_trans b2.size s3)) 36
        have BB := ((b1.trans b2).trans b3).trans b4
        have hl3 : ([] ++ low m 2 ++ bs).length = 2 + m := by simp [low_length, hm.out]
        obtain ⟨ao2, m2, cap2, hv2, hm2⟩ := h2.form'
        subst hv2
        obtain ⟨ao3, cap3, hv3, _, _⟩ := h3.form
        rw [hl3] at hv3
        subst hv3
        obtain ⟨ao4, m4, cap4, hv4, hm4⟩ := h4.form'
        subst hv4
        have H4 : OwnB w.heap.size w4 (.slice ao4 m4 cap4) (frameB bs S) := by
          have e : frameB bs (S : Int) = [] ++ low m 2 ++ bs ++ List.replicate (S - (2 + m)) 0 := by
            unfold frameB; rw [List.nil_append, ← hm.out]; rfl
          rw [e]; exact h4
        have hsub : ((S - (2 + m) : Nat) : Int) = (S : Int) - (2 + (m : Int)) := by omega
        rw [hsub] at hr4
        have HR3 := Lib.hid hr3
        have HR4 := Lib.hid hr4
        clear hr3 hr4 b1 b2 b3 b4 s3 s4 h2 h3 h4 hl3 h
        go_wp2_with (first
          | (with_reducible refine wpList_append_eq rfl (.tmp 25) (.tmp 26) 36 36 rfl (.slice ao2 m2 cap2) (.slice ao m cap) (.slice ao3 (2 + m) cap3) rfl rfl HR3.out ?_)
          | (with_reducible refine wpList_append_eq rfl (.tmp 28) (.tmp 32) 36 3 rfl (.slice ao3 (2 + m) cap3) (.int .i64 ((S : Int) - (2 + (m : Int)))) (.slice ao4 m4 cap4) rfl rfl HR4.out ?_))
        go_ret2
        exact ⟨_, rfl, H4, BB⟩

/-! ### parts of a slice -/
theorem sliced_at {w : World} {ao : Option Addr} {n cap : Nat} {bs : List UInt8} (h : ByC w (.slice ao n cap) bs) (lo hi : Nat) (h1 : lo ≤ hi) (h2 : hi ≤ bs.length) (h3 : bs.length ≤ cap) : ByC w (sliced ao lo hi cap 1) ((bs.drop lo).take (hi - lo)) := by
  obtain ⟨ao', cap', hv, hl, hc⟩ := h
  cases hv
  have hlen : ((bs.drop lo).take (hi - lo)).length = hi - lo := by rw [List.length_take, List.length_drop]; omega
  unfold sliced
  refine ⟨_, _, by rw [hlen], by rw [hlen]; omega, fun h0 => ?_⟩
  rw [hlen] at h0
  obtain ⟨b, off, rfl, hat⟩ := hc (by omega)
  refine ⟨b, off + lo, ?_, fun i hi' => ?_⟩
  · rw [if_neg (by omega)]; simp [Addr.add_mid]
  · rw [hlen] at hi'
    rw [Nat.add_assoc, hat (lo + i) (by omega)]
    congr 2
    simp only [List.getD_eq_getElem?_getD]
    rw [List.getElem?_take, if_pos hi', List.getElem?_drop]
end Go.Proofs.Ytmkomhdlcbimoaa

/- The contracts of pack.Unframe and pack.Open. No statement of the seat is proved here. -/
namespace Go.Proofs.Ytmkomhdlcbimoaa
set_option maxRecDepth 20000
open Go.RowKit

def capOk : Value → Prop
  | .slice _ n c => n ≤ c
  | _ => True
theorem head_at {w : World} {ao : Option Addr} {n cap : Nat} {bs : List UInt8} (h : ByC w (.slice ao n cap) bs) (hi : Nat) (h2 : hi ≤ bs.length) : ByC w (.slice ao hi cap) (bs.take hi) := by
  obtain ⟨ao', cap', hv, hl, hc⟩ := h
  cases hv
  have hlen : (bs.take hi).length = hi := by rw [List.length_take]; omega
  refine ⟨_, _, by rw [hlen], by rw [hlen]; omega, fun h0 => ?_⟩
  rw [hlen] at h0
  obtain ⟨b, off, rfl, hat⟩ := hc (by omega)
  refine ⟨b, off, rfl, fun i hi' => ?_⟩
  rw [hlen] at hi'
  rw [hat i (by omega)]
  congr 2
  simp only [List.getD_eq_getElem?_getD]
  rw [List.getElem?_take, if_pos hi']
/-- 's[lo:]', under one name -/
theorem tail_run {w : World} {ao : Option Addr} {n cap : Nat} {bs : List UInt8} (h : ByC w (.slice ao n cap) bs) (hcap : n ≤ cap) (lo : Nat) (h2 : lo ≤ n) (l : Int) (hl : l = lo) : ∃ bo c, ByC w (.slice bo (n - lo) c) (bs.drop lo) ∧ n - lo ≤ c ∧ ∀ w', (Instr.sliceAt 36 (.slice ao n cap) (some (.int .i64 l)) none none).run Try.prog w' = .ok (.slice bo (n - lo) c) w' := by
  have hn : n = bs.length := by obtain ⟨_, _, hv, _⟩ := h; cases hv; rfl
  have s := sliced_at h lo n h2 (by omega) (by omega)
  rw [List.take_of_length_le (by rw [List.length_drop]; omega)] at s
  refine ⟨_, _, s, by omega, fun w' => ?_⟩
  subst hl
  have hu : Try.prog.underlying 36 = some (.slice (Try.prog.elem 36)) := by kernel_rfl
  rw [run_sliceAt_slice (P := Try.prog) w' 36 _ _ _ _ hu, run_slice_l (P := Try.prog) w' 36 ao n cap hu .i64 lo (by omega) (by omega)]
  have hsz : (sizeOf (Try.prog.elem 36)).run Try.prog w' = .ok 1 w' := by kernel_rfl
  rw [hsz]; simp [Result.andThen, sliced]
/-- 's[lo:hi]', under one name -/
theorem part_run {w : World} {ao : Option Addr} {n cap : Nat} {bs : List UInt8} (h : ByC w (.slice ao n cap) bs) (hcap : n ≤ cap) (lo hi : Nat) (h1 : lo ≤ hi) (h2 : hi ≤ n) (l k : Int) (hl : l = lo) (hk : k = hi) : ∃ bo c, ByC w (.slice bo (hi - lo) c) ((bs.drop lo).take (hi - lo)) ∧ hi - lo ≤ c ∧ ∀ w', (Instr.sliceAt 36 (.slice ao n cap) (some (.int .i64 l)) (some (.int .i64 k)) none).run Try.prog w' = .ok (.slice bo (hi - lo) c) w' := by
  have hn : n = bs.length := by obtain ⟨_, _, hv, _⟩ := h; cases hv; rfl
  have s := sliced_at h lo hi h1 (by omega) (by omega)
  refine ⟨_, _, s, by omega, fun w' => ?_⟩
  subst hl; subst hk
  have hu : Try.prog.underlying 36 = some (.slice (Try.prog.elem 36)) := by kernel_rfl
  rw [run_sliceAt_slice (P := Try.prog) w' 36 _ _ _ _ hu, run_slice_lh (P := Try.prog) w' 36 ao n cap hu .i64 .i64 lo hi (by omega) (by omega) (by omega)]
  have hsz : (sizeOf (Try.prog.elem 36)).run Try.prog w' = .ok 1 w' := by kernel_rfl
  rw [hsz]; simp [Result.andThen, sliced]
def unEnd (bs : List UInt8) : Nat := 2 + le (bs.take 2)
def unOk (bs : List UInt8) : Bool := decide (2 ≤ bs.length) && decide (bs.length ≤ 60000) && decide (unEnd bs ≤ bs.length) && (bs.drop (unEnd bs)).all (· == 0)
def unE (bs : List UInt8) : Int := if unOk bs then 0 else 2
def unR (bs : List UInt8) : List UInt8 := if unOk bs then (bs.drop 2).take (unEnd bs - 2) else []
set_option maxHeartbeats 800000 in
theorem unframe_any {w : World} {v : Value} {bs : List UInt8} (h : ByC w v bs) (hcap : capOk v) : Calls Try.prog 55 #[v] w (OwnRetE w.heap.size w (unR bs) (unE bs)) := by
  obtain ⟨ao, m, cap, hv, hm⟩ : ∃ ao m cap, v = .slice ao m cap ∧ Hid (m = bs.length) := by
    obtain ⟨ao, cap, hv, _⟩ := h
    exact ⟨ao, _, cap, hv, Lib.hid rfl⟩
  have hmb : m ≤ 9223372036854775807 := by rw [hm.out]; obtain ⟨_, _, _, hh⟩ := h.form; exact hh
  subst hv
  have hmc : m ≤ cap := hcap
  by_cases c1 : m < 2
  · have e0 : unOk bs = false := by unfold unOk; rw [← hm.out]; simp; omega
    unfold unR unE; rw [e0, if_neg (by decide), if_neg (by decide)]
    clear e0
    go_enter Try.func55, Try.ntmps55
    go_wp2
    go_ret2
    exact ⟨_, rfl, OwnB.nil _ _, Below.refl _ _⟩
  · by_cases c2 : 60000 < m
    · have e0 : unOk bs = false := by unfold unOk; rw [← hm.out]; simp; omega
      unfold unR unE; rw [e0, if_neg (by decide), if_neg (by decide)]
      clear e0
      go_enter Try.func55, Try.ntmps55
      go_wp2
      go_ret2
      exact ⟨_, rfl, OwnB.nil _ _, Below.refl _ _⟩
    · have s1 := head_at h 2 (by rw [← hm.out]; omega)
      have hle := le_take_lt bs 2 (by rw [← hm.out]; omega)
      have hle2 : le (bs.take 2) < 65536 := hle
      generalize hL : le (bs.take 2) = L at hle hle2
      have HL := Lib.hid hL
      clear hL hle
      by_cases c3 : m < 2 + L
      · have e0 : unOk bs = false := by unfold unOk unEnd; rw [← hm.out, HL.out]; simp; omega
        unfold unR unE; rw [e0, if_neg (by decide), if_neg (by decide)]
        clear e0
        go_enter Try.func55, Try.ntmps55
        go_wp2_with fail
        refine (readLow_any s1 (by rw [List.length_take]; omega)).mono ?_
        rintro e _ ⟨rfl, rfl⟩
        rw [HL.out]
        go_wp2
        go_ret2
        exact ⟨_, rfl, OwnB.nil _ _, Below.refl _ _⟩
      · obtain ⟨bo, c, s2, hc2, r2⟩ := tail_run h hmc (2 + L) (by omega) (2 + (L : Int)) (by omega)
        obtain ⟨bo3, c3', s3, hc3, r3⟩ := part_run h hmc 2 (2 + L) (by omega) (by omega) 2 (2 + (L : Int)) rfl (by omega)
        have hlen3 : ((bs.drop 2).take (2 + L - 2)).length ≤ 140737488355328 := by rw [List.length_take]; omega
        generalize m - (2 + L) = m2 at s2 hc2 r2
        generalize hm3 : 2 + L - 2 = m3 at s3 hc3 r3 hlen3
        have HM3 := Lib.hid hm3
        clear hm3
        cases hz : (bs.drop (2 + L)).all (· == 0)
        · have e0 : unOk bs = false := by unfold unOk unEnd; rw [HL.out, hz]; simp
          unfold unR unE; rw [e0, if_neg (by decide), if_neg (by decide)]
          clear e0 s3 r3
          go_enter Try.func55, Try.ntmps55
          go_wp2_with fail
          refine (readLow_any s1 (by rw [List.length_take]; omega)).mono ?_
          rintro e _ ⟨rfl, rfl⟩
          rw [HL.out]
          go_wp2_with fail
          refine (noughts_any s2).mono ?_
          rintro e _ ⟨rfl, rfl⟩
          rw [hz]
          go_wp2
          go_ret2
          exact ⟨_, rfl, OwnB.nil _ _, Below.refl _ _⟩
        · have e0 : unOk bs = true := by unfold unOk unEnd; rw [HL.out, hz, ← hm.out]; simp; omega
          have e1 : unEnd bs - 2 = m3 := by unfold unEnd; rw [HL.out]; exact HM3.out
          unfold unR unE; rw [e0, if_pos rfl, if_pos rfl, e1]
          clear e0 e1
          go_enter Try.func55, Try.ntmps55
          go_wp2_with fail
          refine (readLow_any s1 (by rw [List.length_take]; omega)).mono ?_
          rintro e _ ⟨rfl, rfl⟩
          rw [HL.out]
          go_wp2_with fail
          refine (noughts_any s2).mono ?_
          rintro e _ ⟨rfl, rfl⟩
          rw [hz]
          go_wp2_with fail
          refine (clone_any s3 hlen3).mono ?_
          rintro e w1 ⟨v1, rfl, h1, b1⟩
          obtain ⟨ao1, m1, cap1, hv1, hm1⟩ := h1.form'
          subst hv1
          go_wp2
          go_ret2
          exact ⟨_, rfl, h1, b1⟩
end Go.Proofs.Ytmkomhdlcbimoaa

/- The contract of pack.Open. No statement of the seat is proved here. -/
namespace Go.Proofs.Ytmkomhdlcbimoaa
set_option maxRecDepth 20000
open Go.RowKit

def openOk (bs : List UInt8) : Bool := decide (le (bs.drop (bs.length - 4)) = crc (bs.take (bs.length - 4)))
def openE (bs : List UInt8) : Int := if bs.length < 4 then 2 else if openOk bs then 0 else 16
def openR (bs : List UInt8) : List UInt8 := if bs.length < 4 then [] else if openOk bs then bs.take (bs.length - 4) else []
theorem ByC.drewN {w : World} {v : Value} {bs : List UInt8} (h : ByC w v bs) (n : Nat) : ByC (w.drewN n) v bs := h
theorem readLow_q {w : World} {v : Value} {bs : List UInt8} (h : ByC w v bs) (h8 : bs.length ≤ 8) (n : Nat) : Calls Try.prog 68 #[v] (w.drewN n) fun e w' => e = .returned (.int .u64 (le bs)) ∧ w' = w.drewN n :=
  (readLow_any (h.drewN n) h8).mono fun _ _ ⟨a, b⟩ => ⟨a, b.symm⟩
theorem crc_q {w : World} {v : Value} {bs : List UInt8} (h : ByC w v bs) (n : Nat) : Calls Try.prog 63 #[v] (w.drewN n) fun e w' => e = .returned (.int .i64 (crc bs)) ∧ w' = w.drewN n :=
  (crc_any (h.drewN n)).mono fun _ _ ⟨a, b⟩ => ⟨a, b.symm⟩
/-- 's[:hi]', under one name -/
theorem head_run {w : World} {ao : Option Addr} {n cap : Nat} {bs : List UInt8} (h : ByC w (.slice ao n cap) bs) (hcap : n ≤ cap) (hi : Nat) (h2 : hi ≤ n) (k : Int) (hk : k = hi) : ByC w (.slice ao hi cap) (bs.take hi) ∧ ∀ w', (Instr.sliceAt 36 (.slice ao n cap) none (some (.int .i64 k)) none).run Try.prog w' = .ok (.slice ao hi cap) w' := by
  have hn : n = bs.length := by obtain ⟨_, _, hv, _⟩ := h; cases hv; rfl
  refine ⟨head_at h hi (by omega), fun w' => ?_⟩
  subst hk
  have hu : Try.prog.underlying 36 = some (.slice (Try.prog.elem 36)) := by kernel_rfl
  rw [run_sliceAt_slice (P := Try.prog) w' 36 _ _ _ _ hu, run_slice_h (P := Try.prog) w' 36 ao n cap hu .i64 hi (by omega) (by omega)]
  have hsz : (sizeOf (Try.prog.elem 36)).run Try.prog w' = .ok 1 w' := by kernel_rfl
  rw [hsz]
  cases ao with
  | none => simp [Result.andThen, sliced]
  | some a => simp [Result.andThen, sliced, Addr.add]
theorem below_drewN (B : Nat) (w : World) (n : Nat) : Below B w (w.drewN n) := ⟨rfl, rfl, rfl, Nat.le_refl _, fun _ _ => rfl⟩
set_option maxHeartbeats 800000 in
theorem open_any {w : World} {v : Value} {bs : List UInt8} (h : ByC w v bs) (hcap : capOk v) (hlen : bs.length ≤ 140737488355328) : Calls Try.prog 64 #[v] w (OwnRetE w.heap.size w (openR bs) (openE bs)) := by
  obtain ⟨ao, m, cap, hv, hm⟩ : ∃ ao m cap, v = .slice ao m cap ∧ Hid (m = bs.length) := by
    obtain ⟨ao, cap, hv, _⟩ := h
    exact ⟨ao, _, cap, hv, Lib.hid rfl⟩
  have hmb : m ≤ 140737488355328 := by rw [hm.out]; exact hlen
  subst hv
  have hmc : m ≤ cap := hcap
  unfold openR openE openOk
  rw [← hm.out]
  by_cases c1 : m < 4
  · rw [if_pos c1, if_pos c1]
    go_enter Try.func64, Try.ntmps64
    go_wp2
    go_ret2
    exact ⟨_, rfl, OwnB.nil _ _, Below.refl _ _⟩
  · rw [if_neg c1, if_neg c1]
    obtain ⟨bo, c, s2, hc2, r2⟩ := tail_run h hmc (m - 4) (by omega) ((m : Int) - 4) (by omega)
    obtain ⟨s3, r3⟩ := head_run h hmc (m - 4) (by omega) ((m : Int) - 4) (by omega)
    have e4 : m - (m - 4) = 4 := by omega
    rw [e4] at s2 hc2 r2
    have l2 : (bs.drop (m - 4)).length ≤ 8 := by rw [List.length_drop, ← hm.out]; omega
    have hx := crc_lt (bs.take (m - 4))
    have hlt := le_lt (bs.drop (m - 4))
    have l3 : (bs.take (m - 4)).length ≤ 140737488355328 := by rw [List.length_take]; omega
    generalize m - 4 = k at s2 s3 r2 r3 l2 hx l3 hlt
    have hw : IntKind.u64.wrap ((crc (bs.take k) : Nat) : Int) = crc (bs.take k) := wrap_nat _ (by omega)
    by_cases c2 : le (bs.drop k) = crc (bs.take k)
    · rw [if_pos (by simpa using c2), if_pos (by simpa using c2)]
      have c2' : (((le (bs.drop k) : Nat) : Int) != ((crc (bs.take k) : Nat) : Int)) = false := by rw [c2]; simp
      clear c2
      go_enter Try.func64, Try.ntmps64
      go_wp2_with fail
      go_quiet (first | (go_at_call 68; exact Calls.quiet_of_same (readLow_q s2 l2 _)) | (go_at_call 63; exact Calls.quiet_of_same (crc_q s3 _)))
      go_wp2_with fail
      refine (clone_any (s3.drewN nq) l3).mono ?_
      rintro e w1 ⟨v1, rfl, h1, b1⟩
      obtain ⟨ao1, m1, cap1, hv1, hm1⟩ := h1.form'
      subst hv1
      go_wp2
      go_ret2
      exact ⟨_, rfl, h1, (below_drewN _ w nq).trans b1⟩
    · rw [if_neg (by simpa using c2), if_neg (by simpa using c2)]
      have c2' : (((le (bs.drop k) : Nat) : Int) != ((crc (bs.take k) : Nat) : Int)) = true := by simp; omega
      clear c2
      go_enter Try.func64, Try.ntmps64
      go_wp2_with fail
      go_quiet (first | (go_at_call 68; exact Calls.quiet_of_same (readLow_q s2 l2 _)) | (go_at_call 63; exact Calls.quiet_of_same (crc_q s3 _)))
      go_wp2
      go_ret2
      exact ⟨_, rfl, OwnB.nil _ _, below_drewN _ w nq⟩
end Go.Proofs.Ytmkomhdlcbimoaa

/- Items in memory, and the contracts of pack.big and pack.formed. No statement of the seat is proved here. -/
namespace Go.Proofs.Ytmkomhdlcbimoaa
set_option maxRecDepth 20000
open Go.RowKit

structure It where
  k : Int
  n : Int
  s : ByteArray
def It.ok (x : It) : Prop := (-9223372036854775808 ≤ x.k ∧ x.k ≤ 9223372036854775807) ∧ (-9223372036854775808 ≤ x.n ∧ x.n ≤ 9223372036854775807) ∧ x.s.size ≤ maxLen
def It.none : It := ⟨0, 0, ByteArray.empty⟩
def itAt (l : List It) (i : Nat) : It := l.getD i .none
/-- A slice of items that reads as l in w, its block below B. -/
def ItemsAt (B : Nat) (w : World) (v : Value) (l : List It) : Prop :=
  ∃ ao cap, v = .slice ao l.length cap ∧ l.length ≤ cap ∧ l.length ≤ 9223372036854775807 ∧ (∀ x ∈ l, x.ok) ∧
    (0 < l.length → ∃ b off, ao = some ⟨b, off, none⟩ ∧ b < B ∧ ∀ i, i < l.length → w.cell? ⟨b, off + i * 3, none⟩ = some (.int .i64 (itAt l i).k) ∧ w.cell? ⟨b, off + i * 3 + 1, none⟩ = some (.int .i64 (itAt l i).n) ∧ w.cell? ⟨b, off + i * 3 + 2, none⟩ = some (.string (itAt l i).s))
theorem ItemsAt.below {B : Nat} {w w' : World} {v : Value} {l : List It} (h : ItemsAt B w v l) (hb : Below B w w') : ItemsAt B w' v l := by
  obtain ⟨ao, cap, hv, h1, h2, h3, h4⟩ := h
  refine ⟨ao, cap, hv, h1, h2, h3, fun h0 => ?_⟩
  obtain ⟨b, off, e, hB, hc⟩ := h4 h0
  refine ⟨b, off, e, hB, fun i hi => ?_⟩
  obtain ⟨c1, c2, c3⟩ := hc i hi
  exact ⟨(hb.cell hB).trans c1, (hb.cell hB).trans c2, (hb.cell hB).trans c3⟩
theorem itAt_ok {l : List It} (h : ∀ x ∈ l, x.ok) {i : Nat} (hi : i < l.length) : (itAt l i).ok := by
  unfold itAt; rw [List.getD_eq_getElem?_getD, List.getElem?_eq_getElem hi]; exact h _ (List.getElem_mem hi)
theorem itAt_mem {l : List It} {i : Nat} (hi : i < l.length) : itAt l i ∈ l := by
  unfold itAt; rw [List.getD_eq_getElem?_getD, List.getElem?_eq_getElem hi]; exact List.getElem_mem hi
theorem mem_itAt {l : List It} {x : It} (h : x ∈ l) : ∃ i, i < l.length ∧ itAt l i = x := by
  obtain ⟨i, hi, rfl⟩ := List.mem_iff_getElem.1 h
  exact ⟨i, hi, by unfold itAt; rw [List.getD_eq_getElem?_getD, List.getElem?_eq_getElem hi]; rfl⟩

def longB (x : It) : Bool := (x.k == 2) && decide (50000 < x.s.size)
def bigB (l : List It) : Bool := decide (4000 < l.length) || l.any longB
theorem snoc_false {p : Nat → Bool} {k : Nat} (h : ∀ j, j < k → p j = false) (h2 : p k = false) : ∀ j, j < k + 1 → p j = false := fun j hj => by
  by_cases e : j = k
  · subst e; exact h2
  · exact h j (by omega)
set_option maxHeartbeats 800000 in
theorem big_any {w : World} {v : Value} {l : List It} (h : ItemsAt w.heap.size w v l) : Calls Try.prog 59 #[v] w fun e w' => e = .returned (.bool (bigB l)) ∧ Below w.heap.size w w' := by
  have hh := h
  obtain ⟨ao, cap, rfl, h1, h2, h3, h4⟩ := h
  by_cases c1 : 4000 < l.length
  · rw [show bigB l = true by unfold bigB; simp [c1]]
    go_enter Try.func59, Try.ntmps59
    go_wp2
    go_ret
    exact ⟨rfl, Below.refl _ _⟩
  · go_enter Try.func59, Try.ntmps59
    go_wp2
    go_loopw [10] (fun iv wr => ∃ k : Nat, k ≤ l.length ∧ iv = .int .i64 k ∧ Hid (∀ j, j < k → longB (itAt l j) = false) ∧ Below w.heap.size w wr) (fun iv _ => l.length - (intOf iv).toNat)
    case atStart => exact ⟨0, Nat.zero_le _, rfl, Lib.hid (fun j hj => by omega), Below.refl _ _⟩
    case round =>
      obtain ⟨k, hk, rfl, hf, hb⟩ := hrel
      by_cases hlt : k < l.length
      · obtain ⟨b, off, rfl, hB, hc⟩ := h4 (by omega)
        obtain ⟨d1, d2, d3⟩ := hc k hlt
        have d1' := (hb.cell (p := ⟨b, off + k * 3, none⟩) hB).trans d1
        have d2' := (hb.cell (p := ⟨b, off + k * 3 + 1, none⟩) hB).trans d2
        have d3' := (hb.cell (p := ⟨b, off + k * 3 + 2, none⟩) hB).trans d3
        generalize hx : itAt l k = x at d1' d2' d3'
        have HX := Lib.hid hx
        obtain ⟨xk, xn, xs⟩ := x
        clear d1 d2 d3 hc hx
        by_cases q1 : xk = 2
        · subst q1
          by_cases q2 : 50000 < xs.size
          · have ht : bigB l = true := by
              unfold bigB; rw [Bool.or_eq_true]; right
              rw [List.any_eq_true]
              exact ⟨_, itAt_mem hlt, by rw [HX.out]; simp [longB, q2]⟩
            have HT := Lib.hid ht
            clear ht
            go_wp2
            go_ret
            exact ⟨by rw [HT.out]; rfl, hb.alloc (by have := hb.size; omega) _⟩
          · have q2' : Hid (longB ⟨2, xn, xs⟩ = false) := Lib.hid (by simp [longB]; omega)
            go_wp2
            go_roundw
            case rel => exact ⟨k + 1, by omega, by go_num, Lib.hid (snoc_false hf.out (by rw [HX.out]; exact q2'.out)), hb.alloc (by have := hb.size; omega) _⟩
            case measure => simp [intOf]; omega
        · have q1' : (xk == 2) = false := by simpa using q1
          have q2' : Hid (longB ⟨xk, xn, xs⟩ = false) := Lib.hid (by simp [longB, q1])
          clear q1
          go_wp2
          go_roundw
          case rel => exact ⟨k + 1, by omega, by go_num, Lib.hid (snoc_false hf.out (by rw [HX.out]; exact q2'.out)), hb.alloc (by have := hb.size; omega) _⟩
          case measure => simp [intOf]; omega
      · have ht : bigB l = false := by
          unfold bigB; rw [Bool.or_eq_false_iff]
          refine ⟨by simpa using c1, ?_⟩
          rw [List.any_eq_false]
          intro x hx
          obtain ⟨i, hi, rfl⟩ := mem_itAt hx
          rw [hf.out i (by omega)]; simp
        have HT := Lib.hid ht
        clear ht
        go_wp2
        go_ret
        exact ⟨by rw [HT.out]; rfl, hb⟩

def formB (x : It) : Bool := ((x.k == 1) && (x.s.size == 0)) || ((x.k == 2) && (x.n == 0))
theorem size_list (s : ByteArray) : (s.toList = []) ↔ s.size = 0 := by
  have : s.toList = s.data.toList := ByteArray.toList_eq s
  rw [this]
  constructor
  · intro h; show s.data.size = 0; rw [← Array.length_toList, h]; rfl
  · intro h; exact List.eq_nil_of_length_eq_zero (by rw [Array.length_toList]; exact h)
set_option maxHeartbeats 800000 in
theorem formed_any (x : It) (w : World) : Calls Try.prog 60 #[.agg #[.int .i64 x.k, .int .i64 x.n, .string x.s]] w fun e w' => e = .returned (.bool (formB x)) ∧ Below w.heap.size w w' := by
  obtain ⟨xk, xn, xs⟩ := x
  by_cases q1 : xk = 1
  · subst q1
    have hf : formB ⟨1, xn, xs⟩ = (xs.size == 0) := by simp [formB]
    rw [hf]
    clear hf
    by_cases q2 : xs.size = 0
    · have q3 : xs.toList = [] := (size_list xs).2 q2
      rw [q2]
      go_enter Try.func60, Try.ntmps60
      go_wp2
      go_ret
      exact ⟨rfl, (Below.refl _ _).alloc (Nat.le_refl _) _⟩
    · have q3 : (xs.toList == []) = false := by
        have : xs.toList ≠ [] := fun e => q2 ((size_list xs).1 e)
        simpa using this
      rw [show (xs.size == 0) = false by simpa using q2]
      clear q2
      go_enter Try.func60, Try.ntmps60
      go_wp2
      go_ret
      exact ⟨rfl, (Below.refl _ _).alloc (Nat.le_refl _) _⟩
  · have q1' : (xk == 1) = false := by simpa using q1
    by_cases q2 : xk = 2
    · subst q2
      rw [show formB ⟨2, xn, xs⟩ = (xn == 0) by simp [formB]]
      clear q1
      go_enter Try.func60, Try.ntmps60
      go_wp2
      go_ret
      exact ⟨rfl, (Below.refl _ _).alloc (Nat.le_refl _) _⟩
    · have q2' : (xk == 2) = false := by simpa using q2
      rw [show formB ⟨xk, xn, xs⟩ = false by simp [formB, q1, q2]]
      clear q1 q2
      go_enter Try.func60, Try.ntmps60
      go_wp2
      go_ret
      exact ⟨rfl, (Below.refl _ _).alloc (Nat.le_refl _) _⟩
end Go.Proofs.Ytmkomhdlcbimoaa

/- The contracts of pack.appendItem and pack.Encode. No statement of the seat is proved here. -/
namespace Go.Proofs.Ytmkomhdlcbimoaa
set_option maxRecDepth 20000
open Go.RowKit

/-- a number as 64 bits -/
def u64 (n : Int) : Nat := (n % 18446744073709551616).toNat
theorem u64_lt (n : Int) : u64 n < 18446744073709551616 := by unfold u64; omega
theorem wrap_u64' (n : Int) : IntKind.u64.wrap n = (u64 n : Nat) := by rw [IntKind.wrap_u64]; unfold u64; omega
def itemB (x : It) : List UInt8 := if x.k = 1 then 1 :: low (u64 x.n) 8 else 2 :: (low x.s.size 2 ++ x.s.data.toList)
theorem own_append_str {base : Nat} {w : World} {v : Value} {bs : List UInt8} (h : OwnB base w v bs) (s : ByteArray) (hlen : bs.length + s.size ≤ 140737488355328) (hb : base ≤ w.heap.size) (ty : TypeId) :
    ∃ v' w', (Builtin.append_ #[36, 9] ty #[v, .string s]).run Try.prog w = .ok v' w' ∧ OwnB base w' v' (bs ++ s.data.toList) ∧ Below base w w' ∧ w.heap.size ≤ w'.heap.size := by
  obtain ⟨i, hi, hi0, hi1, hi2⟩ := info5'
  obtain ⟨v', w', hr, ho, hg, -⟩ := Lib.run_append_own_string (P := Try.prog) w base 36 9 ty 5 i Try.underlying36 Try.underlying9 hi hi0 hi1 hi2 v bs.length (cellsB bs) h s (by unfold maxLen; omega) hlen hb
  refine ⟨v', w', hr, ?_, below_grown h hb hg, hg.size⟩
  unfold OwnB
  rw [List.length_append, Array.length_toList, show cellsB (bs ++ s.data.toList) = cellsB bs ++ Lib.strCells s by simp [cellsB, Lib.strCells, byteV]]
  exact ho
theorem itemB_one {x : It} (h : x.k = 1) : itemB x = [1] ++ low (u64 x.n) 8 := by unfold itemB; rw [if_pos h]; rfl
theorem itemB_two {x : It} (h : x.k = 2) : itemB x = [2] ++ low x.s.size 2 ++ x.s.data.toList := by unfold itemB; rw [if_neg (by omega)]; simp
set_option maxHeartbeats 1600000 in
theorem appendItem_any {base : Nat} {w : World} {v : Value} {bs : List UInt8} (h : OwnB base w v bs) (x : It) (hk : x.k = 1 ∨ x.k = 2) (hb : base ≤ w.heap.size) (hs : x.s.size ≤ 50000) (hl : bs.length ≤ 1000000000) :
    Calls Try.prog 61 #[v, .agg #[.int .i64 x.k, .int .i64 x.n, .string x.s]] w (OwnRet base w (bs ++ itemB x)) := by
  obtain ⟨ao, m, cap, rfl, hm⟩ := h.form'
  rcases hk with hk | hk
  · rw [itemB_one hk]
    obtain ⟨xk, xn, xs⟩ := x
    obtain rfl : xk = 1 := hk
    have h1 := h.alloc (.cells #[.int .i64 1, .int .i64 xn, .string xs] 77)
    have h2 := h1.alloc (.cells #[.int .u8 1] 5)
    obtain ⟨v', w', hr, ho, hb1, hs1, hg1⟩ := own_append h2 (bytes_one' _ 1 1 rfl (w.heap.size + 1) (by simp)) (by simp; omega) (by simp; omega) 36
    have hz : w.heap.size + 2 ≤ w'.heap.size := by simpa using hs1
    have hc0 : w'.cell? ⟨w.heap.size, 0, none⟩ = some (.int .i64 1) := by rw [hg1.cell (by simp; omega) (h.ne_new (Nat.le_refl _))]; simp [go_sem]
    have hc1 : w'.cell? ⟨w.heap.size, 1, none⟩ = some (.int .i64 xn) := by rw [hg1.cell (by simp; omega) (h.ne_new (Nat.le_refl _))]; simp [go_sem]
    have hcall := appendLow_any ho (u64 xn) 8 (by decide) (by omega) (by simp; omega)
    obtain ⟨ao', m', cap', rfl, hm'⟩ := ho.form'
    have HR := Lib.hid hr
    have BB := ((((Below.refl base w).alloc hb (.cells #[.int .i64 1, .int .i64 xn, .string xs] 77)).alloc (by simp; omega) (.cells #[.int .u8 1] 5))).trans hb1
    have hw := wrap_u64' xn
    clear hr hb1 hs1 h h1 h2 ho hg1
    go_enter Try.func61, Try.ntmps61
    go_wp2_with (with_reducible refine wpList_append_eq rfl (.tmp 5) (.tmp 9) 36 36 rfl (.slice ao m cap) (.slice (some ⟨w.heap.size + 1, 0, none⟩) 1 1) (.slice ao' m' cap') rfl rfl HR.out ?_)
    refine hcall.mono ?_
    rintro e w2 ⟨v2, rfl, h2, b2, -⟩
    obtain ⟨ao2, m2, cap2, hv2, hm2⟩ := h2.form'
    subst hv2
    go_wp2
    go_ret
    refine ⟨_, rfl, ?_, BB.trans b2⟩
    have e : bs ++ 1 :: low (u64 xn) 8 = bs ++ [1] ++ low (u64 xn) 8 := by simp
    rw [e]; exact h2
  · rw [itemB_two hk]
    obtain ⟨xk, xn, xs⟩ := x
    obtain rfl : xk = 2 := hk
    have h1 := h.alloc (.cells #[.int .i64 2, .int .i64 xn, .string xs] 77)
    have h2 := h1.alloc (.cells #[.int .u8 2] 5)
    obtain ⟨v', w', hr, ho, hb1, hs1, hg1⟩ := own_append h2 (bytes_one' _ 2 2 rfl (w.heap.size + 1) (by simp)) (by simp; omega) (by simp; omega) 36
    have hz : w.heap.size + 2 ≤ w'.heap.size := by simpa using hs1
    have hne : some w.heap.size ≠ (Value.slice ao m cap).ownBlock := h.ne_new (Nat.le_refl _)
    have hc0 : w'.cell? ⟨w.heap.size, 0, none⟩ = some (.int .i64 2) := by rw [hg1.cell (by simp; omega) hne]; simp [go_sem]
    have hc2 : w'.cell? ⟨w.heap.size, 2, none⟩ = some (.string xs) := by rw [hg1.cell (by simp; omega) hne]; simp [go_sem]
    have hsz : xs.size ≤ 50000 := hs
    have hcall := appendLow_any ho xs.size 2 (by decide) (by omega) (by simp; omega)
    have hne' : some w.heap.size ≠ v'.ownBlock := by
      rcases hg1.2.2 with e | ⟨j, hj, e⟩
      · rw [e]; exact hne
      · rw [e]; intro e'; cases e'; simp at hj; omega
    obtain ⟨ao', m', cap', rfl, hm'⟩ := ho.form'
    have HR := Lib.hid hr
    have BB := ((((Below.refl base w).alloc hb (.cells #[.int .i64 2, .int .i64 xn, .string xs] 77)).alloc (by simp; omega) (.cells #[.int .u8 2] 5))).trans hb1
    have hw : IntKind.u64.wrap ((xs.size : Nat) : Int) = xs.size := wrap_nat _ (by omega)
    clear hr hb1 hs1 h h1 h2 ho hg1 hne
    go_enter Try.func61, Try.ntmps61
    go_wp2_with (with_reducible refine wpList_append_eq rfl (.tmp 5) (.tmp 9) 36 36 rfl (.slice ao m cap) (.slice (some ⟨w.heap.size + 1, 0, none⟩) 1 1) (.slice ao' m' cap') rfl rfl HR.out ?_)
    refine hcall.mono ?_
    rintro e w2 ⟨v2, rfl, h2, b2, g2⟩
    have hc2' : w2.cell? ⟨w.heap.size, 2, none⟩ = some (.string xs) := by rw [g2.cell (by simp; omega) hne']; exact hc2
    obtain ⟨v3, w3, hr3, h3, b3, s3⟩ := own_append_str h2 xs (by simp [low_length]; omega) (by have := b2.size; omega) 36
    obtain ⟨ao2, m2, cap2, hv2, hm2⟩ := h2.form'
    subst hv2
    obtain ⟨ao3, m3, cap3, hv3, hm3⟩ := h3.form'
    subst hv3
    have HR3 := Lib.hid hr3
    clear hr3 h2 g2 hc0 hc2 hcall
    go_wp2_with (with_reducible refine wpList_append_eq rfl (.tmp 25) (.tmp 27) 36 9 rfl (.slice ao2 m2 cap2) (.string xs) (.slice ao3 m3 cap3) rfl rfl HR3.out ?_)
    go_ret
    refine ⟨_, rfl, ?_, (BB.trans b2).trans b3⟩
    have e : bs ++ 2 :: (low xs.size 2 ++ xs.data.toList) = bs ++ [2] ++ low xs.size 2 ++ xs.data.toList := by simp
    rw [e]; exact h3

def encE (l : List It) : Int := if bigB l then 14 else if l.all formB then 0 else 2
def encR (l : List It) : List UInt8 := if encE l = 0 then l.flatMap itemB else []
def encK (l : List It) (k : Nat) : List UInt8 := (l.take k).flatMap itemB
theorem encK_succ (l : List It) (k : Nat) (h : k < l.length) : encK l (k + 1) = encK l k ++ itemB (itAt l k) := by
  unfold encK itAt
  rw [List.take_succ_eq_append_getElem h, List.flatMap_append, List.getD_eq_getElem?_getD, List.getElem?_eq_getElem h]; simp
theorem form_kind {x : It} (h : formB x = true) : x.k = 1 ∨ x.k = 2 := by unfold formB at h; simp at h; omega
theorem form_size {x : It} (h : formB x = true) (hl : longB x = false) : x.s.size ≤ 50000 := by
  unfold formB at h; unfold longB at hl
  simp at h hl
  rcases h with ⟨h1, h2⟩ | ⟨h1, h2⟩
  · have : x.s.size = 0 := by first | exact h2 | (rw [h2]; rfl)
    omega
  · exact hl h1
theorem item_len {x : It} (hs : x.s.size ≤ 50000) : (itemB x).length ≤ 50003 := by
  unfold itemB; split
  · simp [low_length]
  · simp [low_length]
    have : x.s.data.size = x.s.size := rfl
    omega
theorem encK_len (l : List It) (hs : ∀ j, j < l.length → (formB (itAt l j) = true → longB (itAt l j) = false → (itemB (itAt l j)).length ≤ 50003)) (k : Nat) (hk : k ≤ l.length) (hf : ∀ j, j < k → formB (itAt l j) = true) (hg : ∀ j, j < l.length → longB (itAt l j) = false) : (encK l k).length ≤ k * 50003 := by
  induction k with
  | zero => simp [encK]
  | succ k ih =>
    rw [encK_succ l k (by omega), List.length_append]
    have := ih (by omega) (fun j hj => hf j (by omega))
    have := hs k (by omega) (hf k (by omega)) (hg k (by omega))
    omega
theorem snoc_true {p : Nat → Bool} {k : Nat} (h : ∀ j, j < k → p j = true) (h2 : p k = true) : ∀ j, j < k + 1 → p j = true := fun j hj => by
  by_cases e : j = k
  · subst e; exact h2
  · exact h j (by omega)
theorem OwnB.below {base : Nat} {w w' : World} {v : Value} {bs : List UInt8} (h : OwnB base w v bs) (hb : Below w.heap.size w w') : OwnB base w' v bs :=
  ownsRow_of_row h (fun k _ hk => (hb.block k (lt_of_heap hk)).trans hk)
set_option maxHeartbeats 1600000 in
theorem encode_any {w : World} {v : Value} {l : List It} (h : ItemsAt w.heap.size w v l) : Calls Try.prog 44 #[v] w (OwnRetE w.heap.size w (encR l) (encE l)) := by
  obtain ⟨ao, m, cap, hv, hm⟩ : ∃ ao m cap, v = .slice ao m cap ∧ Hid (m = l.length) := by
    obtain ⟨ao, cap, hv, _⟩ := h
    exact ⟨ao, _, cap, hv, Lib.hid rfl⟩
  have hmb : m ≤ 9223372036854775807 := by rw [hm.out]; obtain ⟨_, _, _, _, hh, _⟩ := h; exact hh
  subst hv
  cases hbig : bigB l
  · have hlen : l.length ≤ 4000 := by
      unfold bigB at hbig; rw [Bool.or_eq_false_iff] at hbig
      have := hbig.1; simp at this; exact this
    have hlong : ∀ j, j < l.length → longB (itAt l j) = false := fun j hj => by
      unfold bigB at hbig; rw [Bool.or_eq_false_iff] at hbig
      have := List.any_eq_false.1 hbig.2 _ (itAt_mem hj)
      simpa using this
    have HLONG := Lib.hid hlong
    have HE : Hid (∀ b, l.all formB = b → encE l = if b then 0 else 2) := Lib.hid (fun b hb => by unfold encE; rw [hbig, hb]; simp)
    clear hlong
    go_enter Try.func44, Try.ntmps44
    go_wp2_with fail
    refine (big_any h).mono ?_
    rintro e w1 ⟨rfl, b1⟩
    rw [hbig]
    go_wp2
    go_loopw [4, 11] (fun bv iv wr => ∃ k : Nat, k ≤ l.length ∧ iv = .int .i64 k ∧ OwnB w.heap.size wr bv (encK l k) ∧ Below w.heap.size w wr ∧ Hid (∀ j, j < k → formB (itAt l j) = true)) (fun _ iv _ => l.length - (intOf iv).toNat)
    case atStart => exact ⟨0, Nat.zero_le _, rfl, OwnB.nil _ _, b1, Lib.hid (fun j hj => by omega)⟩
    case round =>
      obtain ⟨k, hk, rfl, ho, hbel, hform⟩ := hrel
      obtain ⟨bo, bm, bc, hbv, hbm⟩ := ho.form'
      subst hbv
      by_cases hlt : k < l.length
      · have hltm : k < m := by rw [hm.out]; exact hlt
        obtain ⟨ao', cap', hv', h1, h2, h3, h4⟩ := h
        cases hv'
        obtain ⟨b, off, rfl, hB, hc⟩ := h4 (by omega)
        obtain ⟨d1, d2, d3⟩ := hc k hlt
        have d1' := (hbel.cell (p := ⟨b, off + k * 3, none⟩) hB).trans d1
        have d2' := (hbel.cell (p := ⟨b, off + k * 3 + 1, none⟩) hB).trans d2
        have d3' := (hbel.cell (p := ⟨b, off + k * 3 + 2, none⟩) hB).trans d3
        generalize hx : itAt l k = x at d1' d2' d3'
        have HX := Lib.hid hx
        clear d1 d2 d3 hc hx h4
        go_wp2_with fail
        refine (formed_any x _).mono ?_
        rintro e w2 ⟨rfl, b2⟩
        have hcw : ∀ i u, (#[Value.int .i64 x.k, .int .i64 x.n, .string x.s] : Array Value)[i]? = some u → w2.cell? ⟨wr.heap.size, i, none⟩ = some u := fun i u hu => by
          rw [b2.cell (by simp), cell_of_row _ _ _ _ _ _ (heap_alloc_new wr _)]; exact hu
        have e1 := hcw 0 _ rfl
        have e2 := hcw 1 _ rfl
        have e3 := hcw 2 _ rfl
        have ho2 := (ho.alloc (.cells #[.int .i64 x.k, .int .i64 x.n, .string x.s] 77)).below b2
        have bb2 := (hbel.alloc hbel.size (.cells #[.int .i64 x.k, .int .i64 x.n, .string x.s] 77)).trans (b2.mono (by have := hbel.size; simp; omega))
        clear hcw b2 ho hbel
        cases hfx : formB x
        · have hall : l.all formB = false := by
            rw [List.all_eq_false]
            exact ⟨_, itAt_mem hlt, by rw [HX.out, hfx]; simp⟩
          have he : Hid (encE l = 2) := Lib.hid (HE.out false hall)
          clear hall
          go_wp2
          go_ret2
          refine ⟨_, by rw [he.out]; rfl, ?_, bb2⟩
          rw [show encR l = [] by unfold encR; rw [he.out]; rfl]
          exact OwnB.nil _ _
        · have hk12 := form_kind hfx
          have hsx := form_size hfx (by rw [← HX.out]; exact HLONG.out k hlt)
          have hkl := encK_len l (fun j hj hfj hlj => item_len (form_size hfj hlj)) k hk hform.out HLONG.out
          have hcall := appendItem_any ho2 x hk12 bb2.size hsx (by omega)
          have HE2 := Lib.hid (encK_succ l k hlt)
          have HF2 := Lib.hid (snoc_true hform.out (by rw [HX.out]; exact hfx))
          clear ho2 hform HLONG hk12 hsx hkl
          go_wp2_with fail
          refine hcall.mono ?_
          rintro e w3 ⟨v3, rfl, h3, b3⟩
          clear hcall
          obtain ⟨ao3, m3, cap3, hv3, hm3⟩ := h3.form'
          subst hv3
          have H3 : OwnB w.heap.size w3 (.slice ao3 m3 cap3) (encK l (k + 1)) := by rw [HE2.out, HX.out]; exact h3
          have bb3 := bb2.trans b3
          clear e1 e2 e3 h3 b3 bb2
          go_wp2
          go_roundw
          case rel => exact ⟨k + 1, by omega, by go_num, H3, bb3, HF2⟩
          case measure => simp [intOf]; omega
      · have hnlt : ¬ k < m := by rw [hm.out]; exact hlt
        have hall : l.all formB = true := by
          rw [List.all_eq_true]
          intro x hx
          obtain ⟨i, hi, rfl⟩ := mem_itAt hx
          exact hform.out i (by omega)
        have he : Hid (encE l = 0) := Lib.hid (HE.out true hall)
        have hr : Hid (encR l = encK l k) := Lib.hid (by
          unfold encR encK; rw [he.out, if_pos rfl, List.take_of_length_le (by omega)])
        clear hall
        go_wp2
        go_ret2
        exact ⟨_, by rw [he.out]; rfl, by rw [hr.out]; exact ho, hbel⟩
  · rw [show encE l = 14 by simp [encE, hbig], show encR l = [] by simp [encR, encE, hbig]]
    go_enter Try.func44, Try.ntmps44
    go_wp2_with fail
    refine (big_any h).mono ?_
    rintro e w1 ⟨rfl, b1⟩
    rw [hbig]
    go_wp2
    go_ret2
    exact ⟨_, rfl, OwnB.nil _ _, b1⟩
end Go.Proofs.Ytmkomhdlcbimoaa

/- Steps through a region that draws its order, under what holds in every world of it. No statement of the seat is proved here. -/
namespace Go.Proofs.Ytmkomhdlcbimoaa
set_option maxRecDepth 20000
open Go.RowKit
variable {P : Program} {md : Region.Mode} {ops : Array Oper} {Q : Exit → Act → World → Prop} {S : World → Prop} {fuel : Nat} {L : Array Bool} {a : Act} {w : World}

theorem wpAnyH_take_d (i : Nat) (d : Option Tmp) (v : Value) {o : Oper} (hi : ops[i]? = some o) (hs : Region.noSelect ops = true) (hf : Region.free md ops L i = true) (hr : (Region.ready md ops L).contains i = true)
    (hw : Region.wanted o (yielded ops a.tmps) = true) (hd : o.dst = d) (hQ : ∀ c a w, Q (.panic c) (a.put d v) w → Q (.panic c) a w) (hy : ∀ w, S w → (execOp a.eval o).run P w = .ok (.value v) w) (hS : S w)
    (h : wpAnyH P md ops Q S fuel (L.setIfInBounds i true) (a.put d v) w) : wpAnyH P md ops Q S (fuel + 1) L a w := by
  subst hd
  exact wpAnyH_take hi hs hf hr hQ (Or.inl ⟨hw, hy⟩) hS h
theorem wpAnyH_one (i : Nat) (d : Option Tmp) (v : Value) {w1 : World} {o : Oper} (hi : ops[i]? = some o) (hr : Region.ready md ops L = [i]) (hw : Region.wanted o (yielded ops a.tmps) = true) (hd : o.dst = d)
    (hy : (execOp a.eval o).run P w = .ok (.value v) w1) (hS : S w1) (h : wpAnyH P md ops Q S fuel (L.setIfInBounds i true) (a.put d v) w1) : wpAnyH P md ops Q S (fuel + 1) L a w := by
  subst hd
  refine wpAnyH_ready hr (by simp) (AllReadyH.cons hi (fun K hK => ?_) AllReadyH.nil)
  rw [if_pos hw]
  unfold Oper.wp
  rw [hy]; exact hK.out _ _ hS (fun _ => h)
theorem wpAnyH_call (i : Nat) (d : Option Tmp) (f : FuncId) (args : Array Value) {o : Oper} (hi : ops[i]? = some o) (hr : Region.ready md ops L = [i]) (hw : Region.wanted o (yielded ops a.tmps) = true) (hd : o.dst = d)
    (hy : (execOp a.eval o).run P w = .ok (.enter f args) w) {R : Ending → World → Prop} (hc : Calls P f args w R)
    (h : ∀ e w1, R e w1 → ∃ v, e = .returned v ∧ S w1 ∧ wpAnyH P md ops Q S fuel (L.setIfInBounds i true) (a.put d v) w1) : wpAnyH P md ops Q S (fuel + 1) L a w := by
  subst hd
  refine wpAnyH_ready hr (by simp) (AllReadyH.cons hi (fun K hK => ?_) AllReadyH.nil)
  rw [if_pos hw]
  unfold Oper.wp
  rw [hy, Oper.upon_enter]
  refine hc.mono fun e w1 hR => ?_
  obtain ⟨v, rfl, hS, h1⟩ := h e w1 hR
  exact hK.out _ _ hS (fun _ => h1)
theorem exec_convert {ρ : Operand → Value} {o : Oper} {s t : TypeId} {x : Operand} {u v : Value} {w1 : World} (ho : o.op = .convert s t x) (hx : ρ x = u) (hrun : (convert s t u).run P w = .ok v w1) : (execOp ρ o).run P w = .ok (.value v) w1 := by
  unfold execOp
  simp only [ho, hx, Sem.run_bind, hrun, Result.andThen_ok, Sem.run_pure]
theorem exec_streq {ρ : Operand → Value} {o : Oper} {t t' : TypeId} {x y : Operand} {r s : ByteArray} {b : Bool} (ho : o.op = .binOp .eql t x y t') (hx : ρ x = .string r) (hy : ρ y = .string s) (hb : (r.toList == s.toList) = b) : (execOp ρ o).run P w = .ok (.value (.bool b)) w := by
  subst hb
  unfold execOp
  simp only [ho, hx, hy, Sem.run_bind]
  have e1 : (eqGuard .eql t x y (.string r) (.string s)).run P w = .ok () w := by simp [eqGuard]
  have e2 : (binOp .eql t (.string r) (.string s)).run P w = .ok (.bool (r.toList == s.toList)) w := by
    simp [binOp, Op.stringOp]
  rw [e1, Result.andThen_ok, e2]; rfl
theorem exec_strneq {ρ : Operand → Value} {o : Oper} {t t' : TypeId} {x y : Operand} {r s : ByteArray} {b : Bool} (ho : o.op = .binOp .neq t x y t') (hx : ρ x = .string r) (hy : ρ y = .string s) (hb : (!(r.toList == s.toList)) = b) : (execOp ρ o).run P w = .ok (.value (.bool b)) w := by
  subst hb
  unfold execOp
  simp only [ho, hx, hy, Sem.run_bind]
  have e1 : (eqGuard .neq t x y (.string r) (.string s)).run P w = .ok () w := by simp [eqGuard]
  have e2 : (binOp .neq t (.string r) (.string s)).run P w = .ok (.bool (!(r.toList == s.toList))) w := by
    simp [binOp, Op.stringOp]
  rw [e1, Result.andThen_ok, e2]; rfl
theorem exec_indexAddr {ρ : Operand → Value} {o : Oper} {t e : TypeId} {x ix : Operand} {b off len cap : Nat} {k : Nat} (ho : o.op = .indexAddr t x ix) (hx : ρ x = .slice (some ⟨b, off, none⟩) len cap) (hi : ρ ix = .int .i64 k) (hk : k < len)
    (hu : P.underlying t = some (.slice e)) (hs : (P.info? e).map (·.size) = some 1) : (execOp ρ o).run P w = .ok (.value (.pointer (some ⟨b, off + k, none⟩))) w := by
  cases hq : P.info? e with
  | none => simp [hq] at hs
  | some i =>
    have h1 : i.size = 1 := by simpa [hq] using hs
    have e1 : (0 : Int) ≤ (k : Int) ∧ (k : Int) < (len : Int) := by omega
    have e2 : (⟨b, off, none⟩ : Addr).add k = ⟨b, off + k, none⟩ := by unfold Addr.add; split <;> simp_all
    unfold execOp
    simp [ho, hx, hi, Instr.indexAt, asIntOf, run_underlying hu, hk, sizeOf, typeInfo, hq, h1, e2]
theorem exec_make {ρ : Operand → Value} {o : Oper} {t e : TypeId} {l c : Operand} {i : TypeInfo} {z : Value} {size : Nat} (n : Nat) (ho : o.op = .makeSlice t l c) (hl : ρ l = .int .i64 n) (hc : ρ c = .int .i64 n) (base : Nat)
    (hu : P.underlying t = some (.slice e)) (hi : P.info? e = some i) (hz : i.zero = some z) (hs : i.size = size) (b2 : i.bytes * n ≤ 281474976710656) (b3 : n ≤ maxLen) (b4 : base ≤ w.heap.size) :
    ∃ w', (execOp ρ o).run P w = .ok (.value (.slice (some ⟨w.heap.size, 0, none⟩) n n)) w' ∧ w'.ownsRow base e size (.slice (some ⟨w.heap.size, 0, none⟩) n n) n (madeCells z.cells (n * size)).toList ∧ w.grownBy w' none := by
  obtain ⟨w', hrun, r1, r2⟩ := run_make_full (P := P) w base t e i z size hu hi hz hs .i64 .i64 n b2 b3 b4
  refine ⟨w', ?_, r1, r2⟩
  unfold execOp
  simp [ho, hl, hc, hrun]
end Go.Proofs.Ytmkomhdlcbimoaa
