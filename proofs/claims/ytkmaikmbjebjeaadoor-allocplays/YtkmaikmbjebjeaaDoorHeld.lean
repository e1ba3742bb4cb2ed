/- Steps through a region that draws its order, under what holds in every world of it. No statement of the seat is proved here. -/
import Derived.Test.YtkmaikmbjebjeaaDoorFill
import Derived.Deep.RegionHeld
namespace Go.Proofs.YtkmaikmbjebjeaaDoor
set_option maxRecDepth 20000
open Go.RowKit
variable {P : Program} {md : Region.Mode} {ops : Array Oper} {Q : Exit → Act → World → Prop} {S : World → Prop} {fuel : Nat} {L : Array Bool} {a : Act} {w : World}

theorem wpAnyH_take_d (i : Nat) (d : Option Tmp) (v : Value) {o : Oper} (hi : ops[i]? = some o) (hs : Region.noSelect ops = true) (hf : Region.free md ops L i = true) (hr : (Region.ready md ops L).contains i = true)
    (hw : Region.wanted o (yielded ops a.tmps) = true) (hd : o.dst = d) (hQ : ∀ c a w, Q (.panic c) (a.put d v) w → Q (.panic c) a w) (hy : ∀ w, S w → (execOp a.eval o).run P w = .ok (.value v) w) (hS : S w)
    (h : wpAnyH P md ops Q S fuel (L.setIfInBounds i true) (a.put d v) w) : wpAnyH P md ops Q S (fuel + 1) L a w := by
  subst hd
  exact wpAnyH_take hi hs hf hr hQ (Or.inl ⟨hw, hy⟩) hS h
theorem wpAnyH_one (i : Nat) (d : Option Tmp) (v : Value) {w1 : World} {o : Oper} (hi : ops[i]? = some o) (hr : Region.ready md ops L = [i]) (hw : Region.wanted o (yielded ops a.tmps) = true) (hd : o.dst = d)
    (hy : (execOp a.eval o).run P w = .ok (.value v) w1) (hS : S w1) (h : wpAnyH P md ops Q S fuel (L.setIfInBounds i true) (a.put d v) w1) : wpAnyH P md ops Q S (fuel + 1) L a w := by
  subst hd
  refine wpAnyH_ready hr (by simp) (AllReadyH.cons hi (fun K hK => ?_) AllReadyH.nil)
  rw [if_pos hw]
  unfold Oper.wp
  rw [hy]; exact hK.out _ _ hS (fun _ => h)
theorem wpAnyH_call (i : Nat) (d : Option Tmp) (f : FuncId) (args : Array Value) {o : Oper} (hi : ops[i]? = some o) (hr : Region.ready md ops L = [i]) (hw : Region.wanted o (yielded ops a.tmps) = true) (hd : o.dst = d)
    (hy : (execOp a.eval o).run P w = .ok (.enter f args) w) {R : Ending → World → Prop} (hc : Calls P f args w R)
    (h : ∀ e w1, R e w1 → ∃ v, e = .returned v ∧ S w1 ∧ wpAnyH P md ops Q S fuel (L.setIfInBounds i true) (a.put d v) w1) : wpAnyH P md ops Q S (fuel + 1) L a w := by
  subst hd
  refine wpAnyH_ready hr (by simp) (AllReadyH.cons hi (fun K hK => ?_) AllReadyH.nil)
  rw [if_pos hw]
  unfold Oper.wp
  rw [hy, Oper.upon_enter]
  refine hc.mono fun e w1 hR => ?_
  obtain ⟨v, rfl, hS, h1⟩ := h e w1 hR
  exact hK.out _ _ hS (fun _ => h1)
theorem exec_convert {ρ : Operand → Value} {o : Oper} {s t : TypeId} {x : Operand} {u v : Value} {w1 : World} (ho : o.op = .convert s t x) (hx : ρ x = u) (hrun : (convert s t u).run P w = .ok v w1) : (execOp ρ o).run P w = .ok (.value v) w1 := by
  unfold execOp
  simp only [ho, hx, Sem.run_bind, hrun, Result.andThen_ok, Sem.run_pure]
theorem exec_streq {ρ : Operand → Value} {o : Oper} {t t' : TypeId} {x y : Operand} {r s : ByteArray} {b : Bool} (ho : o.op = .binOp .eql t x y t') (hx : ρ x = .string r) (hy : ρ y = .string s) (hb : (r.toList == s.toList) = b) : (execOp ρ o).run P w = .ok (.value (.bool b)) w := by
  subst hb
  unfold execOp
  simp only [ho, hx, hy, Sem.run_bind]
  have e1 : (eqGuard .eql t x y (.string r) (.string s)).run P w = .ok () w := by simp [eqGuard]
  have e2 : (binOp .eql t (.string r) (.string s)).run P w = .ok (.bool (r.toList == s.toList)) w := by
    simp [binOp, Op.stringOp]
  rw [e1, Result.andThen_ok, e2]; rfl
theorem exec_strneq {ρ : Operand → Value} {o : Oper} {t t' : TypeId} {x y : Operand} {r s : ByteArray} {b : Bool} (ho : o.op = .binOp .neq t x y t') (hx : ρ x = .string r) (hy : ρ y = .string s) (hb : (!(r.toList == s.toList)) = b) : (execOp ρ o).run P w = .ok (.value (.bool b)) w := by
  subst hb
  unfold execOp
  simp only [ho, hx, hy, Sem.run_bind]
  have e1 : (eqGuard .neq t x y (.string r) (.string s)).run P w = .ok () w := by simp [eqGuard]
  have e2 : (binOp .neq t (.string r) (.string s)).run P w = .ok (.bool (!(r.toList == s.toList))) w := by
    simp [binOp, Op.stringOp]
  rw [e1, Result.andThen_ok, e2]; rfl
theorem exec_indexAddr {ρ : Operand → Value} {o : Oper} {t e : TypeId} {x ix : Operand} {b off len cap : Nat} {k : Nat} (ho : o.op = .indexAddr t x ix) (hx : ρ x = .slice (some ⟨b, off, none⟩) len cap) (hi : ρ ix = .int .i64 k) (hk : k < len)
    (hu : P.underlying t = some (.slice e)) (hs : (P.info? e).map (·.size) = some 1) : (execOp ρ o).run P w = .ok (.value (.pointer (some ⟨b, off + k, none⟩))) w := by
  cases hq : P.info? e with
  | none => simp [hq] at hs
  | some i =>
    have h1 : i.size = 1 := by simpa [hq] using hs
    have e1 : (0 : Int) ≤ (k : Int) ∧ (k : Int) < (len : Int) := by omega
    have e2 : (⟨b, off, none⟩ : Addr).add k = ⟨b, off + k, none⟩ := by unfold Addr.add; split <;> simp_all
    unfold execOp
    simp [ho, hx, hi, Instr.indexAt, asIntOf, run_underlying hu, hk, sizeOf, typeInfo, hq, h1, e2]
theorem exec_make {ρ : Operand → Value} {o : Oper} {t e : TypeId} {l c : Operand} {i : TypeInfo} {z : Value} {size : Nat} (n : Nat) (ho : o.op = .makeSlice t l c) (hl : ρ l = .int .i64 n) (hc : ρ c = .int .i64 n) (base : Nat)
    (hu : P.underlying t = some (.slice e)) (hi : P.info? e = some i) (hz : i.zero = some z) (hs : i.size = size) (b2 : i.bytes * n ≤ 281474976710656) (b3 : n ≤ maxLen) (b4 : base ≤ w.heap.size) :
    ∃ w', (execOp ρ o).run P w = .ok (.value (.slice (some ⟨w.heap.size, 0, none⟩) n n)) w' ∧ w'.ownsRow base e size (.slice (some ⟨w.heap.size, 0, none⟩) n n) n (madeCells z.cells (n * size)).toList ∧ w.grownBy w' none := by
  obtain ⟨w', hrun, r1, r2⟩ := run_make_full (P := P) w base t e i z size hu hi hz hs .i64 .i64 n b2 b3 b4
  refine ⟨w', ?_, r1, r2⟩
  unfold execOp
  simp [ho, hl, hc, hrun]
end Go.Proofs.YtkmaikmbjebjeaaDoor
