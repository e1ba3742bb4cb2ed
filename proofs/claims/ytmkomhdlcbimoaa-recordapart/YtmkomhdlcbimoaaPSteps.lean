/- More steps of a drawn region. No statement of the seat is proved here. -/
import Derived.Test.YtmkomhdlcbimoaaJ1
namespace Go.Proofs.Ytmkomhdlcbimoaa
set_option maxRecDepth 20000
open Go.RowKit
variable {P : Program} {w : World}
theorem exec_inteq {ρ : Operand → Value} {o : Oper} {t t' : TypeId} {x y : Operand} {k : IntKind} {a b : Int} (ho : o.op = .binOp .eql t x y t') (hx : ρ x = .int k a) (hy : ρ y = .int k b) (h : a = b) : (execOp ρ o).run P w = .ok (.value (.bool true)) w := by
  subst h
  unfold execOp
  simp only [ho, hx, hy, Sem.run_bind]
  have e1 : (eqGuard .eql t x y (.int k a) (.int k a)).run P w = .ok () w := by simp [eqGuard]
  have e2 : (binOp .eql t (.int k a) (.int k a)).run P w = .ok (.bool true) w := by simp [go_sem]
  rw [e1, Result.andThen_ok, e2]; rfl
section
variable {md : Region.Mode} {ops : Array Oper} {Q : Exit → Act → World → Prop} {S : World → Prop} {fuel : Nat} {L : Array Bool} {a : Act}
theorem wpAnyH_skip_d (i : Nat) (d : Option Tmp) {o : Oper} (hi : ops[i]? = some o) (hs : Region.noSelect ops = true) (hf : Region.free md ops L i = true) (hr : (Region.ready md ops L).contains i = true)
    (hw : Region.wanted o (yielded ops a.tmps) = false) (hd : o.dst = d) (hQ : ∀ c a w, Q (.panic c) (a.put d undef) w → Q (.panic c) a w) (hS : S w)
    (h : wpAnyH P md ops Q S fuel (L.setIfInBounds i true) (a.put d undef) w) : wpAnyH P md ops Q S (fuel + 1) L a w := by
  subst hd
  exact wpAnyH_take hi hs hf hr hQ (Or.inr ⟨hw, rfl⟩) hS h
end
end Go.Proofs.Ytmkomhdlcbimoaa
