/- More steps of a drawn region. No statement of the seat is proved here. -/
import Derived.Test.YtpnihbicncioaaaHeld
namespace Go.Proofs.Ytpnihbicncioaaa
open Go.RowKit
variable {P : Program} {w : World}
theorem exec_inteq {ρ : Operand → Value} {o : Oper} {t t' : TypeId} {x y : Operand} {k : IntKind} {a b : Int} (ho : o.op = .binOp .eql t x y t') (hx : ρ x = .int k a) (hy : ρ y = .int k b) (h : a = b) : (execOp ρ o).run P w = .ok (.value (.bool true)) w := by
  subst h
  unfold execOp
  simp only [ho, hx, hy, Sem.run_bind]
  have e1 : (eqGuard .eql t x y (.int k a) (.int k a)).run P w = .ok () w := by simp [eqGuard]
  have e2 : (binOp .eql t (.int k a) (.int k a)).run P w = .ok (.bool true) w := by simp [go_sem]
  rw [e1, Result.andThen_ok, e2]; rfl
end Go.Proofs.Ytpnihbicncioaaa
