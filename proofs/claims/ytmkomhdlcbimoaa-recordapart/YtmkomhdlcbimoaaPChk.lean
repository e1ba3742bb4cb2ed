/- The contract of the document's own Check. No statement of the seat is proved here. -/
import Derived.Test.YtmkomhdlcbimoaaPRef2
import Derived.Test.YtmkomhdlcbimoaaPSame
namespace Go.Proofs.Ytmkomhdlcbimoaa
set_option maxRecDepth 20000
open Go.RowKit

theorem encE_big {l : List It} (h : bigB l = true) : encE l = 14 := by unfold encE; rw [if_pos h]
theorem encE_form {l : List It} (h : bigB l = false) (x : It) (hx : x ∈ l) (hf : formB x = false) : encE l = 2 := by
  unfold encE
  rw [if_neg (by rw [h]; decide), if_neg]
  intro ha
  rw [List.all_eq_true] at ha
  rw [ha x hx] at hf; cases hf
theorem encE_zero {l : List It} (h : bigB l = false) (hf : ∀ x ∈ l, formB x = true) : encE l = 0 := by
  unfold encE
  rw [if_neg (by rw [h]; decide), if_pos]
  rw [List.all_eq_true]; exact hf
end Go.Proofs.Ytmkomhdlcbimoaa
