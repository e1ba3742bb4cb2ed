/-
  No cell of these rows narrows 'for every input' (looked for: loops, veiled, ifaces, maps, wideKeys, modest, calm, conditions, laid).
  DERIVED. THE GIVEN ROWS OF THIS SEAT. 5 by the template 'for every input the law returns true; each argument reads behind the call as it read before'; 0 by the template 'total and deterministic' (their statements: YtolpajkeiijbmaaTotals.lean).
  GIVEN WITH THE SEED: the statements are not yours to turn. If you find one false, say at which input.
  Laid BY PROGRAM, IN A SANDBOX (cutbox-rows.mjs): the forced cells as the released guide's own fill.sh prints them over the translation 28d488c14d4a59b3… (all of the seat's roots in one cut). By AI agents, Wed Nov 11 2026. No macro, syntax, notation, axiom, sorry.
-/
import Derived.Test.YtolpajkeiijbmaaChecked
import GoSem.Claim
import GoSem.ClaimJoined
import GoSem.ClaimMapViews
import Derived.JoinedTies
import Derived.KernelRfl
namespace Go.Proofs.Ytolpajkeiijbmaa
/- THE CELL 'sum', in the pinned program and in every row, IS THE sha256 OF THE DUMP (.gsa) THAT YtolpajkeiijbmaaProg.lean LOADS. Nothing in Lean hashes anything: it is a label: what it is worth is what the hold of that sum in a sandbox is worth. -/
noncomputable def Try.pinned : Pinned := { name := "ytolpajkeiijbmaa", sum := "28d488c14d4a59b3fe068b0d47259475a7c518df45b23323659bcc923bac18d0", checked := Try.checked }
namespace Rows
def none {H : Type} : Left H := { results := [], args := [] }

/-- 'cisternlaw06.BackoffDelays': WHATEVER THE INPUT: true; the input reads as it did. -/
def backoffDelaysSpec : ChangeSpec := { name := "backoffDelays", fn := fun _ => fun
  | [d1, d2, d3] => { results := [.lit (.bool true)], args := [d1, d2, d3] }
  | _ => none }
def backoffDelaysRow : OpenClaim := { program := "ytolpajkeiijbmaa", sum := "28d488c14d4a59b3fe068b0d47259475a7c518df45b23323659bcc923bac18d0", func := "cistern/cisternlaw06.BackoffDelays", spec := "backoffDelays", inPlace := ["math.Float64bits"], apart := false }
def BackoffDelaysSaid : Prop := backoffDelaysRow.holds Try.pinned (OpenSpec.ofChange backoffDelaysSpec)

/-- ITS FALSE NEIGHBOUR: 'it returns false'. Refute it at one input. -/
def backoffDelaysWrong : ChangeSpec := { name := "backoffDelays", fn := fun _ => fun
  | [d1, d2, d3] => { results := [.lit (.bool false)], args := [d1, d2, d3] }
  | _ => none }
def BackoffDelaysWrongFalsely : Prop := backoffDelaysRow.holds Try.pinned (OpenSpec.ofChange backoffDelaysWrong)

/-- 'cisternlaw06.BackoffPlans': WHATEVER THE INPUT: true; the input reads as it did. -/
def backoffPlansSpec : ChangeSpec := { name := "backoffPlans", fn := fun _ => fun
  | [d1, d2, d3] => { results := [.lit (.bool true)], args := [d1, d2, d3] }
  | _ => none }
def backoffPlansRow : OpenClaim := { program := "ytolpajkeiijbmaa", sum := "28d488c14d4a59b3fe068b0d47259475a7c518df45b23323659bcc923bac18d0", func := "cistern/cisternlaw06.BackoffPlans", spec := "backoffPlans", inPlace := ["math.Float64bits"], apart := false }
def BackoffPlansSaid : Prop := backoffPlansRow.holds Try.pinned (OpenSpec.ofChange backoffPlansSpec)

/-- ITS FALSE NEIGHBOUR: 'it returns false'. Refute it at one input. -/
def backoffPlansWrong : ChangeSpec := { name := "backoffPlans", fn := fun _ => fun
  | [d1, d2, d3] => { results := [.lit (.bool false)], args := [d1, d2, d3] }
  | _ => none }
def BackoffPlansWrongFalsely : Prop := backoffPlansRow.holds Try.pinned (OpenSpec.ofChange backoffPlansWrong)

/-- 'cisternlaw06.BackoffBounds': WHATEVER THE INPUT: true; the input reads as it did. -/
def backoffBoundsSpec : ChangeSpec := { name := "backoffBounds", fn := fun _ => fun
  | [d1, d2, d3] => { results := [.lit (.bool true)], args := [d1, d2, d3] }
  | _ => none }
def backoffBoundsRow : OpenClaim := { program := "ytolpajkeiijbmaa", sum := "28d488c14d4a59b3fe068b0d47259475a7c518df45b23323659bcc923bac18d0", func := "cistern/cisternlaw06.BackoffBounds", spec := "backoffBounds", inPlace := ["math.Float64bits"], apart := false }
def BackoffBoundsSaid : Prop := backoffBoundsRow.holds Try.pinned (OpenSpec.ofChange backoffBoundsSpec)

/-- ITS FALSE NEIGHBOUR: 'it returns false'. Refute it at one input. -/
def backoffBoundsWrong : ChangeSpec := { name := "backoffBounds", fn := fun _ => fun
  | [d1, d2, d3] => { results := [.lit (.bool false)], args := [d1, d2, d3] }
  | _ => none }
def BackoffBoundsWrongFalsely : Prop := backoffBoundsRow.holds Try.pinned (OpenSpec.ofChange backoffBoundsWrong)

/-- 'cisternlaw06.BackoffEdges': WHATEVER THE INPUT: true; the input reads as it did. -/
def backoffEdgesSpec : ChangeSpec := { name := "backoffEdges", fn := fun _ => fun
  | [d1, d2] => { results := [.lit (.bool true)], args := [d1, d2] }
  | _ => none }
def backoffEdgesRow : OpenClaim := { program := "ytolpajkeiijbmaa", sum := "28d488c14d4a59b3fe068b0d47259475a7c518df45b23323659bcc923bac18d0", func := "cistern/cisternlaw06.BackoffEdges", spec := "backoffEdges", inPlace := ["math.Float64bits"], apart := false }
def BackoffEdgesSaid : Prop := backoffEdgesRow.holds Try.pinned (OpenSpec.ofChange backoffEdgesSpec)

/-- ITS FALSE NEIGHBOUR: 'it returns false'. Refute it at one input. -/
def backoffEdgesWrong : ChangeSpec := { name := "backoffEdges", fn := fun _ => fun
  | [d1, d2] => { results := [.lit (.bool false)], args := [d1, d2] }
  | _ => none }
def BackoffEdgesWrongFalsely : Prop := backoffEdgesRow.holds Try.pinned (OpenSpec.ofChange backoffEdgesWrong)

/-- 'cisternlaw06.BackoffShifts': WHATEVER THE INPUT: true; the input reads as it did. -/
def backoffShiftsSpec : ChangeSpec := { name := "backoffShifts", fn := fun _ => fun
  | [d1, d2, d3] => { results := [.lit (.bool true)], args := [d1, d2, d3] }
  | _ => none }
def backoffShiftsRow : OpenClaim := { program := "ytolpajkeiijbmaa", sum := "28d488c14d4a59b3fe068b0d47259475a7c518df45b23323659bcc923bac18d0", func := "cistern/cisternlaw06.BackoffShifts", spec := "backoffShifts", inPlace := ["math.Float64bits"], apart := false }
def BackoffShiftsSaid : Prop := backoffShiftsRow.holds Try.pinned (OpenSpec.ofChange backoffShiftsSpec)

/-- ITS FALSE NEIGHBOUR: 'it returns false'. Refute it at one input. -/
def backoffShiftsWrong : ChangeSpec := { name := "backoffShifts", fn := fun _ => fun
  | [d1, d2, d3] => { results := [.lit (.bool false)], args := [d1, d2, d3] }
  | _ => none }
def BackoffShiftsWrongFalsely : Prop := backoffShiftsRow.holds Try.pinned (OpenSpec.ofChange backoffShiftsWrong)

/- THE SECOND FORM. 'bulk': how many values and letters a reading holds, each counted each time it is reached (what is shared counts as often as it is met; a slice's spare places count too). A statement '..UptoSaid' is the law's where the arguments, and the package variables that the reading takes, are together of bulk at most 1048576: NARROWER than '..Said'. Prove '..Said' where nothing that the law and all that it calls make is longer than what came in: it says more and counts as full. Else prove '..UptoSaid'. A law counts once. -/
mutual
def uptoBulk {H : Type} : DataW H → Nat
  | .lit (.string bytes) => bytes.length + 1
  | .lit _ => 1
  | .nil => 1
  | .ptr d => uptoBulk d + 1
  | .slice elems spare => uptoBulkAll elems + uptoBulkAll spare + 1
  | .agg parts => uptoBulkAll parts + 1
  | .iface _ d => uptoBulk d + 1
  | .map entries => uptoBulkEntries entries + 1
  | .held _ => 1
def uptoBulkAll {H : Type} : List (DataW H) → Nat
  | [] => 0
  | d :: r => uptoBulk d + uptoBulkAll r
def uptoBulkEntries {H : Type} : List (Lit × DataW H) → Nat
  | [] => 0
  | x :: r => uptoBulkEntry x + uptoBulkEntries r
def uptoBulkEntry {H : Type} : Lit × DataW H → Nat
  | (.string bytes, d) => bytes.length + uptoBulk d + 1
  | (_, d) => uptoBulk d + 1
 end
def uptoSmall : (H : Type) → List (DataW H) → Bool := fun _ ds => decide (uptoBulkAll ds ≤ 1048576)
def OpenSpec.upto (s : _root_.Go.ChangeSpec) : _root_.Go.OpenSpec := { _root_.Go.OpenSpec.ofChange s with cond := some uptoSmall }

/-- 'cisternlaw06.BackoffDelays', WHERE WHAT IT READS IS OF BULK AT MOST 1048576: true; the input reads as it did. -/
def backoffDelaysUptoRow : OpenClaim := { program := "ytolpajkeiijbmaa", sum := "28d488c14d4a59b3fe068b0d47259475a7c518df45b23323659bcc923bac18d0", func := "cistern/cisternlaw06.BackoffDelays", spec := "backoffDelays", inPlace := ["math.Float64bits"], apart := false, narrowed := true }
def BackoffDelaysUptoSaid : Prop := backoffDelaysUptoRow.holds Try.pinned (OpenSpec.upto backoffDelaysSpec)

/-- 'cisternlaw06.BackoffPlans', WHERE WHAT IT READS IS OF BULK AT MOST 1048576: true; the input reads as it did. -/
def backoffPlansUptoRow : OpenClaim := { program := "ytolpajkeiijbmaa", sum := "28d488c14d4a59b3fe068b0d47259475a7c518df45b23323659bcc923bac18d0", func := "cistern/cisternlaw06.BackoffPlans", spec := "backoffPlans", inPlace := ["math.Float64bits"], apart := false, narrowed := true }
def BackoffPlansUptoSaid : Prop := backoffPlansUptoRow.holds Try.pinned (OpenSpec.upto backoffPlansSpec)

/-- 'cisternlaw06.BackoffBounds', WHERE WHAT IT READS IS OF BULK AT MOST 1048576: true; the input reads as it did. -/
def backoffBoundsUptoRow : OpenClaim := { program := "ytolpajkeiijbmaa", sum := "28d488c14d4a59b3fe068b0d47259475a7c518df45b23323659bcc923bac18d0", func := "cistern/cisternlaw06.BackoffBounds", spec := "backoffBounds", inPlace := ["math.Float64bits"], apart := false, narrowed := true }
def BackoffBoundsUptoSaid : Prop := backoffBoundsUptoRow.holds Try.pinned (OpenSpec.upto backoffBoundsSpec)

/-- 'cisternlaw06.BackoffEdges', WHERE WHAT IT READS IS OF BULK AT MOST 1048576: true; the input reads as it did. -/
def backoffEdgesUptoRow : OpenClaim := { program := "ytolpajkeiijbmaa", sum := "28d488c14d4a59b3fe068b0d47259475a7c518df45b23323659bcc923bac18d0", func := "cistern/cisternlaw06.BackoffEdges", spec := "backoffEdges", inPlace := ["math.Float64bits"], apart := false, narrowed := true }
def BackoffEdgesUptoSaid : Prop := backoffEdgesUptoRow.holds Try.pinned (OpenSpec.upto backoffEdgesSpec)

/-- 'cisternlaw06.BackoffShifts', WHERE WHAT IT READS IS OF BULK AT MOST 1048576: true; the input reads as it did. -/
def backoffShiftsUptoRow : OpenClaim := { program := "ytolpajkeiijbmaa", sum := "28d488c14d4a59b3fe068b0d47259475a7c518df45b23323659bcc923bac18d0", func := "cistern/cisternlaw06.BackoffShifts", spec := "backoffShifts", inPlace := ["math.Float64bits"], apart := false, narrowed := true }
def BackoffShiftsUptoSaid : Prop := backoffShiftsUptoRow.holds Try.pinned (OpenSpec.upto backoffShiftsSpec)

end Rows
end Go.Proofs.Ytolpajkeiijbmaa
