/-
  No cell of these rows narrows 'for every input' (looked for: loops, veiled, ifaces, maps, wideKeys, modest, calm, conditions, laid).
  DERIVED. THE GIVEN ROWS OF THIS SEAT. 9 by the template 'for every input the law returns true; each argument reads behind the call as it read before'; 0 by the template 'total and deterministic' (their statements: YtpnihbicncioaaaTotals.lean).
  GIVEN WITH THE SEED: the statements are not yours to turn. If you find one false, say at which input.
  Laid BY PROGRAM, IN A SANDBOX (cutbox-rows.mjs): the forced cells as the released guide's own fill.sh prints them over the translation 366860ba37b41054… (all of the seat's roots in one cut). By AI agents, Wed Nov 11 2026. No macro, syntax, notation, axiom, sorry.
-/
import Derived.Test.YtpnihbicncioaaaChecked
import GoSem.Claim
import GoSem.ClaimJoined
import GoSem.ClaimMapViews
import Derived.JoinedTies
import Derived.KernelRfl
namespace Go.Proofs.Ytpnihbicncioaaa
/- THE CELL 'sum', in the pinned program and in every row, IS THE sha256 OF THE DUMP (.gsa) THAT YtpnihbicncioaaaProg.lean LOADS. Nothing in Lean hashes anything: it is a label: what it is worth is what the hold of that sum in a sandbox is worth. -/
noncomputable def Try.pinned : Pinned := { name := "ytpnihbicncioaaa", sum := "366860ba37b41054cee0998e5b0282c56adcfbc2ff8c4276cb5230857e72d74b", checked := Try.checked }
namespace Rows
def none {H : Type} : Left H := { results := [], args := [] }

/-- 'cisternlaw04.GaugeOrders': WHATEVER THE INPUT: true; the input reads as it did. -/
def gaugeOrdersSpec : ChangeSpec := { name := "gaugeOrders", fn := fun _ => fun
  | [d1, d2, d3] => { results := [.lit (.bool true)], args := [d1, d2, d3] }
  | _ => none }
def gaugeOrdersRow : OpenClaim := { program := "ytpnihbicncioaaa", sum := "366860ba37b41054cee0998e5b0282c56adcfbc2ff8c4276cb5230857e72d74b", func := "cistern/cisternlaw04.GaugeOrders", spec := "gaugeOrders", inPlace := ["math.Float64frombits", "math.Float64bits"], apart := false }
def GaugeOrdersSaid : Prop := gaugeOrdersRow.holds Try.pinned (OpenSpec.ofChange gaugeOrdersSpec)

/-- ITS FALSE NEIGHBOUR: 'it returns false'. Refute it at one input. -/
def gaugeOrdersWrong : ChangeSpec := { name := "gaugeOrders", fn := fun _ => fun
  | [d1, d2, d3] => { results := [.lit (.bool false)], args := [d1, d2, d3] }
  | _ => none }
def GaugeOrdersWrongFalsely : Prop := gaugeOrdersRow.holds Try.pinned (OpenSpec.ofChange gaugeOrdersWrong)

/-- 'cisternlaw04.GaugePicks': WHATEVER THE INPUT: true; the input reads as it did. -/
def gaugePicksSpec : ChangeSpec := { name := "gaugePicks", fn := fun _ => fun
  | [d1, d2, d3] => { results := [.lit (.bool true)], args := [d1, d2, d3] }
  | _ => none }
def gaugePicksRow : OpenClaim := { program := "ytpnihbicncioaaa", sum := "366860ba37b41054cee0998e5b0282c56adcfbc2ff8c4276cb5230857e72d74b", func := "cistern/cisternlaw04.GaugePicks", spec := "gaugePicks", inPlace := ["math.Float64frombits", "math.Float64bits"], apart := false }
def GaugePicksSaid : Prop := gaugePicksRow.holds Try.pinned (OpenSpec.ofChange gaugePicksSpec)

/-- ITS FALSE NEIGHBOUR: 'it returns false'. Refute it at one input. -/
def gaugePicksWrong : ChangeSpec := { name := "gaugePicks", fn := fun _ => fun
  | [d1, d2, d3] => { results := [.lit (.bool false)], args := [d1, d2, d3] }
  | _ => none }
def GaugePicksWrongFalsely : Prop := gaugePicksRow.holds Try.pinned (OpenSpec.ofChange gaugePicksWrong)

/-- 'cisternlaw04.GaugeSteps': WHATEVER THE INPUT: true; the input reads as it did. -/
def gaugeStepsSpec : ChangeSpec := { name := "gaugeSteps", fn := fun _ => fun
  | [d] => { results := [.lit (.bool true)], args := [d] }
  | _ => none }
def gaugeStepsRow : OpenClaim := { program := "ytpnihbicncioaaa", sum := "366860ba37b41054cee0998e5b0282c56adcfbc2ff8c4276cb5230857e72d74b", func := "cistern/cisternlaw04.GaugeSteps", spec := "gaugeSteps", inPlace := ["math.Float64frombits", "math.Float64bits"], apart := false }
def GaugeStepsSaid : Prop := gaugeStepsRow.holds Try.pinned (OpenSpec.ofChange gaugeStepsSpec)

/-- ITS FALSE NEIGHBOUR: 'it returns false'. Refute it at one input. -/
def gaugeStepsWrong : ChangeSpec := { name := "gaugeSteps", fn := fun _ => fun
  | [d] => { results := [.lit (.bool false)], args := [d] }
  | _ => none }
def GaugeStepsWrongFalsely : Prop := gaugeStepsRow.holds Try.pinned (OpenSpec.ofChange gaugeStepsWrong)

/-- 'cisternlaw04.GaugeWhole': WHATEVER THE INPUT: true; the input reads as it did. -/
def gaugeWholeSpec : ChangeSpec := { name := "gaugeWhole", fn := fun _ => fun
  | [d1, d2, d3] => { results := [.lit (.bool true)], args := [d1, d2, d3] }
  | _ => none }
def gaugeWholeRow : OpenClaim := { program := "ytpnihbicncioaaa", sum := "366860ba37b41054cee0998e5b0282c56adcfbc2ff8c4276cb5230857e72d74b", func := "cistern/cisternlaw04.GaugeWhole", spec := "gaugeWhole", inPlace := ["math.Float64frombits", "math.Float64bits"], apart := false }
def GaugeWholeSaid : Prop := gaugeWholeRow.holds Try.pinned (OpenSpec.ofChange gaugeWholeSpec)

/-- ITS FALSE NEIGHBOUR: 'it returns false'. Refute it at one input. -/
def gaugeWholeWrong : ChangeSpec := { name := "gaugeWhole", fn := fun _ => fun
  | [d1, d2, d3] => { results := [.lit (.bool false)], args := [d1, d2, d3] }
  | _ => none }
def GaugeWholeWrongFalsely : Prop := gaugeWholeRow.holds Try.pinned (OpenSpec.ofChange gaugeWholeWrong)

/-- 'cisternlaw04.GaugeKeeps': WHATEVER THE INPUT: true; the input reads as it did. -/
def gaugeKeepsSpec : ChangeSpec := { name := "gaugeKeeps", fn := fun _ => fun
  | [d1, d2, d3] => { results := [.lit (.bool true)], args := [d1, d2, d3] }
  | _ => none }
def gaugeKeepsRow : OpenClaim := { program := "ytpnihbicncioaaa", sum := "366860ba37b41054cee0998e5b0282c56adcfbc2ff8c4276cb5230857e72d74b", func := "cistern/cisternlaw04.GaugeKeeps", spec := "gaugeKeeps", inPlace := ["math.Float64frombits", "math.Float64bits"], apart := false }
def GaugeKeepsSaid : Prop := gaugeKeepsRow.holds Try.pinned (OpenSpec.ofChange gaugeKeepsSpec)

/-- ITS FALSE NEIGHBOUR: 'it returns false'. Refute it at one input. -/
def gaugeKeepsWrong : ChangeSpec := { name := "gaugeKeeps", fn := fun _ => fun
  | [d1, d2, d3] => { results := [.lit (.bool false)], args := [d1, d2, d3] }
  | _ => none }
def GaugeKeepsWrongFalsely : Prop := gaugeKeepsRow.holds Try.pinned (OpenSpec.ofChange gaugeKeepsWrong)

/-- 'cisternlaw04.GaugeMirrors': WHATEVER THE INPUT: true; the input reads as it did. -/
def gaugeMirrorsSpec : ChangeSpec := { name := "gaugeMirrors", fn := fun _ => fun
  | [d1, d2] => { results := [.lit (.bool true)], args := [d1, d2] }
  | _ => none }
def gaugeMirrorsRow : OpenClaim := { program := "ytpnihbicncioaaa", sum := "366860ba37b41054cee0998e5b0282c56adcfbc2ff8c4276cb5230857e72d74b", func := "cistern/cisternlaw04.GaugeMirrors", spec := "gaugeMirrors", inPlace := ["math.Float64frombits", "math.Float64bits"], apart := false }
def GaugeMirrorsSaid : Prop := gaugeMirrorsRow.holds Try.pinned (OpenSpec.ofChange gaugeMirrorsSpec)

/-- ITS FALSE NEIGHBOUR: 'it returns false'. Refute it at one input. -/
def gaugeMirrorsWrong : ChangeSpec := { name := "gaugeMirrors", fn := fun _ => fun
  | [d1, d2] => { results := [.lit (.bool false)], args := [d1, d2] }
  | _ => none }
def GaugeMirrorsWrongFalsely : Prop := gaugeMirrorsRow.holds Try.pinned (OpenSpec.ofChange gaugeMirrorsWrong)

/-- 'cisternlaw04.GaugeTicks': WHATEVER THE INPUT: true; the input reads as it did. -/
def gaugeTicksSpec : ChangeSpec := { name := "gaugeTicks", fn := fun _ => fun
  | [d1, d2, d3] => { results := [.lit (.bool true)], args := [d1, d2, d3] }
  | _ => none }
def gaugeTicksRow : OpenClaim := { program := "ytpnihbicncioaaa", sum := "366860ba37b41054cee0998e5b0282c56adcfbc2ff8c4276cb5230857e72d74b", func := "cistern/cisternlaw04.GaugeTicks", spec := "gaugeTicks", inPlace := ["math.Float64frombits", "math.Float64bits"], apart := false }
def GaugeTicksSaid : Prop := gaugeTicksRow.holds Try.pinned (OpenSpec.ofChange gaugeTicksSpec)

/-- ITS FALSE NEIGHBOUR: 'it returns false'. Refute it at one input. -/
def gaugeTicksWrong : ChangeSpec := { name := "gaugeTicks", fn := fun _ => fun
  | [d1, d2, d3] => { results := [.lit (.bool false)], args := [d1, d2, d3] }
  | _ => none }
def GaugeTicksWrongFalsely : Prop := gaugeTicksRow.holds Try.pinned (OpenSpec.ofChange gaugeTicksWrong)

/-- 'cisternlaw04.GaugePowers': WHATEVER THE INPUT: true; the input reads as it did. -/
def gaugePowersSpec : ChangeSpec := { name := "gaugePowers", fn := fun _ => fun
  | [d1, d2] => { results := [.lit (.bool true)], args := [d1, d2] }
  | _ => none }
def gaugePowersRow : OpenClaim := { program := "ytpnihbicncioaaa", sum := "366860ba37b41054cee0998e5b0282c56adcfbc2ff8c4276cb5230857e72d74b", func := "cistern/cisternlaw04.GaugePowers", spec := "gaugePowers", inPlace := ["math.Float64frombits", "math.Float64bits"], apart := false }
def GaugePowersSaid : Prop := gaugePowersRow.holds Try.pinned (OpenSpec.ofChange gaugePowersSpec)

/-- ITS FALSE NEIGHBOUR: 'it returns false'. Refute it at one input. -/
def gaugePowersWrong : ChangeSpec := { name := "gaugePowers", fn := fun _ => fun
  | [d1, d2] => { results := [.lit (.bool false)], args := [d1, d2] }
  | _ => none }
def GaugePowersWrongFalsely : Prop := gaugePowersRow.holds Try.pinned (OpenSpec.ofChange gaugePowersWrong)

/-- 'cisternlaw04.GaugeMixes': WHATEVER THE INPUT: true; the input reads as it did. -/
def gaugeMixesSpec : ChangeSpec := { name := "gaugeMixes", fn := fun _ => fun
  | [d1, d2] => { results := [.lit (.bool true)], args := [d1, d2] }
  | _ => none }
def gaugeMixesRow : OpenClaim := { program := "ytpnihbicncioaaa", sum := "366860ba37b41054cee0998e5b0282c56adcfbc2ff8c4276cb5230857e72d74b", func := "cistern/cisternlaw04.GaugeMixes", spec := "gaugeMixes", inPlace := ["math.Float64frombits", "math.Float64bits"], apart := false }
def GaugeMixesSaid : Prop := gaugeMixesRow.holds Try.pinned (OpenSpec.ofChange gaugeMixesSpec)

/-- ITS FALSE NEIGHBOUR: 'it returns false'. Refute it at one input. -/
def gaugeMixesWrong : ChangeSpec := { name := "gaugeMixes", fn := fun _ => fun
  | [d1, d2] => { results := [.lit (.bool false)], args := [d1, d2] }
  | _ => none }
def GaugeMixesWrongFalsely : Prop := gaugeMixesRow.holds Try.pinned (OpenSpec.ofChange gaugeMixesWrong)

/- THE SECOND FORM. 'bulk': how many values and letters a reading holds, each counted each time it is reached (what is shared counts as often as it is met; a slice's spare places count too). A statement '..UptoSaid' is the law's where the arguments, and the package variables that the reading takes, are together of bulk at most 1048576: NARROWER than '..Said'. Prove '..Said' where nothing that the law and all that it calls make is longer than what came in: it says more and counts as full. Else prove '..UptoSaid'. A law counts once. -/
mutual
def uptoBulk {H : Type} : DataW H → Nat
  | .lit (.string bytes) => bytes.length + 1
  | .lit _ => 1
  | .nil => 1
  | .ptr d => uptoBulk d + 1
  | .slice elems spare => uptoBulkAll elems + uptoBulkAll spare + 1
  | .agg parts => uptoBulkAll parts + 1
  | .iface _ d => uptoBulk d + 1
  | .map entries => uptoBulkEntries entries + 1
  | .held _ => 1
def uptoBulkAll {H : Type} : List (DataW H) → Nat
  | [] => 0
  | d :: r => uptoBulk d + uptoBulkAll r
def uptoBulkEntries {H : Type} : List (Lit × DataW H) → Nat
  | [] => 0
  | x :: r => uptoBulkEntry x + uptoBulkEntries r
def uptoBulkEntry {H : Type} : Lit × DataW H → Nat
  | (.string bytes, d) => bytes.length + uptoBulk d + 1
  | (_, d) => uptoBulk d + 1
 end
def uptoSmall : (H : Type) → List (DataW H) → Bool := fun _ ds => decide (uptoBulkAll ds ≤ 1048576)
def OpenSpec.upto (s : _root_.Go.ChangeSpec) : _root_.Go.OpenSpec := { _root_.Go.OpenSpec.ofChange s with cond := some uptoSmall }

/-- 'cisternlaw04.GaugeOrders', WHERE WHAT IT READS IS OF BULK AT MOST 1048576: true; the input reads as it did. -/
def gaugeOrdersUptoRow : OpenClaim := { program := "ytpnihbicncioaaa", sum := "366860ba37b41054cee0998e5b0282c56adcfbc2ff8c4276cb5230857e72d74b", func := "cistern/cisternlaw04.GaugeOrders", spec := "gaugeOrders", inPlace := ["math.Float64frombits", "math.Float64bits"], apart := false, narrowed := true }
def GaugeOrdersUptoSaid : Prop := gaugeOrdersUptoRow.holds Try.pinned (OpenSpec.upto gaugeOrdersSpec)

/-- 'cisternlaw04.GaugePicks', WHERE WHAT IT READS IS OF BULK AT MOST 1048576: true; the input reads as it did. -/
def gaugePicksUptoRow : OpenClaim := { program := "ytpnihbicncioaaa", sum := "366860ba37b41054cee0998e5b0282c56adcfbc2ff8c4276cb5230857e72d74b", func := "cistern/cisternlaw04.GaugePicks", spec := "gaugePicks", inPlace := ["math.Float64frombits", "math.Float64bits"], apart := false, narrowed := true }
def GaugePicksUptoSaid : Prop := gaugePicksUptoRow.holds Try.pinned (OpenSpec.upto gaugePicksSpec)

/-- 'cisternlaw04.GaugeSteps', WHERE WHAT IT READS IS OF BULK AT MOST 1048576: true; the input reads as it did. -/
def gaugeStepsUptoRow : OpenClaim := { program := "ytpnihbicncioaaa", sum := "366860ba37b41054cee0998e5b0282c56adcfbc2ff8c4276cb5230857e72d74b", func := "cistern/cisternlaw04.GaugeSteps", spec := "gaugeSteps", inPlace := ["math.Float64frombits", "math.Float64bits"], apart := false, narrowed := true }
def GaugeStepsUptoSaid : Prop := gaugeStepsUptoRow.holds Try.pinned (OpenSpec.upto gaugeStepsSpec)

/-- 'cisternlaw04.GaugeWhole', WHERE WHAT IT READS IS OF BULK AT MOST 1048576: true; the input reads as it did. -/
def gaugeWholeUptoRow : OpenClaim := { program := "ytpnihbicncioaaa", sum := "366860ba37b41054cee0998e5b0282c56adcfbc2ff8c4276cb5230857e72d74b", func := "cistern/cisternlaw04.GaugeWhole", spec := "gaugeWhole", inPlace := ["math.Float64frombits", "math.Float64bits"], apart := false, narrowed := true }
def GaugeWholeUptoSaid : Prop := gaugeWholeUptoRow.holds Try.pinned (OpenSpec.upto gaugeWholeSpec)

/-- 'cisternlaw04.GaugeKeeps', WHERE WHAT IT READS IS OF BULK AT MOST 1048576: true; the input reads as it did. -/
def gaugeKeepsUptoRow : OpenClaim := { program := "ytpnihbicncioaaa", sum := "366860ba37b41054cee0998e5b0282c56adcfbc2ff8c4276cb5230857e72d74b", func := "cistern/cisternlaw04.GaugeKeeps", spec := "gaugeKeeps", inPlace := ["math.Float64frombits", "math.Float64bits"], apart := false, narrowed := true }
def GaugeKeepsUptoSaid : Prop := gaugeKeepsUptoRow.holds Try.pinned (OpenSpec.upto gaugeKeepsSpec)

/-- 'cisternlaw04.GaugeMirrors', WHERE WHAT IT READS IS OF BULK AT MOST 1048576: true; the input reads as it did. -/
def gaugeMirrorsUptoRow : OpenClaim := { program := "ytpnihbicncioaaa", sum := "366860ba37b41054cee0998e5b0282c56adcfbc2ff8c4276cb5230857e72d74b", func := "cistern/cisternlaw04.GaugeMirrors", spec := "gaugeMirrors", inPlace := ["math.Float64frombits", "math.Float64bits"], apart := false, narrowed := true }
def GaugeMirrorsUptoSaid : Prop := gaugeMirrorsUptoRow.holds Try.pinned (OpenSpec.upto gaugeMirrorsSpec)

/-- 'cisternlaw04.GaugeTicks', WHERE WHAT IT READS IS OF BULK AT MOST 1048576: true; the input reads as it did. -/
def gaugeTicksUptoRow : OpenClaim := { program := "ytpnihbicncioaaa", sum := "366860ba37b41054cee0998e5b0282c56adcfbc2ff8c4276cb5230857e72d74b", func := "cistern/cisternlaw04.GaugeTicks", spec := "gaugeTicks", inPlace := ["math.Float64frombits", "math.Float64bits"], apart := false, narrowed := true }
def GaugeTicksUptoSaid : Prop := gaugeTicksUptoRow.holds Try.pinned (OpenSpec.upto gaugeTicksSpec)

/-- 'cisternlaw04.GaugePowers', WHERE WHAT IT READS IS OF BULK AT MOST 1048576: true; the input reads as it did. -/
def gaugePowersUptoRow : OpenClaim := { program := "ytpnihbicncioaaa", sum := "366860ba37b41054cee0998e5b0282c56adcfbc2ff8c4276cb5230857e72d74b", func := "cistern/cisternlaw04.GaugePowers", spec := "gaugePowers", inPlace := ["math.Float64frombits", "math.Float64bits"], apart := false, narrowed := true }
def GaugePowersUptoSaid : Prop := gaugePowersUptoRow.holds Try.pinned (OpenSpec.upto gaugePowersSpec)

/-- 'cisternlaw04.GaugeMixes', WHERE WHAT IT READS IS OF BULK AT MOST 1048576: true; the input reads as it did. -/
def gaugeMixesUptoRow : OpenClaim := { program := "ytpnihbicncioaaa", sum := "366860ba37b41054cee0998e5b0282c56adcfbc2ff8c4276cb5230857e72d74b", func := "cistern/cisternlaw04.GaugeMixes", spec := "gaugeMixes", inPlace := ["math.Float64frombits", "math.Float64bits"], apart := false, narrowed := true }
def GaugeMixesUptoSaid : Prop := gaugeMixesUptoRow.holds Try.pinned (OpenSpec.upto gaugeMixesSpec)

end Rows
end Go.Proofs.Ytpnihbicncioaaa
