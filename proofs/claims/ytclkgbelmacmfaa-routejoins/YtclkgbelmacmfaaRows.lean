/-
  No cell of these rows narrows 'for every input' (looked for: loops, veiled, ifaces, maps, wideKeys, modest, calm, conditions, laid).
  DERIVED. THE GIVEN ROWS OF THIS SEAT. 7 by the template 'for every input the law returns true; each argument reads behind the call as it read before'; 0 by the template 'total and deterministic' (their statements: YtclkgbelmacmfaaTotals.lean).
  GIVEN WITH THE SEED: the statements are not yours to turn. If you find one false, say at which input.
  Laid BY PROGRAM, IN A SANDBOX (cutbox-rows.mjs): the forced cells as the released guide's own fill.sh prints them over the translation 9b96df2bf6e3476e… (all of the seat's roots in one cut). By AI agents, Wed Nov 11 2026. No macro, syntax, notation, axiom, sorry.
-/
import Derived.Test.YtclkgbelmacmfaaChecked
import GoSem.Claim
import GoSem.ClaimJoined
import GoSem.ClaimMapViews
import Derived.JoinedTies
import Derived.KernelRfl
namespace Go.Proofs.Ytclkgbelmacmfaa
/- THE CELL 'sum', in the pinned program and in every row, IS THE sha256 OF THE DUMP (.gsa) THAT YtclkgbelmacmfaaProg.lean LOADS. Nothing in Lean hashes anything: it is a label: what it is worth is what the hold of that sum in a sandbox is worth. -/
noncomputable def Try.pinned : Pinned := { name := "ytclkgbelmacmfaa", sum := "9b96df2bf6e3476ea798de3898ac72e91f2d24a5e8e7d5ef702d09bd9f7ae1bf", checked := Try.checked }
namespace Rows
def none {H : Type} : Left H := { results := [], args := [] }

/-- 'cisternlaw13.RoutePaths': WHATEVER THE INPUT: true; the input reads as it did. -/
def routePathsSpec : ChangeSpec := { name := "routePaths", fn := fun _ => fun
  | [d] => { results := [.lit (.bool true)], args := [d] }
  | _ => none }
def routePathsRow : OpenClaim := { program := "ytclkgbelmacmfaa", sum := "9b96df2bf6e3476ea798de3898ac72e91f2d24a5e8e7d5ef702d09bd9f7ae1bf", func := "cistern/cisternlaw13.RoutePaths", spec := "routePaths", inPlace := ["internal/bytealg.IndexByteString", "internal/bytealg.IndexString", "internal/abi.NoEscape"], named := ["internal/bytealg.MaxLen"], apart := false }
def RoutePathsSaid : Prop := routePathsRow.holds Try.pinned (OpenSpec.ofChange routePathsSpec)

/-- ITS FALSE NEIGHBOUR: 'it returns false'. Refute it at one input. -/
def routePathsWrong : ChangeSpec := { name := "routePaths", fn := fun _ => fun
  | [d] => { results := [.lit (.bool false)], args := [d] }
  | _ => none }
def RoutePathsWrongFalsely : Prop := routePathsRow.holds Try.pinned (OpenSpec.ofChange routePathsWrong)

/-- 'cisternlaw13.RouteJoins': WHATEVER THE INPUT: true; the input reads as it did. -/
def routeJoinsSpec : ChangeSpec := { name := "routeJoins", fn := fun _ => fun
  | [d1, d2, d3] => { results := [.lit (.bool true)], args := [d1, d2, d3] }
  | _ => none }
def routeJoinsRow : OpenClaim := { program := "ytclkgbelmacmfaa", sum := "9b96df2bf6e3476ea798de3898ac72e91f2d24a5e8e7d5ef702d09bd9f7ae1bf", func := "cistern/cisternlaw13.RouteJoins", spec := "routeJoins", inPlace := ["internal/bytealg.IndexByteString", "internal/bytealg.IndexString", "internal/abi.NoEscape"], named := ["internal/bytealg.MaxLen"], apart := false }
def RouteJoinsSaid : Prop := routeJoinsRow.holds Try.pinned (OpenSpec.ofChange routeJoinsSpec)

/-- ITS FALSE NEIGHBOUR: 'it returns false'. Refute it at one input. -/
def routeJoinsWrong : ChangeSpec := { name := "routeJoins", fn := fun _ => fun
  | [d1, d2, d3] => { results := [.lit (.bool false)], args := [d1, d2, d3] }
  | _ => none }
def RouteJoinsWrongFalsely : Prop := routeJoinsRow.holds Try.pinned (OpenSpec.ofChange routeJoinsWrong)

/-- 'cisternlaw13.RouteInverse': WHATEVER THE INPUT: true; the input reads as it did. -/
def routeInverseSpec : ChangeSpec := { name := "routeInverse", fn := fun _ => fun
  | [d1, d2] => { results := [.lit (.bool true)], args := [d1, d2] }
  | _ => none }
def routeInverseRow : OpenClaim := { program := "ytclkgbelmacmfaa", sum := "9b96df2bf6e3476ea798de3898ac72e91f2d24a5e8e7d5ef702d09bd9f7ae1bf", func := "cistern/cisternlaw13.RouteInverse", spec := "routeInverse", inPlace := ["internal/bytealg.IndexByteString", "internal/bytealg.IndexString", "internal/abi.NoEscape"], named := ["internal/bytealg.MaxLen"], apart := false }
def RouteInverseSaid : Prop := routeInverseRow.holds Try.pinned (OpenSpec.ofChange routeInverseSpec)

/-- ITS FALSE NEIGHBOUR: 'it returns false'. Refute it at one input. -/
def routeInverseWrong : ChangeSpec := { name := "routeInverse", fn := fun _ => fun
  | [d1, d2] => { results := [.lit (.bool false)], args := [d1, d2] }
  | _ => none }
def RouteInverseWrongFalsely : Prop := routeInverseRow.holds Try.pinned (OpenSpec.ofChange routeInverseWrong)

/-- 'cisternlaw13.RouteUnder': WHATEVER THE INPUT: true; the input reads as it did. -/
def routeUnderSpec : ChangeSpec := { name := "routeUnder", fn := fun _ => fun
  | [d1, d2, d3] => { results := [.lit (.bool true)], args := [d1, d2, d3] }
  | _ => none }
def routeUnderRow : OpenClaim := { program := "ytclkgbelmacmfaa", sum := "9b96df2bf6e3476ea798de3898ac72e91f2d24a5e8e7d5ef702d09bd9f7ae1bf", func := "cistern/cisternlaw13.RouteUnder", spec := "routeUnder", inPlace := ["internal/bytealg.IndexByteString", "internal/bytealg.IndexString"], named := ["internal/bytealg.MaxLen"], apart := false }
def RouteUnderSaid : Prop := routeUnderRow.holds Try.pinned (OpenSpec.ofChange routeUnderSpec)

/-- ITS FALSE NEIGHBOUR: 'it returns false'. Refute it at one input. -/
def routeUnderWrong : ChangeSpec := { name := "routeUnder", fn := fun _ => fun
  | [d1, d2, d3] => { results := [.lit (.bool false)], args := [d1, d2, d3] }
  | _ => none }
def RouteUnderWrongFalsely : Prop := routeUnderRow.holds Try.pinned (OpenSpec.ofChange routeUnderWrong)

/-- 'cisternlaw13.RouteApart': WHATEVER THE INPUT: true; the input reads as it did. -/
def routeApartSpec : ChangeSpec := { name := "routeApart", fn := fun _ => fun
  | [d1, d2] => { results := [.lit (.bool true)], args := [d1, d2] }
  | _ => none }
def routeApartRow : OpenClaim := { program := "ytclkgbelmacmfaa", sum := "9b96df2bf6e3476ea798de3898ac72e91f2d24a5e8e7d5ef702d09bd9f7ae1bf", func := "cistern/cisternlaw13.RouteApart", spec := "routeApart", inPlace := ["internal/bytealg.IndexByteString", "internal/bytealg.IndexString", "internal/abi.NoEscape"], named := ["internal/bytealg.MaxLen"], apart := false }
def RouteApartSaid : Prop := routeApartRow.holds Try.pinned (OpenSpec.ofChange routeApartSpec)

/-- ITS FALSE NEIGHBOUR: 'it returns false'. Refute it at one input. -/
def routeApartWrong : ChangeSpec := { name := "routeApart", fn := fun _ => fun
  | [d1, d2] => { results := [.lit (.bool false)], args := [d1, d2] }
  | _ => none }
def RouteApartWrongFalsely : Prop := routeApartRow.holds Try.pinned (OpenSpec.ofChange routeApartWrong)

/-- 'cisternlaw13.RouteParents': WHATEVER THE INPUT: true; the input reads as it did. -/
def routeParentsSpec : ChangeSpec := { name := "routeParents", fn := fun _ => fun
  | [d] => { results := [.lit (.bool true)], args := [d] }
  | _ => none }
def routeParentsRow : OpenClaim := { program := "ytclkgbelmacmfaa", sum := "9b96df2bf6e3476ea798de3898ac72e91f2d24a5e8e7d5ef702d09bd9f7ae1bf", func := "cistern/cisternlaw13.RouteParents", spec := "routeParents", inPlace := ["internal/bytealg.IndexByteString", "internal/bytealg.IndexString", "internal/abi.NoEscape"], named := ["internal/bytealg.MaxLen"], apart := false }
def RouteParentsSaid : Prop := routeParentsRow.holds Try.pinned (OpenSpec.ofChange routeParentsSpec)

/-- ITS FALSE NEIGHBOUR: 'it returns false'. Refute it at one input. -/
def routeParentsWrong : ChangeSpec := { name := "routeParents", fn := fun _ => fun
  | [d] => { results := [.lit (.bool false)], args := [d] }
  | _ => none }
def RouteParentsWrongFalsely : Prop := routeParentsRow.holds Try.pinned (OpenSpec.ofChange routeParentsWrong)

/-- 'cisternlaw13.RouteNames': WHATEVER THE INPUT: true; the input reads as it did. -/
def routeNamesSpec : ChangeSpec := { name := "routeNames", fn := fun _ => fun
  | [d] => { results := [.lit (.bool true)], args := [d] }
  | _ => none }
def routeNamesRow : OpenClaim := { program := "ytclkgbelmacmfaa", sum := "9b96df2bf6e3476ea798de3898ac72e91f2d24a5e8e7d5ef702d09bd9f7ae1bf", func := "cistern/cisternlaw13.RouteNames", spec := "routeNames", inPlace := ["internal/bytealg.IndexByteString", "internal/bytealg.IndexString", "internal/abi.NoEscape"], named := ["internal/bytealg.MaxLen"], apart := false }
def RouteNamesSaid : Prop := routeNamesRow.holds Try.pinned (OpenSpec.ofChange routeNamesSpec)

/-- ITS FALSE NEIGHBOUR: 'it returns false'. Refute it at one input. -/
def routeNamesWrong : ChangeSpec := { name := "routeNames", fn := fun _ => fun
  | [d] => { results := [.lit (.bool false)], args := [d] }
  | _ => none }
def RouteNamesWrongFalsely : Prop := routeNamesRow.holds Try.pinned (OpenSpec.ofChange routeNamesWrong)

/- THE SECOND FORM. 'bulk': how many values and letters a reading holds, each counted each time it is reached (what is shared counts as often as it is met; a slice's spare places count too). A statement '..UptoSaid' is the law's where the arguments, and the package variables that the reading takes, are together of bulk at most 1048576: NARROWER than '..Said'. Prove '..Said' where nothing that the law and all that it calls make is longer than what came in: it says more and counts as full. Else prove '..UptoSaid'. A law counts once. -/
mutual
def uptoBulk {H : Type} : DataW H → Nat
  | .lit (.string bytes) => bytes.length + 1
  | .lit _ => 1
  | .nil => 1
  | .ptr d => uptoBulk d + 1
  | .slice elems spare => uptoBulkAll elems + uptoBulkAll spare + 1
  | .agg parts => uptoBulkAll parts + 1
  | .iface _ d => uptoBulk d + 1
  | .map entries => uptoBulkEntries entries + 1
  | .held _ => 1
def uptoBulkAll {H : Type} : List (DataW H) → Nat
  | [] => 0
  | d :: r => uptoBulk d + uptoBulkAll r
def uptoBulkEntries {H : Type} : List (Lit × DataW H) → Nat
  | [] => 0
  | x :: r => uptoBulkEntry x + uptoBulkEntries r
def uptoBulkEntry {H : Type} : Lit × DataW H → Nat
  | (.string bytes, d) => bytes.length + uptoBulk d + 1
  | (_, d) => uptoBulk d + 1
 end
def uptoSmall : (H : Type) → List (DataW H) → Bool := fun _ ds => decide (uptoBulkAll ds ≤ 1048576)
def OpenSpec.upto (s : _root_.Go.ChangeSpec) : _root_.Go.OpenSpec := { _root_.Go.OpenSpec.ofChange s with cond := some uptoSmall }

/-- 'cisternlaw13.RoutePaths', WHERE WHAT IT READS IS OF BULK AT MOST 1048576: true; the input reads as it did. -/
def routePathsUptoRow : OpenClaim := { program := "ytclkgbelmacmfaa", sum := "9b96df2bf6e3476ea798de3898ac72e91f2d24a5e8e7d5ef702d09bd9f7ae1bf", func := "cistern/cisternlaw13.RoutePaths", spec := "routePaths", inPlace := ["internal/bytealg.IndexByteString", "internal/bytealg.IndexString", "internal/abi.NoEscape"], named := ["internal/bytealg.MaxLen"], apart := false, narrowed := true }
def RoutePathsUptoSaid : Prop := routePathsUptoRow.holds Try.pinned (OpenSpec.upto routePathsSpec)

/-- 'cisternlaw13.RouteJoins', WHERE WHAT IT READS IS OF BULK AT MOST 1048576: true; the input reads as it did. -/
def routeJoinsUptoRow : OpenClaim := { program := "ytclkgbelmacmfaa", sum := "9b96df2bf6e3476ea798de3898ac72e91f2d24a5e8e7d5ef702d09bd9f7ae1bf", func := "cistern/cisternlaw13.RouteJoins", spec := "routeJoins", inPlace := ["internal/bytealg.IndexByteString", "internal/bytealg.IndexString", "internal/abi.NoEscape"], named := ["internal/bytealg.MaxLen"], apart := false, narrowed := true }
def RouteJoinsUptoSaid : Prop := routeJoinsUptoRow.holds Try.pinned (OpenSpec.upto routeJoinsSpec)

/-- 'cisternlaw13.RouteInverse', WHERE WHAT IT READS IS OF BULK AT MOST 1048576: true; the input reads as it did. -/
def routeInverseUptoRow : OpenClaim := { program := "ytclkgbelmacmfaa", sum := "9b96df2bf6e3476ea798de3898ac72e91f2d24a5e8e7d5ef702d09bd9f7ae1bf", func := "cistern/cisternlaw13.RouteInverse", spec := "routeInverse", inPlace := ["internal/bytealg.IndexByteString", "internal/bytealg.IndexString", "internal/abi.NoEscape"], named := ["internal/bytealg.MaxLen"], apart := false, narrowed := true }
def RouteInverseUptoSaid : Prop := routeInverseUptoRow.holds Try.pinned (OpenSpec.upto routeInverseSpec)

/-- 'cisternlaw13.RouteUnder', WHERE WHAT IT READS IS OF BULK AT MOST 1048576: true; the input reads as it did. -/
def routeUnderUptoRow : OpenClaim := { program := "ytclkgbelmacmfaa", sum := "9b96df2bf6e3476ea798de3898ac72e91f2d24a5e8e7d5ef702d09bd9f7ae1bf", func := "cistern/cisternlaw13.RouteUnder", spec := "routeUnder", inPlace := ["internal/bytealg.IndexByteString", "internal/bytealg.IndexString"], named := ["internal/bytealg.MaxLen"], apart := false, narrowed := true }
def RouteUnderUptoSaid : Prop := routeUnderUptoRow.holds Try.pinned (OpenSpec.upto routeUnderSpec)

/-- 'cisternlaw13.RouteApart', WHERE WHAT IT READS IS OF BULK AT MOST 1048576: true; the input reads as it did. -/
def routeApartUptoRow : OpenClaim := { program := "ytclkgbelmacmfaa", sum := "9b96df2bf6e3476ea798de3898ac72e91f2d24a5e8e7d5ef702d09bd9f7ae1bf", func := "cistern/cisternlaw13.RouteApart", spec := "routeApart", inPlace := ["internal/bytealg.IndexByteString", "internal/bytealg.IndexString", "internal/abi.NoEscape"], named := ["internal/bytealg.MaxLen"], apart := false, narrowed := true }
def RouteApartUptoSaid : Prop := routeApartUptoRow.holds Try.pinned (OpenSpec.upto routeApartSpec)

/-- 'cisternlaw13.RouteParents', WHERE WHAT IT READS IS OF BULK AT MOST 1048576: true; the input reads as it did. -/
def routeParentsUptoRow : OpenClaim := { program := "ytclkgbelmacmfaa", sum := "9b96df2bf6e3476ea798de3898ac72e91f2d24a5e8e7d5ef702d09bd9f7ae1bf", func := "cistern/cisternlaw13.RouteParents", spec := "routeParents", inPlace := ["internal/bytealg.IndexByteString", "internal/bytealg.IndexString", "internal/abi.NoEscape"], named := ["internal/bytealg.MaxLen"], apart := false, narrowed := true }
def RouteParentsUptoSaid : Prop := routeParentsUptoRow.holds Try.pinned (OpenSpec.upto routeParentsSpec)

/-- 'cisternlaw13.RouteNames', WHERE WHAT IT READS IS OF BULK AT MOST 1048576: true; the input reads as it did. -/
def routeNamesUptoRow : OpenClaim := { program := "ytclkgbelmacmfaa", sum := "9b96df2bf6e3476ea798de3898ac72e91f2d24a5e8e7d5ef702d09bd9f7ae1bf", func := "cistern/cisternlaw13.RouteNames", spec := "routeNames", inPlace := ["internal/bytealg.IndexByteString", "internal/bytealg.IndexString", "internal/abi.NoEscape"], named := ["internal/bytealg.MaxLen"], apart := false, narrowed := true }
def RouteNamesUptoSaid : Prop := routeNamesUptoRow.holds Try.pinned (OpenSpec.upto routeNamesSpec)

end Rows
end Go.Proofs.Ytclkgbelmacmfaa
