/-
  No cell of these rows narrows 'for every input' (looked for: loops, veiled, ifaces, maps, wideKeys, modest, calm, conditions, laid).
  DERIVED. THE GIVEN ROWS OF THIS SEAT. 6 by the template 'for every input the law returns true; each argument reads behind the call as it read before'; 0 by the template 'total and deterministic' (their statements: YtcbbppgleclndaaTotals.lean).
  GIVEN WITH THE SEED: the statements are not yours to turn. If you find one false, say at which input.
  Laid BY PROGRAM, IN A SANDBOX (cutbox-rows.mjs): the forced cells as the released guide's own fill.sh prints them over the translation 8062f1a68924b4a5… (all of the seat's roots in one cut). By AI agents, Wed Nov 11 2026. No macro, syntax, notation, axiom, sorry.
-/
import Derived.Test.YtcbbppgleclndaaChecked
import GoSem.Claim
import GoSem.ClaimJoined
import GoSem.ClaimMapViews
import Derived.JoinedTies
import Derived.KernelRfl
namespace Go.Proofs.Ytcbbppgleclndaa
/- THE CELL 'sum', in the pinned program and in every row, IS THE sha256 OF THE DUMP (.gsa) THAT YtcbbppgleclndaaProg.lean LOADS. Nothing in Lean hashes anything: it is a label: what it is worth is what the hold of that sum in a sandbox is worth. -/
noncomputable def Try.pinned : Pinned := { name := "ytcbbppgleclndaa", sum := "8062f1a68924b4a52ab2ed9f30ec64172e52a3ee3660dfdc4d711954b6400e13", checked := Try.checked }
namespace Rows
def none {H : Type} : Left H := { results := [], args := [] }

/-- 'cisternlaw02.BlobPlays': WHATEVER THE INPUT: true; the input reads as it did. -/
def blobPlaysSpec : ChangeSpec := { name := "blobPlays", fn := fun _ => fun
  | [d] => { results := [.lit (.bool true)], args := [d] }
  | _ => none }
def blobPlaysRow : OpenClaim := { program := "ytcbbppgleclndaa", sum := "8062f1a68924b4a52ab2ed9f30ec64172e52a3ee3660dfdc4d711954b6400e13", func := "cistern/cisternlaw02.BlobPlays", spec := "blobPlays", unfollowed := true, recurses := true, apart := false }
def BlobPlaysSaid : Prop := blobPlaysRow.holds Try.pinned (OpenSpec.ofChange blobPlaysSpec)

/-- ITS FALSE NEIGHBOUR: 'it returns false'. Refute it at one input. -/
def blobPlaysWrong : ChangeSpec := { name := "blobPlays", fn := fun _ => fun
  | [d] => { results := [.lit (.bool false)], args := [d] }
  | _ => none }
def BlobPlaysWrongFalsely : Prop := blobPlaysRow.holds Try.pinned (OpenSpec.ofChange blobPlaysWrong)

/-- 'cisternlaw02.BlobNames': WHATEVER THE INPUT: true; the input reads as it did. -/
def blobNamesSpec : ChangeSpec := { name := "blobNames", fn := fun _ => fun
  | [d] => { results := [.lit (.bool true)], args := [d] }
  | _ => none }
def blobNamesRow : OpenClaim := { program := "ytcbbppgleclndaa", sum := "8062f1a68924b4a52ab2ed9f30ec64172e52a3ee3660dfdc4d711954b6400e13", func := "cistern/cisternlaw02.BlobNames", spec := "blobNames", unfollowed := true, recurses := true, apart := false }
def BlobNamesSaid : Prop := blobNamesRow.holds Try.pinned (OpenSpec.ofChange blobNamesSpec)

/-- ITS FALSE NEIGHBOUR: 'it returns false'. Refute it at one input. -/
def blobNamesWrong : ChangeSpec := { name := "blobNames", fn := fun _ => fun
  | [d] => { results := [.lit (.bool false)], args := [d] }
  | _ => none }
def BlobNamesWrongFalsely : Prop := blobNamesRow.holds Try.pinned (OpenSpec.ofChange blobNamesWrong)

/-- 'cisternlaw02.BlobRoots': WHATEVER THE INPUT: true; the input reads as it did. -/
def blobRootsSpec : ChangeSpec := { name := "blobRoots", fn := fun _ => fun
  | [d] => { results := [.lit (.bool true)], args := [d] }
  | _ => none }
def blobRootsRow : OpenClaim := { program := "ytcbbppgleclndaa", sum := "8062f1a68924b4a52ab2ed9f30ec64172e52a3ee3660dfdc4d711954b6400e13", func := "cistern/cisternlaw02.BlobRoots", spec := "blobRoots", unfollowed := true, recurses := true, apart := false }
def BlobRootsSaid : Prop := blobRootsRow.holds Try.pinned (OpenSpec.ofChange blobRootsSpec)

/-- ITS FALSE NEIGHBOUR: 'it returns false'. Refute it at one input. -/
def blobRootsWrong : ChangeSpec := { name := "blobRoots", fn := fun _ => fun
  | [d] => { results := [.lit (.bool false)], args := [d] }
  | _ => none }
def BlobRootsWrongFalsely : Prop := blobRootsRow.holds Try.pinned (OpenSpec.ofChange blobRootsWrong)

/-- 'cisternlaw02.BlobWhole': WHATEVER THE INPUT: true; the input reads as it did. -/
def blobWholeSpec : ChangeSpec := { name := "blobWhole", fn := fun _ => fun
  | [d1, d2] => { results := [.lit (.bool true)], args := [d1, d2] }
  | _ => none }
def blobWholeRow : OpenClaim := { program := "ytcbbppgleclndaa", sum := "8062f1a68924b4a52ab2ed9f30ec64172e52a3ee3660dfdc4d711954b6400e13", func := "cistern/cisternlaw02.BlobWhole", spec := "blobWhole", unfollowed := true, recurses := true, apart := false }
def BlobWholeSaid : Prop := blobWholeRow.holds Try.pinned (OpenSpec.ofChange blobWholeSpec)

/-- ITS FALSE NEIGHBOUR: 'it returns false'. Refute it at one input. -/
def blobWholeWrong : ChangeSpec := { name := "blobWhole", fn := fun _ => fun
  | [d1, d2] => { results := [.lit (.bool false)], args := [d1, d2] }
  | _ => none }
def BlobWholeWrongFalsely : Prop := blobWholeRow.holds Try.pinned (OpenSpec.ofChange blobWholeWrong)

/-- 'cisternlaw02.BlobOthers': WHATEVER THE INPUT: true; the input reads as it did. -/
def blobOthersSpec : ChangeSpec := { name := "blobOthers", fn := fun _ => fun
  | [d1, d2] => { results := [.lit (.bool true)], args := [d1, d2] }
  | _ => none }
def blobOthersRow : OpenClaim := { program := "ytcbbppgleclndaa", sum := "8062f1a68924b4a52ab2ed9f30ec64172e52a3ee3660dfdc4d711954b6400e13", func := "cistern/cisternlaw02.BlobOthers", spec := "blobOthers", unfollowed := true, recurses := true, apart := false }
def BlobOthersSaid : Prop := blobOthersRow.holds Try.pinned (OpenSpec.ofChange blobOthersSpec)

/-- ITS FALSE NEIGHBOUR: 'it returns false'. Refute it at one input. -/
def blobOthersWrong : ChangeSpec := { name := "blobOthers", fn := fun _ => fun
  | [d1, d2] => { results := [.lit (.bool false)], args := [d1, d2] }
  | _ => none }
def BlobOthersWrongFalsely : Prop := blobOthersRow.holds Try.pinned (OpenSpec.ofChange blobOthersWrong)

/-- 'cisternlaw02.BlobOutcomes': WHATEVER THE INPUT: true; the input reads as it did. -/
def blobOutcomesSpec : ChangeSpec := { name := "blobOutcomes", fn := fun _ => fun
  | [d] => { results := [.lit (.bool true)], args := [d] }
  | _ => none }
def blobOutcomesRow : OpenClaim := { program := "ytcbbppgleclndaa", sum := "8062f1a68924b4a52ab2ed9f30ec64172e52a3ee3660dfdc4d711954b6400e13", func := "cistern/cisternlaw02.BlobOutcomes", spec := "blobOutcomes", unfollowed := true, recurses := true, apart := false }
def BlobOutcomesSaid : Prop := blobOutcomesRow.holds Try.pinned (OpenSpec.ofChange blobOutcomesSpec)

/-- ITS FALSE NEIGHBOUR: 'it returns false'. Refute it at one input. -/
def blobOutcomesWrong : ChangeSpec := { name := "blobOutcomes", fn := fun _ => fun
  | [d] => { results := [.lit (.bool false)], args := [d] }
  | _ => none }
def BlobOutcomesWrongFalsely : Prop := blobOutcomesRow.holds Try.pinned (OpenSpec.ofChange blobOutcomesWrong)

/- THE SECOND FORM. 'bulk': how many values and letters a reading holds, each counted each time it is reached (what is shared counts as often as it is met; a slice's spare places count too). A statement '..UptoSaid' is the law's where the arguments, and the package variables that the reading takes, are together of bulk at most 1048576: NARROWER than '..Said'. Prove '..Said' where nothing that the law and all that it calls make is longer than what came in: it says more and counts as full. Else prove '..UptoSaid'. A law counts once. -/
mutual
def uptoBulk {H : Type} : DataW H → Nat
  | .lit (.string bytes) => bytes.length + 1
  | .lit _ => 1
  | .nil => 1
  | .ptr d => uptoBulk d + 1
  | .slice elems spare => uptoBulkAll elems + uptoBulkAll spare + 1
  | .agg parts => uptoBulkAll parts + 1
  | .iface _ d => uptoBulk d + 1
  | .map entries => uptoBulkEntries entries + 1
  | .held _ => 1
def uptoBulkAll {H : Type} : List (DataW H) → Nat
  | [] => 0
  | d :: r => uptoBulk d + uptoBulkAll r
def uptoBulkEntries {H : Type} : List (Lit × DataW H) → Nat
  | [] => 0
  | x :: r => uptoBulkEntry x + uptoBulkEntries r
def uptoBulkEntry {H : Type} : Lit × DataW H → Nat
  | (.string bytes, d) => bytes.length + uptoBulk d + 1
  | (_, d) => uptoBulk d + 1
 end
def uptoSmall : (H : Type) → List (DataW H) → Bool := fun _ ds => decide (uptoBulkAll ds ≤ 1048576)
def OpenSpec.upto (s : _root_.Go.ChangeSpec) : _root_.Go.OpenSpec := { _root_.Go.OpenSpec.ofChange s with cond := some uptoSmall }

/-- 'cisternlaw02.BlobPlays', WHERE WHAT IT READS IS OF BULK AT MOST 1048576: true; the input reads as it did. -/
def blobPlaysUptoRow : OpenClaim := { program := "ytcbbppgleclndaa", sum := "8062f1a68924b4a52ab2ed9f30ec64172e52a3ee3660dfdc4d711954b6400e13", func := "cistern/cisternlaw02.BlobPlays", spec := "blobPlays", unfollowed := true, recurses := true, apart := false, narrowed := true }
def BlobPlaysUptoSaid : Prop := blobPlaysUptoRow.holds Try.pinned (OpenSpec.upto blobPlaysSpec)

/-- 'cisternlaw02.BlobNames', WHERE WHAT IT READS IS OF BULK AT MOST 1048576: true; the input reads as it did. -/
def blobNamesUptoRow : OpenClaim := { program := "ytcbbppgleclndaa", sum := "8062f1a68924b4a52ab2ed9f30ec64172e52a3ee3660dfdc4d711954b6400e13", func := "cistern/cisternlaw02.BlobNames", spec := "blobNames", unfollowed := true, recurses := true, apart := false, narrowed := true }
def BlobNamesUptoSaid : Prop := blobNamesUptoRow.holds Try.pinned (OpenSpec.upto blobNamesSpec)

/-- 'cisternlaw02.BlobRoots', WHERE WHAT IT READS IS OF BULK AT MOST 1048576: true; the input reads as it did. -/
def blobRootsUptoRow : OpenClaim := { program := "ytcbbppgleclndaa", sum := "8062f1a68924b4a52ab2ed9f30ec64172e52a3ee3660dfdc4d711954b6400e13", func := "cistern/cisternlaw02.BlobRoots", spec := "blobRoots", unfollowed := true, recurses := true, apart := false, narrowed := true }
def BlobRootsUptoSaid : Prop := blobRootsUptoRow.holds Try.pinned (OpenSpec.upto blobRootsSpec)

/-- 'cisternlaw02.BlobWhole', WHERE WHAT IT READS IS OF BULK AT MOST 1048576: true; the input reads as it did. -/
def blobWholeUptoRow : OpenClaim := { program := "ytcbbppgleclndaa", sum := "8062f1a68924b4a52ab2ed9f30ec64172e52a3ee3660dfdc4d711954b6400e13", func := "cistern/cisternlaw02.BlobWhole", spec := "blobWhole", unfollowed := true, recurses := true, apart := false, narrowed := true }
def BlobWholeUptoSaid : Prop := blobWholeUptoRow.holds Try.pinned (OpenSpec.upto blobWholeSpec)

/-- 'cisternlaw02.BlobOthers', WHERE WHAT IT READS IS OF BULK AT MOST 1048576: true; the input reads as it did. -/
def blobOthersUptoRow : OpenClaim := { program := "ytcbbppgleclndaa", sum := "8062f1a68924b4a52ab2ed9f30ec64172e52a3ee3660dfdc4d711954b6400e13", func := "cistern/cisternlaw02.BlobOthers", spec := "blobOthers", unfollowed := true, recurses := true, apart := false, narrowed := true }
def BlobOthersUptoSaid : Prop := blobOthersUptoRow.holds Try.pinned (OpenSpec.upto blobOthersSpec)

/-- 'cisternlaw02.BlobOutcomes', WHERE WHAT IT READS IS OF BULK AT MOST 1048576: true; the input reads as it did. -/
def blobOutcomesUptoRow : OpenClaim := { program := "ytcbbppgleclndaa", sum := "8062f1a68924b4a52ab2ed9f30ec64172e52a3ee3660dfdc4d711954b6400e13", func := "cistern/cisternlaw02.BlobOutcomes", spec := "blobOutcomes", unfollowed := true, recurses := true, apart := false, narrowed := true }
def BlobOutcomesUptoSaid : Prop := blobOutcomesUptoRow.holds Try.pinned (OpenSpec.upto blobOutcomesSpec)

end Rows
end Go.Proofs.Ytcbbppgleclndaa
