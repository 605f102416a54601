/-
  No cell of these rows narrows 'for every input' (looked for: loops, veiled, ifaces, maps, wideKeys, modest, calm, conditions, laid).
  DERIVED. THE GIVEN ROWS OF THIS SEAT. 7 by the template 'for every input the law returns true; each argument reads behind the call as it read before'; 0 by the template 'total and deterministic' (their statements: YtbjdkbcfpmeneaaTotals.lean).
  GIVEN WITH THE SEED: the statements are not yours to turn. If you find one false, say at which input.
  Laid BY PROGRAM, IN A SANDBOX (cutbox-rows.mjs): the forced cells as the released guide's own fill.sh prints them over the translation 73c969294f7ec922… (all of the seat's roots in one cut). By AI agents, Wed Nov 11 2026. No macro, syntax, notation, axiom, sorry.
-/
import Derived.Test.YtbjdkbcfpmeneaaChecked
import GoSem.Claim
import GoSem.ClaimJoined
import GoSem.ClaimMapViews
import Derived.JoinedTies
import Derived.KernelRfl
namespace Go.Proofs.Ytbjdkbcfpmeneaa
/- THE CELL 'sum', in the pinned program and in every row, IS THE sha256 OF THE DUMP (.gsa) THAT YtbjdkbcfpmeneaaProg.lean LOADS. Nothing in Lean hashes anything: it is a label: what it is worth is what the hold of that sum in a sandbox is worth. -/
noncomputable def Try.pinned : Pinned := { name := "ytbjdkbcfpmeneaa", sum := "73c969294f7ec922e5912b9e6aeab124dfd1780ef479c9c5532f4e92cdb260da", checked := Try.checked }
namespace Rows
def none {H : Type} : Left H := { results := [], args := [] }

/-- 'gleanerkeep.Munched': WHATEVER THE INPUT: true; the input reads as it did. -/
def munchedSpec : ChangeSpec := { name := "munched", fn := fun _ => fun
  | [d1, d2] => { results := [.lit (.bool true)], args := [d1, d2] }
  | _ => none }
def munchedRow : OpenClaim := { program := "ytbjdkbcfpmeneaa", sum := "73c969294f7ec922e5912b9e6aeab124dfd1780ef479c9c5532f4e92cdb260da", func := "gleaner/gleanerkeep.Munched", spec := "munched", inPlace := ["internal/bytealg.IndexByteString"], recurses := true, plainKeys := false, apart := false }
def MunchedSaid : Prop := munchedRow.holds Try.pinned (OpenSpec.ofChange munchedSpec)

/-- ITS FALSE NEIGHBOUR: 'it returns false'. Refute it at one input. -/
def munchedWrong : ChangeSpec := { name := "munched", fn := fun _ => fun
  | [d1, d2] => { results := [.lit (.bool false)], args := [d1, d2] }
  | _ => none }
def MunchedWrongFalsely : Prop := munchedRow.holds Try.pinned (OpenSpec.ofChange munchedWrong)

/-- 'gleanerkeep.Composed': WHATEVER THE INPUT: true; the input reads as it did. -/
def composedSpec : ChangeSpec := { name := "composed", fn := fun _ => fun
  | [d1, d2, d3] => { results := [.lit (.bool true)], args := [d1, d2, d3] }
  | _ => none }
def composedRow : OpenClaim := { program := "ytbjdkbcfpmeneaa", sum := "73c969294f7ec922e5912b9e6aeab124dfd1780ef479c9c5532f4e92cdb260da", func := "gleaner/gleanerkeep.Composed", spec := "composed", inPlace := ["internal/bytealg.IndexByteString"], recurses := true, plainKeys := false, apart := false }
def ComposedSaid : Prop := composedRow.holds Try.pinned (OpenSpec.ofChange composedSpec)

/-- ITS FALSE NEIGHBOUR: 'it returns false'. Refute it at one input. -/
def composedWrong : ChangeSpec := { name := "composed", fn := fun _ => fun
  | [d1, d2, d3] => { results := [.lit (.bool false)], args := [d1, d2, d3] }
  | _ => none }
def ComposedWrongFalsely : Prop := composedRow.holds Try.pinned (OpenSpec.ofChange composedWrong)

/-- 'gleanerkeep.Again': WHATEVER THE INPUT: true; the input reads as it did. -/
def againSpec : ChangeSpec := { name := "again", fn := fun _ => fun
  | [d1, d2] => { results := [.lit (.bool true)], args := [d1, d2] }
  | _ => none }
def againRow : OpenClaim := { program := "ytbjdkbcfpmeneaa", sum := "73c969294f7ec922e5912b9e6aeab124dfd1780ef479c9c5532f4e92cdb260da", func := "gleaner/gleanerkeep.Again", spec := "again", inPlace := ["internal/bytealg.IndexByteString"], recurses := true, plainKeys := false, apart := false }
def AgainSaid : Prop := againRow.holds Try.pinned (OpenSpec.ofChange againSpec)

/-- ITS FALSE NEIGHBOUR: 'it returns false'. Refute it at one input. -/
def againWrong : ChangeSpec := { name := "again", fn := fun _ => fun
  | [d1, d2] => { results := [.lit (.bool false)], args := [d1, d2] }
  | _ => none }
def AgainWrongFalsely : Prop := againRow.holds Try.pinned (OpenSpec.ofChange againWrong)

/-- 'gleanerkeep.Placed': WHATEVER THE INPUT: true; the input reads as it did. -/
def placedSpec : ChangeSpec := { name := "placed", fn := fun _ => fun
  | [d] => { results := [.lit (.bool true)], args := [d] }
  | _ => none }
def placedRow : OpenClaim := { program := "ytbjdkbcfpmeneaa", sum := "73c969294f7ec922e5912b9e6aeab124dfd1780ef479c9c5532f4e92cdb260da", func := "gleaner/gleanerkeep.Placed", spec := "placed", inPlace := ["internal/bytealg.IndexByteString"], recurses := true, plainKeys := false, apart := false }
def PlacedSaid : Prop := placedRow.holds Try.pinned (OpenSpec.ofChange placedSpec)

/-- ITS FALSE NEIGHBOUR: 'it returns false'. Refute it at one input. -/
def placedWrong : ChangeSpec := { name := "placed", fn := fun _ => fun
  | [d] => { results := [.lit (.bool false)], args := [d] }
  | _ => none }
def PlacedWrongFalsely : Prop := placedRow.holds Try.pinned (OpenSpec.ofChange placedWrong)

/-- 'gleanerkeep.Walked': WHATEVER THE INPUT: true; the input reads as it did. -/
def walkedSpec : ChangeSpec := { name := "walked", fn := fun _ => fun
  | [d1, d2, d3] => { results := [.lit (.bool true)], args := [d1, d2, d3] }
  | _ => none }
def walkedRow : OpenClaim := { program := "ytbjdkbcfpmeneaa", sum := "73c969294f7ec922e5912b9e6aeab124dfd1780ef479c9c5532f4e92cdb260da", func := "gleaner/gleanerkeep.Walked", spec := "walked", inPlace := ["internal/bytealg.IndexByteString"], recurses := true, plainKeys := false, apart := false }
def WalkedSaid : Prop := walkedRow.holds Try.pinned (OpenSpec.ofChange walkedSpec)

/-- ITS FALSE NEIGHBOUR: 'it returns false'. Refute it at one input. -/
def walkedWrong : ChangeSpec := { name := "walked", fn := fun _ => fun
  | [d1, d2, d3] => { results := [.lit (.bool false)], args := [d1, d2, d3] }
  | _ => none }
def WalkedWrongFalsely : Prop := walkedRow.holds Try.pinned (OpenSpec.ofChange walkedWrong)

/-- 'gleanerkeep.Smallest': WHATEVER THE INPUT: true; the input reads as it did. -/
def smallestSpec : ChangeSpec := { name := "smallest", fn := fun _ => fun
  | [d] => { results := [.lit (.bool true)], args := [d] }
  | _ => none }
def smallestRow : OpenClaim := { program := "ytbjdkbcfpmeneaa", sum := "73c969294f7ec922e5912b9e6aeab124dfd1780ef479c9c5532f4e92cdb260da", func := "gleaner/gleanerkeep.Smallest", spec := "smallest", inPlace := ["internal/bytealg.IndexByteString"], recurses := true, plainKeys := false, apart := false }
def SmallestSaid : Prop := smallestRow.holds Try.pinned (OpenSpec.ofChange smallestSpec)

/-- ITS FALSE NEIGHBOUR: 'it returns false'. Refute it at one input. -/
def smallestWrong : ChangeSpec := { name := "smallest", fn := fun _ => fun
  | [d] => { results := [.lit (.bool false)], args := [d] }
  | _ => none }
def SmallestWrongFalsely : Prop := smallestRow.holds Try.pinned (OpenSpec.ofChange smallestWrong)

/-- 'gleanerkeep.Alike': WHATEVER THE INPUT: true; the input reads as it did. -/
def alikeSpec : ChangeSpec := { name := "alike", fn := fun _ => fun
  | [d1, d2] => { results := [.lit (.bool true)], args := [d1, d2] }
  | _ => none }
def alikeRow : OpenClaim := { program := "ytbjdkbcfpmeneaa", sum := "73c969294f7ec922e5912b9e6aeab124dfd1780ef479c9c5532f4e92cdb260da", func := "gleaner/gleanerkeep.Alike", spec := "alike", inPlace := ["internal/bytealg.IndexByteString"], recurses := true, plainKeys := false, apart := false }
def AlikeSaid : Prop := alikeRow.holds Try.pinned (OpenSpec.ofChange alikeSpec)

/-- ITS FALSE NEIGHBOUR: 'it returns false'. Refute it at one input. -/
def alikeWrong : ChangeSpec := { name := "alike", fn := fun _ => fun
  | [d1, d2] => { results := [.lit (.bool false)], args := [d1, d2] }
  | _ => none }
def AlikeWrongFalsely : Prop := alikeRow.holds Try.pinned (OpenSpec.ofChange alikeWrong)

/- THE SECOND FORM. 'bulk': how many values and letters a reading holds, each counted each time it is reached (what is shared counts as often as it is met; a slice's spare places count too). A statement '..UptoSaid' is the law's where the arguments, and the package variables that the reading takes, are together of bulk at most 1048576: NARROWER than '..Said'. Prove '..Said' where nothing that the law and all that it calls make is longer than what came in: it says more and counts as full. Else prove '..UptoSaid'. A law counts once. -/
mutual
def uptoBulk {H : Type} : DataW H → Nat
  | .lit (.string bytes) => bytes.length + 1
  | .lit _ => 1
  | .nil => 1
  | .ptr d => uptoBulk d + 1
  | .slice elems spare => uptoBulkAll elems + uptoBulkAll spare + 1
  | .agg parts => uptoBulkAll parts + 1
  | .iface _ d => uptoBulk d + 1
  | .map entries => uptoBulkEntries entries + 1
  | .held _ => 1
def uptoBulkAll {H : Type} : List (DataW H) → Nat
  | [] => 0
  | d :: r => uptoBulk d + uptoBulkAll r
def uptoBulkEntries {H : Type} : List (Lit × DataW H) → Nat
  | [] => 0
  | x :: r => uptoBulkEntry x + uptoBulkEntries r
def uptoBulkEntry {H : Type} : Lit × DataW H → Nat
  | (.string bytes, d) => bytes.length + uptoBulk d + 1
  | (_, d) => uptoBulk d + 1
 end
def uptoSmall : (H : Type) → List (DataW H) → Bool := fun _ ds => decide (uptoBulkAll ds ≤ 1048576)
def OpenSpec.upto (s : _root_.Go.ChangeSpec) : _root_.Go.OpenSpec := { _root_.Go.OpenSpec.ofChange s with cond := some uptoSmall }

/-- 'gleanerkeep.Munched', WHERE WHAT IT READS IS OF BULK AT MOST 1048576: true; the input reads as it did. -/
def munchedUptoRow : OpenClaim := { program := "ytbjdkbcfpmeneaa", sum := "73c969294f7ec922e5912b9e6aeab124dfd1780ef479c9c5532f4e92cdb260da", func := "gleaner/gleanerkeep.Munched", spec := "munched", inPlace := ["internal/bytealg.IndexByteString"], recurses := true, plainKeys := false, apart := false, narrowed := true }
def MunchedUptoSaid : Prop := munchedUptoRow.holds Try.pinned (OpenSpec.upto munchedSpec)

/-- 'gleanerkeep.Composed', WHERE WHAT IT READS IS OF BULK AT MOST 1048576: true; the input reads as it did. -/
def composedUptoRow : OpenClaim := { program := "ytbjdkbcfpmeneaa", sum := "73c969294f7ec922e5912b9e6aeab124dfd1780ef479c9c5532f4e92cdb260da", func := "gleaner/gleanerkeep.Composed", spec := "composed", inPlace := ["internal/bytealg.IndexByteString"], recurses := true, plainKeys := false, apart := false, narrowed := true }
def ComposedUptoSaid : Prop := composedUptoRow.holds Try.pinned (OpenSpec.upto composedSpec)

/-- 'gleanerkeep.Again', WHERE WHAT IT READS IS OF BULK AT MOST 1048576: true; the input reads as it did. -/
def againUptoRow : OpenClaim := { program := "ytbjdkbcfpmeneaa", sum := "73c969294f7ec922e5912b9e6aeab124dfd1780ef479c9c5532f4e92cdb260da", func := "gleaner/gleanerkeep.Again", spec := "again", inPlace := ["internal/bytealg.IndexByteString"], recurses := true, plainKeys := false, apart := false, narrowed := true }
def AgainUptoSaid : Prop := againUptoRow.holds Try.pinned (OpenSpec.upto againSpec)

/-- 'gleanerkeep.Placed', WHERE WHAT IT READS IS OF BULK AT MOST 1048576: true; the input reads as it did. -/
def placedUptoRow : OpenClaim := { program := "ytbjdkbcfpmeneaa", sum := "73c969294f7ec922e5912b9e6aeab124dfd1780ef479c9c5532f4e92cdb260da", func := "gleaner/gleanerkeep.Placed", spec := "placed", inPlace := ["internal/bytealg.IndexByteString"], recurses := true, plainKeys := false, apart := false, narrowed := true }
def PlacedUptoSaid : Prop := placedUptoRow.holds Try.pinned (OpenSpec.upto placedSpec)

/-- 'gleanerkeep.Walked', WHERE WHAT IT READS IS OF BULK AT MOST 1048576: true; the input reads as it did. -/
def walkedUptoRow : OpenClaim := { program := "ytbjdkbcfpmeneaa", sum := "73c969294f7ec922e5912b9e6aeab124dfd1780ef479c9c5532f4e92cdb260da", func := "gleaner/gleanerkeep.Walked", spec := "walked", inPlace := ["internal/bytealg.IndexByteString"], recurses := true, plainKeys := false, apart := false, narrowed := true }
def WalkedUptoSaid : Prop := walkedUptoRow.holds Try.pinned (OpenSpec.upto walkedSpec)

/-- 'gleanerkeep.Smallest', WHERE WHAT IT READS IS OF BULK AT MOST 1048576: true; the input reads as it did. -/
def smallestUptoRow : OpenClaim := { program := "ytbjdkbcfpmeneaa", sum := "73c969294f7ec922e5912b9e6aeab124dfd1780ef479c9c5532f4e92cdb260da", func := "gleaner/gleanerkeep.Smallest", spec := "smallest", inPlace := ["internal/bytealg.IndexByteString"], recurses := true, plainKeys := false, apart := false, narrowed := true }
def SmallestUptoSaid : Prop := smallestUptoRow.holds Try.pinned (OpenSpec.upto smallestSpec)

/-- 'gleanerkeep.Alike', WHERE WHAT IT READS IS OF BULK AT MOST 1048576: true; the input reads as it did. -/
def alikeUptoRow : OpenClaim := { program := "ytbjdkbcfpmeneaa", sum := "73c969294f7ec922e5912b9e6aeab124dfd1780ef479c9c5532f4e92cdb260da", func := "gleaner/gleanerkeep.Alike", spec := "alike", inPlace := ["internal/bytealg.IndexByteString"], recurses := true, plainKeys := false, apart := false, narrowed := true }
def AlikeUptoSaid : Prop := alikeUptoRow.holds Try.pinned (OpenSpec.upto alikeSpec)

end Rows
end Go.Proofs.Ytbjdkbcfpmeneaa
