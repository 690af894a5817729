/-
  No cell of these rows narrows 'for every input' (looked for: loops, veiled, ifaces, maps, wideKeys, modest, calm, conditions, laid).
  DERIVED. THE GIVEN ROWS OF THIS SEAT. 7 by the template 'for every input the law returns true; each argument reads behind the call as it read before'; 0 by the template 'total and deterministic' (their statements: YtffonpnaokobiaaTotals.lean).
  GIVEN WITH THE SEED: the statements are not yours to turn. If you find one false, say at which input.
  Laid BY PROGRAM, IN A SANDBOX (cutbox-rows.mjs): the forced cells as the released guide's own fill.sh prints them over the translation cd758c079c792c9f… (all of the seat's roots in one cut). By AI agents, Wed Nov 11 2026. No macro, syntax, notation, axiom, sorry.
-/
import Derived.Test.YtffonpnaokobiaaChecked
import GoSem.Claim
import GoSem.ClaimJoined
import GoSem.ClaimMapViews
import Derived.JoinedTies
import Derived.KernelRfl
namespace Go.Proofs.Ytffonpnaokobiaa
/- THE CELL 'sum', in the pinned program and in every row, IS THE sha256 OF THE DUMP (.gsa) THAT YtffonpnaokobiaaProg.lean LOADS. Nothing in Lean hashes anything: it is a label: what it is worth is what the hold of that sum in a sandbox is worth. -/
noncomputable def Try.pinned : Pinned := { name := "ytffonpnaokobiaa", sum := "cd758c079c792c9f657b8e70d905d64a815351d521018921f0e077d035b4ce8d", checked := Try.checked }
namespace Rows
def none {H : Type} : Left H := { results := [], args := [] }

/-- 'laws.FnExactNullable': WHATEVER THE INPUT: true; the input reads as it did. -/
def fnExactNullableSpec : ChangeSpec := { name := "fnExactNullable", fn := fun _ => fun
  | [d] => { results := [.lit (.bool true)], args := [d] }
  | _ => none }
def fnExactNullableRow : OpenClaim := { program := "ytffonpnaokobiaa", sum := "cd758c079c792c9f657b8e70d905d64a815351d521018921f0e077d035b4ce8d", func := "loop.example/g00828/laws.FnExactNullable", spec := "fnExactNullable", unfollowed := true, recurses := true, apart := false }
def FnExactNullableSaid : Prop := fnExactNullableRow.holds Try.pinned (OpenSpec.ofChange fnExactNullableSpec)

/-- ITS FALSE NEIGHBOUR: 'it returns false'. Refute it at one input. -/
def fnExactNullableWrong : ChangeSpec := { name := "fnExactNullable", fn := fun _ => fun
  | [d] => { results := [.lit (.bool false)], args := [d] }
  | _ => none }
def FnExactNullableWrongFalsely : Prop := fnExactNullableRow.holds Try.pinned (OpenSpec.ofChange fnExactNullableWrong)

/-- 'laws.FnExactProductive': WHATEVER THE INPUT: true; the input reads as it did. -/
def fnExactProductiveSpec : ChangeSpec := { name := "fnExactProductive", fn := fun _ => fun
  | [d] => { results := [.lit (.bool true)], args := [d] }
  | _ => none }
def fnExactProductiveRow : OpenClaim := { program := "ytffonpnaokobiaa", sum := "cd758c079c792c9f657b8e70d905d64a815351d521018921f0e077d035b4ce8d", func := "loop.example/g00828/laws.FnExactProductive", spec := "fnExactProductive", unfollowed := true, recurses := true, apart := false }
def FnExactProductiveSaid : Prop := fnExactProductiveRow.holds Try.pinned (OpenSpec.ofChange fnExactProductiveSpec)

/-- ITS FALSE NEIGHBOUR: 'it returns false'. Refute it at one input. -/
def fnExactProductiveWrong : ChangeSpec := { name := "fnExactProductive", fn := fun _ => fun
  | [d] => { results := [.lit (.bool false)], args := [d] }
  | _ => none }
def FnExactProductiveWrongFalsely : Prop := fnExactProductiveRow.holds Try.pinned (OpenSpec.ofChange fnExactProductiveWrong)

/-- 'laws.FnExactReachable': WHATEVER THE INPUT: true; the input reads as it did. -/
def fnExactReachableSpec : ChangeSpec := { name := "fnExactReachable", fn := fun _ => fun
  | [d] => { results := [.lit (.bool true)], args := [d] }
  | _ => none }
def fnExactReachableRow : OpenClaim := { program := "ytffonpnaokobiaa", sum := "cd758c079c792c9f657b8e70d905d64a815351d521018921f0e077d035b4ce8d", func := "loop.example/g00828/laws.FnExactReachable", spec := "fnExactReachable", unfollowed := true, recurses := true, apart := false }
def FnExactReachableSaid : Prop := fnExactReachableRow.holds Try.pinned (OpenSpec.ofChange fnExactReachableSpec)

/-- ITS FALSE NEIGHBOUR: 'it returns false'. Refute it at one input. -/
def fnExactReachableWrong : ChangeSpec := { name := "fnExactReachable", fn := fun _ => fun
  | [d] => { results := [.lit (.bool false)], args := [d] }
  | _ => none }
def FnExactReachableWrongFalsely : Prop := fnExactReachableRow.holds Try.pinned (OpenSpec.ofChange fnExactReachableWrong)

/-- 'laws.FnExactUndefined': WHATEVER THE INPUT: true; the input reads as it did. -/
def fnExactUndefinedSpec : ChangeSpec := { name := "fnExactUndefined", fn := fun _ => fun
  | [d] => { results := [.lit (.bool true)], args := [d] }
  | _ => none }
def fnExactUndefinedRow : OpenClaim := { program := "ytffonpnaokobiaa", sum := "cd758c079c792c9f657b8e70d905d64a815351d521018921f0e077d035b4ce8d", func := "loop.example/g00828/laws.FnExactUndefined", spec := "fnExactUndefined", apart := false }
def FnExactUndefinedSaid : Prop := fnExactUndefinedRow.holds Try.pinned (OpenSpec.ofChange fnExactUndefinedSpec)

/-- ITS FALSE NEIGHBOUR: 'it returns false'. Refute it at one input. -/
def fnExactUndefinedWrong : ChangeSpec := { name := "fnExactUndefined", fn := fun _ => fun
  | [d] => { results := [.lit (.bool false)], args := [d] }
  | _ => none }
def FnExactUndefinedWrongFalsely : Prop := fnExactUndefinedRow.holds Try.pinned (OpenSpec.ofChange fnExactUndefinedWrong)

/-- 'laws.FnExactUseful': WHATEVER THE INPUT: true; the input reads as it did. -/
def fnExactUsefulSpec : ChangeSpec := { name := "fnExactUseful", fn := fun _ => fun
  | [d] => { results := [.lit (.bool true)], args := [d] }
  | _ => none }
def fnExactUsefulRow : OpenClaim := { program := "ytffonpnaokobiaa", sum := "cd758c079c792c9f657b8e70d905d64a815351d521018921f0e077d035b4ce8d", func := "loop.example/g00828/laws.FnExactUseful", spec := "fnExactUseful", unfollowed := true, recurses := true, apart := false }
def FnExactUsefulSaid : Prop := fnExactUsefulRow.holds Try.pinned (OpenSpec.ofChange fnExactUsefulSpec)

/-- ITS FALSE NEIGHBOUR: 'it returns false'. Refute it at one input. -/
def fnExactUsefulWrong : ChangeSpec := { name := "fnExactUseful", fn := fun _ => fun
  | [d] => { results := [.lit (.bool false)], args := [d] }
  | _ => none }
def FnExactUsefulWrongFalsely : Prop := fnExactUsefulRow.holds Try.pinned (OpenSpec.ofChange fnExactUsefulWrong)

/-- 'laws.FnExactCycle': WHATEVER THE INPUT: true; the input reads as it did. -/
def fnExactCycleSpec : ChangeSpec := { name := "fnExactCycle", fn := fun _ => fun
  | [d] => { results := [.lit (.bool true)], args := [d] }
  | _ => none }
def fnExactCycleRow : OpenClaim := { program := "ytffonpnaokobiaa", sum := "cd758c079c792c9f657b8e70d905d64a815351d521018921f0e077d035b4ce8d", func := "loop.example/g00828/laws.FnExactCycle", spec := "fnExactCycle", unfollowed := true, recurses := true, apart := false }
def FnExactCycleSaid : Prop := fnExactCycleRow.holds Try.pinned (OpenSpec.ofChange fnExactCycleSpec)

/-- ITS FALSE NEIGHBOUR: 'it returns false'. Refute it at one input. -/
def fnExactCycleWrong : ChangeSpec := { name := "fnExactCycle", fn := fun _ => fun
  | [d] => { results := [.lit (.bool false)], args := [d] }
  | _ => none }
def FnExactCycleWrongFalsely : Prop := fnExactCycleRow.holds Try.pinned (OpenSpec.ofChange fnExactCycleWrong)

/-- 'laws.FnExactLeftOf': WHATEVER THE INPUT: true; the input reads as it did. -/
def fnExactLeftOfSpec : ChangeSpec := { name := "fnExactLeftOf", fn := fun _ => fun
  | [d1, d2] => { results := [.lit (.bool true)], args := [d1, d2] }
  | _ => none }
def fnExactLeftOfRow : OpenClaim := { program := "ytffonpnaokobiaa", sum := "cd758c079c792c9f657b8e70d905d64a815351d521018921f0e077d035b4ce8d", func := "loop.example/g00828/laws.FnExactLeftOf", spec := "fnExactLeftOf", unfollowed := true, recurses := true, apart := false }
def FnExactLeftOfSaid : Prop := fnExactLeftOfRow.holds Try.pinned (OpenSpec.ofChange fnExactLeftOfSpec)

/-- ITS FALSE NEIGHBOUR: 'it returns false'. Refute it at one input. -/
def fnExactLeftOfWrong : ChangeSpec := { name := "fnExactLeftOf", fn := fun _ => fun
  | [d1, d2] => { results := [.lit (.bool false)], args := [d1, d2] }
  | _ => none }
def FnExactLeftOfWrongFalsely : Prop := fnExactLeftOfRow.holds Try.pinned (OpenSpec.ofChange fnExactLeftOfWrong)

/- THE SECOND FORM. 'bulk': how many values and letters a reading holds, each counted each time it is reached (what is shared counts as often as it is met; a slice's spare places count too). A statement '..UptoSaid' is the law's where the arguments, and the package variables that the reading takes, are together of bulk at most 1048576: NARROWER than '..Said'. Prove '..Said' where nothing that the law and all that it calls make is longer than what came in: it says more and counts as full. Else prove '..UptoSaid'. A law counts once. -/
mutual
def uptoBulk {H : Type} : DataW H → Nat
  | .lit (.string bytes) => bytes.length + 1
  | .lit _ => 1
  | .nil => 1
  | .ptr d => uptoBulk d + 1
  | .slice elems spare => uptoBulkAll elems + uptoBulkAll spare + 1
  | .agg parts => uptoBulkAll parts + 1
  | .iface _ d => uptoBulk d + 1
  | .map entries => uptoBulkEntries entries + 1
  | .held _ => 1
def uptoBulkAll {H : Type} : List (DataW H) → Nat
  | [] => 0
  | d :: r => uptoBulk d + uptoBulkAll r
def uptoBulkEntries {H : Type} : List (Lit × DataW H) → Nat
  | [] => 0
  | x :: r => uptoBulkEntry x + uptoBulkEntries r
def uptoBulkEntry {H : Type} : Lit × DataW H → Nat
  | (.string bytes, d) => bytes.length + uptoBulk d + 1
  | (_, d) => uptoBulk d + 1
 end
def uptoSmall : (H : Type) → List (DataW H) → Bool := fun _ ds => decide (uptoBulkAll ds ≤ 1048576)
def OpenSpec.upto (s : _root_.Go.ChangeSpec) : _root_.Go.OpenSpec := { _root_.Go.OpenSpec.ofChange s with cond := some uptoSmall }

/-- 'laws.FnExactNullable', WHERE WHAT IT READS IS OF BULK AT MOST 1048576: true; the input reads as it did. -/
def fnExactNullableUptoRow : OpenClaim := { program := "ytffonpnaokobiaa", sum := "cd758c079c792c9f657b8e70d905d64a815351d521018921f0e077d035b4ce8d", func := "loop.example/g00828/laws.FnExactNullable", spec := "fnExactNullable", unfollowed := true, recurses := true, apart := false, narrowed := true }
def FnExactNullableUptoSaid : Prop := fnExactNullableUptoRow.holds Try.pinned (OpenSpec.upto fnExactNullableSpec)

/-- 'laws.FnExactProductive', WHERE WHAT IT READS IS OF BULK AT MOST 1048576: true; the input reads as it did. -/
def fnExactProductiveUptoRow : OpenClaim := { program := "ytffonpnaokobiaa", sum := "cd758c079c792c9f657b8e70d905d64a815351d521018921f0e077d035b4ce8d", func := "loop.example/g00828/laws.FnExactProductive", spec := "fnExactProductive", unfollowed := true, recurses := true, apart := false, narrowed := true }
def FnExactProductiveUptoSaid : Prop := fnExactProductiveUptoRow.holds Try.pinned (OpenSpec.upto fnExactProductiveSpec)

/-- 'laws.FnExactReachable', WHERE WHAT IT READS IS OF BULK AT MOST 1048576: true; the input reads as it did. -/
def fnExactReachableUptoRow : OpenClaim := { program := "ytffonpnaokobiaa", sum := "cd758c079c792c9f657b8e70d905d64a815351d521018921f0e077d035b4ce8d", func := "loop.example/g00828/laws.FnExactReachable", spec := "fnExactReachable", unfollowed := true, recurses := true, apart := false, narrowed := true }
def FnExactReachableUptoSaid : Prop := fnExactReachableUptoRow.holds Try.pinned (OpenSpec.upto fnExactReachableSpec)

/-- 'laws.FnExactUndefined', WHERE WHAT IT READS IS OF BULK AT MOST 1048576: true; the input reads as it did. -/
def fnExactUndefinedUptoRow : OpenClaim := { program := "ytffonpnaokobiaa", sum := "cd758c079c792c9f657b8e70d905d64a815351d521018921f0e077d035b4ce8d", func := "loop.example/g00828/laws.FnExactUndefined", spec := "fnExactUndefined", apart := false, narrowed := true }
def FnExactUndefinedUptoSaid : Prop := fnExactUndefinedUptoRow.holds Try.pinned (OpenSpec.upto fnExactUndefinedSpec)

/-- 'laws.FnExactUseful', WHERE WHAT IT READS IS OF BULK AT MOST 1048576: true; the input reads as it did. -/
def fnExactUsefulUptoRow : OpenClaim := { program := "ytffonpnaokobiaa", sum := "cd758c079c792c9f657b8e70d905d64a815351d521018921f0e077d035b4ce8d", func := "loop.example/g00828/laws.FnExactUseful", spec := "fnExactUseful", unfollowed := true, recurses := true, apart := false, narrowed := true }
def FnExactUsefulUptoSaid : Prop := fnExactUsefulUptoRow.holds Try.pinned (OpenSpec.upto fnExactUsefulSpec)

/-- 'laws.FnExactCycle', WHERE WHAT IT READS IS OF BULK AT MOST 1048576: true; the input reads as it did. -/
def fnExactCycleUptoRow : OpenClaim := { program := "ytffonpnaokobiaa", sum := "cd758c079c792c9f657b8e70d905d64a815351d521018921f0e077d035b4ce8d", func := "loop.example/g00828/laws.FnExactCycle", spec := "fnExactCycle", unfollowed := true, recurses := true, apart := false, narrowed := true }
def FnExactCycleUptoSaid : Prop := fnExactCycleUptoRow.holds Try.pinned (OpenSpec.upto fnExactCycleSpec)

/-- 'laws.FnExactLeftOf', WHERE WHAT IT READS IS OF BULK AT MOST 1048576: true; the input reads as it did. -/
def fnExactLeftOfUptoRow : OpenClaim := { program := "ytffonpnaokobiaa", sum := "cd758c079c792c9f657b8e70d905d64a815351d521018921f0e077d035b4ce8d", func := "loop.example/g00828/laws.FnExactLeftOf", spec := "fnExactLeftOf", unfollowed := true, recurses := true, apart := false, narrowed := true }
def FnExactLeftOfUptoSaid : Prop := fnExactLeftOfUptoRow.holds Try.pinned (OpenSpec.upto fnExactLeftOfSpec)

end Rows
end Go.Proofs.Ytffonpnaokobiaa
