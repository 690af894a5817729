/-
  NARROWER THAN 'FOR EVERY INPUT', by the rows' own cells (each row's printed sentence says how): FnExactTreeRight: loops · FnExactYield: loops · FnExactSays: loops · FnExactSizeOf: loops · FnExactTreeSame: loops.
  DERIVED. THE GIVEN ROWS OF THIS SEAT. 8 by the template 'for every input the law returns true; each argument reads behind the call as it read before'; 0 by the template 'total and deterministic' (their statements: YtonfiahihmcmlaaTotals.lean).
  GIVEN WITH THE SEED: the statements are not yours to turn. If you find one false, say at which input.
  Laid BY PROGRAM, IN A SANDBOX (cutbox-rows.mjs): the forced cells as the released guide's own fill.sh prints them over the translation 5d7e134c26739790… (all of the seat's roots in one cut). By AI agents, Wed Nov 11 2026. No macro, syntax, notation, axiom, sorry.
-/
import Derived.Test.YtonfiahihmcmlaaChecked
import GoSem.Claim
import GoSem.ClaimJoined
import GoSem.ClaimMapViews
import Derived.JoinedTies
import Derived.KernelRfl
namespace Go.Proofs.Ytonfiahihmcmlaa
/- THE CELL 'sum', in the pinned program and in every row, IS THE sha256 OF THE DUMP (.gsa) THAT YtonfiahihmcmlaaProg.lean LOADS. Nothing in Lean hashes anything: it is a label: what it is worth is what the hold of that sum in a sandbox is worth. -/
noncomputable def Try.pinned : Pinned := { name := "ytonfiahihmcmlaa", sum := "5d7e134c267397901e54651e234a5ab3673df3742ea43e5375e96292e7f40987", checked := Try.checked }
namespace Rows
def none {H : Type} : Left H := { results := [], args := [] }

/-- 'laws.FnGram': WHATEVER THE INPUT: true; the input reads as it did. -/
def fnGramSpec : ChangeSpec := { name := "fnGram", fn := fun _ => fun
  | [d1, d2] => { results := [.lit (.bool true)], args := [d1, d2] }
  | _ => none }
def fnGramRow : OpenClaim := { program := "ytonfiahihmcmlaa", sum := "5d7e134c267397901e54651e234a5ab3673df3742ea43e5375e96292e7f40987", func := "loop.example/g00828/laws.FnGram", spec := "fnGram", inPlace := ["internal/abi.NoEscape", "internal/bytealg.MakeNoZero"], plainKeys := false, apart := false }
def FnGramSaid : Prop := fnGramRow.holds Try.pinned (OpenSpec.ofChange fnGramSpec)

/-- ITS FALSE NEIGHBOUR: 'it returns false'. Refute it at one input. -/
def fnGramWrong : ChangeSpec := { name := "fnGram", fn := fun _ => fun
  | [d1, d2] => { results := [.lit (.bool false)], args := [d1, d2] }
  | _ => none }
def FnGramWrongFalsely : Prop := fnGramRow.holds Try.pinned (OpenSpec.ofChange fnGramWrong)

/-- 'laws.FnDerive': WHATEVER THE INPUT: true; the input reads as it did. -/
def fnDeriveSpec : ChangeSpec := { name := "fnDerive", fn := fun _ => fun
  | [d1, d2] => { results := [.lit (.bool true)], args := [d1, d2] }
  | _ => none }
def fnDeriveRow : OpenClaim := { program := "ytonfiahihmcmlaa", sum := "5d7e134c267397901e54651e234a5ab3673df3742ea43e5375e96292e7f40987", func := "loop.example/g00828/laws.FnDerive", spec := "fnDerive", unfollowed := true, recurses := true, plainKeys := false, apart := false }
def FnDeriveSaid : Prop := fnDeriveRow.holds Try.pinned (OpenSpec.ofChange fnDeriveSpec)

/-- ITS FALSE NEIGHBOUR: 'it returns false'. Refute it at one input. -/
def fnDeriveWrong : ChangeSpec := { name := "fnDerive", fn := fun _ => fun
  | [d1, d2] => { results := [.lit (.bool false)], args := [d1, d2] }
  | _ => none }
def FnDeriveWrongFalsely : Prop := fnDeriveRow.holds Try.pinned (OpenSpec.ofChange fnDeriveWrong)

/-- 'laws.FnExactTreeRight': WHATEVER THE INPUT: true; the input reads as it did. -/
def fnExactTreeRightSpec : ChangeSpec := { name := "fnExactTreeRight", fn := fun _ => fun
  | [d1, d2] => { results := [.lit (.bool true)], args := [d1, d2] }
  | _ => none }
def fnExactTreeRightRow : OpenClaim := { program := "ytonfiahihmcmlaa", sum := "5d7e134c267397901e54651e234a5ab3673df3742ea43e5375e96292e7f40987", func := "loop.example/g00828/laws.FnExactTreeRight", spec := "fnExactTreeRight", unfollowed := true, recurses := true, loops := true, plainKeys := false, apart := false }
def FnExactTreeRightSaid : Prop := fnExactTreeRightRow.holds Try.pinned (OpenSpec.ofChange fnExactTreeRightSpec)

/-- ITS FALSE NEIGHBOUR: 'it returns false'. Refute it at one input. -/
def fnExactTreeRightWrong : ChangeSpec := { name := "fnExactTreeRight", fn := fun _ => fun
  | [d1, d2] => { results := [.lit (.bool false)], args := [d1, d2] }
  | _ => none }
def FnExactTreeRightWrongFalsely : Prop := fnExactTreeRightRow.holds Try.pinned (OpenSpec.ofChange fnExactTreeRightWrong)

/-- 'laws.FnExactYield': WHATEVER THE INPUT: true; the input reads as it did. -/
def fnExactYieldSpec : ChangeSpec := { name := "fnExactYield", fn := fun _ => fun
  | [d] => { results := [.lit (.bool true)], args := [d] }
  | _ => none }
def fnExactYieldRow : OpenClaim := { program := "ytonfiahihmcmlaa", sum := "5d7e134c267397901e54651e234a5ab3673df3742ea43e5375e96292e7f40987", func := "loop.example/g00828/laws.FnExactYield", spec := "fnExactYield", unfollowed := true, recurses := true, loops := true, plainKeys := false, apart := false }
def FnExactYieldSaid : Prop := fnExactYieldRow.holds Try.pinned (OpenSpec.ofChange fnExactYieldSpec)

/-- ITS FALSE NEIGHBOUR: 'it returns false'. Refute it at one input. -/
def fnExactYieldWrong : ChangeSpec := { name := "fnExactYield", fn := fun _ => fun
  | [d] => { results := [.lit (.bool false)], args := [d] }
  | _ => none }
def FnExactYieldWrongFalsely : Prop := fnExactYieldRow.holds Try.pinned (OpenSpec.ofChange fnExactYieldWrong)

/-- 'laws.FnExactSays': WHATEVER THE INPUT: true; the input reads as it did. -/
def fnExactSaysSpec : ChangeSpec := { name := "fnExactSays", fn := fun _ => fun
  | [d1, d2, d3] => { results := [.lit (.bool true)], args := [d1, d2, d3] }
  | _ => none }
def fnExactSaysRow : OpenClaim := { program := "ytonfiahihmcmlaa", sum := "5d7e134c267397901e54651e234a5ab3673df3742ea43e5375e96292e7f40987", func := "loop.example/g00828/laws.FnExactSays", spec := "fnExactSays", unfollowed := true, recurses := true, loops := true, plainKeys := false, apart := false }
def FnExactSaysSaid : Prop := fnExactSaysRow.holds Try.pinned (OpenSpec.ofChange fnExactSaysSpec)

/-- ITS FALSE NEIGHBOUR: 'it returns false'. Refute it at one input. -/
def fnExactSaysWrong : ChangeSpec := { name := "fnExactSays", fn := fun _ => fun
  | [d1, d2, d3] => { results := [.lit (.bool false)], args := [d1, d2, d3] }
  | _ => none }
def FnExactSaysWrongFalsely : Prop := fnExactSaysRow.holds Try.pinned (OpenSpec.ofChange fnExactSaysWrong)

/-- 'laws.FnExactSizeOf': WHATEVER THE INPUT: true; the input reads as it did. -/
def fnExactSizeOfSpec : ChangeSpec := { name := "fnExactSizeOf", fn := fun _ => fun
  | [d] => { results := [.lit (.bool true)], args := [d] }
  | _ => none }
def fnExactSizeOfRow : OpenClaim := { program := "ytonfiahihmcmlaa", sum := "5d7e134c267397901e54651e234a5ab3673df3742ea43e5375e96292e7f40987", func := "loop.example/g00828/laws.FnExactSizeOf", spec := "fnExactSizeOf", unfollowed := true, recurses := true, loops := true, plainKeys := false, apart := false }
def FnExactSizeOfSaid : Prop := fnExactSizeOfRow.holds Try.pinned (OpenSpec.ofChange fnExactSizeOfSpec)

/-- ITS FALSE NEIGHBOUR: 'it returns false'. Refute it at one input. -/
def fnExactSizeOfWrong : ChangeSpec := { name := "fnExactSizeOf", fn := fun _ => fun
  | [d] => { results := [.lit (.bool false)], args := [d] }
  | _ => none }
def FnExactSizeOfWrongFalsely : Prop := fnExactSizeOfRow.holds Try.pinned (OpenSpec.ofChange fnExactSizeOfWrong)

/-- 'laws.FnExactTreeSame': WHATEVER THE INPUT: true; the input reads as it did. -/
def fnExactTreeSameSpec : ChangeSpec := { name := "fnExactTreeSame", fn := fun _ => fun
  | [d1, d2] => { results := [.lit (.bool true)], args := [d1, d2] }
  | _ => none }
def fnExactTreeSameRow : OpenClaim := { program := "ytonfiahihmcmlaa", sum := "5d7e134c267397901e54651e234a5ab3673df3742ea43e5375e96292e7f40987", func := "loop.example/g00828/laws.FnExactTreeSame", spec := "fnExactTreeSame", unfollowed := true, recurses := true, loops := true, plainKeys := false, apart := false }
def FnExactTreeSameSaid : Prop := fnExactTreeSameRow.holds Try.pinned (OpenSpec.ofChange fnExactTreeSameSpec)

/-- ITS FALSE NEIGHBOUR: 'it returns false'. Refute it at one input. -/
def fnExactTreeSameWrong : ChangeSpec := { name := "fnExactTreeSame", fn := fun _ => fun
  | [d1, d2] => { results := [.lit (.bool false)], args := [d1, d2] }
  | _ => none }
def FnExactTreeSameWrongFalsely : Prop := fnExactTreeSameRow.holds Try.pinned (OpenSpec.ofChange fnExactTreeSameWrong)

/-- 'laws.FnExactGiven': WHATEVER THE INPUT: true; the input reads as it did. -/
def fnExactGivenSpec : ChangeSpec := { name := "fnExactGiven", fn := fun _ => fun
  | [d] => { results := [.lit (.bool true)], args := [d] }
  | _ => none }
def fnExactGivenRow : OpenClaim := { program := "ytonfiahihmcmlaa", sum := "5d7e134c267397901e54651e234a5ab3673df3742ea43e5375e96292e7f40987", func := "loop.example/g00828/laws.FnExactGiven", spec := "fnExactGiven", unfollowed := true, recurses := true, plainKeys := false, apart := false }
def FnExactGivenSaid : Prop := fnExactGivenRow.holds Try.pinned (OpenSpec.ofChange fnExactGivenSpec)

/-- ITS FALSE NEIGHBOUR: 'it returns false'. Refute it at one input. -/
def fnExactGivenWrong : ChangeSpec := { name := "fnExactGiven", fn := fun _ => fun
  | [d] => { results := [.lit (.bool false)], args := [d] }
  | _ => none }
def FnExactGivenWrongFalsely : Prop := fnExactGivenRow.holds Try.pinned (OpenSpec.ofChange fnExactGivenWrong)

/- THE SECOND FORM. 'bulk': how many values and letters a reading holds, each counted each time it is reached (what is shared counts as often as it is met; a slice's spare places count too). A statement '..UptoSaid' is the law's where the arguments, and the package variables that the reading takes, are together of bulk at most 1048576: NARROWER than '..Said'. Prove '..Said' where nothing that the law and all that it calls make is longer than what came in: it says more and counts as full. Else prove '..UptoSaid'. A law counts once. -/
mutual
def uptoBulk {H : Type} : DataW H → Nat
  | .lit (.string bytes) => bytes.length + 1
  | .lit _ => 1
  | .nil => 1
  | .ptr d => uptoBulk d + 1
  | .slice elems spare => uptoBulkAll elems + uptoBulkAll spare + 1
  | .agg parts => uptoBulkAll parts + 1
  | .iface _ d => uptoBulk d + 1
  | .map entries => uptoBulkEntries entries + 1
  | .held _ => 1
def uptoBulkAll {H : Type} : List (DataW H) → Nat
  | [] => 0
  | d :: r => uptoBulk d + uptoBulkAll r
def uptoBulkEntries {H : Type} : List (Lit × DataW H) → Nat
  | [] => 0
  | x :: r => uptoBulkEntry x + uptoBulkEntries r
def uptoBulkEntry {H : Type} : Lit × DataW H → Nat
  | (.string bytes, d) => bytes.length + uptoBulk d + 1
  | (_, d) => uptoBulk d + 1
 end
def uptoSmall : (H : Type) → List (DataW H) → Bool := fun _ ds => decide (uptoBulkAll ds ≤ 1048576)
def OpenSpec.upto (s : _root_.Go.ChangeSpec) : _root_.Go.OpenSpec := { _root_.Go.OpenSpec.ofChange s with cond := some uptoSmall }

/-- 'laws.FnGram', WHERE WHAT IT READS IS OF BULK AT MOST 1048576: true; the input reads as it did. -/
def fnGramUptoRow : OpenClaim := { program := "ytonfiahihmcmlaa", sum := "5d7e134c267397901e54651e234a5ab3673df3742ea43e5375e96292e7f40987", func := "loop.example/g00828/laws.FnGram", spec := "fnGram", inPlace := ["internal/abi.NoEscape", "internal/bytealg.MakeNoZero"], plainKeys := false, apart := false, narrowed := true }
def FnGramUptoSaid : Prop := fnGramUptoRow.holds Try.pinned (OpenSpec.upto fnGramSpec)

/-- 'laws.FnDerive', WHERE WHAT IT READS IS OF BULK AT MOST 1048576: true; the input reads as it did. -/
def fnDeriveUptoRow : OpenClaim := { program := "ytonfiahihmcmlaa", sum := "5d7e134c267397901e54651e234a5ab3673df3742ea43e5375e96292e7f40987", func := "loop.example/g00828/laws.FnDerive", spec := "fnDerive", unfollowed := true, recurses := true, plainKeys := false, apart := false, narrowed := true }
def FnDeriveUptoSaid : Prop := fnDeriveUptoRow.holds Try.pinned (OpenSpec.upto fnDeriveSpec)

/-- 'laws.FnExactTreeRight', WHERE WHAT IT READS IS OF BULK AT MOST 1048576: true; the input reads as it did. -/
def fnExactTreeRightUptoRow : OpenClaim := { program := "ytonfiahihmcmlaa", sum := "5d7e134c267397901e54651e234a5ab3673df3742ea43e5375e96292e7f40987", func := "loop.example/g00828/laws.FnExactTreeRight", spec := "fnExactTreeRight", unfollowed := true, recurses := true, loops := true, plainKeys := false, apart := false, narrowed := true }
def FnExactTreeRightUptoSaid : Prop := fnExactTreeRightUptoRow.holds Try.pinned (OpenSpec.upto fnExactTreeRightSpec)

/-- 'laws.FnExactYield', WHERE WHAT IT READS IS OF BULK AT MOST 1048576: true; the input reads as it did. -/
def fnExactYieldUptoRow : OpenClaim := { program := "ytonfiahihmcmlaa", sum := "5d7e134c267397901e54651e234a5ab3673df3742ea43e5375e96292e7f40987", func := "loop.example/g00828/laws.FnExactYield", spec := "fnExactYield", unfollowed := true, recurses := true, loops := true, plainKeys := false, apart := false, narrowed := true }
def FnExactYieldUptoSaid : Prop := fnExactYieldUptoRow.holds Try.pinned (OpenSpec.upto fnExactYieldSpec)

/-- 'laws.FnExactSays', WHERE WHAT IT READS IS OF BULK AT MOST 1048576: true; the input reads as it did. -/
def fnExactSaysUptoRow : OpenClaim := { program := "ytonfiahihmcmlaa", sum := "5d7e134c267397901e54651e234a5ab3673df3742ea43e5375e96292e7f40987", func := "loop.example/g00828/laws.FnExactSays", spec := "fnExactSays", unfollowed := true, recurses := true, loops := true, plainKeys := false, apart := false, narrowed := true }
def FnExactSaysUptoSaid : Prop := fnExactSaysUptoRow.holds Try.pinned (OpenSpec.upto fnExactSaysSpec)

/-- 'laws.FnExactSizeOf', WHERE WHAT IT READS IS OF BULK AT MOST 1048576: true; the input reads as it did. -/
def fnExactSizeOfUptoRow : OpenClaim := { program := "ytonfiahihmcmlaa", sum := "5d7e134c267397901e54651e234a5ab3673df3742ea43e5375e96292e7f40987", func := "loop.example/g00828/laws.FnExactSizeOf", spec := "fnExactSizeOf", unfollowed := true, recurses := true, loops := true, plainKeys := false, apart := false, narrowed := true }
def FnExactSizeOfUptoSaid : Prop := fnExactSizeOfUptoRow.holds Try.pinned (OpenSpec.upto fnExactSizeOfSpec)

/-- 'laws.FnExactTreeSame', WHERE WHAT IT READS IS OF BULK AT MOST 1048576: true; the input reads as it did. -/
def fnExactTreeSameUptoRow : OpenClaim := { program := "ytonfiahihmcmlaa", sum := "5d7e134c267397901e54651e234a5ab3673df3742ea43e5375e96292e7f40987", func := "loop.example/g00828/laws.FnExactTreeSame", spec := "fnExactTreeSame", unfollowed := true, recurses := true, loops := true, plainKeys := false, apart := false, narrowed := true }
def FnExactTreeSameUptoSaid : Prop := fnExactTreeSameUptoRow.holds Try.pinned (OpenSpec.upto fnExactTreeSameSpec)

/-- 'laws.FnExactGiven', WHERE WHAT IT READS IS OF BULK AT MOST 1048576: true; the input reads as it did. -/
def fnExactGivenUptoRow : OpenClaim := { program := "ytonfiahihmcmlaa", sum := "5d7e134c267397901e54651e234a5ab3673df3742ea43e5375e96292e7f40987", func := "loop.example/g00828/laws.FnExactGiven", spec := "fnExactGiven", unfollowed := true, recurses := true, plainKeys := false, apart := false, narrowed := true }
def FnExactGivenUptoSaid : Prop := fnExactGivenUptoRow.holds Try.pinned (OpenSpec.upto fnExactGivenSpec)

end Rows
end Go.Proofs.Ytonfiahihmcmlaa
