/-
  No cell of these rows narrows 'for every input' (looked for: loops, veiled, ifaces, maps, wideKeys, modest, calm, conditions, laid).
  DERIVED. THE GIVEN ROWS OF THIS SEAT. 7 by the template 'for every input the law returns true; each argument reads behind the call as it read before'; 0 by the template 'total and deterministic' (their statements: YtmhdbjoljonhdaaTotals.lean).
  GIVEN WITH THE SEED: the statements are not yours to turn. If you find one false, say at which input.
  Laid BY PROGRAM, IN A SANDBOX (cutbox-rows.mjs): the forced cells as the released guide's own fill.sh prints them over the translation 90adba3a1c028780… (all of the seat's roots in one cut). By AI agents, Wed Nov 11 2026. No macro, syntax, notation, axiom, sorry.
-/
import Derived.Test.YtmhdbjoljonhdaaChecked
import GoSem.Claim
import GoSem.ClaimJoined
import GoSem.ClaimMapViews
import Derived.JoinedTies
import Derived.KernelRfl
namespace Go.Proofs.Ytmhdbjoljonhdaa
/- THE CELL 'sum', in the pinned program and in every row, IS THE sha256 OF THE DUMP (.gsa) THAT YtmhdbjoljonhdaaProg.lean LOADS. Nothing in Lean hashes anything: it is a label: what it is worth is what the hold of that sum in a sandbox is worth. -/
noncomputable def Try.pinned : Pinned := { name := "ytmhdbjoljonhdaa", sum := "90adba3a1c028780aecaacf32795a7234043ce502c2165e9399da6e8f88577f5", checked := Try.checked }
namespace Rows
def none {H : Type} : Left H := { results := [], args := [] }

/-- 'laws.FnSets': WHATEVER THE INPUT: true; the input reads as it did. -/
def fnSetsSpec : ChangeSpec := { name := "fnSets", fn := fun _ => fun
  | [d1, d2] => { results := [.lit (.bool true)], args := [d1, d2] }
  | _ => none }
def fnSetsRow : OpenClaim := { program := "ytmhdbjoljonhdaa", sum := "90adba3a1c028780aecaacf32795a7234043ce502c2165e9399da6e8f88577f5", func := "loop.example/g00828/laws.FnSets", spec := "fnSets", unfollowed := true, recurses := true, plainKeys := false, apart := false }
def FnSetsSaid : Prop := fnSetsRow.holds Try.pinned (OpenSpec.ofChange fnSetsSpec)

/-- ITS FALSE NEIGHBOUR: 'it returns false'. Refute it at one input. -/
def fnSetsWrong : ChangeSpec := { name := "fnSets", fn := fun _ => fun
  | [d1, d2] => { results := [.lit (.bool false)], args := [d1, d2] }
  | _ => none }
def FnSetsWrongFalsely : Prop := fnSetsRow.holds Try.pinned (OpenSpec.ofChange fnSetsWrong)

/-- 'laws.FnDerive': WHATEVER THE INPUT: true; the input reads as it did. -/
def fnDeriveSpec : ChangeSpec := { name := "fnDerive", fn := fun _ => fun
  | [d1, d2] => { results := [.lit (.bool true)], args := [d1, d2] }
  | _ => none }
def fnDeriveRow : OpenClaim := { program := "ytmhdbjoljonhdaa", sum := "90adba3a1c028780aecaacf32795a7234043ce502c2165e9399da6e8f88577f5", func := "loop.example/g00828/laws.FnDerive", spec := "fnDerive", unfollowed := true, recurses := true, plainKeys := false, apart := false }
def FnDeriveSaid : Prop := fnDeriveRow.holds Try.pinned (OpenSpec.ofChange fnDeriveSpec)

/-- ITS FALSE NEIGHBOUR: 'it returns false'. Refute it at one input. -/
def fnDeriveWrong : ChangeSpec := { name := "fnDerive", fn := fun _ => fun
  | [d1, d2] => { results := [.lit (.bool false)], args := [d1, d2] }
  | _ => none }
def FnDeriveWrongFalsely : Prop := fnDeriveRow.holds Try.pinned (OpenSpec.ofChange fnDeriveWrong)

/-- 'laws.FnExactUseful': WHATEVER THE INPUT: true; the input reads as it did. -/
def fnExactUsefulSpec : ChangeSpec := { name := "fnExactUseful", fn := fun _ => fun
  | [d] => { results := [.lit (.bool true)], args := [d] }
  | _ => none }
def fnExactUsefulRow : OpenClaim := { program := "ytmhdbjoljonhdaa", sum := "90adba3a1c028780aecaacf32795a7234043ce502c2165e9399da6e8f88577f5", func := "loop.example/g00828/laws.FnExactUseful", spec := "fnExactUseful", unfollowed := true, recurses := true, plainKeys := false, apart := false }
def FnExactUsefulSaid : Prop := fnExactUsefulRow.holds Try.pinned (OpenSpec.ofChange fnExactUsefulSpec)

/-- ITS FALSE NEIGHBOUR: 'it returns false'. Refute it at one input. -/
def fnExactUsefulWrong : ChangeSpec := { name := "fnExactUseful", fn := fun _ => fun
  | [d] => { results := [.lit (.bool false)], args := [d] }
  | _ => none }
def FnExactUsefulWrongFalsely : Prop := fnExactUsefulRow.holds Try.pinned (OpenSpec.ofChange fnExactUsefulWrong)

/-- 'laws.FnExactCycle': WHATEVER THE INPUT: true; the input reads as it did. -/
def fnExactCycleSpec : ChangeSpec := { name := "fnExactCycle", fn := fun _ => fun
  | [d] => { results := [.lit (.bool true)], args := [d] }
  | _ => none }
def fnExactCycleRow : OpenClaim := { program := "ytmhdbjoljonhdaa", sum := "90adba3a1c028780aecaacf32795a7234043ce502c2165e9399da6e8f88577f5", func := "loop.example/g00828/laws.FnExactCycle", spec := "fnExactCycle", unfollowed := true, recurses := true, plainKeys := false, apart := false }
def FnExactCycleSaid : Prop := fnExactCycleRow.holds Try.pinned (OpenSpec.ofChange fnExactCycleSpec)

/-- ITS FALSE NEIGHBOUR: 'it returns false'. Refute it at one input. -/
def fnExactCycleWrong : ChangeSpec := { name := "fnExactCycle", fn := fun _ => fun
  | [d] => { results := [.lit (.bool false)], args := [d] }
  | _ => none }
def FnExactCycleWrongFalsely : Prop := fnExactCycleRow.holds Try.pinned (OpenSpec.ofChange fnExactCycleWrong)

/-- 'laws.FnExactDerives': WHATEVER THE INPUT: true; the input reads as it did. -/
def fnExactDerivesSpec : ChangeSpec := { name := "fnExactDerives", fn := fun _ => fun
  | [d1, d2] => { results := [.lit (.bool true)], args := [d1, d2] }
  | _ => none }
def fnExactDerivesRow : OpenClaim := { program := "ytmhdbjoljonhdaa", sum := "90adba3a1c028780aecaacf32795a7234043ce502c2165e9399da6e8f88577f5", func := "loop.example/g00828/laws.FnExactDerives", spec := "fnExactDerives", unfollowed := true, recurses := true, plainKeys := false, apart := false }
def FnExactDerivesSaid : Prop := fnExactDerivesRow.holds Try.pinned (OpenSpec.ofChange fnExactDerivesSpec)

/-- ITS FALSE NEIGHBOUR: 'it returns false'. Refute it at one input. -/
def fnExactDerivesWrong : ChangeSpec := { name := "fnExactDerives", fn := fun _ => fun
  | [d1, d2] => { results := [.lit (.bool false)], args := [d1, d2] }
  | _ => none }
def FnExactDerivesWrongFalsely : Prop := fnExactDerivesRow.holds Try.pinned (OpenSpec.ofChange fnExactDerivesWrong)

/-- 'laws.FnExactViable': WHATEVER THE INPUT: true; the input reads as it did. -/
def fnExactViableSpec : ChangeSpec := { name := "fnExactViable", fn := fun _ => fun
  | [d1, d2] => { results := [.lit (.bool true)], args := [d1, d2] }
  | _ => none }
def fnExactViableRow : OpenClaim := { program := "ytmhdbjoljonhdaa", sum := "90adba3a1c028780aecaacf32795a7234043ce502c2165e9399da6e8f88577f5", func := "loop.example/g00828/laws.FnExactViable", spec := "fnExactViable", unfollowed := true, recurses := true, plainKeys := false, apart := false }
def FnExactViableSaid : Prop := fnExactViableRow.holds Try.pinned (OpenSpec.ofChange fnExactViableSpec)

/-- ITS FALSE NEIGHBOUR: 'it returns false'. Refute it at one input. -/
def fnExactViableWrong : ChangeSpec := { name := "fnExactViable", fn := fun _ => fun
  | [d1, d2] => { results := [.lit (.bool false)], args := [d1, d2] }
  | _ => none }
def FnExactViableWrongFalsely : Prop := fnExactViableRow.holds Try.pinned (OpenSpec.ofChange fnExactViableWrong)

/-- 'laws.FnExactSpans': WHATEVER THE INPUT: true; the input reads as it did. -/
def fnExactSpansSpec : ChangeSpec := { name := "fnExactSpans", fn := fun _ => fun
  | [d1, d2, d3] => { results := [.lit (.bool true)], args := [d1, d2, d3] }
  | _ => none }
def fnExactSpansRow : OpenClaim := { program := "ytmhdbjoljonhdaa", sum := "90adba3a1c028780aecaacf32795a7234043ce502c2165e9399da6e8f88577f5", func := "loop.example/g00828/laws.FnExactSpans", spec := "fnExactSpans", unfollowed := true, recurses := true, plainKeys := false, apart := false }
def FnExactSpansSaid : Prop := fnExactSpansRow.holds Try.pinned (OpenSpec.ofChange fnExactSpansSpec)

/-- ITS FALSE NEIGHBOUR: 'it returns false'. Refute it at one input. -/
def fnExactSpansWrong : ChangeSpec := { name := "fnExactSpans", fn := fun _ => fun
  | [d1, d2, d3] => { results := [.lit (.bool false)], args := [d1, d2, d3] }
  | _ => none }
def FnExactSpansWrongFalsely : Prop := fnExactSpansRow.holds Try.pinned (OpenSpec.ofChange fnExactSpansWrong)

/- THE SECOND FORM. 'bulk': how many values and letters a reading holds, each counted each time it is reached (what is shared counts as often as it is met; a slice's spare places count too). A statement '..UptoSaid' is the law's where the arguments, and the package variables that the reading takes, are together of bulk at most 1048576: NARROWER than '..Said'. Prove '..Said' where nothing that the law and all that it calls make is longer than what came in: it says more and counts as full. Else prove '..UptoSaid'. A law counts once. -/
mutual
def uptoBulk {H : Type} : DataW H → Nat
  | .lit (.string bytes) => bytes.length + 1
  | .lit _ => 1
  | .nil => 1
  | .ptr d => uptoBulk d + 1
  | .slice elems spare => uptoBulkAll elems + uptoBulkAll spare + 1
  | .agg parts => uptoBulkAll parts + 1
  | .iface _ d => uptoBulk d + 1
  | .map entries => uptoBulkEntries entries + 1
  | .held _ => 1
def uptoBulkAll {H : Type} : List (DataW H) → Nat
  | [] => 0
  | d :: r => uptoBulk d + uptoBulkAll r
def uptoBulkEntries {H : Type} : List (Lit × DataW H) → Nat
  | [] => 0
  | x :: r => uptoBulkEntry x + uptoBulkEntries r
def uptoBulkEntry {H : Type} : Lit × DataW H → Nat
  | (.string bytes, d) => bytes.length + uptoBulk d + 1
  | (_, d) => uptoBulk d + 1
 end
def uptoSmall : (H : Type) → List (DataW H) → Bool := fun _ ds => decide (uptoBulkAll ds ≤ 1048576)
def OpenSpec.upto (s : _root_.Go.ChangeSpec) : _root_.Go.OpenSpec := { _root_.Go.OpenSpec.ofChange s with cond := some uptoSmall }

/-- 'laws.FnSets', WHERE WHAT IT READS IS OF BULK AT MOST 1048576: true; the input reads as it did. -/
def fnSetsUptoRow : OpenClaim := { program := "ytmhdbjoljonhdaa", sum := "90adba3a1c028780aecaacf32795a7234043ce502c2165e9399da6e8f88577f5", func := "loop.example/g00828/laws.FnSets", spec := "fnSets", unfollowed := true, recurses := true, plainKeys := false, apart := false, narrowed := true }
def FnSetsUptoSaid : Prop := fnSetsUptoRow.holds Try.pinned (OpenSpec.upto fnSetsSpec)

/-- 'laws.FnDerive', WHERE WHAT IT READS IS OF BULK AT MOST 1048576: true; the input reads as it did. -/
def fnDeriveUptoRow : OpenClaim := { program := "ytmhdbjoljonhdaa", sum := "90adba3a1c028780aecaacf32795a7234043ce502c2165e9399da6e8f88577f5", func := "loop.example/g00828/laws.FnDerive", spec := "fnDerive", unfollowed := true, recurses := true, plainKeys := false, apart := false, narrowed := true }
def FnDeriveUptoSaid : Prop := fnDeriveUptoRow.holds Try.pinned (OpenSpec.upto fnDeriveSpec)

/-- 'laws.FnExactUseful', WHERE WHAT IT READS IS OF BULK AT MOST 1048576: true; the input reads as it did. -/
def fnExactUsefulUptoRow : OpenClaim := { program := "ytmhdbjoljonhdaa", sum := "90adba3a1c028780aecaacf32795a7234043ce502c2165e9399da6e8f88577f5", func := "loop.example/g00828/laws.FnExactUseful", spec := "fnExactUseful", unfollowed := true, recurses := true, plainKeys := false, apart := false, narrowed := true }
def FnExactUsefulUptoSaid : Prop := fnExactUsefulUptoRow.holds Try.pinned (OpenSpec.upto fnExactUsefulSpec)

/-- 'laws.FnExactCycle', WHERE WHAT IT READS IS OF BULK AT MOST 1048576: true; the input reads as it did. -/
def fnExactCycleUptoRow : OpenClaim := { program := "ytmhdbjoljonhdaa", sum := "90adba3a1c028780aecaacf32795a7234043ce502c2165e9399da6e8f88577f5", func := "loop.example/g00828/laws.FnExactCycle", spec := "fnExactCycle", unfollowed := true, recurses := true, plainKeys := false, apart := false, narrowed := true }
def FnExactCycleUptoSaid : Prop := fnExactCycleUptoRow.holds Try.pinned (OpenSpec.upto fnExactCycleSpec)

/-- 'laws.FnExactDerives', WHERE WHAT IT READS IS OF BULK AT MOST 1048576: true; the input reads as it did. -/
def fnExactDerivesUptoRow : OpenClaim := { program := "ytmhdbjoljonhdaa", sum := "90adba3a1c028780aecaacf32795a7234043ce502c2165e9399da6e8f88577f5", func := "loop.example/g00828/laws.FnExactDerives", spec := "fnExactDerives", unfollowed := true, recurses := true, plainKeys := false, apart := false, narrowed := true }
def FnExactDerivesUptoSaid : Prop := fnExactDerivesUptoRow.holds Try.pinned (OpenSpec.upto fnExactDerivesSpec)

/-- 'laws.FnExactViable', WHERE WHAT IT READS IS OF BULK AT MOST 1048576: true; the input reads as it did. -/
def fnExactViableUptoRow : OpenClaim := { program := "ytmhdbjoljonhdaa", sum := "90adba3a1c028780aecaacf32795a7234043ce502c2165e9399da6e8f88577f5", func := "loop.example/g00828/laws.FnExactViable", spec := "fnExactViable", unfollowed := true, recurses := true, plainKeys := false, apart := false, narrowed := true }
def FnExactViableUptoSaid : Prop := fnExactViableUptoRow.holds Try.pinned (OpenSpec.upto fnExactViableSpec)

/-- 'laws.FnExactSpans', WHERE WHAT IT READS IS OF BULK AT MOST 1048576: true; the input reads as it did. -/
def fnExactSpansUptoRow : OpenClaim := { program := "ytmhdbjoljonhdaa", sum := "90adba3a1c028780aecaacf32795a7234043ce502c2165e9399da6e8f88577f5", func := "loop.example/g00828/laws.FnExactSpans", spec := "fnExactSpans", unfollowed := true, recurses := true, plainKeys := false, apart := false, narrowed := true }
def FnExactSpansUptoSaid : Prop := fnExactSpansUptoRow.holds Try.pinned (OpenSpec.upto fnExactSpansSpec)

end Rows
end Go.Proofs.Ytmhdbjoljonhdaa
