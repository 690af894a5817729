/-
  NARROWER THAN 'FOR EVERY INPUT', by the rows' own cells (each row's printed sentence says how): FnExactTermRight: loops · FnExactBuild: loops · FnExactPutIn: loops.
  DERIVED. THE GIVEN ROWS OF THIS SEAT. 6 by the template 'for every input the law returns true; each argument reads behind the call as it read before'; 0 by the template 'total and deterministic' (their statements: YtcgmnpfeiiomgaaTotals.lean).
  GIVEN WITH THE SEED: the statements are not yours to turn. If you find one false, say at which input.
  Laid BY PROGRAM, IN A SANDBOX (cutbox-rows.mjs): the forced cells as the released guide's own fill.sh prints them over the translation 4e020ddff806bacc… (all of the seat's roots in one cut). By AI agents, Wed Nov 11 2026. No macro, syntax, notation, axiom, sorry.
-/
import Derived.Test.YtcgmnpfeiiomgaaChecked
import GoSem.Claim
import GoSem.ClaimJoined
import GoSem.ClaimMapViews
import Derived.JoinedTies
import Derived.KernelRfl
namespace Go.Proofs.Ytcgmnpfeiiomgaa
/- THE CELL 'sum', in the pinned program and in every row, IS THE sha256 OF THE DUMP (.gsa) THAT YtcgmnpfeiiomgaaProg.lean LOADS. Nothing in Lean hashes anything: it is a label: what it is worth is what the hold of that sum in a sandbox is worth. -/
noncomputable def Try.pinned : Pinned := { name := "ytcgmnpfeiiomgaa", sum := "4e020ddff806bacc7c3dcd1510c2e294852f770ddf31acfeac7bf5bdbfcc5fa6", checked := Try.checked }
namespace Rows
def none {H : Type} : Left H := { results := [], args := [] }

/-- 'laws.FnGram': WHATEVER THE INPUT: true; the input reads as it did. -/
def fnGramSpec : ChangeSpec := { name := "fnGram", fn := fun _ => fun
  | [d1, d2] => { results := [.lit (.bool true)], args := [d1, d2] }
  | _ => none }
def fnGramRow : OpenClaim := { program := "ytcgmnpfeiiomgaa", sum := "4e020ddff806bacc7c3dcd1510c2e294852f770ddf31acfeac7bf5bdbfcc5fa6", func := "loop.example/g00828/laws.FnGram", spec := "fnGram", inPlace := ["internal/abi.NoEscape", "internal/bytealg.MakeNoZero"], plainKeys := false, apart := false }
def FnGramSaid : Prop := fnGramRow.holds Try.pinned (OpenSpec.ofChange fnGramSpec)

/-- ITS FALSE NEIGHBOUR: 'it returns false'. Refute it at one input. -/
def fnGramWrong : ChangeSpec := { name := "fnGram", fn := fun _ => fun
  | [d1, d2] => { results := [.lit (.bool false)], args := [d1, d2] }
  | _ => none }
def FnGramWrongFalsely : Prop := fnGramRow.holds Try.pinned (OpenSpec.ofChange fnGramWrong)

/-- 'laws.FnSets': WHATEVER THE INPUT: true; the input reads as it did. -/
def fnSetsSpec : ChangeSpec := { name := "fnSets", fn := fun _ => fun
  | [d1, d2] => { results := [.lit (.bool true)], args := [d1, d2] }
  | _ => none }
def fnSetsRow : OpenClaim := { program := "ytcgmnpfeiiomgaa", sum := "4e020ddff806bacc7c3dcd1510c2e294852f770ddf31acfeac7bf5bdbfcc5fa6", func := "loop.example/g00828/laws.FnSets", spec := "fnSets", unfollowed := true, recurses := true, plainKeys := false, apart := false }
def FnSetsSaid : Prop := fnSetsRow.holds Try.pinned (OpenSpec.ofChange fnSetsSpec)

/-- ITS FALSE NEIGHBOUR: 'it returns false'. Refute it at one input. -/
def fnSetsWrong : ChangeSpec := { name := "fnSets", fn := fun _ => fun
  | [d1, d2] => { results := [.lit (.bool false)], args := [d1, d2] }
  | _ => none }
def FnSetsWrongFalsely : Prop := fnSetsRow.holds Try.pinned (OpenSpec.ofChange fnSetsWrong)

/-- 'laws.FnDerive': WHATEVER THE INPUT: true; the input reads as it did. -/
def fnDeriveSpec : ChangeSpec := { name := "fnDerive", fn := fun _ => fun
  | [d1, d2] => { results := [.lit (.bool true)], args := [d1, d2] }
  | _ => none }
def fnDeriveRow : OpenClaim := { program := "ytcgmnpfeiiomgaa", sum := "4e020ddff806bacc7c3dcd1510c2e294852f770ddf31acfeac7bf5bdbfcc5fa6", func := "loop.example/g00828/laws.FnDerive", spec := "fnDerive", unfollowed := true, recurses := true, plainKeys := false, apart := false }
def FnDeriveSaid : Prop := fnDeriveRow.holds Try.pinned (OpenSpec.ofChange fnDeriveSpec)

/-- ITS FALSE NEIGHBOUR: 'it returns false'. Refute it at one input. -/
def fnDeriveWrong : ChangeSpec := { name := "fnDerive", fn := fun _ => fun
  | [d1, d2] => { results := [.lit (.bool false)], args := [d1, d2] }
  | _ => none }
def FnDeriveWrongFalsely : Prop := fnDeriveRow.holds Try.pinned (OpenSpec.ofChange fnDeriveWrong)

/-- 'laws.FnExactTermRight': WHATEVER THE INPUT: true; the input reads as it did. -/
def fnExactTermRightSpec : ChangeSpec := { name := "fnExactTermRight", fn := fun _ => fun
  | [d] => { results := [.lit (.bool true)], args := [d] }
  | _ => none }
def fnExactTermRightRow : OpenClaim := { program := "ytcgmnpfeiiomgaa", sum := "4e020ddff806bacc7c3dcd1510c2e294852f770ddf31acfeac7bf5bdbfcc5fa6", func := "loop.example/g00828/laws.FnExactTermRight", spec := "fnExactTermRight", recurses := true, loops := true, plainKeys := false, apart := false }
def FnExactTermRightSaid : Prop := fnExactTermRightRow.holds Try.pinned (OpenSpec.ofChange fnExactTermRightSpec)

/-- ITS FALSE NEIGHBOUR: 'it returns false'. Refute it at one input. -/
def fnExactTermRightWrong : ChangeSpec := { name := "fnExactTermRight", fn := fun _ => fun
  | [d] => { results := [.lit (.bool false)], args := [d] }
  | _ => none }
def FnExactTermRightWrongFalsely : Prop := fnExactTermRightRow.holds Try.pinned (OpenSpec.ofChange fnExactTermRightWrong)

/-- 'laws.FnExactBuild': WHATEVER THE INPUT: true; the input reads as it did. -/
def fnExactBuildSpec : ChangeSpec := { name := "fnExactBuild", fn := fun _ => fun
  | [d1, d2] => { results := [.lit (.bool true)], args := [d1, d2] }
  | _ => none }
def fnExactBuildRow : OpenClaim := { program := "ytcgmnpfeiiomgaa", sum := "4e020ddff806bacc7c3dcd1510c2e294852f770ddf31acfeac7bf5bdbfcc5fa6", func := "loop.example/g00828/laws.FnExactBuild", spec := "fnExactBuild", unfollowed := true, recurses := true, loops := true, plainKeys := false, apart := false }
def FnExactBuildSaid : Prop := fnExactBuildRow.holds Try.pinned (OpenSpec.ofChange fnExactBuildSpec)

/-- ITS FALSE NEIGHBOUR: 'it returns false'. Refute it at one input. -/
def fnExactBuildWrong : ChangeSpec := { name := "fnExactBuild", fn := fun _ => fun
  | [d1, d2] => { results := [.lit (.bool false)], args := [d1, d2] }
  | _ => none }
def FnExactBuildWrongFalsely : Prop := fnExactBuildRow.holds Try.pinned (OpenSpec.ofChange fnExactBuildWrong)

/-- 'laws.FnExactPutIn': WHATEVER THE INPUT: true; the input reads as it did. -/
def fnExactPutInSpec : ChangeSpec := { name := "fnExactPutIn", fn := fun _ => fun
  | [d1, d2, d3, d4] => { results := [.lit (.bool true)], args := [d1, d2, d3, d4] }
  | _ => none }
def fnExactPutInRow : OpenClaim := { program := "ytcgmnpfeiiomgaa", sum := "4e020ddff806bacc7c3dcd1510c2e294852f770ddf31acfeac7bf5bdbfcc5fa6", func := "loop.example/g00828/laws.FnExactPutIn", spec := "fnExactPutIn", unfollowed := true, recurses := true, loops := true, plainKeys := false, apart := false }
def FnExactPutInSaid : Prop := fnExactPutInRow.holds Try.pinned (OpenSpec.ofChange fnExactPutInSpec)

/-- ITS FALSE NEIGHBOUR: 'it returns false'. Refute it at one input. -/
def fnExactPutInWrong : ChangeSpec := { name := "fnExactPutIn", fn := fun _ => fun
  | [d1, d2, d3, d4] => { results := [.lit (.bool false)], args := [d1, d2, d3, d4] }
  | _ => none }
def FnExactPutInWrongFalsely : Prop := fnExactPutInRow.holds Try.pinned (OpenSpec.ofChange fnExactPutInWrong)

/- THE SECOND FORM. 'bulk': how many values and letters a reading holds, each counted each time it is reached (what is shared counts as often as it is met; a slice's spare places count too). A statement '..UptoSaid' is the law's where the arguments, and the package variables that the reading takes, are together of bulk at most 1048576: NARROWER than '..Said'. Prove '..Said' where nothing that the law and all that it calls make is longer than what came in: it says more and counts as full. Else prove '..UptoSaid'. A law counts once. -/
mutual
def uptoBulk {H : Type} : DataW H → Nat
  | .lit (.string bytes) => bytes.length + 1
  | .lit _ => 1
  | .nil => 1
  | .ptr d => uptoBulk d + 1
  | .slice elems spare => uptoBulkAll elems + uptoBulkAll spare + 1
  | .agg parts => uptoBulkAll parts + 1
  | .iface _ d => uptoBulk d + 1
  | .map entries => uptoBulkEntries entries + 1
  | .held _ => 1
def uptoBulkAll {H : Type} : List (DataW H) → Nat
  | [] => 0
  | d :: r => uptoBulk d + uptoBulkAll r
def uptoBulkEntries {H : Type} : List (Lit × DataW H) → Nat
  | [] => 0
  | x :: r => uptoBulkEntry x + uptoBulkEntries r
def uptoBulkEntry {H : Type} : Lit × DataW H → Nat
  | (.string bytes, d) => bytes.length + uptoBulk d + 1
  | (_, d) => uptoBulk d + 1
 end
def uptoSmall : (H : Type) → List (DataW H) → Bool := fun _ ds => decide (uptoBulkAll ds ≤ 1048576)
def OpenSpec.upto (s : _root_.Go.ChangeSpec) : _root_.Go.OpenSpec := { _root_.Go.OpenSpec.ofChange s with cond := some uptoSmall }

/-- 'laws.FnGram', WHERE WHAT IT READS IS OF BULK AT MOST 1048576: true; the input reads as it did. -/
def fnGramUptoRow : OpenClaim := { program := "ytcgmnpfeiiomgaa", sum := "4e020ddff806bacc7c3dcd1510c2e294852f770ddf31acfeac7bf5bdbfcc5fa6", func := "loop.example/g00828/laws.FnGram", spec := "fnGram", inPlace := ["internal/abi.NoEscape", "internal/bytealg.MakeNoZero"], plainKeys := false, apart := false, narrowed := true }
def FnGramUptoSaid : Prop := fnGramUptoRow.holds Try.pinned (OpenSpec.upto fnGramSpec)

/-- 'laws.FnSets', WHERE WHAT IT READS IS OF BULK AT MOST 1048576: true; the input reads as it did. -/
def fnSetsUptoRow : OpenClaim := { program := "ytcgmnpfeiiomgaa", sum := "4e020ddff806bacc7c3dcd1510c2e294852f770ddf31acfeac7bf5bdbfcc5fa6", func := "loop.example/g00828/laws.FnSets", spec := "fnSets", unfollowed := true, recurses := true, plainKeys := false, apart := false, narrowed := true }
def FnSetsUptoSaid : Prop := fnSetsUptoRow.holds Try.pinned (OpenSpec.upto fnSetsSpec)

/-- 'laws.FnDerive', WHERE WHAT IT READS IS OF BULK AT MOST 1048576: true; the input reads as it did. -/
def fnDeriveUptoRow : OpenClaim := { program := "ytcgmnpfeiiomgaa", sum := "4e020ddff806bacc7c3dcd1510c2e294852f770ddf31acfeac7bf5bdbfcc5fa6", func := "loop.example/g00828/laws.FnDerive", spec := "fnDerive", unfollowed := true, recurses := true, plainKeys := false, apart := false, narrowed := true }
def FnDeriveUptoSaid : Prop := fnDeriveUptoRow.holds Try.pinned (OpenSpec.upto fnDeriveSpec)

/-- 'laws.FnExactTermRight', WHERE WHAT IT READS IS OF BULK AT MOST 1048576: true; the input reads as it did. -/
def fnExactTermRightUptoRow : OpenClaim := { program := "ytcgmnpfeiiomgaa", sum := "4e020ddff806bacc7c3dcd1510c2e294852f770ddf31acfeac7bf5bdbfcc5fa6", func := "loop.example/g00828/laws.FnExactTermRight", spec := "fnExactTermRight", recurses := true, loops := true, plainKeys := false, apart := false, narrowed := true }
def FnExactTermRightUptoSaid : Prop := fnExactTermRightUptoRow.holds Try.pinned (OpenSpec.upto fnExactTermRightSpec)

/-- 'laws.FnExactBuild', WHERE WHAT IT READS IS OF BULK AT MOST 1048576: true; the input reads as it did. -/
def fnExactBuildUptoRow : OpenClaim := { program := "ytcgmnpfeiiomgaa", sum := "4e020ddff806bacc7c3dcd1510c2e294852f770ddf31acfeac7bf5bdbfcc5fa6", func := "loop.example/g00828/laws.FnExactBuild", spec := "fnExactBuild", unfollowed := true, recurses := true, loops := true, plainKeys := false, apart := false, narrowed := true }
def FnExactBuildUptoSaid : Prop := fnExactBuildUptoRow.holds Try.pinned (OpenSpec.upto fnExactBuildSpec)

/-- 'laws.FnExactPutIn', WHERE WHAT IT READS IS OF BULK AT MOST 1048576: true; the input reads as it did. -/
def fnExactPutInUptoRow : OpenClaim := { program := "ytcgmnpfeiiomgaa", sum := "4e020ddff806bacc7c3dcd1510c2e294852f770ddf31acfeac7bf5bdbfcc5fa6", func := "loop.example/g00828/laws.FnExactPutIn", spec := "fnExactPutIn", unfollowed := true, recurses := true, loops := true, plainKeys := false, apart := false, narrowed := true }
def FnExactPutInUptoSaid : Prop := fnExactPutInUptoRow.holds Try.pinned (OpenSpec.upto fnExactPutInSpec)

end Rows
end Go.Proofs.Ytcgmnpfeiiomgaa
