/-
  No cell of these rows narrows 'for every input' (looked for: loops, veiled, ifaces, maps, wideKeys, modest, calm, conditions, laid).
  DERIVED. THE GIVEN ROWS OF THIS SEAT. 8 by the template 'for every input the law returns true; each argument reads behind the call as it read before'; 0 by the template 'total and deterministic' (their statements: YtojmcjcdcneikaaTotals.lean).
  GIVEN WITH THE SEED: the statements are not yours to turn. If you find one false, say at which input.
  Laid BY PROGRAM, IN A SANDBOX (cutbox-rows.mjs): the forced cells as the released guide's own fill.sh prints them over the translation f40b900883c49b1d… (all of the seat's roots in one cut). By AI agents, Wed Nov 11 2026. No macro, syntax, notation, axiom, sorry.
-/
import Derived.Test.YtojmcjcdcneikaaChecked
import GoSem.Claim
import GoSem.ClaimJoined
import GoSem.ClaimMapViews
import Derived.JoinedTies
import Derived.KernelRfl
namespace Go.Proofs.Ytojmcjcdcneikaa
/- THE CELL 'sum', in the pinned program and in every row, IS THE sha256 OF THE DUMP (.gsa) THAT YtojmcjcdcneikaaProg.lean LOADS. Nothing in Lean hashes anything: it is a label: what it is worth is what the hold of that sum in a sandbox is worth. -/
noncomputable def Try.pinned : Pinned := { name := "ytojmcjcdcneikaa", sum := "f40b900883c49b1d38eafae4ef1b6d5bb6c0aa20bb5be22846a23e721ed54cbd", checked := Try.checked }
namespace Rows
def none {H : Type} : Left H := { results := [], args := [] }

/-- 'laws.FnGram': WHATEVER THE INPUT: true; the input reads as it did. -/
def fnGramSpec : ChangeSpec := { name := "fnGram", fn := fun _ => fun
  | [d1, d2] => { results := [.lit (.bool true)], args := [d1, d2] }
  | _ => none }
def fnGramRow : OpenClaim := { program := "ytojmcjcdcneikaa", sum := "f40b900883c49b1d38eafae4ef1b6d5bb6c0aa20bb5be22846a23e721ed54cbd", func := "loop.example/g00828/laws.FnGram", spec := "fnGram", inPlace := ["internal/abi.NoEscape", "internal/bytealg.MakeNoZero"], apart := false }
def FnGramSaid : Prop := fnGramRow.holds Try.pinned (OpenSpec.ofChange fnGramSpec)

/-- ITS FALSE NEIGHBOUR: 'it returns false'. Refute it at one input. -/
def fnGramWrong : ChangeSpec := { name := "fnGram", fn := fun _ => fun
  | [d1, d2] => { results := [.lit (.bool false)], args := [d1, d2] }
  | _ => none }
def FnGramWrongFalsely : Prop := fnGramRow.holds Try.pinned (OpenSpec.ofChange fnGramWrong)

/-- 'laws.FnExactIsHead': WHATEVER THE INPUT: true; the input reads as it did. -/
def fnExactIsHeadSpec : ChangeSpec := { name := "fnExactIsHead", fn := fun _ => fun
  | [d] => { results := [.lit (.bool true)], args := [d] }
  | _ => none }
def fnExactIsHeadRow : OpenClaim := { program := "ytojmcjcdcneikaa", sum := "f40b900883c49b1d38eafae4ef1b6d5bb6c0aa20bb5be22846a23e721ed54cbd", func := "loop.example/g00828/laws.FnExactIsHead", spec := "fnExactIsHead", apart := false }
def FnExactIsHeadSaid : Prop := fnExactIsHeadRow.holds Try.pinned (OpenSpec.ofChange fnExactIsHeadSpec)

/-- ITS FALSE NEIGHBOUR: 'it returns false'. Refute it at one input. -/
def fnExactIsHeadWrong : ChangeSpec := { name := "fnExactIsHead", fn := fun _ => fun
  | [d] => { results := [.lit (.bool false)], args := [d] }
  | _ => none }
def FnExactIsHeadWrongFalsely : Prop := fnExactIsHeadRow.holds Try.pinned (OpenSpec.ofChange fnExactIsHeadWrong)

/-- 'laws.FnExactIsToken': WHATEVER THE INPUT: true; the input reads as it did. -/
def fnExactIsTokenSpec : ChangeSpec := { name := "fnExactIsToken", fn := fun _ => fun
  | [d] => { results := [.lit (.bool true)], args := [d] }
  | _ => none }
def fnExactIsTokenRow : OpenClaim := { program := "ytojmcjcdcneikaa", sum := "f40b900883c49b1d38eafae4ef1b6d5bb6c0aa20bb5be22846a23e721ed54cbd", func := "loop.example/g00828/laws.FnExactIsToken", spec := "fnExactIsToken", apart := false }
def FnExactIsTokenSaid : Prop := fnExactIsTokenRow.holds Try.pinned (OpenSpec.ofChange fnExactIsTokenSpec)

/-- ITS FALSE NEIGHBOUR: 'it returns false'. Refute it at one input. -/
def fnExactIsTokenWrong : ChangeSpec := { name := "fnExactIsToken", fn := fun _ => fun
  | [d] => { results := [.lit (.bool false)], args := [d] }
  | _ => none }
def FnExactIsTokenWrongFalsely : Prop := fnExactIsTokenRow.holds Try.pinned (OpenSpec.ofChange fnExactIsTokenWrong)

/-- 'laws.FnExactGramRight': WHATEVER THE INPUT: true; the input reads as it did. -/
def fnExactGramRightSpec : ChangeSpec := { name := "fnExactGramRight", fn := fun _ => fun
  | [d] => { results := [.lit (.bool true)], args := [d] }
  | _ => none }
def fnExactGramRightRow : OpenClaim := { program := "ytojmcjcdcneikaa", sum := "f40b900883c49b1d38eafae4ef1b6d5bb6c0aa20bb5be22846a23e721ed54cbd", func := "loop.example/g00828/laws.FnExactGramRight", spec := "fnExactGramRight", apart := false }
def FnExactGramRightSaid : Prop := fnExactGramRightRow.holds Try.pinned (OpenSpec.ofChange fnExactGramRightSpec)

/-- ITS FALSE NEIGHBOUR: 'it returns false'. Refute it at one input. -/
def fnExactGramRightWrong : ChangeSpec := { name := "fnExactGramRight", fn := fun _ => fun
  | [d] => { results := [.lit (.bool false)], args := [d] }
  | _ => none }
def FnExactGramRightWrongFalsely : Prop := fnExactGramRightRow.holds Try.pinned (OpenSpec.ofChange fnExactGramRightWrong)

/-- 'laws.FnExactGramText': WHATEVER THE INPUT: true; the input reads as it did. -/
def fnExactGramTextSpec : ChangeSpec := { name := "fnExactGramText", fn := fun _ => fun
  | [d] => { results := [.lit (.bool true)], args := [d] }
  | _ => none }
def fnExactGramTextRow : OpenClaim := { program := "ytojmcjcdcneikaa", sum := "f40b900883c49b1d38eafae4ef1b6d5bb6c0aa20bb5be22846a23e721ed54cbd", func := "loop.example/g00828/laws.FnExactGramText", spec := "fnExactGramText", inPlace := ["internal/abi.NoEscape", "internal/bytealg.MakeNoZero"], apart := false }
def FnExactGramTextSaid : Prop := fnExactGramTextRow.holds Try.pinned (OpenSpec.ofChange fnExactGramTextSpec)

/-- ITS FALSE NEIGHBOUR: 'it returns false'. Refute it at one input. -/
def fnExactGramTextWrong : ChangeSpec := { name := "fnExactGramText", fn := fun _ => fun
  | [d] => { results := [.lit (.bool false)], args := [d] }
  | _ => none }
def FnExactGramTextWrongFalsely : Prop := fnExactGramTextRow.holds Try.pinned (OpenSpec.ofChange fnExactGramTextWrong)

/-- 'laws.FnExactGramRead': WHATEVER THE INPUT: true; the input reads as it did. -/
def fnExactGramReadSpec : ChangeSpec := { name := "fnExactGramRead", fn := fun _ => fun
  | [d] => { results := [.lit (.bool true)], args := [d] }
  | _ => none }
def fnExactGramReadRow : OpenClaim := { program := "ytojmcjcdcneikaa", sum := "f40b900883c49b1d38eafae4ef1b6d5bb6c0aa20bb5be22846a23e721ed54cbd", func := "loop.example/g00828/laws.FnExactGramRead", spec := "fnExactGramRead", apart := false }
def FnExactGramReadSaid : Prop := fnExactGramReadRow.holds Try.pinned (OpenSpec.ofChange fnExactGramReadSpec)

/-- ITS FALSE NEIGHBOUR: 'it returns false'. Refute it at one input. -/
def fnExactGramReadWrong : ChangeSpec := { name := "fnExactGramRead", fn := fun _ => fun
  | [d] => { results := [.lit (.bool false)], args := [d] }
  | _ => none }
def FnExactGramReadWrongFalsely : Prop := fnExactGramReadRow.holds Try.pinned (OpenSpec.ofChange fnExactGramReadWrong)

/-- 'laws.FnExactHeads': WHATEVER THE INPUT: true; the input reads as it did. -/
def fnExactHeadsSpec : ChangeSpec := { name := "fnExactHeads", fn := fun _ => fun
  | [d] => { results := [.lit (.bool true)], args := [d] }
  | _ => none }
def fnExactHeadsRow : OpenClaim := { program := "ytojmcjcdcneikaa", sum := "f40b900883c49b1d38eafae4ef1b6d5bb6c0aa20bb5be22846a23e721ed54cbd", func := "loop.example/g00828/laws.FnExactHeads", spec := "fnExactHeads", apart := false }
def FnExactHeadsSaid : Prop := fnExactHeadsRow.holds Try.pinned (OpenSpec.ofChange fnExactHeadsSpec)

/-- ITS FALSE NEIGHBOUR: 'it returns false'. Refute it at one input. -/
def fnExactHeadsWrong : ChangeSpec := { name := "fnExactHeads", fn := fun _ => fun
  | [d] => { results := [.lit (.bool false)], args := [d] }
  | _ => none }
def FnExactHeadsWrongFalsely : Prop := fnExactHeadsRow.holds Try.pinned (OpenSpec.ofChange fnExactHeadsWrong)

/-- 'laws.FnExactTokens': WHATEVER THE INPUT: true; the input reads as it did. -/
def fnExactTokensSpec : ChangeSpec := { name := "fnExactTokens", fn := fun _ => fun
  | [d] => { results := [.lit (.bool true)], args := [d] }
  | _ => none }
def fnExactTokensRow : OpenClaim := { program := "ytojmcjcdcneikaa", sum := "f40b900883c49b1d38eafae4ef1b6d5bb6c0aa20bb5be22846a23e721ed54cbd", func := "loop.example/g00828/laws.FnExactTokens", spec := "fnExactTokens", apart := false }
def FnExactTokensSaid : Prop := fnExactTokensRow.holds Try.pinned (OpenSpec.ofChange fnExactTokensSpec)

/-- ITS FALSE NEIGHBOUR: 'it returns false'. Refute it at one input. -/
def fnExactTokensWrong : ChangeSpec := { name := "fnExactTokens", fn := fun _ => fun
  | [d] => { results := [.lit (.bool false)], args := [d] }
  | _ => none }
def FnExactTokensWrongFalsely : Prop := fnExactTokensRow.holds Try.pinned (OpenSpec.ofChange fnExactTokensWrong)

/- THE SECOND FORM. 'bulk': how many values and letters a reading holds, each counted each time it is reached (what is shared counts as often as it is met; a slice's spare places count too). A statement '..UptoSaid' is the law's where the arguments, and the package variables that the reading takes, are together of bulk at most 1048576: NARROWER than '..Said'. Prove '..Said' where nothing that the law and all that it calls make is longer than what came in: it says more and counts as full. Else prove '..UptoSaid'. A law counts once. -/
mutual
def uptoBulk {H : Type} : DataW H → Nat
  | .lit (.string bytes) => bytes.length + 1
  | .lit _ => 1
  | .nil => 1
  | .ptr d => uptoBulk d + 1
  | .slice elems spare => uptoBulkAll elems + uptoBulkAll spare + 1
  | .agg parts => uptoBulkAll parts + 1
  | .iface _ d => uptoBulk d + 1
  | .map entries => uptoBulkEntries entries + 1
  | .held _ => 1
def uptoBulkAll {H : Type} : List (DataW H) → Nat
  | [] => 0
  | d :: r => uptoBulk d + uptoBulkAll r
def uptoBulkEntries {H : Type} : List (Lit × DataW H) → Nat
  | [] => 0
  | x :: r => uptoBulkEntry x + uptoBulkEntries r
def uptoBulkEntry {H : Type} : Lit × DataW H → Nat
  | (.string bytes, d) => bytes.length + uptoBulk d + 1
  | (_, d) => uptoBulk d + 1
 end
def uptoSmall : (H : Type) → List (DataW H) → Bool := fun _ ds => decide (uptoBulkAll ds ≤ 1048576)
def OpenSpec.upto (s : _root_.Go.ChangeSpec) : _root_.Go.OpenSpec := { _root_.Go.OpenSpec.ofChange s with cond := some uptoSmall }

/-- 'laws.FnGram', WHERE WHAT IT READS IS OF BULK AT MOST 1048576: true; the input reads as it did. -/
def fnGramUptoRow : OpenClaim := { program := "ytojmcjcdcneikaa", sum := "f40b900883c49b1d38eafae4ef1b6d5bb6c0aa20bb5be22846a23e721ed54cbd", func := "loop.example/g00828/laws.FnGram", spec := "fnGram", inPlace := ["internal/abi.NoEscape", "internal/bytealg.MakeNoZero"], apart := false, narrowed := true }
def FnGramUptoSaid : Prop := fnGramUptoRow.holds Try.pinned (OpenSpec.upto fnGramSpec)

/-- 'laws.FnExactIsHead', WHERE WHAT IT READS IS OF BULK AT MOST 1048576: true; the input reads as it did. -/
def fnExactIsHeadUptoRow : OpenClaim := { program := "ytojmcjcdcneikaa", sum := "f40b900883c49b1d38eafae4ef1b6d5bb6c0aa20bb5be22846a23e721ed54cbd", func := "loop.example/g00828/laws.FnExactIsHead", spec := "fnExactIsHead", apart := false, narrowed := true }
def FnExactIsHeadUptoSaid : Prop := fnExactIsHeadUptoRow.holds Try.pinned (OpenSpec.upto fnExactIsHeadSpec)

/-- 'laws.FnExactIsToken', WHERE WHAT IT READS IS OF BULK AT MOST 1048576: true; the input reads as it did. -/
def fnExactIsTokenUptoRow : OpenClaim := { program := "ytojmcjcdcneikaa", sum := "f40b900883c49b1d38eafae4ef1b6d5bb6c0aa20bb5be22846a23e721ed54cbd", func := "loop.example/g00828/laws.FnExactIsToken", spec := "fnExactIsToken", apart := false, narrowed := true }
def FnExactIsTokenUptoSaid : Prop := fnExactIsTokenUptoRow.holds Try.pinned (OpenSpec.upto fnExactIsTokenSpec)

/-- 'laws.FnExactGramRight', WHERE WHAT IT READS IS OF BULK AT MOST 1048576: true; the input reads as it did. -/
def fnExactGramRightUptoRow : OpenClaim := { program := "ytojmcjcdcneikaa", sum := "f40b900883c49b1d38eafae4ef1b6d5bb6c0aa20bb5be22846a23e721ed54cbd", func := "loop.example/g00828/laws.FnExactGramRight", spec := "fnExactGramRight", apart := false, narrowed := true }
def FnExactGramRightUptoSaid : Prop := fnExactGramRightUptoRow.holds Try.pinned (OpenSpec.upto fnExactGramRightSpec)

/-- 'laws.FnExactGramText', WHERE WHAT IT READS IS OF BULK AT MOST 1048576: true; the input reads as it did. -/
def fnExactGramTextUptoRow : OpenClaim := { program := "ytojmcjcdcneikaa", sum := "f40b900883c49b1d38eafae4ef1b6d5bb6c0aa20bb5be22846a23e721ed54cbd", func := "loop.example/g00828/laws.FnExactGramText", spec := "fnExactGramText", inPlace := ["internal/abi.NoEscape", "internal/bytealg.MakeNoZero"], apart := false, narrowed := true }
def FnExactGramTextUptoSaid : Prop := fnExactGramTextUptoRow.holds Try.pinned (OpenSpec.upto fnExactGramTextSpec)

/-- 'laws.FnExactGramRead', WHERE WHAT IT READS IS OF BULK AT MOST 1048576: true; the input reads as it did. -/
def fnExactGramReadUptoRow : OpenClaim := { program := "ytojmcjcdcneikaa", sum := "f40b900883c49b1d38eafae4ef1b6d5bb6c0aa20bb5be22846a23e721ed54cbd", func := "loop.example/g00828/laws.FnExactGramRead", spec := "fnExactGramRead", apart := false, narrowed := true }
def FnExactGramReadUptoSaid : Prop := fnExactGramReadUptoRow.holds Try.pinned (OpenSpec.upto fnExactGramReadSpec)

/-- 'laws.FnExactHeads', WHERE WHAT IT READS IS OF BULK AT MOST 1048576: true; the input reads as it did. -/
def fnExactHeadsUptoRow : OpenClaim := { program := "ytojmcjcdcneikaa", sum := "f40b900883c49b1d38eafae4ef1b6d5bb6c0aa20bb5be22846a23e721ed54cbd", func := "loop.example/g00828/laws.FnExactHeads", spec := "fnExactHeads", apart := false, narrowed := true }
def FnExactHeadsUptoSaid : Prop := fnExactHeadsUptoRow.holds Try.pinned (OpenSpec.upto fnExactHeadsSpec)

/-- 'laws.FnExactTokens', WHERE WHAT IT READS IS OF BULK AT MOST 1048576: true; the input reads as it did. -/
def fnExactTokensUptoRow : OpenClaim := { program := "ytojmcjcdcneikaa", sum := "f40b900883c49b1d38eafae4ef1b6d5bb6c0aa20bb5be22846a23e721ed54cbd", func := "loop.example/g00828/laws.FnExactTokens", spec := "fnExactTokens", apart := false, narrowed := true }
def FnExactTokensUptoSaid : Prop := fnExactTokensUptoRow.holds Try.pinned (OpenSpec.upto fnExactTokensSpec)

end Rows
end Go.Proofs.Ytojmcjcdcneikaa
