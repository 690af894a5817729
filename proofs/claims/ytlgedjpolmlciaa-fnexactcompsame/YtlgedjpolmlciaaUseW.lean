/- The walks of without and useful. -/
import Derived.Test.YtlgedjpolmlciaaReachI
namespace Go.Proofs.Ytlgedjpolmlciaa
open Go.RowKit

/-- a function value that asks something of a rule -/
def TestsRule (g : Nat) (lb : Array Value) (p : RuleN → Bool) (w : World) : Prop :=
  ∀ (W : World) (u : Value) (r : RuleN) (hi : Nat), BitsAt W hi u r.body → hi ≤ W.heap.size → r.head < 4194304 → Below w.heap.size w W → Calls Try.prog g (#[.agg #[.int .i64 (r.num : Int), .int .u32 (r.head : Int), u]] ++ lb) W fun e w' => e = .returned (.bool (p r)) ∧ Below W.heap.size W w'
theorem TestsRule.later {g : Nat} {lb : Array Value} {p : RuleN → Bool} {w W : World} (h : TestsRule g lb p w) (hb : Below w.heap.size w W) : TestsRule g lb p W :=
  fun W' u r hi hB hh hd hb' => h W' u r hi hB hh hd (hb.trans (hb'.mono hb.size))
def keepN (p : RuleN → Bool) (rl : List RuleN) : List RuleN := rl.filter fun r => !p r
theorem keepN_t {p : RuleN → Bool} {rl : List RuleN} {j : Nat} (h : j < rl.length) (hp : p rl[j] = true) : keepN p (rl.take (j + 1)) = keepN p (rl.take j) := by
  unfold keepN; rw [List.take_succ_eq_append_getElem h, List.filter_append]; simp [hp]
theorem keepN_f {p : RuleN → Bool} {rl : List RuleN} {j : Nat} (h : j < rl.length) (hp : p rl[j] = false) : keepN p (rl.take (j + 1)) = keepN p (rl.take j) ++ [rl[j]] := by
  unfold keepN; rw [List.take_succ_eq_append_getElem h, List.filter_append]; simp [hp]
theorem keepN_len (p : RuleN → Bool) (rl : List RuleN) (j : Nat) : (keepN p (rl.take j)).length ≤ rl.length := by
  unfold keepN
  refine Nat.le_trans (List.length_filter_le _ _) ?_
  rw [List.length_take]; omega

end Go.Proofs.Ytlgedjpolmlciaa
