/- The walks of fruitful's question and useful's, of fruitful and of useful. -/
import Derived.Test.YtlgedjpolmlciaaUseW
namespace Go.Proofs.Ytlgedjpolmlciaa
open Go.RowKit

def notProd (m : Nat) (r : RuleN) : Bool := !holdsB m (joinAll r.body)
def notReached (m : Nat) (r : RuleN) : Bool := !holdsB m r.head

theorem keepN_sub {p : RuleN → Bool} {rl : List RuleN} {r : RuleN} (h : r ∈ keepN p rl) : r ∈ rl := (List.mem_filter.1 h).1
theorem keepN_len' (p : RuleN → Bool) (rl : List RuleN) : (keepN p rl).length ≤ rl.length := List.length_filter_le _ _
/-- what useful leaves of a grammar of sets -/
def UseAt (rl rl' : List RuleN) : Prop := ∃ m1 m2 : Nat, FixAt (stepCome rl) (tokBase true) m1 ∧ FixAt (stepAfter (keepN (notProd m1) rl) 1 joinAll) 0 m2 ∧ rl' = keepN (notReached (1 ||| m2)) (keepN (notProd m1) rl)

end Go.Proofs.Ytlgedjpolmlciaa
