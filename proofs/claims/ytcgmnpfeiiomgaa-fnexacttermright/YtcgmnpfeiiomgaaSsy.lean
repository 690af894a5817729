/- The model's size of a tree, as far as one asks: spec.l05Size. -/
import Derived.Test.YtcgmnpfeiiomgaaSsz
namespace Go.Proofs.Ytcgmnpfeiiomgaa
open Go.RowKit

/-- r is the size n, or more than most -/
def Upto (n : Nat) (most r : Int) : Prop := ((n : Int) ≤ most → r = n) ∧ (most < n → most < r ∧ r ≤ n)
end Go.Proofs.Ytcgmnpfeiiomgaa
