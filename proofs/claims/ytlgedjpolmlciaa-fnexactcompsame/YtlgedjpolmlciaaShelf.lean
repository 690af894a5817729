/- Contracts of the standard library at this program: none is needed. -/
import Derived.Test.YtlgedjpolmlciaaProg
namespace Go.Proofs
end Go.Proofs
