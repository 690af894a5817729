/- How many parts some trees have: impl.sizeOfAll. -/
import Derived.Test.YtlgedjpolmlciaaJUfpm
import Derived.Test.YtlgedjpolmlciaaJTxt
import Derived.Deep.LoopGhost
import Derived.Deep.QuietTactic
import Derived.Deep.RegionWith
import Derived.Deep.RegionHeld3
import Derived.StillTailTactics
import Derived.Deep.AppendLies
namespace Go.Proofs.Ytlgedjpolmlciaa
open Go.RowKit

end Go.Proofs.Ytlgedjpolmlciaa
