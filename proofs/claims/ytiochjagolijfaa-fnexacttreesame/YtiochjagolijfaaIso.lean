/- How many parts some trees have: impl.sizeOfAll. -/
import Derived.Test.YtiochjagolijfaaIsz
import Derived.Test.YtiochjagolijfaaTxt
import Derived.Deep.LoopGhost
import Derived.Deep.QuietTactic
import Derived.Deep.RegionWith
import Derived.Deep.RegionHeld3
import Derived.StillTailTactics
import Derived.Deep.AppendLies
namespace Go.Proofs.Ytiochjagolijfaa
open Go.RowKit

end Go.Proofs.Ytiochjagolijfaa
