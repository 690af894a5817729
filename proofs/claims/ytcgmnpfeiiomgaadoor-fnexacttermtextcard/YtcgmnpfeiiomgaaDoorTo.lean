/- What came in, laid anew: toStringS, toRule, toRuleS, toGram. -/
import Derived.Test.YtcgmnpfeiiomgaaDoorOwns
import Derived.WalkKit
import Derived.WalkSpells
import Derived.WalkLawsBesides
import Derived.Deep.OwnRows
namespace Go.Proofs.YtcgmnpfeiiomgaaDoor
open Go.RowKit

theorem Tryd.infoStr : (Tryd.prog.info? 9).map (fun i => (i.zero, i.size, i.bytes)) = some (some (.string ByteArray.empty), 1, 16) := by kernel_rfl

end Go.Proofs.YtcgmnpfeiiomgaaDoor
