/- The Mades of the useful Rules, of the model: l07Given, Given. -/
import Derived.Test.YtiochjagolijfaaJGvi
import Derived.Test.YtiochjagolijfaaJGva
import Derived.Test.YtiochjagolijfaaJUseS
namespace Go.Proofs.Ytiochjagolijfaa
open Go.RowKit

end Go.Proofs.Ytiochjagolijfaa
