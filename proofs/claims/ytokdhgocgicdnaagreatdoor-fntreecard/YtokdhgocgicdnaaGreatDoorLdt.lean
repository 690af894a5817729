/- From the row's list to the table of tens that strconv reads, and a world that meets the list. -/
import Derived.Test.YtokdhgocgicdnaaGreatDoorJUff
import Derived.Test.YtokdhgocgicdnaaGreatDoorCards
import Derived.Test.YtokdhgocgicdnaaGreatDoorTie
import Derived.ProofKit
import Derived.OpenShut
import Derived.ShutString
import Derived.ChangeOld
import Derived.Below
import Derived.Deep.DeepHandedRow
import Derived.LaidHandle
import Derived.LaidLaws
import Derived.Stop.LaidErr
import Derived.Lib.LaidTab
namespace Go.Proofs.YtokdhgocgicdnaaGreatDoor
open Go.ChangeShapes Go.WideShapes Go.ChangeAt Go.RowKit

theorem own : ownKnob Tryz.prog.godebug = none := by kernel_rfl
theorem laidOut : laidOutB Tryz.prog = true := by kernel_rfl
abbrev threeTabs : List (String × DataW Unit) := [("math/bits.deBruijn32tab", Rows.laid_math_bits_deBruijn32tab), ("math/bits.deBruijn64tab", Rows.laid_math_bits_deBruijn64tab), ("internal/strconv.uint64pow10", Rows.laid_internal_strconv_uint64pow10)]
theorem tab_data : (Rows.laid_internal_strconv_uint64pow10 : DataW Unit) = Lib.tabData .u64 Lib.pow10Tab := by kernel_rfl
theorem tens_of {W : World} (h : laidMetH Tryz.prog threeTabs W) : Tens W.heap.size W := by
  have h' : laidMet Tryz.prog threeTabs W := h
  have h2 := h'.tail.tail
  rw [tab_data] at h2
  exact Lib.tabBelow_of_tabIs (Lib.tabIs_of_head (g := 0) (t := 187) (e := 83) (n := 20) (by kernel_rfl) (by kernel_rfl) Tryz.underlying187 Tryz.underlying83 (by kernel_rfl) (by kernel_rfl) h2)

def litV : DataW Unit → Value
  | .lit (.int k z) => .int k z
  | _ => .tuple #[]
def tabCells : DataW Unit → Array Value
  | .agg l => (l.map litV).toArray
  | _ => #[]
def lay (cs : Array Value) : Obj → Obj
  | .cells _ t frozen => .cells cs t frozen
  | o => o
noncomputable def laidWorld (os : Os) : World :=
  { World.holding Tryz.prog os ⟨#[], #[], []⟩ with heap := (((World.holding Tryz.prog os ⟨#[], #[], []⟩).heap.modify 0 (lay (tabCells Rows.laid_internal_strconv_uint64pow10))).modify 1 (lay (tabCells Rows.laid_math_bits_deBruijn32tab))).modify 2 (lay (tabCells Rows.laid_math_bits_deBruijn64tab)) }
theorem laid_met (os : Os) (args : Array Value) : laidMetH Tryz.prog threeTabs ((laidWorld os).forCall (fun _ _ => 0) ⟨#[], args, []⟩).memory :=
  laidMet_of_run' 8 (by kernel_rfl) (by kernel_rfl)
end Go.Proofs.YtokdhgocgicdnaaGreatDoor
