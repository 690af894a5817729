import Derived.Test.YtlgedjpolmlciaaJComeT
import Derived.Test.YtlgedjpolmlciaaAft
import Derived.Deep.RegionHeld3
import Derived.Laws.EntriesVeiled
/- The walks of after and reachable. -/
namespace Go.Proofs.Ytlgedjpolmlciaa
open Go.RowKit

/-- a function value that takes a set of a body -/
def TakesSet (g : Nat) (lb : Array Value) (take : List Nat → Nat) (w : World) : Prop :=
  ∀ (W : World) (v : Value) (l : List Nat) (hi : Nat), BitsAt W hi v l → hi ≤ W.heap.size → Below w.heap.size w W → Calls Try.prog g (#[v] ++ lb) W fun e w' => e = .returned (.int .u32 ((take l : Nat) : Int)) ∧ Below W.heap.size W w'
theorem TakesSet.later {g : Nat} {lb : Array Value} {take : List Nat → Nat} {w W : World} (h : TakesSet g lb take w) (hb : Below w.heap.size w W) : TakesSet g lb take W :=
  fun W' v l hi hB hh hb' => h W' v l hi hB hh (hb.trans (hb'.mono hb.size))

end Go.Proofs.Ytlgedjpolmlciaa

/- The walks of after, reachable and takeLeft. -/
namespace Go.Proofs.Ytlgedjpolmlciaa
open Go.RowKit

theorem Row.made2 (w : World) (o o' : Obj) (t : TypeId) (cur : Array Value) : Row (((w.alloc o).alloc o').alloc (.cells cur t)) (w.heap.size + 2) t cur := by simpa using Row.made ((w.alloc o).alloc o') t cur

end Go.Proofs.Ytlgedjpolmlciaa
