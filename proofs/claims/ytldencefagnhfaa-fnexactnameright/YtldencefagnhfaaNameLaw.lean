/- The walk of the law FnExactNameRight. -/
import Derived.Test.YtldencefagnhfaaName
namespace Go.Proofs.Ytldencefagnhfaa.fnExactNameRight
open Go.RowKit
set_option maxHeartbeats 400000 in
theorem walk (a0 : ByteArray) (w0 : a0.size ≤ maxLen) (w : World) :
    Calls Try.prog 6 #[.string a0] w fun e w' => e = .returned (.bool true) ∧ Below w.heap.size w w' := by
  by_cases h : (a0.size : Int) > 1048576
  · go_enter Try.func6, Try.ntmps6
    go_wp2
    go_ret
    exact ⟨rfl, Below.refl _ _⟩
  · go_enter Try.func6, Try.ntmps6
    go_wp2_with (first | (go_at_call 24; refine (specNameRight_any _ _ w0).mono ?_; rintro e w' ⟨rfl, rfl⟩) | (go_at_call 25; refine (implNameRight_any _ _ w0).mono ?_; rintro e w' ⟨rfl, rfl⟩))
    go_ret
    exact ⟨rfl, Below.refl _ _⟩
end Go.Proofs.Ytldencefagnhfaa.fnExactNameRight
