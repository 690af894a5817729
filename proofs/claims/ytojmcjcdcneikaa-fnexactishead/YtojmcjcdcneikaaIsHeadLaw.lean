/- The walk of the law FnExactIsHead. -/
import Derived.Test.YtojmcjcdcneikaaSym
namespace Go.Proofs.Ytojmcjcdcneikaa.fnExactIsHead
open Go.RowKit
set_option maxHeartbeats 400000 in
theorem walk (a0 : ByteArray) (w0 : a0.size ≤ maxLen) (w : World) :
    Calls Try.prog 4 #[.string a0] w fun e w' => e = .returned (.bool true) ∧ Below w.heap.size w w' := by
  by_cases h : (a0.size : Int) > 1048576
  · go_enter Try.func4, Try.ntmps4
    go_wp2
    go_ret
    exact ⟨rfl, Below.refl _ _⟩
  · go_enter Try.func4, Try.ntmps4
    go_wp2_with (first | (go_at_call 28; refine (specIsHead_any _ _ w0).mono ?_; rintro e w' ⟨rfl, rfl⟩) | (go_at_call 27; refine (implIsHead_any _ _).mono ?_; rintro e w' ⟨rfl, hb⟩))
    go_ret
    exact ⟨rfl, hb⟩
end Go.Proofs.Ytojmcjcdcneikaa.fnExactIsHead
