/- The walk of the law FnExactPutNum. -/
import Derived.Test.YtldencefagnhfaaPut
namespace Go.Proofs.Ytldencefagnhfaa.fnExactPutNum
open Go.RowKit
set_option maxHeartbeats 400000 in
theorem walk (a0 : Int) (w0 : (Lit.int .i64 a0).wf = true) (w : World) :
    Calls Try.prog 4 #[.int .i64 a0] w fun e w' => e = .returned (.bool true) ∧ Below w.heap.size w w' := by
  have hb : -9223372036854775808 ≤ a0 ∧ a0 ≤ 9223372036854775807 := by simpa [Lit.wf, IntKind.min, IntKind.max, IntKind.signed, IntKind.bits] using w0
  obtain ⟨h1, h2⟩ := hb
  have HH := Lib.hid (And.intro h1 h2)
  clear h1 h2 w0
  go_enter Try.func4, Try.ntmps4
  go_wp2_with fail
  refine (specPutNum_any _ _ HH.out.1 HH.out.2).mono ?_
  rintro e w1 ⟨rfl, hb1⟩
  go_wp2_with fail
  refine (implPutNum_any _ _ HH.out.1 HH.out.2).mono ?_
  rintro e w2 ⟨rfl, hb2⟩
  go_wp2
  go_ret
  exact ⟨rfl, hb1.trans (hb2.mono hb1.size)⟩
end Go.Proofs.Ytldencefagnhfaa.fnExactPutNum
