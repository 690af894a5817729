import Derived.Test.YtbaofldcdcllfaaDoorSz
import Derived.Test.YtbaofldcdcllfaaDoorOwns
import Derived.Test.YtbaofldcdcllfaaDoorJIpl
/- The sum and the product of two sizes: impl.plus, impl.times. -/
namespace Go.Proofs.YtbaofldcdcllfaaDoor
open Go.RowKit

theorem plus_any (a b : Int) (w : World) (a0 : 0 ≤ a) (a1 : a ≤ 4194304) (b0 : 0 ≤ b) (b1 : b ≤ 4194304) :
    Calls Tryd.prog 57 #[.int .i64 a, .int .i64 b] w fun e w' => e = .returned (.int .i64 (a + b)) ∧ w' = w := by
  have d : decide (b > 9223372036854775807 - a) = false := decide_eq_false (by omega)
  go_enter Tryd.func57, Tryd.ntmps57
  go_wp2
  go_ret
  exact ⟨rfl, rfl⟩
def endl : Int := 9223372036854775807
theorem stk3_one (A : Option Addr) (n c : Nat) (a b : Int) : ∀ u ∈ [Value.slice A n c, .int .i64 a, .int .i64 b], u.oneCell' = true := by
  intro u hu
  simp only [List.mem_cons, List.not_mem_nil, or_false] at hu
  rcases hu with rfl | rfl | rfl <;> rfl
theorem below_dn {B : Nat} {a w : World} (h : Below B a w) (n : Nat) : Below B a (w.drewN n) := ⟨h.os, h.tape, h.output, h.size, h.block⟩
theorem zeroI64 (w : World) : (zeroValue 2).run Tryd.prog w = .ok (.int .i64 0) w := by kernel_rfl
end Go.Proofs.YtbaofldcdcllfaaDoor

/- One more of a list is counted: (*tally).add. -/
namespace Go.Proofs.YtbaofldcdcllfaaDoor
open Go.RowKit

set_option maxRecDepth 100000 in
set_option maxHeartbeats 1000000 in
theorem add_any (g o : Nat) (d s x : Int) (w : World) (h1 : w.cell? ⟨g, o + 1, none⟩ = some (.int .i64 d)) (h2 : w.cell? ⟨g, o + 2, none⟩ = some (.int .i64 s)) (f1 : w.frozen? ⟨g, o + 1, none⟩ = false) (f2 : w.frozen? ⟨g, o + 2, none⟩ = false)
    (d0 : 0 ≤ d) (d1 : d ≤ 2097152) (s0 : 0 ≤ s) (s1 : s ≤ 2097152) (x0 : 0 ≤ x) (x1 : x ≤ 2097152) :
    Calls Tryd.prog 55 #[.pointer (some ⟨g, o, none⟩), .int .i64 (1 + x)] w fun e w' => e = .returned (.tuple #[]) ∧ w' = (w.setCell ⟨g, o + 1, none⟩ (.int .i64 (d + 1))).setCell ⟨g, o + 2, none⟩ (.int .i64 (s + (1 + x))) := by
  go_enter Tryd.func55, Tryd.ntmps55
  go_wp2_with fail
  refine (plus_any s (1 + x) _ (by omega) (by omega) (by omega) (by omega)).mono ?_
  rintro e w1 ⟨rfl, rfl⟩
  go_wp2
  first | go_end0 | go_ret
  exact ⟨rfl, rfl⟩
end Go.Proofs.YtbaofldcdcllfaaDoor
