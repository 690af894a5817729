/- One more of a list is counted: (*tally).add. -/
import Derived.Test.YtonfiahihmcmlaaIpl
namespace Go.Proofs.Ytonfiahihmcmlaa
open Go.RowKit

set_option maxRecDepth 100000 in
set_option maxHeartbeats 1000000 in
theorem add_any (g o : Nat) (d s x : Int) (w : World) (h1 : w.cell? ⟨g, o + 1, none⟩ = some (.int .i64 d)) (h2 : w.cell? ⟨g, o + 2, none⟩ = some (.int .i64 s)) (f1 : w.frozen? ⟨g, o + 1, none⟩ = false) (f2 : w.frozen? ⟨g, o + 2, none⟩ = false)
    (d0 : 0 ≤ d) (d1 : d ≤ 2097152) (s0 : 0 ≤ s) (s1 : s ≤ 2097152) (x0 : 0 ≤ x) (x1 : x ≤ 2097152) :
    Calls Try.prog 146 #[.pointer (some ⟨g, o, none⟩), .int .i64 x] w fun e w' => e = .returned (.tuple #[]) ∧ w' = (w.setCell ⟨g, o + 1, none⟩ (.int .i64 (d + 1))).setCell ⟨g, o + 2, none⟩ (.int .i64 (s + (1 + x))) := by
  go_enter Try.func146, Try.ntmps146
  go_wp2
  first | go_end0 | go_ret
  exact ⟨rfl, rfl⟩
end Go.Proofs.Ytonfiahihmcmlaa
