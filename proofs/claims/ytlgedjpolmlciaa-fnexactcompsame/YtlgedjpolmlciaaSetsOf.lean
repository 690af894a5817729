/- The walk of setsOf. -/
import Derived.Test.YtlgedjpolmlciaaJComeT
import Derived.Deep.RegionLaw
import Derived.Test.YtlgedjpolmlciaaJToc
namespace Go.Proofs.Ytlgedjpolmlciaa
open Go.RowKit

/-- the rules of a right grammar as sets -/
def rlOf (rs : List RuleD) : List RuleN := if gramB rs = true then rnl rs (List.range rs.length) else []
theorem rlOf_t {rs : List RuleD} (h : gramB rs = true) : rlOf rs = rnl rs (List.range rs.length) := if_pos h
theorem rlOf_f {rs : List RuleD} (h : gramB rs = false) : rlOf rs = [] := if_neg (by rw [h]; decide)
theorem rnl_succ {rs : List RuleD} {k : Nat} : rnl rs (List.range (k + 1)) = rnl rs (List.range k) ++ [rn rs k] := by unfold rnl; rw [List.range_succ, List.map_append]; rfl
theorem rnl_len (rs : List RuleD) (ix : List Nat) : (rnl rs ix).length = ix.length := by simp [rnl]
theorem one_u32 (x : Int) : ∀ u ∈ [Value.int .u32 x], u.oneCell' = true := by
  intro u hu
  rw [List.mem_singleton] at hu; subst hu; rfl
theorem three_one (a b : Int) (A : Option Addr) (n c : Nat) : ∀ u ∈ [Value.int .i64 a, .int .u32 b, .slice A n c], u.oneCell' = true := by
  intro u hu
  simp only [List.mem_cons, List.not_mem_nil, or_false] at hu
  rcases hu with rfl | rfl | rfl <;> rfl

end Go.Proofs.Ytlgedjpolmlciaa
