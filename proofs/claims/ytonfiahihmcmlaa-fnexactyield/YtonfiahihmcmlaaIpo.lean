/- What stands at the top of a tree: impl.partOf. -/
import Derived.Test.YtonfiahihmcmlaaSyt
namespace Go.Proofs.Ytonfiahihmcmlaa
open Go.RowKit

/-- a leaf or a node, as a value -/
def partV (t : TreeD) (u : Value) : Value := if t.tok.size ≠ 0 ∧ t.kids.length = 0 then .iface 241 (.agg #[.int .i64 t.rule, .string t.tok]) else .iface 243 (.agg #[.int .i64 t.rule, .string t.tok, u])
theorem partV_node {t : TreeD} (h : ¬ (t.tok.size ≠ 0 ∧ t.kids.length = 0)) (u : Value) : partV t u = .iface 243 (.agg #[.int .i64 t.rule, .string t.tok, u]) := by rw [partV, if_neg h]
theorem partV_leaf {t : TreeD} (h : t.tok.size ≠ 0 ∧ t.kids.length = 0) (u : Value) : partV t u = .iface 241 (.agg #[.int .i64 t.rule, .string t.tok]) := by rw [partV, if_pos h]
theorem toks_empty (s : ByteArray) : (s.toList == []) = decide (s.size = 0) := by
  rw [Bool.eq_iff_iff]
  simp only [beq_iff_eq, decide_eq_true_eq]
  rw [ByteArray.toList_eq]
  have e : s.size = s.data.toList.length := by rw [Array.length_toList]; rfl
  rw [e]
  exact List.length_eq_zero_iff.symm

set_option maxRecDepth 100000 in
set_option maxHeartbeats 1000000 in
theorem partOf_any (t : TreeD) (A : Option Addr) (c : Nat) (w : World) :
    Calls Try.prog 141 #[.agg #[.int .i64 t.rule, .string t.tok, .slice A t.kids.length c]] w fun e w' => e = .returned (partV t (.slice A t.kids.length c)) ∧ w' = w.alloc (.cells #[.int .i64 t.rule, .string t.tok, .slice A t.kids.length c] 62) := by
  by_cases h1 : t.tok.size = 0
  · have e1 : (t.tok.toList == []) = true := by rw [toks_empty, decide_eq_true h1]
    go_enter Try.func141, Try.ntmps141
    go_wp2
    go_ret
    exact ⟨(congrArg Ending.returned (partV_node (by omega) _)).symm, rfl⟩
  · have e1 : (t.tok.toList == []) = false := by rw [toks_empty, decide_eq_false h1]
    by_cases h2 : t.kids.length = 0
    · have e2 : ((t.kids.length : Int) == 0) = true := by rw [h2]; rfl
      have H2 := Lib.hid h2
      clear h2
      go_enter Try.func141, Try.ntmps141
      go_wp2
      go_ret
      exact ⟨(congrArg Ending.returned (partV_leaf ⟨h1, H2.out⟩ _)).symm, rfl⟩
    · have e2 : ((t.kids.length : Int) == 0) = false := by rw [beq_eq_false_iff_ne]; omega
      go_enter Try.func141, Try.ntmps141
      go_wp2
      go_ret
      exact ⟨(congrArg Ending.returned (partV_node (by omega) _)).symm, rfl⟩
end Go.Proofs.Ytonfiahihmcmlaa
