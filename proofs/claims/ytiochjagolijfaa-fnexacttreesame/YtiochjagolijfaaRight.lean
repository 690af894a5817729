/- The walks of GramRight: both programs say of a grammar whether it is right by one and the same function, gramB. -/
import Derived.Test.YtiochjagolijfaaJSym
import Derived.Test.YtiochjagolijfaaOwns
import Derived.Deep.OwnRows
namespace Go.Proofs.Ytiochjagolijfaa
open Go.RowKit

def symOK (s : ByteArray) : Bool := headB s || tokB s
def ruleB (r : RuleD) : Bool := headB r.head && decide (r.body.length ≤ 5) && r.body.all symOK
def gramB (rs : List RuleD) : Bool := decide (1 ≤ rs.length) && decide (rs.length ≤ 20) && rs.all ruleB

theorem ruleB_iff (r : RuleD) : ruleB r = true ↔ headB r.head = true ∧ r.body.length ≤ 5 ∧ ∀ i (h : i < r.body.length), symOK r.body[i] = true := by
  simp only [ruleB, Bool.and_eq_true, decide_eq_true_eq, List.all_eq_true, and_assoc]
  refine ⟨fun ⟨a, b, c⟩ => ⟨a, b, fun i h => c _ (List.getElem_mem h)⟩, fun ⟨a, b, c⟩ => ⟨a, b, fun s hs => ?_⟩⟩
  obtain ⟨i, hi, rfl⟩ := List.getElem_of_mem hs
  exact c i hi
theorem gramB_iff (rs : List RuleD) : gramB rs = true ↔ 1 ≤ rs.length ∧ rs.length ≤ 20 ∧ ∀ i (h : i < rs.length), ruleB rs[i] = true := by
  simp only [gramB, Bool.and_eq_true, decide_eq_true_eq, List.all_eq_true, and_assoc]
  refine ⟨fun ⟨a, b, c⟩ => ⟨a, b, fun i h => c _ (List.getElem_mem h)⟩, fun ⟨a, b, c⟩ => ⟨a, b, fun s hs => ?_⟩⟩
  obtain ⟨i, hi, rfl⟩ := List.getElem_of_mem hs
  exact c i hi
theorem ruleB_f {r : RuleD} (h : ¬ (headB r.head = true ∧ r.body.length ≤ 5 ∧ ∀ i (h : i < r.body.length), symOK r.body[i] = true)) : ruleB r = false := by
  rw [Bool.eq_false_iff]; exact fun e => h ((ruleB_iff r).1 e)
theorem gramB_f {rs : List RuleD} (h : ¬ (1 ≤ rs.length ∧ rs.length ≤ 20 ∧ ∀ i (h : i < rs.length), ruleB rs[i] = true)) : gramB rs = false := by
  rw [Bool.eq_false_iff]; exact fun e => h ((gramB_iff rs).1 e)
theorem symOK_no {r : RuleD} {k : Nat} (h : k < r.body.length) (h1 : headB r.body[k] = false) (h2 : tokB r.body[k] = false) : ruleB r = false :=
  ruleB_f fun ⟨_, _, h3⟩ => by have := h3 k h; unfold symOK at this; rw [h1, h2] at this; cases this

end Go.Proofs.Ytiochjagolijfaa
