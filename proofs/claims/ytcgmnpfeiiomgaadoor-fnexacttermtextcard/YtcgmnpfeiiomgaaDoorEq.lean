/- Are two lists of texts, two rules, two grammars alike? eqStringS, eqRule, eqRuleS, eqGram. -/
import Derived.Test.YtcgmnpfeiiomgaaDoorWords
import Derived.WalkKit
import Derived.WalkSpells
import Derived.WalkLawsBesides
import Derived.Deep.QuietTactic
import Derived.BigQuiet
import Derived.StillTailTactics
namespace Go.Proofs.YtcgmnpfeiiomgaaDoor
open Go.RowKit

def eqSs (a b : List ByteArray) : Bool := decide (a = b)
theorem eqSs_t {a b : List ByteArray} (h : a = b) : eqSs a b = true := decide_eq_true h
theorem eqSs_f {a b : List ByteArray} (h : a ≠ b) : eqSs a b = false := decide_eq_false h
theorem list_eqE (a b : ByteArray) : (a.toList == b.toList) = decide (a = b) := by
  rw [Bool.eq_iff_iff]; simp only [beq_iff_eq, decide_eq_true_eq]
  constructor
  · intro h
    apply ByteArray.ext
    apply Array.ext'
    simpa [ByteArray.toList_eq] using h
  · rintro rfl; rfl
theorem ret_boolE {a b : Bool} (h : a = b) : Ending.returned (.bool a) = .returned (.bool b) := by rw [h]

def eqR (a b : RuleD) : Bool := decide (a.head = b.head) && eqSs a.body b.body
def eqRs (a b : List RuleD) : Bool := decide (a.length = b.length) && (List.range a.length).all fun i => match a[i]?, b[i]? with | some x, some y => eqR x y | _, _ => false
theorem eqR_iff (a b : RuleD) : eqR a b = true ↔ a = b := by
  cases a; cases b
  simp [eqR, eqSs]
theorem eqRs_iff (a b : List RuleD) : eqRs a b = true ↔ a = b := by
  unfold eqRs
  simp only [Bool.and_eq_true, decide_eq_true_eq, List.all_eq_true, List.mem_range]
  constructor
  · rintro ⟨h1, h2⟩
    refine List.ext_getElem h1 fun i hi hi' => ?_
    have := h2 i hi
    rw [List.getElem?_eq_getElem hi, List.getElem?_eq_getElem hi'] at this
    exact (eqR_iff _ _).1 this
  · rintro rfl
    refine ⟨rfl, fun i hi => ?_⟩
    rw [List.getElem?_eq_getElem hi]
    exact (eqR_iff _ _).2 rfl
theorem eqRs_t {a b : List RuleD} (h : a = b) : eqRs a b = true := (eqRs_iff a b).2 h
theorem eqRs_f {a b : List RuleD} (h : a ≠ b) : eqRs a b = false := by rw [Bool.eq_false_iff]; exact fun e => h ((eqRs_iff a b).1 e)

end Go.Proofs.YtcgmnpfeiiomgaaDoor
