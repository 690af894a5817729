/- The marks of a grammar, on: markRuleS, markGram, heldRuleS, heldGram. -/
import Derived.Test.YtlgedjpolmlciaaJMarkb
namespace Go.Proofs.Ytlgedjpolmlciaa
open Go.RowKit

def cntTo (rs : List RuleD) (j : Nat) : Nat := ((rs.take j).map fun r => 1 + r.body.length).sum
def bodyLen (rs : List RuleD) (j : Nat) : Nat := (rs[j]?.map fun r => r.body.length).getD 0
def mrk (k : Nat) (rs : List RuleD) (j : Nat) : RuleD := ⟨mt (k + cntTo rs j), marks (k + cntTo rs j + 1) (bodyLen rs j)⟩
def markUpto (k : Nat) (rs : List RuleD) : Nat → List RuleD
  | 0 => rs
  | j + 1 => (markUpto k rs j).set j (mrk k rs j)
/-- a marked list of rules -/
def markR (k : Nat) (rs : List RuleD) : List RuleD := markUpto k rs rs.length
theorem bodyLen_at {rs : List RuleD} {j : Nat} (h : j < rs.length) : bodyLen rs j = rs[j].body.length := by simp [bodyLen, h]
theorem cntTo_succ {rs : List RuleD} {j : Nat} (h : j < rs.length) : cntTo rs (j + 1) = cntTo rs j + (1 + rs[j].body.length) := by
  unfold cntTo; rw [List.take_succ_eq_append_getElem h, List.map_append, List.sum_append]; simp
theorem cntTo_le (rs : List RuleD) (j : Nat) : cntTo rs j ≤ cntTo rs rs.length := by
  unfold cntTo
  rw [List.take_length]
  conv => rhs; rw [← List.take_append_drop j rs]
  rw [List.map_append, List.sum_append]; omega
theorem markUpto_len (k : Nat) (rs : List RuleD) (j : Nat) : (markUpto k rs j).length = rs.length := by
  induction j with
  | zero => rfl
  | succ j ih => rw [markUpto, List.length_set, ih]
theorem markUpto_at (k : Nat) (rs : List RuleD) (j i : Nat) (h : i < (markUpto k rs j).length) : (markUpto k rs j)[i] = if i < j then mrk k rs i else rs[i]'(by rw [markUpto_len] at h; exact h) := by
  induction j with
  | zero => simp [markUpto]
  | succ j ih =>
    simp only [markUpto, List.getElem_set]
    have h' : i < (markUpto k rs j).length := by rw [markUpto_len] at h ⊢; exact h
    by_cases e : j = i
    · subst e; rw [if_pos rfl, if_pos (by omega)]
    · rw [if_neg e, ih h']
      by_cases e2 : i < j
      · rw [if_pos e2, if_pos (by omega)]
      · rw [if_neg e2, if_neg (by omega)]
theorem markR_len (k : Nat) (rs : List RuleD) : (markR k rs).length = rs.length := markUpto_len k rs _
theorem markR_at (k : Nat) (rs : List RuleD) (i : Nat) (h : i < (markR k rs).length) : (markR k rs)[i] = mrk k rs i :=
  (markUpto_at k rs rs.length i h).trans (if_pos (by rw [markR_len] at h; exact h))
theorem cntTo_ge (rs : List RuleD) : rs.length ≤ cntTo rs rs.length := by
  unfold cntTo
  rw [List.take_length]
  induction rs with
  | nil => simp
  | cons r rs ih => simp only [List.length_cons, List.map_cons, List.sum_cons]; omega
theorem mid_pick {w w' : World} {lo hi g : Nat} {ss : List ByteArray} (h1 : ss ≠ [] → lo ≤ g ∧ g < hi) (h2 : ss = [] → w.heap.size ≤ g) (m : Mid g (g + 1) w w') : Mid lo hi w w' :=
  ⟨m.os, m.tape, m.output, m.size, fun k hk hkk => m.block k hk (by
    by_cases e : ss = []
    · have := h2 e; omega
    · have := h1 e; omega)⟩

end Go.Proofs.Ytlgedjpolmlciaa
