/- Does a tree say a text? As data. -/
import Derived.Test.YtonfiahihmcmlaaStr
import Derived.Test.YtonfiahihmcmlaaSyy
namespace Go.Proofs.Ytonfiahihmcmlaa
open Go.RowKit

def startOf (rs : List RuleD) : ByteArray := match rs with | [] => ByteArray.empty | r :: _ => r.head
def saysB (rs : List RuleD) (ws : List ByteArray) (t : TreeD) : Bool := decide (ws.length ≤ 400) && decide ((rightS rs t).size ≠ 0) && decide (rightS rs t = startOf rs) && eqSs (yieldOf t) ws
section
variable {rs : List RuleD} {t : TreeD} {ws : List ByteArray}
theorem startOf_eq (h : 0 < rs.length) : startOf rs = rs[0].head := by
  cases rs with
  | nil => simp at h
  | cons r l => rfl
theorem right_gram (h : (rightS rs t).size ≠ 0) : gramB rs = true ∧ sizeT t ≤ 200 ∧ rightS rs t = symT rs t := by
  unfold rightS at h ⊢
  by_cases e : gramB rs = true ∧ sizeT t ≤ 200
  · rw [if_pos e]; exact ⟨e.1, e.2, rfl⟩
  · rw [if_neg e] at h; exact absurd rfl h
theorem right_yield (h : (rightS rs t).size ≠ 0) : yieldOf t = yieldT t := by unfold yieldOf; rw [if_pos (right_gram h).2.1]
theorem says_long (h : ¬ ws.length ≤ 400) : saysB rs ws t = false := by unfold saysB; rw [decide_eq_false h]; rfl
theorem says_wrong (h : (rightS rs t).size = 0) : saysB rs ws t = false := by unfold saysB; rw [show decide ((rightS rs t).size ≠ 0) = false from decide_eq_false (fun e => e h)]; simp
theorem says_other (h : rightS rs t ≠ startOf rs) : saysB rs ws t = false := by unfold saysB; rw [show decide (rightS rs t = startOf rs) = false from decide_eq_false h]; simp
theorem says_rest (h1 : ws.length ≤ 400) (h2 : (rightS rs t).size ≠ 0) (h3 : rightS rs t = startOf rs) : saysB rs ws t = eqSs (yieldT t) ws := by
  unfold saysB
  rw [decide_eq_true h1, decide_eq_true h2, decide_eq_true h3, right_yield h2]; rfl
/-- a right tree's symbol, by its Rule -/
theorem right_leaf (h : (rightS rs t).size ≠ 0) (hr : t.rule < 0) : rightS rs t ≠ startOf rs := by
  obtain ⟨hg, _, e⟩ := right_gram h
  rw [e] at h ⊢
  have h1 := (gramB_iff rs).1 hg
  rw [startOf_eq (by omega)]
  have hh := ((ruleB_iff _).1 (h1.2.2 0 (by omega))).1
  rcases symT_cases rs t with h0 | ⟨_, _, _, h4, h5⟩ | ⟨_, h3, _⟩
  · rw [h0] at h; exact absurd rfl h
  · intro e2
    rw [h5] at e2
    rw [e2, tok_no_head hh] at h4
    cases h4
  · omega
theorem right_node (h : (rightS rs t).size ≠ 0) (hr : 0 ≤ t.rule) : ∃ hl : t.rule.toNat < rs.length, rightS rs t = rs[t.rule.toNat].head := by
  obtain ⟨_, _, e⟩ := right_gram h
  rw [e] at h ⊢
  rcases symT_cases rs t with h0 | ⟨_, _, h3, _⟩ | ⟨_, _, hl, h4, _⟩
  · rw [h0] at h; exact absurd rfl h
  · omega
  · exact ⟨hl, h4⟩
end
end Go.Proofs.Ytonfiahihmcmlaa
