/- May a tree be one of a symbol? The model: spec.l05Part. -/
import Derived.Test.YtiochjagolijfaaJSsy
import Derived.Test.YtiochjagolijfaaEq
import Derived.Deep.LoopGhost
namespace Go.Proofs.Ytiochjagolijfaa
open Go.RowKit

theorem symOK_small {s : ByteArray} (h : symOK s = true) : s.size ≠ 0 ∧ s.size ≤ 4 := by
  unfold symOK headB tokB at h
  rw [Bool.or_eq_true] at h
  rcases h with h | h
  · have := (symB_iff _ _ _).1 h; omega
  · have := (symB_iff _ _ _).1 h; omega
theorem part_tok {rs : List RuleD} {t : TreeD} {s : ByteArray} (hg : gramB rs = true) (hs : tokB s = true) : symT rs t = s ↔ t.rule = -1 ∧ t.tok = s ∧ t.kids.length = 0 := by
  have hz : s.size ≠ 0 := sym_size hs
  constructor
  · intro h
    rcases symT_cases rs t with h0 | ⟨_, h2, h3, _, h5⟩ | ⟨_, _, h3, h4, _⟩
    · rw [h0] at h; rw [← h] at hz; exact absurd rfl hz
    · rw [h5] at h; exact ⟨h3, h, h2⟩
    · have := ((gramB_iff rs).1 hg).2.2 _ h3
      have := ((ruleB_iff _).1 this).1
      rw [← h4, h, ] at this
      rw [tok_no_head this] at hs
      cases hs
  · rintro ⟨h1, h2, h3⟩
    rw [symT_leaf (by rw [h2]; exact hz) h3 h1 (by rw [h2]; exact hs), h2]
section
variable {rs : List RuleD} {t : TreeD} {s : ByteArray}
theorem part_head_tok (hs : tokB s = false) (hz : s.size ≠ 0) (h : t.tok.size ≠ 0) : symT rs t ≠ s := by
  intro e
  rcases symT_cases rs t with h0 | ⟨_, h2, h3, h4, h5⟩ | ⟨h1, _⟩
  · rw [h0] at e; rw [← e] at hz; exact absurd rfl hz
  · rw [h5] at e; rw [e, hs] at h4; cases h4
  · exact h h1
theorem part_head_range (hs : tokB s = false) (hz : s.size ≠ 0) (h : ¬ (0 ≤ t.rule ∧ t.rule < (rs.length : Int))) : symT rs t ≠ s := by
  intro e
  rcases symT_cases rs t with h0 | ⟨_, h2, h3, h4, h5⟩ | ⟨h1, h2, h3, _⟩
  · rw [h0] at e; rw [← e] at hz; exact absurd rfl hz
  · rw [h5] at e; rw [e, hs] at h4; cases h4
  · omega
theorem part_other (hz : s.size ≠ 0) (h1 : t.tok.size = 0) (h3 : t.rule.toNat < rs.length) (h : rs[t.rule.toNat].head ≠ s ∨ t.kids.length ≠ rs[t.rule.toNat].body.length) : symT rs t ≠ s := by
  intro e
  rcases symT_cases rs t with h0 | ⟨h2, _⟩ | ⟨_, h2, h3, h4, h5⟩
  · rw [h0] at e; rw [← e] at hz; exact absurd rfl hz
  · exact h2 h1
  · rcases h with h | h
    · exact h (by rw [← h4, e])
    · exact h h5
end
theorem bytes_beq_t {a b : ByteArray} (h : a = b) : (a.toList == b.toList) = true := by rw [h]; simp
theorem bytes_beq_f {a b : ByteArray} (h : a ≠ b) : (a.toList == b.toList) = false := by rw [list_eqE, decide_eq_false h]

end Go.Proofs.Ytiochjagolijfaa
