import Derived.Test.YtiochjagolijfaaJSym
import Derived.Test.YtiochjagolijfaaJOwns
import Derived.Deep.OwnRows
/- The walks of GramRight: both programs say of a grammar whether it is right by one and the same function, gramB. -/
namespace Go.Proofs.Ytiochjagolijfaa
open Go.RowKit

def symOK (s : ByteArray) : Bool := headB s || tokB s
def ruleB (r : RuleD) : Bool := headB r.head && decide (r.body.length ≤ 5) && r.body.all symOK
def gramB (rs : List RuleD) : Bool := decide (1 ≤ rs.length) && decide (rs.length ≤ 20) && rs.all ruleB

theorem ruleB_iff (r : RuleD) : ruleB r = true ↔ headB r.head = true ∧ r.body.length ≤ 5 ∧ ∀ i (h : i < r.body.length), symOK r.body[i] = true := by
  simp only [ruleB, Bool.and_eq_true, decide_eq_true_eq, List.all_eq_true, and_assoc]
  refine ⟨fun ⟨a, b, c⟩ => ⟨a, b, fun i h => c _ (List.getElem_mem h)⟩, fun ⟨a, b, c⟩ => ⟨a, b, fun s hs => ?_⟩⟩
  obtain ⟨i, hi, rfl⟩ := List.getElem_of_mem hs
  exact c i hi
theorem gramB_iff (rs : List RuleD) : gramB rs = true ↔ 1 ≤ rs.length ∧ rs.length ≤ 20 ∧ ∀ i (h : i < rs.length), ruleB rs[i] = true := by
  simp only [gramB, Bool.and_eq_true, decide_eq_true_eq, List.all_eq_true, and_assoc]
  refine ⟨fun ⟨a, b, c⟩ => ⟨a, b, fun i h => c _ (List.getElem_mem h)⟩, fun ⟨a, b, c⟩ => ⟨a, b, fun s hs => ?_⟩⟩
  obtain ⟨i, hi, rfl⟩ := List.getElem_of_mem hs
  exact c i hi
theorem ruleB_f {r : RuleD} (h : ¬ (headB r.head = true ∧ r.body.length ≤ 5 ∧ ∀ i (h : i < r.body.length), symOK r.body[i] = true)) : ruleB r = false := by
  rw [Bool.eq_false_iff]; exact fun e => h ((ruleB_iff r).1 e)
theorem gramB_f {rs : List RuleD} (h : ¬ (1 ≤ rs.length ∧ rs.length ≤ 20 ∧ ∀ i (h : i < rs.length), ruleB rs[i] = true)) : gramB rs = false := by
  rw [Bool.eq_false_iff]; exact fun e => h ((gramB_iff rs).1 e)
theorem symOK_no {r : RuleD} {k : Nat} (h : k < r.body.length) (h1 : headB r.body[k] = false) (h2 : tokB r.body[k] = false) : ruleB r = false :=
  ruleB_f fun ⟨_, _, h3⟩ => by have := h3 k h; unfold symOK at this; rw [h1, h2] at this; cases this

end Go.Proofs.Ytiochjagolijfaa

/- The walks of the program's Heads and Tokens. -/
namespace Go.Proofs.Ytiochjagolijfaa
open Go.RowKit Go.Maps

/-- a list of texts that a call has made -/
def MadeS (w : World) (ss : List ByteArray) (e : Ending) (w' : World) : Prop := ∃ u g, e = .returned u ∧ OwnS w' g u ss ∧ (ss ≠ [] → w.heap.size ≤ g ∧ g < w'.heap.size) ∧ Below w.heap.size w w'
theorem OwnS.nil (w : World) (g : Nat) : OwnS w g (.slice none 0 0) [] := ⟨none, 0, rfl, Nat.le_refl _, by unfold maxLen; omega, by simp, fun h => by simp at h⟩

def headsTo (rs : List RuleD) (k : Nat) : List ByteArray := (rs.take k).foldl (fun acc r => addSym acc r.head) []
/-- the heads of a right grammar -/
def headsOf (rs : List RuleD) : List ByteArray := if gramB rs = true then headsTo rs rs.length else []
theorem headsTo_succ {rs : List RuleD} {k : Nat} (h : k < rs.length) : headsTo rs (k + 1) = addSym (headsTo rs k) rs[k].head := by
  unfold headsTo; rw [List.take_succ_eq_append_getElem h, List.foldl_append]; rfl
theorem headsTo_nodup (rs : List RuleD) (k : Nat) : (headsTo rs k).Nodup := by
  induction k with
  | zero => simp [headsTo]
  | succ k ih =>
    by_cases h : k < rs.length
    · rw [headsTo_succ h]; exact addSym_nodup ih
    · have : headsTo rs (k + 1) = headsTo rs k := by unfold headsTo; rw [List.take_of_length_le (by omega), List.take_of_length_le (by omega)]
      rw [this]; exact ih
theorem headsTo_len (rs : List RuleD) (k : Nat) : (headsTo rs k).length ≤ k := by
  induction k with
  | zero => simp [headsTo]
  | succ k ih =>
    by_cases h : k < rs.length
    · rw [headsTo_succ h]; have := addSym_len (headsTo rs k) rs[k].head; omega
    · have : headsTo rs (k + 1) = headsTo rs k := by unfold headsTo; rw [List.take_of_length_le (by omega), List.take_of_length_le (by omega)]
      rw [this]; omega
theorem mem_addSym {acc : List ByteArray} {s t : ByteArray} (h : t ∈ addSym acc s) : t ∈ acc ∨ t = s := by
  unfold addSym at h
  split at h
  · exact .inl h
  · rw [List.mem_append, List.mem_singleton] at h; exact h
theorem headsTo_mem {rs : List RuleD} {k : Nat} {s : ByteArray} (h : s ∈ headsTo rs k) : ∃ i, ∃ h : i < rs.length, s = rs[i].head := by
  induction k with
  | zero => simp [headsTo] at h
  | succ k ih =>
    by_cases hk : k < rs.length
    · rw [headsTo_succ hk] at h
      rcases mem_addSym h with h | h
      · exact ih h
      · exact ⟨k, hk, h⟩
    · have : headsTo rs (k + 1) = headsTo rs k := by unfold headsTo; rw [List.take_of_length_le (by omega), List.take_of_length_le (by omega)]
      rw [this] at h; exact ih h
theorem symB_size' {lo hi : Nat} {s : ByteArray} (h : symB lo hi s = true) : s.size ≤ 4 := ((symB_iff lo hi s).1 h).2.1
theorem headB_size {s : ByteArray} (h : headB s = true) : s.size ≤ 4 := symB_size' h
theorem tokB_size {s : ByteArray} (h : tokB s = true) : s.size ≤ 4 := symB_size' h
theorem headsOf_len (rs : List RuleD) : (headsOf rs).length ≤ 1000 := by
  unfold headsOf
  split
  · rename_i h
    have := headsTo_len rs rs.length
    have := ((gramB_iff rs).1 h).2.1
    omega
  · simp
theorem headsOf_t {rs : List RuleD} (h : gramB rs = true) : headsOf rs = headsTo rs rs.length := if_pos h
theorem headsOf_f {rs : List RuleD} (h : gramB rs = false) : headsOf rs = [] := if_neg (by rw [h]; decide)

end Go.Proofs.Ytiochjagolijfaa
