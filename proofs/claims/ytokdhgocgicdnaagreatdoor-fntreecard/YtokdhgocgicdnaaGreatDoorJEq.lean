import Derived.Test.YtokdhgocgicdnaaGreatDoorJSsy
import Derived.Test.YtokdhgocgicdnaaGreatDoorJSplit
import Derived.Test.YtokdhgocgicdnaaGreatDoorJTre
import Derived.WalkKit
import Derived.WalkSpells
import Derived.WalkLawsBesides
import Derived.Deep.QuietTactic
import Derived.BigQuiet
import Derived.StillTailTactics
/- The symbol in whose place a right part may stand, as data. -/
namespace Go.Proofs.YtokdhgocgicdnaaGreatDoor
open Go.RowKit

mutual
def symT (rs : List RuleD) : TreeD → ByteArray
  | .node rule tok kids =>
    if tok.size ≠ 0 ∧ kids.length = 0 then (if rule = -1 ∧ tokB tok = true then tok else ByteArray.empty)
    else if tok.size ≠ 0 ∨ rule < 0 then ByteArray.empty
    else match rs[rule.toNat]? with
      | none => ByteArray.empty
      | some r => if kids.length = r.body.length ∧ allS rs kids r.body = true then r.head else ByteArray.empty
def allS (rs : List RuleD) : List TreeD → List ByteArray → Bool
  | [], _ => true
  | _ :: _, [] => false
  | t :: ts, b :: bs => decide (symT rs t = b) && allS rs ts bs
end
theorem symT_eq (rs : List RuleD) (t : TreeD) : symT rs t =
    if t.tok.size ≠ 0 ∧ t.kids.length = 0 then (if t.rule = -1 ∧ tokB t.tok = true then t.tok else ByteArray.empty)
    else if t.tok.size ≠ 0 ∨ t.rule < 0 then ByteArray.empty
    else match rs[t.rule.toNat]? with
      | none => ByteArray.empty
      | some r => if t.kids.length = r.body.length ∧ allS rs t.kids r.body = true then r.head else ByteArray.empty := by
  cases t with
  | node r s k =>
    rw [symT]
    rfl
theorem allS_iff (rs : List RuleD) : ∀ (ts : List TreeD) (bs : List ByteArray) (_ : ts.length = bs.length), allS rs ts bs = true ↔ ∀ i (h : i < ts.length) (h' : i < bs.length), symT rs ts[i] = bs[i]
  | [], bs, _ => by simp [allS]
  | t :: ts, [], h => by simp at h
  | t :: ts, b :: bs, h => by
    rw [allS, Bool.and_eq_true, allS_iff rs ts bs (by simpa using h), decide_eq_true_eq]
    constructor
    · rintro ⟨h1, h2⟩ i hi hi'
      cases i with
      | zero => exact h1
      | succ i => exact h2 i (by simpa using hi) (by simpa using hi')
    · intro h3
      exact ⟨h3 0 (by simp) (by simp), fun i hi hi' => h3 (i + 1) (by simpa using hi) (by simpa using hi')⟩
section
variable {rs : List RuleD} {t : TreeD}
theorem symT_leaf (h1 : t.tok.size ≠ 0) (h2 : t.kids.length = 0) (h3 : t.rule = -1) (h4 : tokB t.tok = true) : symT rs t = t.tok := by
  rw [symT_eq, if_pos ⟨h1, h2⟩, if_pos ⟨h3, h4⟩]
theorem symT_leaf_no (h1 : t.tok.size ≠ 0) (h2 : t.kids.length = 0) (h3 : ¬ (t.rule = -1 ∧ tokB t.tok = true)) : symT rs t = ByteArray.empty := by
  rw [symT_eq, if_pos ⟨h1, h2⟩, if_neg h3]
theorem symT_tok (h1 : t.tok.size ≠ 0) (h2 : t.kids.length ≠ 0) : symT rs t = ByteArray.empty := by
  rw [symT_eq, if_neg (by omega), if_pos (.inl h1)]
theorem symT_neg (h1 : t.tok.size = 0) (h2 : t.rule < 0) : symT rs t = ByteArray.empty := by
  rw [symT_eq, if_neg (by omega), if_pos (.inr h2)]
theorem symT_none (h1 : t.tok.size = 0) (h2 : (rs.length : Int) ≤ t.rule) : symT rs t = ByteArray.empty := by
  rw [symT_eq, if_neg (by omega), if_neg (by omega), List.getElem?_eq_none (by omega)]
theorem symT_some (h1 : t.tok.size = 0) (h2 : ¬ t.rule < 0) (h3 : t.rule.toNat < rs.length) : symT rs t = if t.kids.length = rs[t.rule.toNat].body.length ∧ allS rs t.kids rs[t.rule.toNat].body = true then rs[t.rule.toNat].head else ByteArray.empty := by
  rw [symT_eq, if_neg (by omega), if_neg (by omega), List.getElem?_eq_getElem h3]
theorem symT_len (h1 : t.tok.size = 0) (h2 : ¬ t.rule < 0) (h3 : t.rule.toNat < rs.length) (h4 : t.kids.length ≠ rs[t.rule.toNat].body.length) : symT rs t = ByteArray.empty := by
  rw [symT_some h1 h2 h3, if_neg (fun h => h4 h.1)]
theorem symT_kid (h1 : t.tok.size = 0) (h2 : ¬ t.rule < 0) (h3 : t.rule.toNat < rs.length) (h4 : t.kids.length = rs[t.rule.toNat].body.length) {i : Nat} (hi : i < t.kids.length) (h5 : symT rs t.kids[i] ≠ rs[t.rule.toNat].body[i]'(by omega)) : symT rs t = ByteArray.empty := by
  rw [symT_some h1 h2 h3, if_neg]
  rintro ⟨_, h⟩
  exact h5 ((allS_iff rs _ _ h4).1 h i hi (by omega))
theorem symT_ok (h1 : t.tok.size = 0) (h2 : ¬ t.rule < 0) (h3 : t.rule.toNat < rs.length) (h4 : t.kids.length = rs[t.rule.toNat].body.length) (h5 : ∀ i (h : i < t.kids.length) (h' : i < rs[t.rule.toNat].body.length), symT rs t.kids[i] = rs[t.rule.toNat].body[i]) : symT rs t = rs[t.rule.toNat].head := by
  rw [symT_some h1 h2 h3, if_pos ⟨h4, (allS_iff rs _ _ h4).2 h5⟩]
/-- what a part's symbol can be -/
theorem symT_cases (rs : List RuleD) (t : TreeD) : symT rs t = ByteArray.empty ∨ (t.tok.size ≠ 0 ∧ t.kids.length = 0 ∧ t.rule = -1 ∧ tokB t.tok = true ∧ symT rs t = t.tok) ∨
    (t.tok.size = 0 ∧ ¬ t.rule < 0 ∧ ∃ h : t.rule.toNat < rs.length, symT rs t = rs[t.rule.toNat].head ∧ t.kids.length = rs[t.rule.toNat].body.length) := by
  by_cases h1 : t.tok.size = 0
  · by_cases h2 : t.rule < 0
    · exact .inl (symT_neg h1 h2)
    · by_cases h3 : t.rule.toNat < rs.length
      · rw [symT_some h1 h2 h3]
        by_cases h4 : t.kids.length = rs[t.rule.toNat].body.length ∧ allS rs t.kids rs[t.rule.toNat].body = true
        · rw [if_pos h4]; exact .inr (.inr ⟨h1, h2, h3, rfl, h4.1⟩)
        · rw [if_neg h4]; exact .inl rfl
      · exact .inl (symT_none h1 (by omega))
  · by_cases h2 : t.kids.length = 0
    · by_cases h3 : t.rule = -1 ∧ tokB t.tok = true
      · exact .inr (.inl ⟨h1, h2, h3.1, h3.2, symT_leaf h1 h2 h3.1 h3.2⟩)
      · exact .inl (symT_leaf_no h1 h2 h3)
    · exact .inl (symT_tok h1 h2)
end
theorem tok_no_head {s : ByteArray} (h : headB s = true) : tokB s = false := by
  rw [Bool.eq_false_iff]
  intro h'
  obtain ⟨a1, _, a2⟩ := (symB_iff 65 90 s).1 h
  obtain ⟨_, _, b2⟩ := (symB_iff 97 122 s).1 h'
  have := a2 0 (by omega) (by omega)
  have := b2 0 (by omega) (by omega)
  omega
theorem sym_size {lo hi : Nat} {s : ByteArray} (h : symB lo hi s = true) : s.size ≠ 0 := by have := ((symB_iff lo hi s).1 h).1; omega
theorem empty_size : ByteArray.empty.size = 0 := rfl
/-- a tree is right -/
def rightS (rs : List RuleD) (t : TreeD) : ByteArray := if gramB rs = true ∧ sizeT t ≤ 200 then symT rs t else ByteArray.empty
def rightB (rs : List RuleD) (t : TreeD) : Bool := decide ((rightS rs t).size ≠ 0)
end Go.Proofs.YtokdhgocgicdnaaGreatDoor

/- What stands at the top of a tree: impl.partOf. -/
namespace Go.Proofs.YtokdhgocgicdnaaGreatDoor
open Go.RowKit

/-- a leaf or a node, as a value -/
def partV (t : TreeD) (u : Value) : Value := if t.tok.size ≠ 0 ∧ t.kids.length = 0 then .iface 97 (.agg #[.int .i64 t.rule, .string t.tok]) else .iface 103 (.agg #[.int .i64 t.rule, .string t.tok, u])
theorem partV_node {t : TreeD} (h : ¬ (t.tok.size ≠ 0 ∧ t.kids.length = 0)) (u : Value) : partV t u = .iface 103 (.agg #[.int .i64 t.rule, .string t.tok, u]) := by rw [partV, if_neg h]
theorem partV_leaf {t : TreeD} (h : t.tok.size ≠ 0 ∧ t.kids.length = 0) (u : Value) : partV t u = .iface 97 (.agg #[.int .i64 t.rule, .string t.tok]) := by rw [partV, if_pos h]
theorem toks_empty (s : ByteArray) : (s.toList == []) = decide (s.size = 0) := by
  rw [Bool.eq_iff_iff]
  simp only [beq_iff_eq, decide_eq_true_eq]
  rw [ByteArray.toList_eq]
  have e : s.size = s.data.toList.length := by rw [Array.length_toList]; rfl
  rw [e]
  exact List.length_eq_zero_iff.symm

set_option maxRecDepth 100000 in
set_option maxHeartbeats 1000000 in
theorem partOf_any (t : TreeD) (A : Option Addr) (c : Nat) (w : World) :
    Calls Tryz.prog 49 #[.agg #[.int .i64 t.rule, .string t.tok, .slice A t.kids.length c]] w fun e w' => e = .returned (partV t (.slice A t.kids.length c)) ∧ w' = w.alloc (.cells #[.int .i64 t.rule, .string t.tok, .slice A t.kids.length c] 29) := by
  by_cases h1 : t.tok.size = 0
  · have e1 : (t.tok.toList == []) = true := by rw [toks_empty, decide_eq_true h1]
    go_enter Tryz.func49, Tryz.ntmps49
    go_wp2
    go_ret
    exact ⟨(congrArg Ending.returned (partV_node (by omega) _)).symm, rfl⟩
  · have e1 : (t.tok.toList == []) = false := by rw [toks_empty, decide_eq_false h1]
    by_cases h2 : t.kids.length = 0
    · have e2 : ((t.kids.length : Int) == 0) = true := by rw [h2]; rfl
      have H2 := Lib.hid h2
      clear h2
      go_enter Tryz.func49, Tryz.ntmps49
      go_wp2
      go_ret
      exact ⟨(congrArg Ending.returned (partV_leaf ⟨h1, H2.out⟩ _)).symm, rfl⟩
    · have e2 : ((t.kids.length : Int) == 0) = false := by rw [beq_eq_false_iff_ne]; omega
      go_enter Tryz.func49, Tryz.ntmps49
      go_wp2
      go_ret
      exact ⟨(congrArg Ending.returned (partV_node (by omega) _)).symm, rfl⟩
end Go.Proofs.YtokdhgocgicdnaaGreatDoor

/- Are two lists of texts, two rules, two grammars alike? eqStringS, eqRule, eqRuleS, eqGram. -/
namespace Go.Proofs.YtokdhgocgicdnaaGreatDoor
open Go.RowKit

def eqSs (a b : List ByteArray) : Bool := decide (a = b)
theorem eqSs_t {a b : List ByteArray} (h : a = b) : eqSs a b = true := decide_eq_true h
theorem eqSs_f {a b : List ByteArray} (h : a ≠ b) : eqSs a b = false := decide_eq_false h
theorem list_eqE (a b : ByteArray) : (a.toList == b.toList) = decide (a = b) := by
  rw [Bool.eq_iff_iff]; simp only [beq_iff_eq, decide_eq_true_eq]
  constructor
  · intro h
    apply ByteArray.ext
    apply Array.ext'
    simpa [ByteArray.toList_eq] using h
  · rintro rfl; rfl
theorem ret_boolE {a b : Bool} (h : a = b) : Ending.returned (.bool a) = .returned (.bool b) := by rw [h]

def eqR (a b : RuleD) : Bool := decide (a.head = b.head) && eqSs a.body b.body
def eqRs (a b : List RuleD) : Bool := decide (a.length = b.length) && (List.range a.length).all fun i => match a[i]?, b[i]? with | some x, some y => eqR x y | _, _ => false
theorem eqR_iff (a b : RuleD) : eqR a b = true ↔ a = b := by
  cases a; cases b
  simp [eqR, eqSs]
theorem eqRs_iff (a b : List RuleD) : eqRs a b = true ↔ a = b := by
  unfold eqRs
  simp only [Bool.and_eq_true, decide_eq_true_eq, List.all_eq_true, List.mem_range]
  constructor
  · rintro ⟨h1, h2⟩
    refine List.ext_getElem h1 fun i hi hi' => ?_
    have := h2 i hi
    rw [List.getElem?_eq_getElem hi, List.getElem?_eq_getElem hi'] at this
    exact (eqR_iff _ _).1 this
  · rintro rfl
    refine ⟨rfl, fun i hi => ?_⟩
    rw [List.getElem?_eq_getElem hi]
    exact (eqR_iff _ _).2 rfl
theorem eqRs_t {a b : List RuleD} (h : a = b) : eqRs a b = true := (eqRs_iff a b).2 h
theorem eqRs_f {a b : List RuleD} (h : a ≠ b) : eqRs a b = false := by rw [Bool.eq_false_iff]; exact fun e => h ((eqRs_iff a b).1 e)

end Go.Proofs.YtokdhgocgicdnaaGreatDoor
