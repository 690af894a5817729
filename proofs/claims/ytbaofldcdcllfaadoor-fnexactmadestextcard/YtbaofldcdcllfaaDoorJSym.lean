import Derived.Test.YtbaofldcdcllfaaDoorTre
import Derived.Lib.ItoaNum
import Derived.Lib.ItoaLen
import Derived.Test.YtbaofldcdcllfaaDoorRows
import Derived.WalkKit
import Derived.WalkSpells
import Derived.WalkLawsBesides
import Derived.Lib.Hide
import Derived.Below
import Derived.Laws.RangeAny
/- The text of a tree, as data. No program stands in this text. -/
namespace Go.Proofs.YtbaofldcdcllfaaDoor
open Go.RowKit

/-- a Rule in digits; of one below 0 '-' -/
def ruleT (r : Int) : List UInt8 := if r < 0 then [45] else Lib.decDigits r.toNat
mutual
/-- the text of a tree -/
def textOf : TreeD → List UInt8
  | .node r s ks => if s.size ≠ 0 ∧ ks = [] then s.data.toList else 40 :: ruleT r ++ textsOf ks ++ [41]
/-- a blank and its text, of each -/
def textsOf : List TreeD → List UInt8
  | [] => []
  | t :: ts => (32 :: textOf t) ++ textsOf ts
end
theorem textOf_leaf {t : TreeD} (h1 : t.tok.size ≠ 0) (h2 : t.kids.length = 0) : textOf t = t.tok.data.toList := by
  cases t with | node r s ks =>
  simp only [TreeD.kids, TreeD.tok] at h1 h2 ⊢
  unfold textOf
  rw [if_pos ⟨h1, List.length_eq_zero_iff.1 h2⟩]
theorem textOf_node {t : TreeD} (h : ¬ (t.tok.size ≠ 0 ∧ t.kids.length = 0)) : textOf t = 40 :: ruleT t.rule ++ textsOf t.kids ++ [41] := by
  cases t with | node r s ks =>
  simp only [TreeD.kids, TreeD.tok, TreeD.rule] at h ⊢
  unfold textOf
  rw [if_neg (fun e => h ⟨e.1, by rw [e.2]; rfl⟩)]
theorem textsOf_append (a b : List TreeD) : textsOf (a ++ b) = textsOf a ++ textsOf b := by
  induction a with
  | nil => simp [textsOf]
  | cons t ts ih => simp [textsOf, ih, List.append_assoc]
theorem textsOf_take (ts : List TreeD) (k : Nat) (h : k < ts.length) : textsOf (ts.take (k + 1)) = textsOf (ts.take k) ++ 32 :: textOf ts[k] := by
  rw [List.take_succ_eq_append_getElem h, textsOf_append]; simp [textsOf]
theorem textsOf_take_le (ts : List TreeD) (k : Nat) : (textsOf (ts.take k)).length ≤ (textsOf ts).length := by
  conv => rhs; rw [← List.take_append_drop k ts]
  rw [textsOf_append, List.length_append]; omega
theorem ruleT_len (r : Int) (h : r ≤ 9223372036854775807) : (ruleT r).length ≤ 21 := by
  unfold ruleT
  split
  · simp
  · have := Lib.itoa_length_le r (by omega) h
    unfold Lib.itoa at this
    rw [if_neg (by assumption)] at this
    exact this
mutual
/-- all numbers of it are whole numbers that fit in -/
def fitsT : TreeD → Prop
  | .node r _ ks => r ≤ 9223372036854775807 ∧ fitsTs ks
def fitsTs : List TreeD → Prop
  | [] => True
  | t :: ts => fitsT t ∧ fitsTs ts
end
theorem fitsT_eq (t : TreeD) : fitsT t ↔ t.rule ≤ 9223372036854775807 ∧ fitsTs t.kids := by cases t; simp [fitsT, TreeD.rule, TreeD.kids]
theorem fitsTs_of {ts : List TreeD} (h : ∀ i (h : i < ts.length), fitsT ts[i]) : fitsTs ts := by
  induction ts with
  | nil => trivial
  | cons t ts ih => exact ⟨h 0 (by simp), ih fun i hi => h (i + 1) (by simp; omega)⟩
theorem fitsTs_at {ts : List TreeD} (h : fitsTs ts) (i : Nat) (hi : i < ts.length) : fitsT ts[i] := by
  induction ts generalizing i with
  | nil => simp at hi
  | cons t ts ih =>
    cases i with
    | zero => exact h.1
    | succ i => exact ih h.2 i (by simpa using hi)
theorem Kd.fits {z : Bool} {w : World} {lo hi : Nat} {v : Value} {ts : List TreeD} (h : Kd z w lo hi v ts) : fitsTs ts := by
  induction h with
  | mk A c ts U hl hc hs hcell sub ih => exact fitsTs_of fun i hi => (fitsT_eq _).2 ⟨(hs i hi).2.2, ih i hi⟩
mutual
theorem textOf_len : (t : TreeD) → fitsT t → (textOf t).length ≤ bulkT t + 24 * sizeT t
  | .node r s ks => by
    intro hf
    unfold textOf bulkT sizeT
    unfold fitsT at hf
    have h1 := textsOf_len ks hf.2
    have h2 := ruleT_len r hf.1
    split
    · rw [Array.length_toList]
      have : s.data.size = s.size := rfl
      omega
    · simp only [List.length_append, List.length_cons, List.length_nil]
      omega
theorem textsOf_len : (ts : List TreeD) → fitsTs ts → (textsOf ts).length ≤ bulkTs ts + 24 * sizeTs ts
  | [] => by intro _; simp [textsOf]
  | t :: ts => by
    intro hf
    unfold fitsTs at hf
    unfold textsOf bulkTs sizeTs
    have h1 := textOf_len t hf.1
    have h2 := textsOf_len ts hf.2
    simp only [List.length_append, List.length_cons]
    omega
end
end Go.Proofs.YtbaofldcdcllfaaDoor

/- The walks of isSymbol and l02Of, of IsHead and IsToken: both programs say of a text whether it is a symbol by one and the same function, symB. -/
namespace Go.Proofs.YtbaofldcdcllfaaDoor
open Go.RowKit

theorem ret_bool {a b : Bool} (h : a = b) : Ending.returned (.bool a) = .returned (.bool b) := by rw [h]

/-- is each of the first k bytes of s one from lo to hi? -/
def AllIn (lo hi : Nat) (s : ByteArray) (k : Nat) : Prop := ∀ j, (h : j < s.size) → j < k → lo ≤ s[j].toNat ∧ s[j].toNat ≤ hi
def symB (lo hi : Nat) (s : ByteArray) : Bool := decide (1 ≤ s.size) && decide (s.size ≤ 4) && s.data.toList.all (fun c => decide (lo ≤ c.toNat) && decide (c.toNat ≤ hi))

theorem symB_iff (lo hi : Nat) (s : ByteArray) : symB lo hi s = true ↔ 1 ≤ s.size ∧ s.size ≤ 4 ∧ AllIn lo hi s s.size := by
  simp only [symB, Bool.and_eq_true, decide_eq_true_eq, List.all_eq_true, AllIn]
  constructor
  · rintro ⟨⟨h1, h2⟩, h3⟩
    exact ⟨h1, h2, fun j hj _ => h3 s[j] (by show s.data[j] ∈ _; simp)⟩
  · rintro ⟨h1, h2, h3⟩
    refine ⟨⟨h1, h2⟩, fun c hc => ?_⟩
    obtain ⟨j, hj, rfl⟩ := List.getElem_of_mem hc
    exact h3 j (by simpa using hj) (by simpa using hj)
theorem symB_t {lo hi : Nat} {s : ByteArray} (h1 : 1 ≤ s.size) (h2 : s.size ≤ 4) (h : AllIn lo hi s s.size) : symB lo hi s = true := (symB_iff lo hi s).2 ⟨h1, h2, h⟩
theorem symB_f {lo hi : Nat} {s : ByteArray} {k : Nat} (h1 : k < s.size) (h : ¬ (lo ≤ s[k].toNat ∧ s[k].toNat ≤ hi)) : symB lo hi s = false := by
  rw [Bool.eq_false_iff]; intro e
  exact h (((symB_iff lo hi s).1 e).2.2 k h1 h1)
theorem symB_len {lo hi : Nat} {s : ByteArray} (h : ¬ (1 ≤ s.size ∧ s.size ≤ 4)) : symB lo hi s = false := by
  rw [Bool.eq_false_iff]; intro e
  have := (symB_iff lo hi s).1 e
  exact h ⟨this.1, this.2.1⟩
theorem AllIn.succ {lo hi : Nat} {s : ByteArray} {k : Nat} (h : AllIn lo hi s k) (hk : k < s.size) (h1 : lo ≤ s[k].toNat ∧ s[k].toNat ≤ hi) : AllIn lo hi s (k + 1) := by
  intro j hj hjk
  rcases Nat.lt_or_ge j k with h2 | h2
  · exact h j hj h2
  · have : j = k := by omega
    subst this; exact h1

def headB (s : ByteArray) : Bool := symB 65 90 s
def tokB (s : ByteArray) : Bool := symB 97 122 s

end Go.Proofs.YtbaofldcdcllfaaDoor
