import Derived.Test.YtlgedjpolmlciaaJUffm
import Derived.Test.YtlgedjpolmlciaaJTmz
/- The model's size of a tree, as far as one asks: spec.l05Size. -/
namespace Go.Proofs.Ytlgedjpolmlciaa
open Go.RowKit

/-- r is the size n, or more than most -/
def Upto (n : Nat) (most r : Int) : Prop := ((n : Int) ≤ most → r = n) ∧ (most < n → most < r ∧ r ≤ n)
end Go.Proofs.Ytlgedjpolmlciaa

/- What a right term is, as data; and what a call leaves that turns one block of those that were there. -/
namespace Go.Proofs.Ytlgedjpolmlciaa
open Go.RowKit

/-- a term is such, but for what is in its Kids -/
def fieldB (t : TermD) : Bool :=
  if t.kind = 1 then decide (0 ≤ t.num)
  else if t.kind = 2 then decide (0 ≤ t.num) && decide (t.kids.length = 0)
  else if t.kind = 3 then decide (t.num = 0) && decide (t.kids.length = 0)
  else if t.kind = 4 then decide (t.num = 0) && decide (t.kids.length = 2)
  else false
/-- it is right, and no deeper than that -/
def partM : Nat → TermD → Bool
  | 0, _ => false
  | d + 1, t => fieldB t && t.kids.all (partM d)
def termB (t : TermD) : Bool := decide (sizeM t ≤ 200) && partM 30 t
theorem partM_succ (d : Nat) (t : TermD) : partM (d + 1) t = (fieldB t && t.kids.all (partM d)) := rfl

/-- the first k of a list are right -/
theorem all_take {α : Type} (p : α → Bool) (l : List α) (k : Nat) (h : k < l.length) : (l.take (k + 1)).all p = ((l.take k).all p && p l[k]) := by
  rw [List.take_succ_eq_append_getElem h, List.all_append]; simp
theorem all_take_no {α : Type} (p : α → Bool) (l : List α) (k : Nat) (h : k < l.length) (hp : p l[k] = false) : l.all p = false := by
  rw [List.all_eq_false]
  exact ⟨l[k], List.getElem_mem h, by rw [hp]; simp⟩

/-- block p may have turned, others are there as they were, or new -/
structure But (p : Nat) (w w' : World) : Prop where
  os : w'.os = w.os
  tape : w'.tape = w.tape
  output : w'.output = w.output
  size : w.heap.size ≤ w'.heap.size
  block : ∀ k, k < w.heap.size → k ≠ p → w'.heap[k]? = w.heap[k]?
theorem But.refl (p : Nat) (w : World) : But p w w := ⟨rfl, rfl, rfl, Nat.le_refl _, fun _ _ _ => rfl⟩
theorem But.trans {p : Nat} {a b c : World} (h : But p a b) (k : But p b c) : But p a c :=
  ⟨k.os.trans h.os, k.tape.trans h.tape, k.output.trans h.output, Nat.le_trans h.size k.size, fun i hi hp => (k.block i (Nat.lt_of_lt_of_le hi h.size) hp).trans (h.block i hi hp)⟩
theorem But.of {p : Nat} {w w' : World} (h : Below w.heap.size w w') : But p w w' := ⟨h.os, h.tape, h.output, h.size, fun k hk _ => h.block k hk⟩
theorem But.below {p B : Nat} {w w' : World} (h : But p w w') (h1 : B ≤ p) (h2 : B ≤ w.heap.size) : Below B w w' := ⟨h.os, h.tape, h.output, h.size, fun k hk => h.block k (by omega) (by omega)⟩
theorem But.setCell {p i : Nat} {a w : World} (h : But p a w) (u : Value) : But p a (w.setCell ⟨p, i, none⟩ u) :=
  h.trans ⟨rfl, rfl, rfl, by simp [World.setCell], fun k _ hk => Below.heap_setCell _ _ _ _ hk⟩
theorem But.drew {p : Nat} {a w : World} (h : But p a w) : But p a w.drew := ⟨h.os, h.tape, h.output, h.size, h.block⟩
theorem But.cell {p : Nat} {w w' : World} (h : But p w w') {q : Addr} (h1 : q.block < w.heap.size) (h2 : q.block ≠ p) : w'.cell? q = w.cell? q := World.cell?_of_block (h.block _ h1 h2)
theorem But.keeps {p lo hi : Nat} {w w' : World} (h : But p w w') (h1 : hi ≤ w.heap.size) (h2 : hi ≤ p ∨ p < lo) : Keeps lo hi w w' := fun k a b => h.block k (by omega) (by omega)
theorem Row.but {p g : Nat} {w w' : World} {t : TypeId} {cur : Array Value} (h : Row w g t cur) (b : But p w w') (hp : g ≠ p) : Row w' g t cur := (b.block g h.lt hp).trans h
end Go.Proofs.Ytlgedjpolmlciaa

/- The model's size of a term, as far as one asks: spec.l06Size. -/
namespace Go.Proofs.Ytlgedjpolmlciaa
open Go.RowKit

theorem term_ind {p : TermD → Prop} (h : ∀ t : TermD, (∀ i (h : i < t.kids.length), p t.kids[i]) → p t) (t : TermD) : p t :=
  h t (terms_ind (p := fun ts => ∀ i (h : i < ts.length), p ts[i]) (fun _ ih i hi => h _ (ih i hi)) t.kids)
end Go.Proofs.Ytlgedjpolmlciaa
