/- Two lists of texts of the call's own, in blocks apart from each other. -/
import Derived.Test.YtmhdbjoljonhdaaFixS
import Derived.Deep.AppendLies
import Derived.Test.YtmhdbjoljonhdaaTxt
namespace Go.Proofs.Ytmhdbjoljonhdaa
open Go.RowKit

structure Two (w : World) (base : Nat) (x y : Value) (xs ys : List ByteArray) : Prop where
  rx : Sts w base x xs
  ry : Sts w base y ys
  apart : ∀ g, x.ownBlock = some g → y.ownBlock ≠ some g
theorem Two.swap {w : World} {base : Nat} {x y : Value} {xs ys : List ByteArray} (h : Two w base x y xs ys) : Two w base y x ys xs := ⟨h.ry, h.rx, fun g h1 h2 => h.apart g h2 h1⟩
theorem Two.below {w w' : World} {base : Nat} {x y : Value} {xs ys : List ByteArray} (h : Two w base x y xs ys) (k : Below w.heap.size w w') : Two w' base x y xs ys := ⟨h.rx.below k, h.ry.below k, h.apart⟩
theorem Sts.stay {w w' : World} {base : Nat} {v : Value} {ss : List ByteArray} (h : Sts w base v ss) (e : ∀ g, v.ownBlock = some g → w'.heap[g]? = w.heap[g]?) : Sts w' base v ss := by
  refine ⟨h.1, ?_⟩
  rcases h.2 with a | ⟨g, cap, cur, rfl, hb, hh, r⟩
  · exact .inl a
  · exact .inr ⟨g, cap, cur, rfl, hb, (e g rfl).trans hh, r⟩
theorem Two.growX {w w' : World} {base : Nat} {x y : Value} {xs ys : List ByteArray} {o : Obj} {s : ByteArray} {g cap : Nat} (h : Two w base x y xs ys)
    (hown : w'.ownsRow base 9 1 (.slice (some ⟨g, 0, none⟩) (xs.length + 1) cap) (xs.length + 1) (xs.map Value.string ++ [.string s])) (hg : (w.alloc o).grownBy w' x.ownBlock) (hat : x.ownBlock = some g ∨ g = w.heap.size + 1) :
    Two w' base (.slice (some ⟨g, 0, none⟩) (xs.length + 1) cap) y (xs ++ [s]) ys := by
  refine ⟨Sts.one _ hown, h.ry.stay fun k hk => ?_, fun k hk hy => ?_⟩
  · have hl := (h.ry.lt k hk).2
    rw [hg.block k (by simp; omega) (fun e => h.apart k e.symm hk), Below.heap_alloc _ _ _ hl]
  · have hk' : g = k := by simpa [Value.ownBlock] using hk
    subst hk'
    have hl := (h.ry.lt _ hy).2
    rcases hat with hat | hat
    · exact h.apart _ hat hy
    · omega
theorem Two.growY {w w' : World} {base : Nat} {x y : Value} {xs ys : List ByteArray} {o : Obj} {s : ByteArray} {g cap : Nat} (h : Two w base x y xs ys)
    (hown : w'.ownsRow base 9 1 (.slice (some ⟨g, 0, none⟩) (ys.length + 1) cap) (ys.length + 1) (ys.map Value.string ++ [.string s])) (hg : (w.alloc o).grownBy w' y.ownBlock) (hat : y.ownBlock = some g ∨ g = w.heap.size + 1) :
    Two w' base x (.slice (some ⟨g, 0, none⟩) (ys.length + 1) cap) xs (ys ++ [s]) := (h.swap.growX hown hg hat).swap
/-- what stands ahead of the lists, or is of another type, is as it was -/
theorem Two.belowX {w0 w w' : World} {base : Nat} {x y : Value} {xs ys : List ByteArray} {o : Obj} (h : Two w base x y xs ys) (b : Below base w0 w) (hb : base ≤ w.heap.size) (hg : (w.alloc o).grownBy w' x.ownBlock) : Below base w0 w' :=
  Tx.below_grown (b.trans ((al1 w o).mono hb)) (World.ownsRow.alloc h.rx o) hg (by simp; omega) (Nat.le_refl _)
theorem Two.belowY {w0 w w' : World} {base : Nat} {x y : Value} {xs ys : List ByteArray} {o : Obj} (h : Two w base x y xs ys) (b : Below base w0 w) (hb : base ≤ w.heap.size) (hg : (w.alloc o).grownBy w' y.ownBlock) : Below base w0 w' := h.swap.belowX b hb hg
theorem Two.rowX {w w' : World} {base p : Nat} {x y : Value} {xs ys : List ByteArray} {o : Obj} {t : TypeId} {cur : Array Value} (h : Two w base x y xs ys) (r : Row w p t cur) (ht : t ≠ 9) (hg : (w.alloc o).grownBy w' x.ownBlock) : Row w' p t cur :=
  Tx.row_grown (r.alloc o) (World.ownsRow.alloc h.rx o) ht hg
theorem Two.rowY {w w' : World} {base p : Nat} {x y : Value} {xs ys : List ByteArray} {o : Obj} {t : TypeId} {cur : Array Value} (h : Two w base x y xs ys) (r : Row w p t cur) (ht : t ≠ 9) (hg : (w.alloc o).grownBy w' y.ownBlock) : Row w' p t cur := h.swap.rowX r ht hg
end Go.Proofs.Ytmhdbjoljonhdaa
