/- What stands while a law draws a grammar: the source, the boxes, the list of heads. -/
import Derived.Test.YtojmcjcdcneikaaReadSc
import Derived.Test.YtojmcjcdcneikaaSpoil
namespace Go.Proofs.Ytojmcjcdcneikaa
open Go.RowKit
theorem Row.heap {w w' : World} {g : Nat} {t : TypeId} {cur : Array Value} (h : Row w g t cur) (e : w'.heap = w.heap) : Row w' g t cur := h.same (by rw [e])
theorem Full.heap {w w' : World} {base : Nat} {v : Value} {xs : List (RuleD × Value × Nat)} (h : Full w base v xs) (e : w'.heap = w.heap) : Full w' base v xs := h.move (by rw [e]; exact Nat.le_refl _) (fun _ _ => by rw [e]) (fun _ _ _ => by rw [e])
theorem Sts.heap {w w' : World} {base : Nat} {v : Value} {ss : List ByteArray} (h : Sts w base v ss) (e : w'.heap = w.heap) : Sts w' base v ss := h.same fun _ _ => by rw [e]
namespace Dr
theorem Src.heap {w w' : World} {p B : Nat} (h : Src w p B) (e : w'.heap = w.heap) : Src w' p B := h.only fun k _ => by rw [e]

def headsA : Array Value := #[.string ⟨#[83]⟩, .string ⟨#[65]⟩, .string ⟨#[66]⟩]
/-- the frame of the draw of a grammar: source, own box at W, the grammar's box, the heads -/
structure Fr (W : Nat) (w : World) (p B : Nat) (v : Value) (wr : World) : Prop where
  src : Src wr p B
  grw : w.grownBy wr (some p)
  box : Row wr W 25 #[.slice none 0 0]
  gram : Row wr (W + 1) 25 #[v]
  heads : Row wr (W + 2) 9 headsA
theorem Fr.only {W : Nat} {w wr wr' : World} {p B : Nat} {v : Value} (h : Fr W w p B v wr) (o : Only p wr wr') (s : Src wr' p B) (hp : p < W) : Fr W w p B v wr' :=
  ⟨s, grw_trans h.grw o.grown, h.box.same (o.block _ (by omega)), h.gram.same (o.block _ (by omega)), h.heads.same (o.block _ (by omega))⟩
theorem Fr.own {W : Nat} {w wr wr' : World} {p B : Nat} {v : Value} {row : Option Nat} (h : Fr W w p B v wr) (g : wr.grownBy wr' row) (hr : ∀ k, row = some k → W + 3 ≤ k) (hp : p < W) (hW : W = w.heap.size) : Fr W w p B v wr' := by
  have k1 := h.heads.lt
  have e : ∀ k, k < W + 3 → wr'.heap[k]? = wr.heap[k]? := fun k hk => g.block k (by omega) (fun e => by have := hr k e.symm; omega)
  have hB := h.src.1
  exact ⟨h.src.only fun k hk => e k (by omega), grw_own h.grw g (fun k hk => by have := hr k hk; omega), h.box.same (e _ (by omega)), h.gram.same (e _ (by omega)), h.heads.same (e _ (by omega))⟩
theorem Fr.alloc {W : Nat} {w wr : World} {p B : Nat} {v : Value} (h : Fr W w p B v wr) (o : Obj) (hp : p < W) (hW : W = w.heap.size) : Fr W w p B v (wr.alloc o) := h.own (World.grownBy_alloc wr o none) (fun _ e => by cases e) hp hW
theorem grw_set {p : Nat} {w wr : World} {q : Addr} (h : w.grownBy wr (some p)) (hq : w.heap.size ≤ q.block) (u : Value) : w.grownBy (wr.setCell q u) (some p) :=
  ⟨h.os, h.tape, h.output, by simp [World.setCell]; exact h.size, fun k hk hne => (Below.heap_setCell _ _ _ _ (by omega)).trans (h.block k hk hne)⟩
theorem Fr.set {W : Nat} {w wr : World} {p B : Nat} {v : Value} (h : Fr W w p B v wr) {q : Addr} (hq : W + 3 ≤ q.block) (u : Value) (hp : p < W) (hW : W = w.heap.size) : Fr W w p B v (wr.setCell q u) := by
  have hB := h.src.1
  have e : ∀ k, k < W + 3 → (wr.setCell q u).heap[k]? = wr.heap[k]? := fun k hk => Below.heap_setCell _ _ _ _ (by omega)
  exact ⟨h.src.only fun k hk => e k (by omega), grw_set h.grw (by omega) u, h.box.same (e _ (by omega)), h.gram.same (e _ (by omega)), h.heads.same (e _ (by omega))⟩
theorem Fr.put {W : Nat} {w wr : World} {p B : Nat} {v : Value} (h : Fr W w p B v wr) (u : Value) (hp : p < W) (hW : W = w.heap.size) : Fr W w p B u (wr.setCell ⟨W + 1, 0, none⟩ u) := by
  have hB := h.src.1
  have e : ∀ k, k ≠ W + 1 → (wr.setCell ⟨W + 1, 0, none⟩ u).heap[k]? = wr.heap[k]? := fun k hk => Below.heap_setCell _ _ _ _ hk
  exact ⟨h.src.only fun k hk => e k (by omega), grw_set h.grw (by show w.heap.size ≤ W + 1; omega) u, h.box.same (e _ (by omega)), by simpa using h.gram.put 0 u, h.heads.same (e _ (by omega))⟩
theorem Full.only {w w' : World} {p base : Nat} {v : Value} {xs : List (RuleD × Value × Nat)} (h : Full w base v xs) (o : Only p w w') (hp : p < base) : Full w' base v xs :=
  h.move (Nat.le_of_eq o.size.symm) (fun g hg => o.block g (by have := (h.1.lt g hg).1; omega)) (fun x hx hn => o.block _ (by have := ((h.2.1 x hx).2.2 hn).1; omega))
theorem Sts.only {w w' : World} {p base : Nat} {v : Value} {ss : List ByteArray} (h : Sts w base v ss) (o : Only p w w') (hp : p < base) : Sts w' base v ss :=
  h.same fun g hg => o.block g (by have := (World.ownsRow.lt h g hg).1; omega)

/-- a grammar that a draw has made -/
def DrawG (w : World) (p B : Nat) (e : Ending) (w' : World) : Prop := ∃ v xs, e = .returned (.agg #[v]) ∧ Full w' w.heap.size v xs ∧ 1 ≤ xs.length ∧ xs.length ≤ 20 ∧ (∀ x ∈ xs, x.1.body.length ≤ 100) ∧ (∀ x, xs.head? = some x → x.1.body = [] → x.2.1 = .slice none 0 0) ∧ Src w' p B ∧ w.grownBy w' (some p)

/-- the texts of which one is drawn -/
def eight : List ByteArray := [⟨#[69, 32, 45, 62, 32, 69, 32, 112, 32, 84, 10, 69, 32, 45, 62, 32, 84, 10, 84, 32, 45, 62, 32, 84, 32, 109, 32, 70, 10, 84, 32, 45, 62, 32, 70, 10, 70, 32, 45, 62, 32, 108, 32, 69, 32, 114, 10, 70, 32, 45, 62, 32, 110, 10]⟩, ⟨#[83, 32, 45, 62, 32, 65, 32, 97, 10, 83, 32, 45, 62, 32, 98, 10, 65, 32, 45, 62, 32, 65, 32, 99, 10, 65, 32, 45, 62, 32, 83, 32, 100, 10, 65, 32, 45, 62, 32, 126, 10]⟩, ⟨#[83, 32, 45, 62, 32, 65, 32, 66, 10, 65, 32, 45, 62, 32, 126, 10, 65, 32, 45, 62, 32, 97, 32, 65, 10, 66, 32, 45, 62, 32, 98, 10, 66, 32, 45, 62, 32, 126, 10]⟩, ⟨#[83, 32, 45, 62, 32, 83, 32, 83, 10, 83, 32, 45, 62, 32, 97, 10, 83, 32, 45, 62, 32, 126, 10]⟩, ⟨#[83, 32, 45, 62, 32, 66, 32, 97, 10, 66, 32, 45, 62, 32, 67, 32, 98, 10, 67, 32, 45, 62, 32, 83, 32, 99, 10, 67, 32, 45, 62, 32, 100, 10]⟩, ⟨#[83, 32, 45, 62, 32, 83, 32, 97, 10, 83, 32, 45, 62, 32, 65, 10, 65, 32, 45, 62, 32, 98, 32, 65, 10, 65, 32, 45, 62, 32, 98, 10]⟩, ⟨#[65, 32, 45, 62, 32, 66, 10, 66, 32, 45, 62, 32, 65, 10, 65, 32, 45, 62, 32, 97, 10]⟩, ⟨#[76, 32, 45, 62, 32, 76, 32, 99, 32, 69, 10, 76, 32, 45, 62, 32, 69, 10, 69, 32, 45, 62, 32, 110, 10, 69, 32, 45, 62, 32, 108, 32, 76, 32, 114, 10, 69, 32, 45, 62, 32, 108, 32, 114, 10]⟩]
def fit (t : ByteArray) : Bool := decide (1 ≤ (readOut t).1.length) && decide ((readOut t).1.length ≤ 20) && (readOut t).1.all (fun r => decide (r.body.length ≤ 100)) && ((readOut t).1.head?.all fun r => !r.body.isEmpty)
set_option maxRecDepth 100000 in
theorem eight_fit : (eight.all fit) = true := by decide +kernel
end Dr
end Go.Proofs.Ytojmcjcdcneikaa
