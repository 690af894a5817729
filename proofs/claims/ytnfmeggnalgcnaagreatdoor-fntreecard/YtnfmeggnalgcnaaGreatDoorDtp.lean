/- What stands while a tree is drawn. -/
import Derived.Test.YtnfmeggnalgcnaaGreatDoorJDrt
import Derived.Test.YtnfmeggnalgcnaaGreatDoorJWd6
namespace Go.Proofs.YtnfmeggnalgcnaaGreatDoor.Dr
open Go.RowKit
open Go.Proofs.YtnfmeggnalgcnaaGreatDoor

/-- a tree that a draw has made, and whether it is one -/
def DrawTr (w : World) (p B n : Nat) (e : Ending) (w' : World) : Prop :=
  ∃ t u b, e = .returned (.tuple #[trV t u, .bool b]) ∧ TopOk t ∧ bulkT t ≤ n ∧ KidsR w' w.heap.size u t.kids ∧ Src w' p B ∧ w.grownBy w' (some p)
theorem topOk_zero : TopOk (.node 0 ⟨#[]⟩ []) := ⟨by show (⟨#[]⟩ : ByteArray).size ≤ maxLen; unfold maxLen; decide, by show (-9223372036854775808 : Int) ≤ 0; omega, by show (0 : Int) ≤ _; omega⟩
theorem DrawTr.zero {w wx : World} {p B : Nat} (n : Nat) (s : Src wx p B) (g : w.grownBy wx (some p)) : DrawTr w p B n (.returned (.tuple #[.agg #[.int .i64 0, .string ⟨#[]⟩, .slice none 0 0], .bool false])) wx :=
  ⟨.node 0 ⟨#[]⟩ [], .slice none 0 0, false, rfl, topOk_zero, by show bulkT (.node 0 ⟨#[]⟩ []) ≤ n; simp only [bulkT, bulkTs]; exact Nat.zero_le _, KidsR.nil wx _, s, g⟩
theorem DrawTr.leaf {w wx : World} {p B n : Nat} {sym : ByteArray} (h4 : sym.size ≤ 4) (hn : 4 ≤ n) (s : Src wx p B) (g : w.grownBy wx (some p)) : DrawTr w p B n (.returned (.tuple #[.agg #[.int .i64 (-1), .string sym, .slice none 0 0], .bool true])) wx :=
  ⟨.node (-1) sym [], .slice none 0 0, true, rfl, ⟨by show sym.size ≤ maxLen; unfold maxLen; omega, by show (-9223372036854775808 : Int) ≤ -1; omega, by show (-1 : Int) ≤ _; omega⟩, by show bulkT (.node (-1) sym []) ≤ n; simp [bulkT, bulkTs]; omega, KidsR.nil wx _, s, g⟩
/-- the source, the grammar's box, the box of the tree, and its Kids so far -/
structure TrI (w : World) (p B : Nat) (g : Value) (q : Nat) (r : Int) (kv : Value) (xs : List (TreeD × Value)) (wx : World) : Prop where
  src : Src wx p B
  grw : w.grownBy wx (some p)
  gram : Row wx w.heap.size 25 #[g]
  res : Row wx (w.heap.size + 1) 29 #[.int .i64 0, .string ⟨#[]⟩, .slice none 0 0]
  qb : w.heap.size + 1 < q
  box : Row wx q 29 #[.int .i64 r, .string ⟨#[]⟩, kv]
  kids : KidsX wx (q + 1) kv xs
section
variable {w wx wy : World} {p B q lo hi : Nat} {g kv kv' u : Value} {r : Int} {xs : List (TreeD × Value)} {x : TreeD}
theorem TrI.drew (h : TrI w p B g q r kv xs wx) : TrI w p B g q r kv xs wx.drew := ⟨h.src.heap rfl, grw_drew h.grw, h.gram, h.res, h.qb, h.box, h.kids.move (Nat.le_refl _) fun _ _ _ => rfl⟩
theorem TrI.grown (h : TrI w p B g q r kv xs wx) (s : Src wy p B) (k : wx.grownBy wy (some p)) (hp : p < w.heap.size) : TrI w p B g q r kv xs wy := by
  have hq := h.qb
  have e : ∀ i, w.heap.size ≤ i → i < wx.heap.size → wy.heap[i]? = wx.heap[i]? := fun i h1 h2 => k.block i h2 (fun e => by injection e with e; omega)
  exact ⟨s, grw_trans h.grw k, h.gram.same (e _ (Nat.le_refl _) h.gram.lt), h.res.same (e _ (by omega) h.res.lt), h.qb, h.box.same (e _ (by omega) h.box.lt), h.kids.move k.size fun i h1 h2 => e i (by omega) h2⟩
theorem TrI.next (h : TrI w p B g q r kv xs wx) (b : Below wx.heap.size wx wy) (hp : p < w.heap.size) : TrI w p B g q r kv xs wy :=
  h.grown (h.src.only fun k hk => b.block k (by have := h.src.1; have := h.src.lt; omega)) ⟨b.os, b.tape, b.output, b.size, fun k hk _ => b.block k hk⟩ hp
/-- one tree more: the list is grown, the box is told -/
theorem TrI.push {g' cap : Nat} (h : TrI w p B g q r kv xs wx) (hp : p < w.heap.size) (ht : TopOk x) (hk : Kd true wx lo hi u x.kids) (h1 : q + 1 ≤ lo) (h2 : hi ≤ wx.heap.size)
    (h3 : ∀ b, kv.ownBlock = some b → b < lo ∨ hi ≤ b) (ho : wy.ownsRow (q + 1) 29 3 (.slice (some ⟨g', 0, none⟩) (xs.length + 1) cap) (xs.length + 1) (flatT xs ++ [.int .i64 x.rule, .string x.tok, u]))
    (hg : wx.grownBy wy kv.ownBlock) (hl : kv.ownBlock = some g' ∨ g' = wx.heap.size) :
    TrI w p B g q r (.slice (some ⟨g', 0, none⟩) (xs.length + 1) cap) (xs ++ [(x, u)]) (wy.setCell ⟨q, 2, none⟩ (.slice (some ⟨g', 0, none⟩) (xs.length + 1) cap)) := by
  have hq := h.qb
  have own := fun b e => h.kids.own (g := b) e
  have hB := h.src.1
  have hsl := h.src.lt
  have hgs := h.grw.size
  have e1 : ∀ i, i < q + 1 → i < wx.heap.size → wy.heap[i]? = wx.heap[i]? := fun i i1 i2 => hg.block i i2 (fun e => by have := (own _ e.symm).1; omega)
  have e2 : ∀ i, i ≠ q → (wy.setCell ⟨q, 2, none⟩ (.slice (some ⟨g', 0, none⟩) (xs.length + 1) cap)).heap[i]? = wy.heap[i]? := fun i hi => Below.heap_setCell _ _ _ _ hi
  refine ⟨h.src.only fun k hk => ?_, grw_set (grw_own h.grw hg (fun k e => by have := (own _ e).1; omega)) (by show w.heap.size ≤ q; omega) _, h.gram.same ((e2 _ (by omega)).trans (e1 _ (by omega) h.gram.lt)), h.res.same ((e2 _ (by omega)).trans (e1 _ (by omega) h.res.lt)), hq, ?_, ?_⟩
  · exact (e2 k (by omega)).trans (e1 k (by omega) (by omega))
  · have := (h.box.same (e1 q (by omega) h.box.lt)).put 2 (.slice (some ⟨g', 0, none⟩) (xs.length + 1) cap)
    simpa using this
  · exact (h.kids.push ht hk h1 h2 h3 ho hg hl).move (by simp [World.setCell]) fun i h1 _ => e2 i (by omega)
end
/-- the three cells of a box are written -/
theorem set3_heap (w : World) (b : Nat) (x y z : Value) (k : Nat) (hk : k ≠ b) : (((w.setCell ⟨b, 0, none⟩ x).setCell ⟨b, 1, none⟩ y).setCell ⟨b, 2, none⟩ z).heap[k]? = w.heap[k]? :=
  (Below.heap_setCell _ _ _ _ (by exact hk)).trans ((Below.heap_setCell _ _ _ _ (by exact hk)).trans (Below.heap_setCell _ _ _ _ (by exact hk)))
theorem set3_size (w : World) (b : Nat) (x y z : Value) : (((w.setCell ⟨b, 0, none⟩ x).setCell ⟨b, 1, none⟩ y).setCell ⟨b, 2, none⟩ z).heap.size = w.heap.size := by simp [World.setCell]
theorem set3_grw {p : Nat} {w wx : World} {b : Nat} (h : w.grownBy wx (some p)) (hb : w.heap.size ≤ b) (x y z : Value) : w.grownBy (((wx.setCell ⟨b, 0, none⟩ x).setCell ⟨b, 1, none⟩ y).setCell ⟨b, 2, none⟩ z) (some p) :=
  grw_set (grw_set (grw_set h hb x) hb y) hb z
theorem set3_src {p B : Nat} {wx : World} {b : Nat} (h : Src wx p B) (hb : p < b) (x y z : Value) : Src (((wx.setCell ⟨b, 0, none⟩ x).setCell ⟨b, 1, none⟩ y).setCell ⟨b, 2, none⟩ z) p B :=
  h.only fun k hk => set3_heap _ _ _ _ _ _ (by have := h.1; omega)
theorem set3_row {w : World} {b : Nat} {t : TypeId} {a1 a2 a3 : Value} (h : Row w b t #[a1, a2, a3]) (x y z : Value) : Row (((w.setCell ⟨b, 0, none⟩ x).setCell ⟨b, 1, none⟩ y).setCell ⟨b, 2, none⟩ z) b t #[x, y, z] := by
  simpa using ((h.put 0 x).put 1 y).put 2 z
/-- the tree is told: its box is read into the result's -/
theorem TrI.fin {w wx : World} {p B q n : Nat} {g kv : Value} {j : Nat} {xs : List (TreeD × Value)} (h : TrI w p B g q (j : Int) kv xs wx) (hp : p < w.heap.size) (hj : j ≤ 100) (hn : bulkTs (xs.map (·.1)) ≤ n) :
    DrawTr w p B n (.returned (.tuple #[.agg #[.int .i64 (j : Int), .string ⟨#[]⟩, kv], .bool true])) (((wx.setCell ⟨w.heap.size + 1, 0, none⟩ (.int .i64 (j : Int))).setCell ⟨w.heap.size + 1, 1, none⟩ (.string ⟨#[]⟩)).setCell ⟨w.heap.size + 1, 2, none⟩ kv) := by
  have hq := h.qb
  refine ⟨.node j ⟨#[]⟩ (xs.map (·.1)), kv, true, rfl, ⟨by show (⟨#[]⟩ : ByteArray).size ≤ maxLen; unfold maxLen; decide, by show (-9223372036854775808 : Int) ≤ (j : Int); omega, by show (j : Int) ≤ _; omega⟩, ?_, ?_, set3_src h.src (by omega) _ _ _, set3_grw h.grw (by omega) _ _ _⟩
  · show bulkT (.node j ⟨#[]⟩ (xs.map (·.1))) ≤ n
    have : (⟨#[]⟩ : ByteArray).size = 0 := by decide
    simp only [bulkT, this]; omega
  · refine ⟨xs, rfl, (h.kids.move (by rw [set3_size]; exact Nat.le_refl _) fun i h1 _ => set3_heap _ _ _ _ _ _ (by omega)).lower (by omega)⟩
theorem bulkTs_snoc (ts : List TreeD) (t : TreeD) : bulkTs (ts ++ [t]) = bulkTs ts + (1 + bulkT t) := by rw [bulkTs_append]; simp [bulkTs]
end Go.Proofs.YtnfmeggnalgcnaaGreatDoor.Dr
