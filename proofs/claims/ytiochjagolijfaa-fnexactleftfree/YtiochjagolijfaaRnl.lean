/- A Made that is laid anew: its box and its Kids, as data. No program stands in this text but its types' numbers. -/
import Derived.Test.YtiochjagolijfaaJGmd
import Derived.Test.YtiochjagolijfaaJFixS
import Derived.Test.YtiochjagolijfaaJShr
namespace Go.Proofs.Ytiochjagolijfaa
open Go.RowKit

/-- what was laid of a Made whose symbols are still to come: a box at g, with new Kids from l on ahead of e -/
structure OneD (wy w' : World) (rb g l e : Nat) (m : MadeD) (x' : Value) (u : Value) (left left' : Int) : Prop where
  box : Row w' g 67 #[.string m.head, u, .int .i64 m.term.kind, .int .i64 m.term.num, x']
  kids : OI w' l e x' m.term.kids
  le : wy.heap.size ≤ l ∧ l ≤ e ∧ e ≤ w'.heap.size
  far : g < l ∨ e ≤ g
  new : wy.heap.size ≤ g
  room : Row w' rb 106 #[.int .i64 left']
  more : left - (sizeM m.term : Int) * 40 ≤ left' ∧ left' ≤ left
  mid : Mid rb (rb + 1) wy w'
section
variable {wy wc wn : World} {rb : Nat} {m : MadeD} {x' : Value} {left left' : Int}
/-- the box is made behind all else -/
theorem OneD.last (bd : Below wy.heap.size wy wc) (ho : OI wn wc.heap.size wn.heap.size x' m.term.kids) (h1 : left - (sizeM m.term : Int) * 40 ≤ left') (h2 : left' ≤ left) (hr : Row wn rb 106 #[.int .i64 left']) (hm : Mid rb (rb + 1) wc wn) :
    OneD wy (wn.alloc (.cells #[.string m.head, .slice none 0 0, .int .i64 m.term.kind, .int .i64 m.term.num, x'] 67)) rb wn.heap.size wc.heap.size wn.heap.size m x' (.slice none 0 0) left left' where
  box := Row.made _ _ _
  kids := ho.under (al1 _ _) (Nat.le_refl _)
  le := ⟨bd.size, hm.size, by simp⟩
  far := .inr (Nat.le_refl _)
  new := Nat.le_trans bd.size hm.size
  room := hr.alloc _
  more := ⟨h1, h2⟩
  mid := ⟨hm.os.trans bd.os, hm.tape.trans bd.tape, hm.output.trans bd.output, by have := bd.size; have := hm.size; simp; omega, fun p p1 p2 => by
    have := bd.size; have := hm.size
    rw [Below.heap_alloc _ _ _ (by omega), hm.block p (by omega) p2]; exact bd.block p p1⟩
theorem five_row {w : World} {g : Nat} {t : TypeId} {a0 b0 c0 d0 e0 : Value} (h : Row w g t #[a0, b0, c0, d0, e0]) (a b c d e : Value) :
    Row (((((w.setCell ⟨g, 0, none⟩ a).setCell ⟨g, 1, none⟩ b).setCell ⟨g, 2, none⟩ c).setCell ⟨g, 3, none⟩ d).setCell ⟨g, 4, none⟩ e) g t #[a, b, c, d, e] := by
  simpa using ((((h.put 0 a).put 1 b).put 2 c).put 3 d).put 4 e
theorem five_heap (w : World) (g : Nat) (a b c d e : Value) (p : Nat) (h : p ≠ g) : (((((w.setCell ⟨g, 0, none⟩ a).setCell ⟨g, 1, none⟩ b).setCell ⟨g, 2, none⟩ c).setCell ⟨g, 3, none⟩ d).setCell ⟨g, 4, none⟩ e).heap[p]? = w.heap[p]? := by
  rw [Below.heap_setCell _ _ _ _ (by exact h), Below.heap_setCell _ _ _ _ (by exact h), Below.heap_setCell _ _ _ _ (by exact h), Below.heap_setCell _ _ _ _ (by exact h), Below.heap_setCell _ _ _ _ (by exact h)]
theorem five_size (w : World) (g : Nat) (a b c d e : Value) : (((((w.setCell ⟨g, 0, none⟩ a).setCell ⟨g, 1, none⟩ b).setCell ⟨g, 2, none⟩ c).setCell ⟨g, 3, none⟩ d).setCell ⟨g, 4, none⟩ e).heap.size = w.heap.size := by simp [World.setCell]
theorem five_mid {ws : World} {g : Nat} {a b c d e : Value} (bd : Below wy.heap.size wy ws) (hm : Mid rb (rb + 1) ws wn) (hg : wy.heap.size ≤ g) :
    Mid rb (rb + 1) wy (((((wn.setCell ⟨g, 0, none⟩ a).setCell ⟨g, 1, none⟩ b).setCell ⟨g, 2, none⟩ c).setCell ⟨g, 3, none⟩ d).setCell ⟨g, 4, none⟩ e) := by
  have f : Mid g (g + 1) wn (((((wn.setCell ⟨g, 0, none⟩ a).setCell ⟨g, 1, none⟩ b).setCell ⟨g, 2, none⟩ c).setCell ⟨g, 3, none⟩ d).setCell ⟨g, 4, none⟩ e) :=
    (((((Mid.refl _ _ _).setCell (p := ⟨g, 0, none⟩) (Nat.le_refl _) (Nat.lt_succ_self g) a).setCell (p := ⟨g, 1, none⟩) (Nat.le_refl _) (Nat.lt_succ_self g) b).setCell (p := ⟨g, 2, none⟩) (Nat.le_refl _) (Nat.lt_succ_self g) c).setCell (p := ⟨g, 3, none⟩) (Nat.le_refl _) (Nat.lt_succ_self g) d).setCell (p := ⟨g, 4, none⟩) (Nat.le_refl _) (Nat.lt_succ_self g) e
  have h1 := bd.size
  have h2 := hm.size
  have h3 := f.size
  refine ⟨f.os.trans (hm.os.trans bd.os), f.tape.trans (hm.tape.trans bd.tape), f.output.trans (hm.output.trans bd.output), by omega, fun p p1 p2 => ?_⟩
  rw [f.block p (by omega) (by omega), hm.block p (by omega) p2]
  exact bd.block p p1
/-- the box was made ahead of the Kids, at g -/
theorem OneD.first {g : Nat} {ws : World} {z0 z1 z2 z3 z4 : Value} (bd : Below wy.heap.size wy ws) (hg : wy.heap.size ≤ g) (hgs : g < ws.heap.size) (hrb : rb < wy.heap.size) (ho : OI wn ws.heap.size wn.heap.size x' m.term.kids) (h1 : left - (sizeM m.term : Int) * 40 ≤ left') (h2 : left' ≤ left)
    (hr : Row wn rb 106 #[.int .i64 left']) (hm : Mid rb (rb + 1) ws wn) (hz : Row wn g 67 #[z0, z1, z2, z3, z4]) :
    OneD wy (((((wn.setCell ⟨g, 0, none⟩ (.string m.head)).setCell ⟨g, 1, none⟩ (.slice none 0 0)).setCell ⟨g, 2, none⟩ (.int .i64 m.term.kind)).setCell ⟨g, 3, none⟩ (.int .i64 m.term.num)).setCell ⟨g, 4, none⟩ x') rb g ws.heap.size wn.heap.size m x' (.slice none 0 0) left left' where
  box := five_row hz _ _ _ _ _
  kids := ho.keep fun p p1 _ => five_heap _ _ _ _ _ _ _ _ (by omega)
  le := ⟨bd.size, hm.size, by rw [five_size]; exact Nat.le_refl _⟩
  far := .inl hgs
  new := hg
  room := hr.same (five_heap _ _ _ _ _ _ _ _ (by omega))
  more := ⟨h1, h2⟩
  mid := five_mid bd hm hg
end
/-- one symbol more -/
theorem OneD.sym {wx wr wc w6 : World} {g j gg capg dv : Nat} {Bv : Option Addr} {ss : List ByteArray} {sym : ByteArray} {hd ki nu xk : Value} (hgl : g < wx.heap.size) (RG : Row wr g 67 #[hd, .slice Bv j dv, ki, nu, xk])
    (st : wr.ownsRow wx.heap.size 9 1 (.slice Bv j dv) j (ss.map Value.string)) (hm : Mid g (g + 1) wx wr) (bd : Below wr.heap.size wr wc)
    (hown : w6.ownsRow wx.heap.size 9 1 (.slice (some ⟨gg, 0, none⟩) (j + 1) capg) (j + 1) (ss.map Value.string ++ [.string sym])) (hg : (wc.alloc (.cells #[.string sym] 9)).grownBy w6 (Value.slice Bv j dv).ownBlock) (hlen : ss.length = j) :
    Row (w6.setCell ⟨g, 1, none⟩ (.slice (some ⟨gg, 0, none⟩) (j + 1) capg)) g 67 #[hd, .slice (some ⟨gg, 0, none⟩) (j + 1) capg, ki, nu, xk] ∧ Sts (w6.setCell ⟨g, 1, none⟩ (.slice (some ⟨gg, 0, none⟩) (j + 1) capg)) wx.heap.size (.slice (some ⟨gg, 0, none⟩) (j + 1) capg) (ss ++ [sym]) ∧ Mid g (g + 1) wx (w6.setCell ⟨g, 1, none⟩ (.slice (some ⟨gg, 0, none⟩) (j + 1) capg)) := by
  have hgg := (hown.lt gg rfl).1
  have hb := bd.size
  have h1 := hm.size
  have h2 : wc.heap.size + 1 ≤ w6.heap.size := by have := hg.size; simpa using this
  have low : ∀ p, p < wx.heap.size → w6.heap[p]? = wr.heap[p]? := fun p hp => by
    rw [hg.block p (by simp; omega) (fun e => by have := (st.lt p e.symm).1; omega), Below.heap_alloc _ _ _ (by omega)]
    exact bd.block p (by omega)
  refine ⟨?_, ?_, hg.os.trans (bd.os.trans hm.os), hg.tape.trans (bd.tape.trans hm.tape), hg.output.trans (bd.output.trans hm.output), by simp [World.setCell]; omega, fun p p1 p2 => ?_⟩
  · have r : Row w6 g 67 #[hd, .slice Bv j dv, ki, nu, xk] := RG.same (low g hgl)
    simpa using r.put 1 (.slice (some ⟨gg, 0, none⟩) (j + 1) capg)
  · refine Sts.one sym ?_
    rw [hlen]
    refine own_keep hown fun q hq => ?_
    obtain rfl : gg = q := by simpa [Value.ownBlock] using hq
    exact Below.heap_setCell _ _ _ _ (by show gg ≠ g; omega)
  · rw [Below.heap_setCell _ _ _ _ (by show p ≠ g; omega), low p p1]
    exact hm.block p p1 p2
theorem made_news (w : World) (a b c d e : Value) : ∀ j u, [a, b, c, d, e][j]? = some u → (w.alloc (.cells #[a, b, c, d, e] 67)).cell? ((⟨w.heap.size, 0, none⟩ : Addr).add j) = some u :=
  World.news_of_block (cs := #[a, b, c, d, e]) (t := 67) (fr := (0, 0)) (heap_alloc_new _ _)
theorem made_one (s : ByteArray) (A B : Option Addr) (n c n' c' : Nat) (k q : Int) : ∀ u ∈ [Value.string s, .slice A n c, .int .i64 k, .int .i64 q, .slice B n' c'], u.oneCell' = true := by
  intro u hu
  simp only [List.mem_cons, List.not_mem_nil, or_false] at hu
  rcases hu with rfl | rfl | rfl | rfl | rfl <;> rfl
end Go.Proofs.Ytiochjagolijfaa
