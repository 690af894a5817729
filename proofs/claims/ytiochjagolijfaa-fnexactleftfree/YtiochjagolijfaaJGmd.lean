import Derived.Test.YtiochjagolijfaaJSz
import Derived.Test.YtiochjagolijfaaJOwns
import Derived.Test.YtiochjagolijfaaJOi
/- Mades, as data, and as memory holds them: a list of Mades in a slice, five cells each. No program stands in this text but its types' numbers. -/
namespace Go.Proofs.Ytiochjagolijfaa
open Go.RowKit

/-- a Made, as data -/
structure MadeD where
  head : ByteArray
  body : List ByteArray
  term : TermD

/-- a Made in five cells from an address on -/
def MadeAt (z : Bool) (w : World) (lo hi b o : Nat) (m : MadeD) : Prop :=
  m.head.size ≤ maxLen ∧ TopM m.term ∧ w.cell? ⟨b, o, none⟩ = some (.string m.head) ∧
    ∃ u x, w.cell? ⟨b, o + 1, none⟩ = some u ∧ w.cell? ⟨b, o + 2, none⟩ = some (.int .i64 m.term.kind) ∧ w.cell? ⟨b, o + 3, none⟩ = some (.int .i64 m.term.num) ∧ w.cell? ⟨b, o + 4, none⟩ = some x ∧
      Strs w lo hi u m.body ∧ KM z w lo hi x m.term.kids
/-- a list of Mades, in blocks from lo on ahead of hi; z: none of these is frozen -/
def DM (z : Bool) (w : World) (lo hi : Nat) (v : Value) (ms : List MadeD) : Prop :=
  ∃ A c, v = .slice A ms.length c ∧ ms.length ≤ c ∧ c ≤ maxLen ∧
    (0 < ms.length → ∃ b off, A = some ⟨b, off, none⟩ ∧ lo ≤ b ∧ b < hi ∧ (z = true → FreeB w b) ∧ ∀ i (h : i < ms.length), MadeAt z w lo hi b (off + i * 5) ms[i])
theorem MadeAt.keep {z : Bool} {w w' : World} {lo hi b o : Nat} {m : MadeD} (h : MadeAt z w lo hi b o m) (h1 : lo ≤ b) (h2 : b < hi) (k : Keeps lo hi w w') : MadeAt z w' lo hi b o m := by
  obtain ⟨a1, a2, a3, u, x, a4, a5, a6, a7, a8, a9⟩ := h
  exact ⟨a1, a2, (k.cell (p := ⟨b, o, none⟩) h1 h2).trans a3, u, x, (k.cell (p := ⟨b, o + 1, none⟩) h1 h2).trans a4, (k.cell (p := ⟨b, o + 2, none⟩) h1 h2).trans a5, (k.cell (p := ⟨b, o + 3, none⟩) h1 h2).trans a6, (k.cell (p := ⟨b, o + 4, none⟩) h1 h2).trans a7, a8.keep k, a9.keep k⟩
theorem MadeAt.more {z : Bool} {w : World} {lo hi lo' hi' b o : Nat} {m : MadeD} (h : MadeAt z w lo hi b o m) (g1 : lo' ≤ lo) (g2 : hi ≤ hi') : MadeAt z w lo' hi' b o m := by
  obtain ⟨a1, a2, a3, u, x, a4, a5, a6, a7, a8, a9⟩ := h
  exact ⟨a1, a2, a3, u, x, a4, a5, a6, a7, a8.more g1 g2, a9.more g1 g2⟩
theorem DM.keep {z : Bool} {w w' : World} {lo hi : Nat} {v : Value} {ms : List MadeD} (h : DM z w lo hi v ms) (k : Keeps lo hi w w') : DM z w' lo hi v ms := by
  obtain ⟨A, c, h1, h2, h3, h4⟩ := h
  refine ⟨A, c, h1, h2, h3, fun hp => ?_⟩
  obtain ⟨b, off, e, hl, hh, hz, hc⟩ := h4 hp
  exact ⟨b, off, e, hl, hh, fun e => by obtain ⟨x, y, hh'⟩ := hz e; exact ⟨x, y, (k b hl hh).trans hh'⟩, fun i hi => (hc i hi).keep hl hh k⟩
theorem DM.more {z : Bool} {w : World} {lo hi lo' hi' : Nat} {v : Value} {ms : List MadeD} (h : DM z w lo hi v ms) (g1 : lo' ≤ lo) (g2 : hi ≤ hi') : DM z w lo' hi' v ms := by
  obtain ⟨A, c, h1, h2, h3, h4⟩ := h
  refine ⟨A, c, h1, h2, h3, fun hp => ?_⟩
  obtain ⟨b, off, e, hl, hh, hz, hc⟩ := h4 hp
  exact ⟨b, off, e, by omega, by omega, hz, fun i hi => (hc i hi).more g1 g2⟩
theorem DM.under {z : Bool} {w w' : World} {lo hi : Nat} {v : Value} {ms : List MadeD} (h : DM z w lo hi v ms) {B : Nat} (b : Below B w w') (hB : hi ≤ B) : DM z w' lo hi v ms := h.keep (Keeps.below b hB)
theorem DM.drewN {z : Bool} {w : World} {lo hi : Nat} {v : Value} {ms : List MadeD} (h : DM z w lo hi v ms) (n : Nat) : DM z (w.drewN n) lo hi v ms := h.keep (fun _ _ _ => rfl)
theorem MadeAt.loose {z : Bool} {w : World} {lo hi b o : Nat} {m : MadeD} (h : MadeAt z w lo hi b o m) : MadeAt false w lo hi b o m := by
  obtain ⟨a1, a2, a3, u, x, a4, a5, a6, a7, a8, a9⟩ := h
  exact ⟨a1, a2, a3, u, x, a4, a5, a6, a7, a8, a9.loose⟩
theorem DM.loose {z : Bool} {w : World} {lo hi : Nat} {v : Value} {ms : List MadeD} (h : DM z w lo hi v ms) : DM false w lo hi v ms := by
  obtain ⟨A, c, h1, h2, h3, h4⟩ := h
  refine ⟨A, c, h1, h2, h3, fun hp => ?_⟩
  obtain ⟨b, off, e, hl, hh, hz, hc⟩ := h4 hp
  exact ⟨b, off, e, hl, hh, (fun e => by cases e), fun i hi => (hc i hi).loose⟩
/-- the value of a Made -/
def mdV (m : MadeD) (u x : Value) : Value := .agg #[.string m.head, u, .int .i64 m.term.kind, .int .i64 m.term.num, x]

/-- how many values and letters the law counts in a list of Mades -/
def bulkD (m : MadeD) : Nat := m.head.size + bulkS m.body + sizeMs m.term.kids
def bulkDs (ms : List MadeD) : Nat := ms.length + (ms.map bulkD).sum
def madesTo (ms : List MadeD) (k : Nat) : Nat := ((ms.take k).map bulkD).sum
theorem madesTo_succ (ms : List MadeD) (k : Nat) (h : k < ms.length) : madesTo ms (k + 1) = madesTo ms k + bulkD ms[k] := by
  unfold madesTo; rw [List.take_succ_eq_append_getElem h, List.map_append, List.sum_append]; simp
theorem madesTo_le (ms : List MadeD) (k : Nat) : ms.length + madesTo ms k ≤ bulkDs ms := by
  unfold bulkDs madesTo
  conv => rhs; rw [← List.take_append_drop k ms]
  rw [List.map_append, List.sum_append]; simp
theorem madesTo_all (ms : List MadeD) : ms.length + madesTo ms ms.length = bulkDs ms := by unfold madesTo bulkDs; rw [List.take_length]
theorem bulkD_get {ms : List MadeD} {k : Nat} (h : k < ms.length) : ms.length + bulkD ms[k] ≤ bulkDs ms := by
  have h1 := madesTo_succ ms k h
  have h2 := madesTo_le ms (k + 1)
  omega
end Go.Proofs.Ytiochjagolijfaa

/- A list of Mades that grows by append, what hangs from each in blocks of their own. No program stands in this text but its types' numbers. -/
namespace Go.Proofs.Ytiochjagolijfaa
open Go.RowKit

/-- a Made, the values of its Body and its Kids; its Kids lie from l on ahead of e, its Body in block gb from e on ahead of h -/
structure Gx where
  m : MadeD
  u : Value
  x : Value
  gb : Nat
  l : Nat
  e : Nat
  h : Nat
def Gx.cells (x : Gx) : List Value := [.string x.m.head, x.u, .int .i64 x.m.term.kind, .int .i64 x.m.term.num, x.x]
structure GxAt (w : World) (base : Nat) (x : Gx) : Prop where
  head : x.m.head.size ≤ maxLen
  top : TopM x.m.term
  body : OwnS w x.gb x.u x.m.body
  inb : x.m.body ≠ [] → x.e ≤ x.gb ∧ x.gb < x.h
  kids : OI w x.l x.e x.x x.m.term.kids
  ord : base ≤ x.l ∧ x.l ≤ x.e ∧ x.e ≤ x.h ∧ x.h ≤ w.heap.size
theorem GxAt.keep {w w' : World} {base : Nat} {x : Gx} (a : GxAt w base x) (hs : w.heap.size ≤ w'.heap.size) (k : Keeps x.l x.h w w') : GxAt w' base x where
  head := a.head
  top := a.top
  body := a.body.keep fun hn => k _ (by have := a.inb hn; have := a.ord; omega) (a.inb hn).2
  inb := a.inb
  kids := a.kids.keep (k.mono (Nat.le_refl _) a.ord.2.2.1)
  ord := ⟨a.ord.1, a.ord.2.1, a.ord.2.2.1, Nat.le_trans a.ord.2.2.2 hs⟩
def flatD (xs : List Gx) : List Value := xs.flatMap Gx.cells
theorem flatD_snoc (xs : List Gx) (x : Gx) : flatD (xs ++ [x]) = flatD xs ++ x.cells := by simp [flatD]
theorem flatD_len (xs : List Gx) : (flatD xs).length = xs.length * 5 := by
  induction xs with
  | nil => rfl
  | cons x l ih => simp only [flatD, Gx.cells, List.flatMap_cons, List.length_append, List.length_cons, List.length_nil] at ih ⊢; omega
theorem flatD_at (xs : List Gx) (i j : Nat) (h : i < xs.length) (hj : j < 5) : (flatD xs)[i * 5 + j]? = xs[i].cells[j]? := by
  induction xs generalizing i with
  | nil => simp at h
  | cons x l ih =>
    have e : flatD (x :: l) = x.cells ++ flatD l := rfl
    have hc : x.cells.length = 5 := rfl
    rw [e]
    cases i with
    | zero => rw [List.getElem?_append_left (by omega)]; simp
    | succ i =>
      rw [List.getElem?_append_right (by omega), hc, show (i + 1) * 5 + j - 5 = i * 5 + j by omega]
      exact ih i (by simpa using h)
structure GrowD (w : World) (base : Nat) (v : Value) (xs : List Gx) : Prop where
  row : w.ownsRow base 67 5 v xs.length (flatD xs)
  each : ∀ x ∈ xs, GxAt w base x
  pair : xs.Pairwise fun a b => a.h ≤ b.l
  out : ∀ g, v.ownBlock = some g → ∀ x ∈ xs, g < x.l ∨ x.h ≤ g
theorem GrowD.nil (w : World) (base : Nat) : GrowD w base (.slice none 0 0) [] := ⟨World.ownsRow_nil _ _ _ _, by simp, List.Pairwise.nil, by simp⟩
theorem GrowD.move {w w' : World} {base : Nat} {v : Value} {xs : List Gx} (a : GrowD w base v xs) (hs : w.heap.size ≤ w'.heap.size)
    (h1 : ∀ g, v.ownBlock = some g → w'.heap[g]? = w.heap[g]?) (h2 : ∀ x ∈ xs, Keeps x.l x.h w w') : GrowD w' base v xs where
  row := by
    refine ⟨a.row.1, ?_⟩
    rcases a.row.2 with a2 | ⟨g, cap, cur, rfl, hb, hh, r⟩
    · exact .inl a2
    · exact .inr ⟨g, cap, cur, rfl, hb, (h1 g rfl).trans hh, r⟩
  each := fun x hx => (a.each x hx).keep hs (h2 x hx)
  pair := a.pair
  out := a.out
theorem GrowD.below {w w' : World} {base : Nat} {v : Value} {xs : List Gx} (a : GrowD w base v xs) (k : Below w.heap.size w w') : GrowD w' base v xs :=
  a.move k.size (fun g hg => k.block g (a.row.lt g hg).2) fun x hx p _ hp => k.block p (by have := (a.each x hx).ord; omega)
theorem GrowD.snoc {w w' : World} {base g cap : Nat} {v : Value} {xs : List Gx} {y : Gx} (a : GrowD w base v xs) (hy : GxAt w base y) (hx : ∀ x ∈ xs, x.h ≤ y.l) (hv : ∀ q, v.ownBlock = some q → q < y.l)
    (ho : w'.ownsRow base 67 5 (.slice (some ⟨g, 0, none⟩) (xs.length + 1) cap) (xs.length + 1) (flatD xs ++ y.cells)) (hg : w.grownBy w' v.ownBlock) (hat : v.ownBlock = some g ∨ g = w.heap.size) :
    GrowD w' base (.slice (some ⟨g, 0, none⟩) (xs.length + 1) cap) (xs ++ [y]) where
  row := by rw [flatD_snoc, List.length_append]; exact ho
  each := fun x hm => by
    rw [List.mem_append, List.mem_singleton] at hm
    rcases hm with hm | rfl
    · refine (a.each x hm).keep hg.size fun p p1 p2 => hg.block p (by have := (a.each x hm).ord; omega) fun e => ?_
      have := a.out p e.symm x hm
      omega
    · refine hy.keep hg.size fun p p1 p2 => hg.block p (by have := hy.ord; omega) fun e => ?_
      have := hv p e.symm
      omega
  pair := by
    rw [List.pairwise_append]
    refine ⟨a.pair, by simp, fun x h1 z h2 => ?_⟩
    rw [List.mem_singleton] at h2
    subst h2
    exact hx x h1
  out := fun q hq x hm => by
    obtain rfl : g = q := by simpa [Value.ownBlock] using hq
    rw [List.mem_append, List.mem_singleton] at hm
    rcases hat with e | rfl
    · rcases hm with hm | rfl
      · exact a.out _ e x hm
      · exact .inl (hv _ e)
    · rcases hm with hm | rfl
      · exact .inr (a.each x hm).ord.2.2.2
      · exact .inr hy.ord.2.2.2
/-- what it reads as -/
theorem GrowD.dm {w : World} {base : Nat} {v : Value} {xs : List Gx} (a : GrowD w base v xs) : DM true w base w.heap.size v (xs.map (·.m)) := by
  rcases a.row.2 with ⟨rfl, h0⟩ | ⟨g, cap, cur, rfl, hb, hh, hc, hm, hs, ht⟩
  · obtain rfl : xs = [] := List.eq_nil_of_length_eq_zero h0
    exact ⟨none, 0, rfl, Nat.le_refl _, by unfold maxLen; omega, fun h => by simp at h⟩
  · have hr : Row w g 67 cur := hh
    refine ⟨some ⟨g, 0, none⟩, cap, by simp, by simpa using hc, hm, fun hp => ⟨g, 0, rfl, hb, hr.lt, fun _ => ⟨_, _, hr⟩, fun i hi => ?_⟩⟩
    have hi' : i < xs.length := by simpa using hi
    have q := a.each xs[i] (List.getElem_mem hi')
    have cell : ∀ j, j < 5 → cur[i * 5 + j]? = xs[i].cells[j]? := fun j hj => by
      rw [← flatD_at xs i j hi' hj, ← ht, List.getElem?_take_of_lt (by omega), Array.getElem?_toList]
    rw [List.getElem_map]
    have c0 := cell 0 (by omega)
    rw [Nat.add_zero] at c0
    refine ⟨q.head, q.top, by rw [Nat.zero_add, hr.cell, c0]; rfl, xs[i].u, xs[i].x, ?_, ?_, ?_, ?_, q.body.strs fun hn => ?_, q.kids.km.more q.ord.1 (by have := q.ord; omega)⟩
    · rw [Nat.zero_add, hr.cell, cell 1 (by omega)]; rfl
    · rw [Nat.zero_add, hr.cell, cell 2 (by omega)]; rfl
    · rw [Nat.zero_add, hr.cell, cell 3 (by omega)]; rfl
    · rw [Nat.zero_add, hr.cell, cell 4 (by omega)]; rfl
    · have := q.inb hn
      have := q.ord
      omega
end Go.Proofs.Ytiochjagolijfaa
