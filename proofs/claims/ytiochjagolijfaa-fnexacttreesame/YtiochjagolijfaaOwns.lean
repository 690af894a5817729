/- Words for memory that a call has made: a block that is known whole; lists of texts and of rules that nobody shares. No program stands in this text but its types' numbers. -/
import Derived.Test.YtiochjagolijfaaWords
import Derived.Laws.MakeOwn
import Derived.Laws.Rows
import Derived.Laws.NewBlocks
namespace Go.Proofs.Ytiochjagolijfaa
open Go.RowKit

/-- block g is just these cells of that type, none frozen -/
def Row (w : World) (g : Nat) (t : TypeId) (cur : Array Value) : Prop := w.heap[g]? = some (.cells cur t (0, 0))
section
variable {w w' : World} {g : Nat} {t : TypeId} {cur : Array Value}
theorem Row.lt (h : Row w g t cur) : g < w.heap.size := by
  rcases Nat.lt_or_ge g w.heap.size with h1 | h1
  · exact h1
  · unfold Row at h; rw [Array.getElem?_eq_none h1] at h; cases h
theorem Row.cell (h : Row w g t cur) (i : Nat) : w.cell? ⟨g, i, none⟩ = cur[i]? := cell_of_row w g i cur t (0, 0) h
theorem Row.there (h : Row w g t cur) {i : Nat} (hi : i < cur.size) : ∃ u, w.cell? ⟨g, i, none⟩ = some u := ⟨cur[i], by rw [h.cell]; exact Array.getElem?_eq_getElem _⟩
theorem Row.free (h : Row w g t cur) (i : Nat) : w.frozen? ⟨g, i, none⟩ = false := by unfold Row at h; simp [World.frozen?, h]
theorem Row.made (w : World) (t : TypeId) (cur : Array Value) : Row (w.alloc (.cells cur t)) w.heap.size t cur := by
  show (w.heap.push _)[w.heap.size]? = _
  simp
theorem Row.put (h : Row w g t cur) (i : Nat) (u : Value) : Row (w.setCell ⟨g, i, none⟩ u) g t (cur.setIfInBounds i u) := by
  unfold Row at h ⊢
  simp [World.setCell, Array.getElem?_modify, h]
theorem Row.away (h : Row w g t cur) {p : Addr} (hp : g ≠ p.block) (u : Value) : Row (w.setCell p u) g t cur := (Below.heap_setCell w p u g hp).trans h
theorem Row.same (h : Row w g t cur) (e : w'.heap[g]? = w.heap[g]?) : Row w' g t cur := e.trans h
theorem Row.below {B : Nat} (h : Row w g t cur) (b : Below B w w') (hg : g < B) : Row w' g t cur := (b.block g hg).trans h
theorem Row.apart {g' : Nat} {t' : TypeId} {cur' : Array Value} (h : Row w g t cur) (h' : Row w g' t' cur') (hne : t ≠ t') : g ≠ g' := by
  rintro rfl
  unfold Row at h h'
  rw [h] at h'
  injection h' with h'
  injection h' with _ ht
  exact hne ht
end

theorem Row.alloc {w : World} {g : Nat} {t : TypeId} {cur : Array Value} (h : Row w g t cur) (o : Obj) : Row (w.alloc o) g t cur := (Below.heap_alloc w o g h.lt).trans h
theorem al1 (w : World) (a : Obj) : Below w.heap.size w (w.alloc a) := (Below.refl _ _).alloc (Nat.le_refl _) _
theorem al2 (w : World) (a b : Obj) : Below w.heap.size w ((w.alloc a).alloc b) := (al1 w a).alloc (by simp) _
theorem al3 (w : World) (a b c : Obj) : Below w.heap.size w (((w.alloc a).alloc b).alloc c) := (al2 w a b).alloc (by simp; omega) _
theorem al4 (w : World) (a b c d : Obj) : Below w.heap.size w ((((w.alloc a).alloc b).alloc c).alloc d) := (al3 w a b c).alloc (by simp; omega) _

/-- the texts of a list stand in a block of its own -/
def OwnS (w : World) (g : Nat) (v : Value) (ss : List ByteArray) : Prop :=
  ∃ A c, v = .slice A ss.length c ∧ ss.length ≤ c ∧ c ≤ maxLen ∧ (∀ s ∈ ss, s.size ≤ maxLen) ∧
    (0 < ss.length → ∃ off cur, A = some ⟨g, off, none⟩ ∧ Row w g 9 cur ∧ ∀ i (h : i < ss.length), cur[off + i]? = some (.string ss[i]))
theorem OwnS.keep {w w' : World} {g : Nat} {v : Value} {ss : List ByteArray} (h : OwnS w g v ss) (e : ss ≠ [] → w'.heap[g]? = w.heap[g]?) : OwnS w' g v ss := by
  obtain ⟨A, c, h1, h2, h3, h4, h5⟩ := h
  refine ⟨A, c, h1, h2, h3, h4, fun hp => ?_⟩
  obtain ⟨off, cur, ha, hr, hc⟩ := h5 hp
  exact ⟨off, cur, ha, hr.same (e (by intro h0; subst h0; simp at hp)), hc⟩
theorem OwnS.lt {w : World} {g : Nat} {v : Value} {ss : List ByteArray} (h : OwnS w g v ss) (hn : ss ≠ []) : g < w.heap.size := by
  obtain ⟨A, c, h1, h2, h3, h4, h5⟩ := h
  obtain ⟨off, cur, ha, hr, hc⟩ := h5 (by cases ss with | nil => exact absurd rfl hn | cons a l => simp)
  exact hr.lt
theorem OwnS.strs {w : World} {g lo hi : Nat} {v : Value} {ss : List ByteArray} (h : OwnS w g v ss) (hg : ss ≠ [] → lo ≤ g ∧ g < hi) : Strs w lo hi v ss := by
  obtain ⟨A, c, h1, h2, h3, h4, h5⟩ := h
  refine ⟨A, c, h1, h2, h3, h4, fun hp => ?_⟩
  obtain ⟨off, cur, ha, hr, hc⟩ := h5 hp
  obtain ⟨g1, g2⟩ := hg (by intro h0; subst h0; simp at hp)
  exact ⟨g, off, ha, g1, g2, fun i hi => by rw [hr.cell]; exact hc i hi⟩

/-- the rules of a list stand in a block of its own, and their bodies each in one of theirs -/
def OwnR (w : World) (lo hi : Nat) (v : Value) (rs : List RuleD) : Prop :=
  ∃ A c, v = .slice A rs.length c ∧ rs.length ≤ c ∧ c ≤ maxLen ∧
    (0 < rs.length → ∃ (b : Nat) (cur : Array Value) (G : Nat → Nat), A = some ⟨b, 0, none⟩ ∧ lo ≤ b ∧ b < hi ∧ Row w b 86 cur ∧
      (∀ i (h : i < rs.length), rs[i].head.size ≤ maxLen ∧ cur[i * 2]? = some (.string rs[i].head) ∧ ∃ u, cur[i * 2 + 1]? = some u ∧ OwnS w (G i) u rs[i].body ∧ (rs[i].body ≠ [] → lo ≤ G i ∧ G i < hi)) ∧
      (∀ i j, (hi : i < j) → (hj : j < rs.length) → rs[i].body ≠ [] → rs[j].body ≠ [] → G i ≠ G j))
theorem OwnR.keep {w w' : World} {lo hi : Nat} {v : Value} {rs : List RuleD} (h : OwnR w lo hi v rs) (k : Keeps lo hi w w') : OwnR w' lo hi v rs := by
  obtain ⟨A, c, h1, h2, h3, h5⟩ := h
  refine ⟨A, c, h1, h2, h3, fun hp => ?_⟩
  obtain ⟨b, cur, G, ha, hl, hh, hr, hc, hd⟩ := h5 hp
  refine ⟨b, cur, G, ha, hl, hh, hr.same (k b hl hh), fun i hi => ?_, hd⟩
  obtain ⟨a1, a2, u, a3, a4, a5⟩ := hc i hi
  exact ⟨a1, a2, u, a3, a4.keep (fun hn => k _ (a5 hn).1 (a5 hn).2), a5⟩
theorem OwnR.more {w : World} {lo hi lo' hi' : Nat} {v : Value} {rs : List RuleD} (h : OwnR w lo hi v rs) (g1 : lo' ≤ lo) (g2 : hi ≤ hi') : OwnR w lo' hi' v rs := by
  obtain ⟨A, c, h1, h2, h3, h5⟩ := h
  refine ⟨A, c, h1, h2, h3, fun hp => ?_⟩
  obtain ⟨b, cur, G, ha, hl, hh, hr, hc, hd⟩ := h5 hp
  refine ⟨b, cur, G, ha, by omega, by omega, hr, fun i hi => ?_, hd⟩
  obtain ⟨a1, a2, u, a3, a4, a5⟩ := hc i hi
  exact ⟨a1, a2, u, a3, a4, fun hn => by have := a5 hn; omega⟩
theorem OwnR.rules {w : World} {lo hi : Nat} {v : Value} {rs : List RuleD} (h : OwnR w lo hi v rs) : Rules w lo hi v rs := by
  obtain ⟨A, c, h1, h2, h3, h5⟩ := h
  refine ⟨A, c, h1, h2, h3, fun hp => ?_⟩
  obtain ⟨b, cur, G, ha, hl, hh, hr, hc, hd⟩ := h5 hp
  refine ⟨b, 0, ha, hl, hh, fun i hi => ?_⟩
  obtain ⟨a1, a2, u, a3, a4, a5⟩ := hc i hi
  exact ⟨a1, by rw [Nat.zero_add, hr.cell]; exact a2, u, by rw [Nat.zero_add, hr.cell]; exact a3, a4.strs a5⟩
end Go.Proofs.Ytiochjagolijfaa
