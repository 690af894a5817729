import Derived.Test.YtlgedjpolmlciaaRows
import Derived.Below
import Derived.Lib.Hide
import Derived.Deep.Draws
import Derived.Laws.MakeOwn
import Derived.Laws.Rows
import Derived.Laws.NewBlocks
/- Words for memory: what has turned between two worlds; a list of texts, a list of rules, as a slice reads them. No program stands in this text. -/
namespace Go.Proofs.Ytlgedjpolmlciaa
open Go.RowKit

/-- the blocks from lo on ahead of hi stand as they stood -/
def Keeps (lo hi : Nat) (w w' : World) : Prop := ∀ k, lo ≤ k → k < hi → w'.heap[k]? = w.heap[k]?
/-- of what was there only the blocks from lo on ahead of hi have turned -/
structure Mid (lo hi : Nat) (w w' : World) : Prop where
  os : w'.os = w.os
  tape : w'.tape = w.tape
  output : w'.output = w.output
  size : w.heap.size ≤ w'.heap.size
  block : ∀ k, k < w.heap.size → (k < lo ∨ hi ≤ k) → w'.heap[k]? = w.heap[k]?

theorem Keeps.refl (lo hi : Nat) (w : World) : Keeps lo hi w w := fun _ _ _ => rfl
theorem Keeps.trans {lo hi : Nat} {a b c : World} (h : Keeps lo hi a b) (k : Keeps lo hi b c) : Keeps lo hi a c := fun i h1 h2 => (k i h1 h2).trans (h i h1 h2)
theorem Keeps.mono {lo hi lo' hi' : Nat} {a b : World} (h : Keeps lo hi a b) (h1 : lo ≤ lo') (h2 : hi' ≤ hi) : Keeps lo' hi' a b := fun i a1 a2 => h i (by omega) (by omega)
theorem Keeps.below {B lo hi : Nat} {w w' : World} (h : Below B w w') (hB : hi ≤ B) : Keeps lo hi w w' := fun k _ h2 => h.block k (by omega)
theorem Keeps.mid {lo hi lo' hi' : Nat} {w w' : World} (h : Mid lo' hi' w w') (hs : hi ≤ w.heap.size) (hd : hi ≤ lo' ∨ hi' ≤ lo) : Keeps lo hi w w' := fun k h1 h2 => h.block k (by omega) (by omega)
theorem Keeps.cell {lo hi : Nat} {w w' : World} (h : Keeps lo hi w w') {p : Addr} (h1 : lo ≤ p.block) (h2 : p.block < hi) : w'.cell? p = w.cell? p := World.cell?_of_block (w := w) (h p.block h1 h2)
theorem Mid.refl (lo hi : Nat) (w : World) : Mid lo hi w w := ⟨rfl, rfl, rfl, Nat.le_refl _, fun _ _ _ => rfl⟩
theorem Mid.trans {lo hi : Nat} {a b c : World} (h : Mid lo hi a b) (k : Mid lo hi b c) : Mid lo hi a c :=
  ⟨k.os.trans h.os, k.tape.trans h.tape, k.output.trans h.output, Nat.le_trans h.size k.size, fun i h1 h2 => (k.block i (Nat.lt_of_lt_of_le h1 h.size) h2).trans (h.block i h1 h2)⟩
theorem Mid.of_below {lo hi B : Nat} {w w' : World} (h : Below B w w') (hB : w.heap.size ≤ B) : Mid lo hi w w' := ⟨h.os, h.tape, h.output, h.size, fun k h1 _ => h.block k (by omega)⟩
theorem Mid.below {lo hi : Nat} {w w' : World} (h : Mid lo hi w w') (hl : lo ≤ w.heap.size) : Below lo w w' := ⟨h.os, h.tape, h.output, h.size, fun k h1 => h.block k (by omega) (.inl h1)⟩
theorem Mid.setCell {lo hi : Nat} {a w : World} (h : Mid lo hi a w) {p : Addr} (h1 : lo ≤ p.block) (h2 : p.block < hi) (u : Value) : Mid lo hi a (w.setCell p u) :=
  h.trans ⟨rfl, rfl, rfl, by simp [World.setCell], fun k _ hk => Below.heap_setCell _ _ _ _ (by omega)⟩
theorem Mid.more {lo hi lo' hi' : Nat} {w w' : World} (h : Mid lo hi w w') (h1 : lo' ≤ lo) (h2 : hi ≤ hi') : Mid lo' hi' w w' := ⟨h.os, h.tape, h.output, h.size, fun k a b => h.block k a (by omega)⟩

/-- a list of texts, in blocks from lo on ahead of hi -/
def Strs (w : World) (lo hi : Nat) (v : Value) (ss : List ByteArray) : Prop :=
  ∃ A c, v = .slice A ss.length c ∧ ss.length ≤ c ∧ c ≤ maxLen ∧ (∀ s ∈ ss, s.size ≤ maxLen) ∧
    (0 < ss.length → ∃ b off, A = some ⟨b, off, none⟩ ∧ lo ≤ b ∧ b < hi ∧ ∀ i (h : i < ss.length), w.cell? ⟨b, off + i, none⟩ = some (.string ss[i]))

theorem Strs.keep {w w' : World} {lo hi : Nat} {v : Value} {ss : List ByteArray} (h : Strs w lo hi v ss) (k : Keeps lo hi w w') : Strs w' lo hi v ss := by
  obtain ⟨A, c, h1, h2, h3, h4, h5⟩ := h
  refine ⟨A, c, h1, h2, h3, h4, fun hp => ?_⟩
  obtain ⟨b, off, e, hl, hh, hc⟩ := h5 hp
  exact ⟨b, off, e, hl, hh, fun i hi => (k.cell (p := ⟨b, off + i, none⟩) hl hh).trans (hc i hi)⟩
theorem Strs.more {w : World} {lo hi lo' hi' : Nat} {v : Value} {ss : List ByteArray} (h : Strs w lo hi v ss) (h1 : lo' ≤ lo) (h2 : hi ≤ hi') : Strs w lo' hi' v ss := by
  obtain ⟨A, c, a1, a2, a3, a4, a5⟩ := h
  refine ⟨A, c, a1, a2, a3, a4, fun hp => ?_⟩
  obtain ⟨b, off, e, hl, hh, hc⟩ := a5 hp
  exact ⟨b, off, e, by omega, by omega, hc⟩
theorem Strs.below {w w' : World} {lo hi : Nat} {v : Value} {ss : List ByteArray} (h : Strs w lo hi v ss) {B : Nat} (b : Below B w w') (hB : hi ≤ B) : Strs w' lo hi v ss := h.keep (Keeps.below b hB)
theorem Strs.drewN {w : World} {lo hi : Nat} {v : Value} {ss : List ByteArray} (h : Strs w lo hi v ss) (n : Nat) : Strs (w.drewN n) lo hi v ss := h

/-- a rule, as data -/
structure RuleD where
  head : ByteArray
  body : List ByteArray

/-- a list of rules: two cells each -/
def Rules (w : World) (lo hi : Nat) (v : Value) (rs : List RuleD) : Prop :=
  ∃ A c, v = .slice A rs.length c ∧ rs.length ≤ c ∧ c ≤ maxLen ∧
    (0 < rs.length → ∃ b off, A = some ⟨b, off, none⟩ ∧ lo ≤ b ∧ b < hi ∧ ∀ i (h : i < rs.length), rs[i].head.size ≤ maxLen ∧ w.cell? ⟨b, off + i * 2, none⟩ = some (.string rs[i].head) ∧
      ∃ u, w.cell? ⟨b, off + i * 2 + 1, none⟩ = some u ∧ Strs w lo hi u rs[i].body)
theorem Rules.keep {w w' : World} {lo hi : Nat} {v : Value} {rs : List RuleD} (h : Rules w lo hi v rs) (k : Keeps lo hi w w') : Rules w' lo hi v rs := by
  obtain ⟨A, c, h1, h2, h3, h5⟩ := h
  refine ⟨A, c, h1, h2, h3, fun hp => ?_⟩
  obtain ⟨b, off, e, hl, hh, hc⟩ := h5 hp
  refine ⟨b, off, e, hl, hh, fun i hi => ?_⟩
  obtain ⟨a1, a2, u, a3, a4⟩ := hc i hi
  exact ⟨a1, (k.cell (p := ⟨b, off + i * 2, none⟩) hl hh).trans a2, u, (k.cell (p := ⟨b, off + i * 2 + 1, none⟩) hl hh).trans a3, a4.keep k⟩
theorem Rules.more {w : World} {lo hi lo' hi' : Nat} {v : Value} {rs : List RuleD} (h : Rules w lo hi v rs) (h1 : lo' ≤ lo) (h2 : hi ≤ hi') : Rules w lo' hi' v rs := by
  obtain ⟨A, c, a1, a2, a3, a5⟩ := h
  refine ⟨A, c, a1, a2, a3, fun hp => ?_⟩
  obtain ⟨b, off, e, hl, hh, hc⟩ := a5 hp
  refine ⟨b, off, e, by omega, by omega, fun i hi => ?_⟩
  obtain ⟨a1, a2, u, a3, a4⟩ := hc i hi
  exact ⟨a1, a2, u, a3, a4.more h1 h2⟩
theorem Rules.below {w w' : World} {lo hi : Nat} {v : Value} {rs : List RuleD} (h : Rules w lo hi v rs) {B : Nat} (b : Below B w w') (hB : hi ≤ B) : Rules w' lo hi v rs := h.keep (Keeps.below b hB)

/-- how many values and letters a list of texts holds, and what is left of so many -/
def sizes (ss : List ByteArray) : Nat := (ss.map (·.size)).sum
def bulkS (ss : List ByteArray) : Nat := ss.length + sizes ss
def bulkR (rs : List RuleD) : Nat := rs.length + (rs.map fun r => r.head.size + bulkS r.body).sum
def szOut (left : Int) (n : Nat) : Int := if left < n then -1 else left - n
theorem sizes_nil : sizes [] = 0 := rfl
theorem sizes_snoc (ss : List ByteArray) (s : ByteArray) : sizes (ss ++ [s]) = sizes ss + s.size := by simp [sizes]
theorem sizes_take_le (ss : List ByteArray) (k : Nat) : sizes (ss.take k) ≤ sizes ss := by
  conv => rhs; rw [← List.take_append_drop k ss]
  unfold sizes; rw [List.map_append, List.sum_append]; omega
theorem sizes_take_succ (ss : List ByteArray) (k : Nat) (h : k < ss.length) : sizes (ss.take (k + 1)) = sizes (ss.take k) + ss[k].size := by
  rw [List.take_succ_eq_append_getElem h, sizes_snoc]
theorem sizes_mem {ss : List ByteArray} {s : ByteArray} (h : s ∈ ss) : s.size ≤ sizes ss := by
  obtain ⟨i, hi, rfl⟩ := List.getElem_of_mem h
  have h1 := sizes_take_succ ss i hi
  have h2 := sizes_take_le ss (i + 1)
  omega
def rulesTo (rs : List RuleD) (k : Nat) : Nat := ((rs.take k).map fun r => r.head.size + bulkS r.body).sum
theorem rulesTo_succ (rs : List RuleD) (k : Nat) (h : k < rs.length) : rulesTo rs (k + 1) = rulesTo rs k + (rs[k].head.size + bulkS rs[k].body) := by
  unfold rulesTo; rw [List.take_succ_eq_append_getElem h, List.map_append, List.sum_append]; simp
theorem rulesTo_le (rs : List RuleD) (k : Nat) : rs.length + rulesTo rs k ≤ bulkR rs := by
  unfold bulkR rulesTo
  conv => rhs; rw [← List.take_append_drop k rs]
  rw [List.map_append, List.sum_append]; simp
theorem rulesTo_all (rs : List RuleD) : rs.length + rulesTo rs rs.length = bulkR rs := by unfold bulkR rulesTo; rw [List.take_length]
theorem szOut_neg {left : Int} {n : Nat} (h : left < n) : szOut left n = -1 := by unfold szOut; rw [if_pos h]
theorem szOut_pos {left : Int} {n : Nat} (h : ¬ left < n) : szOut left n = left - n := by unfold szOut; rw [if_neg h]
end Go.Proofs.Ytlgedjpolmlciaa

/- Words for memory that a call has made: a block that is known whole; lists of texts and of rules that nobody shares. No program stands in this text but its types' numbers. -/
namespace Go.Proofs.Ytlgedjpolmlciaa
open Go.RowKit

/-- block g is just these cells of that type, none frozen -/
def Row (w : World) (g : Nat) (t : TypeId) (cur : Array Value) : Prop := w.heap[g]? = some (.cells cur t (0, 0))
section
variable {w w' : World} {g : Nat} {t : TypeId} {cur : Array Value}
theorem Row.lt (h : Row w g t cur) : g < w.heap.size := by
  rcases Nat.lt_or_ge g w.heap.size with h1 | h1
  · exact h1
  · unfold Row at h; rw [Array.getElem?_eq_none h1] at h; cases h
theorem Row.cell (h : Row w g t cur) (i : Nat) : w.cell? ⟨g, i, none⟩ = cur[i]? := cell_of_row w g i cur t (0, 0) h
theorem Row.there (h : Row w g t cur) {i : Nat} (hi : i < cur.size) : ∃ u, w.cell? ⟨g, i, none⟩ = some u := ⟨cur[i], by rw [h.cell]; exact Array.getElem?_eq_getElem _⟩
theorem Row.free (h : Row w g t cur) (i : Nat) : w.frozen? ⟨g, i, none⟩ = false := by unfold Row at h; simp [World.frozen?, h]
theorem Row.made (w : World) (t : TypeId) (cur : Array Value) : Row (w.alloc (.cells cur t)) w.heap.size t cur := by
  show (w.heap.push _)[w.heap.size]? = _
  simp
theorem Row.put (h : Row w g t cur) (i : Nat) (u : Value) : Row (w.setCell ⟨g, i, none⟩ u) g t (cur.setIfInBounds i u) := by
  unfold Row at h ⊢
  simp [World.setCell, Array.getElem?_modify, h]
theorem Row.away (h : Row w g t cur) {p : Addr} (hp : g ≠ p.block) (u : Value) : Row (w.setCell p u) g t cur := (Below.heap_setCell w p u g hp).trans h
theorem Row.same (h : Row w g t cur) (e : w'.heap[g]? = w.heap[g]?) : Row w' g t cur := e.trans h
theorem Row.below {B : Nat} (h : Row w g t cur) (b : Below B w w') (hg : g < B) : Row w' g t cur := (b.block g hg).trans h
theorem Row.apart {g' : Nat} {t' : TypeId} {cur' : Array Value} (h : Row w g t cur) (h' : Row w g' t' cur') (hne : t ≠ t') : g ≠ g' := by
  rintro rfl
  unfold Row at h h'
  rw [h] at h'
  injection h' with h'
  injection h' with _ ht
  exact hne ht
end

theorem Row.alloc {w : World} {g : Nat} {t : TypeId} {cur : Array Value} (h : Row w g t cur) (o : Obj) : Row (w.alloc o) g t cur := (Below.heap_alloc w o g h.lt).trans h
theorem al1 (w : World) (a : Obj) : Below w.heap.size w (w.alloc a) := (Below.refl _ _).alloc (Nat.le_refl _) _
theorem al2 (w : World) (a b : Obj) : Below w.heap.size w ((w.alloc a).alloc b) := (al1 w a).alloc (by simp) _
theorem al3 (w : World) (a b c : Obj) : Below w.heap.size w (((w.alloc a).alloc b).alloc c) := (al2 w a b).alloc (by simp; omega) _
theorem al4 (w : World) (a b c d : Obj) : Below w.heap.size w ((((w.alloc a).alloc b).alloc c).alloc d) := (al3 w a b c).alloc (by simp; omega) _

/-- the texts of a list stand in a block of its own -/
def OwnS (w : World) (g : Nat) (v : Value) (ss : List ByteArray) : Prop :=
  ∃ A c, v = .slice A ss.length c ∧ ss.length ≤ c ∧ c ≤ maxLen ∧ (∀ s ∈ ss, s.size ≤ maxLen) ∧
    (0 < ss.length → ∃ off cur, A = some ⟨g, off, none⟩ ∧ Row w g 9 cur ∧ ∀ i (h : i < ss.length), cur[off + i]? = some (.string ss[i]))
theorem OwnS.keep {w w' : World} {g : Nat} {v : Value} {ss : List ByteArray} (h : OwnS w g v ss) (e : ss ≠ [] → w'.heap[g]? = w.heap[g]?) : OwnS w' g v ss := by
  obtain ⟨A, c, h1, h2, h3, h4, h5⟩ := h
  refine ⟨A, c, h1, h2, h3, h4, fun hp => ?_⟩
  obtain ⟨off, cur, ha, hr, hc⟩ := h5 hp
  exact ⟨off, cur, ha, hr.same (e (by intro h0; subst h0; simp at hp)), hc⟩
theorem OwnS.lt {w : World} {g : Nat} {v : Value} {ss : List ByteArray} (h : OwnS w g v ss) (hn : ss ≠ []) : g < w.heap.size := by
  obtain ⟨A, c, h1, h2, h3, h4, h5⟩ := h
  obtain ⟨off, cur, ha, hr, hc⟩ := h5 (by cases ss with | nil => exact absurd rfl hn | cons a l => simp)
  exact hr.lt
theorem OwnS.strs {w : World} {g lo hi : Nat} {v : Value} {ss : List ByteArray} (h : OwnS w g v ss) (hg : ss ≠ [] → lo ≤ g ∧ g < hi) : Strs w lo hi v ss := by
  obtain ⟨A, c, h1, h2, h3, h4, h5⟩ := h
  refine ⟨A, c, h1, h2, h3, h4, fun hp => ?_⟩
  obtain ⟨off, cur, ha, hr, hc⟩ := h5 hp
  obtain ⟨g1, g2⟩ := hg (by intro h0; subst h0; simp at hp)
  exact ⟨g, off, ha, g1, g2, fun i hi => by rw [hr.cell]; exact hc i hi⟩

/-- the rules of a list stand in a block of its own, and their bodies each in one of theirs -/
def OwnR (w : World) (lo hi : Nat) (v : Value) (rs : List RuleD) : Prop :=
  ∃ A c, v = .slice A rs.length c ∧ rs.length ≤ c ∧ c ≤ maxLen ∧
    (0 < rs.length → ∃ (b : Nat) (cur : Array Value) (G : Nat → Nat), A = some ⟨b, 0, none⟩ ∧ lo ≤ b ∧ b < hi ∧ Row w b 50 cur ∧
      (∀ i (h : i < rs.length), rs[i].head.size ≤ maxLen ∧ cur[i * 2]? = some (.string rs[i].head) ∧ ∃ u, cur[i * 2 + 1]? = some u ∧ OwnS w (G i) u rs[i].body ∧ (rs[i].body ≠ [] → lo ≤ G i ∧ G i < hi)) ∧
      (∀ i j, (hi : i < j) → (hj : j < rs.length) → rs[i].body ≠ [] → rs[j].body ≠ [] → G i ≠ G j))
theorem OwnR.keep {w w' : World} {lo hi : Nat} {v : Value} {rs : List RuleD} (h : OwnR w lo hi v rs) (k : Keeps lo hi w w') : OwnR w' lo hi v rs := by
  obtain ⟨A, c, h1, h2, h3, h5⟩ := h
  refine ⟨A, c, h1, h2, h3, fun hp => ?_⟩
  obtain ⟨b, cur, G, ha, hl, hh, hr, hc, hd⟩ := h5 hp
  refine ⟨b, cur, G, ha, hl, hh, hr.same (k b hl hh), fun i hi => ?_, hd⟩
  obtain ⟨a1, a2, u, a3, a4, a5⟩ := hc i hi
  exact ⟨a1, a2, u, a3, a4.keep (fun hn => k _ (a5 hn).1 (a5 hn).2), a5⟩
theorem OwnR.more {w : World} {lo hi lo' hi' : Nat} {v : Value} {rs : List RuleD} (h : OwnR w lo hi v rs) (g1 : lo' ≤ lo) (g2 : hi ≤ hi') : OwnR w lo' hi' v rs := by
  obtain ⟨A, c, h1, h2, h3, h5⟩ := h
  refine ⟨A, c, h1, h2, h3, fun hp => ?_⟩
  obtain ⟨b, cur, G, ha, hl, hh, hr, hc, hd⟩ := h5 hp
  refine ⟨b, cur, G, ha, by omega, by omega, hr, fun i hi => ?_, hd⟩
  obtain ⟨a1, a2, u, a3, a4, a5⟩ := hc i hi
  exact ⟨a1, a2, u, a3, a4, fun hn => by have := a5 hn; omega⟩
theorem OwnR.rules {w : World} {lo hi : Nat} {v : Value} {rs : List RuleD} (h : OwnR w lo hi v rs) : Rules w lo hi v rs := by
  obtain ⟨A, c, h1, h2, h3, h5⟩ := h
  refine ⟨A, c, h1, h2, h3, fun hp => ?_⟩
  obtain ⟨b, cur, G, ha, hl, hh, hr, hc, hd⟩ := h5 hp
  refine ⟨b, 0, ha, hl, hh, fun i hi => ?_⟩
  obtain ⟨a1, a2, u, a3, a4, a5⟩ := hc i hi
  exact ⟨a1, by rw [Nat.zero_add, hr.cell]; exact a2, u, by rw [Nat.zero_add, hr.cell]; exact a3, a4.strs a5⟩
end Go.Proofs.Ytlgedjpolmlciaa
