import Derived.Test.YtiochjagolijfaaJGmd
import Derived.Test.YtiochjagolijfaaJFixS
/- Which Mades are clean, as data: those of which all comes to tokens alone, and that are reached. No program stands in this text. -/
namespace Go.Proofs.Ytiochjagolijfaa
open Go.RowKit

/-- a head may come to tokens alone by these Mades -/
inductive GoodM (ms : List MadeD) : ByteArray → Prop
  | mk (m : MadeD) (hm : m ∈ ms) (h : ∀ s, s ∈ m.body → tokB s = false → GoodM ms s) : GoodM ms m.head
/-- all heads of a Body may -/
def bodyG (ms : List MadeD) (b : List ByteArray) : Prop := ∀ s, s ∈ b → tokB s = false → GoodM ms s
/-- a head is reached from the start, by Mades of which all may -/
inductive RchM (ms : List MadeD) (start : ByteArray) : ByteArray → Prop
  | start : RchM ms start start
  | step (m : MadeD) (hm : m ∈ ms) (hr : RchM ms start m.head) (hb : bodyG ms m.body) (s : ByteArray) (hs : s ∈ m.body) (ht : tokB s = false) : RchM ms start s
open Classical in
/-- Clean, as data -/
noncomputable def cleanOf (ms : List MadeD) (start : ByteArray) : List MadeD := ms.filter fun m => decide (bodyG ms m.body ∧ RchM ms start m.head)
/-- a list of heads that may, to which none can be added -/
structure GoodL (ms : List MadeD) (ins : List ByteArray) : Prop where
  sound : ∀ h ∈ ins, GoodM ms h
  closed : ∀ m ∈ ms, allB m.body ins true = true → m.head ∈ ins
theorem allB_tok (body ins : List ByteArray) : allB body ins true = true ↔ ∀ s ∈ body, tokB s = false → s ∈ ins := by
  rw [allB_iff]
  simp
theorem GoodL.iff {ms : List MadeD} {ins : List ByteArray} (g : GoodL ms ins) (h : ByteArray) : h ∈ ins ↔ GoodM ms h := by
  refine ⟨g.sound h, fun a => ?_⟩
  induction a with
  | mk m hm _ ih => exact g.closed m hm ((allB_tok _ _).2 ih)
theorem GoodL.body {ms : List MadeD} {ins : List ByteArray} (g : GoodL ms ins) (b : List ByteArray) : allB b ins true = true ↔ bodyG ms b := by
  rw [allB_tok]
  unfold bodyG
  constructor
  · intro h s hs ht; exact (g.iff s).1 (h s hs ht)
  · intro h s hs ht; exact (g.iff s).2 (h s hs ht)
/-- a list of heads that are reached, to which none can be added -/
structure RchL (ms : List MadeD) (start : ByteArray) (rc : List ByteArray) : Prop where
  first : start ∈ rc
  sound : ∀ h ∈ rc, RchM ms start h
  closed : ∀ m ∈ ms, m.head ∈ rc → bodyG ms m.body → ∀ s ∈ m.body, tokB s = false → s ∈ rc
theorem RchL.iff {ms : List MadeD} {start : ByteArray} {rc : List ByteArray} (g : RchL ms start rc) (h : ByteArray) : h ∈ rc ↔ RchM ms start h := by
  refine ⟨g.sound h, fun a => ?_⟩
  induction a with
  | start => exact g.first
  | step m hm _ hb s hs ht ih => exact g.closed m hm ih hb s hs ht
/-- what is asked of each Made in the end -/
theorem clean_ask {ms : List MadeD} {start : ByteArray} {ins rc : List ByteArray} (g : GoodL ms ins) (r : RchL ms start rc) {m : MadeD} (hm : m ∈ ms) :
    (inB ins m.head = true ∧ allB m.body ins true = true ∧ inB rc m.head = true) ↔ (bodyG ms m.body ∧ RchM ms start m.head) := by
  rw [inB_iff, inB_iff, g.body, g.iff, r.iff]
  constructor
  · rintro ⟨_, h2, h3⟩; exact ⟨h2, h3⟩
  · rintro ⟨h2, h3⟩; exact ⟨.mk m hm h2, h2, h3⟩
open Classical in
theorem cleanOf_snoc {ms : List MadeD} {start : ByteArray} (k : Nat) (h : k < ms.length) :
    (ms.take (k + 1)).filter (fun m => decide (bodyG ms m.body ∧ RchM ms start m.head)) = (ms.take k).filter (fun m => decide (bodyG ms m.body ∧ RchM ms start m.head)) ++ (if bodyG ms ms[k].body ∧ RchM ms start ms[k].head then [ms[k]] else []) := by
  rw [List.take_succ_eq_append_getElem h, List.filter_append]
  congr 1
  by_cases q : bodyG ms ms[k].body ∧ RchM ms start ms[k].head
  · rw [if_pos q]; simp [q]
  · rw [if_neg q]; simp [q]
/-- what stands while good heads are gathered: none twice, each a Head of these -/
structure GoodN (ms : List MadeD) (ins : List ByteArray) : Prop where
  sound : ∀ h ∈ ins, GoodM ms h
  nodup : ins.Nodup
  head : ∀ h ∈ ins, h ∈ ms.map (·.head)
theorem GoodN.nil (ms : List MadeD) : GoodN ms [] := ⟨by simp, List.nodup_nil, by simp⟩
theorem nodup_le {α : Type} [DecidableEq α] : ∀ (a b : List α), a.Nodup → (∀ x ∈ a, x ∈ b) → a.length ≤ b.length
  | [], _, _, _ => by simp
  | x :: a, b, hn, hs => by
    have hx := hs x List.mem_cons_self
    obtain ⟨h1, h2⟩ := List.nodup_cons.1 hn
    have := nodup_le a (b.erase x) h2 fun y hy => by
      have hne : y ≠ x := fun e => h1 (e ▸ hy)
      exact (List.mem_erase_of_ne hne).2 (hs y (List.mem_cons_of_mem _ hy))
    rw [List.length_erase_of_mem hx] at this
    have hp : 0 < b.length := List.length_pos_of_mem hx
    simp only [List.length_cons]
    omega
theorem GoodN.len {ms : List MadeD} {ins : List ByteArray} (g : GoodN ms ins) : ins.length ≤ ms.length := by
  have := nodup_le ins (ms.map (·.head)) g.nodup g.head
  rwa [List.length_map] at this
theorem GoodN.more {ms : List MadeD} {ins : List ByteArray} (g : GoodN ms ins) {m : MadeD} (hm : m ∈ ms) (hn : inB ins m.head = false) (hb : allB m.body ins true = true) : GoodN ms (ins ++ [m.head]) where
  sound := fun h hh => by
    rw [List.mem_append, List.mem_singleton] at hh
    rcases hh with hh | rfl
    · exact g.sound h hh
    · exact .mk m hm fun s hs ht => g.sound s ((allB_tok _ _).1 hb s hs ht)
  nodup := by
    rw [List.nodup_append]
    refine ⟨g.nodup, by simp, fun a ha b hb' e => ?_⟩
    rw [List.mem_singleton] at hb'
    subst e hb'
    rw [(inB_iff _ _).2 ha] at hn
    cases hn
  head := fun h hh => by
    rw [List.mem_append, List.mem_singleton] at hh
    rcases hh with hh | rfl
    · exact g.head h hh
    · exact List.mem_map.2 ⟨m, hm, rfl⟩
/-- what stands while reached heads are gathered -/
structure RchN (ms : List MadeD) (start : ByteArray) (rc : List ByteArray) : Prop where
  first : start ∈ rc
  sound : ∀ h ∈ rc, RchM ms start h
  nodup : rc.Nodup
  sub : ∀ h ∈ rc, h = start ∨ ∃ m ∈ ms, h ∈ m.body
theorem RchN.start (ms : List MadeD) (start : ByteArray) : RchN ms start [start] := ⟨by simp, fun h hh => by
  rw [List.mem_singleton] at hh
  subst hh
  exact .start, by simp, fun h hh => .inl (by simpa using hh)⟩
theorem flat_len (ms : List MadeD) : (ms.flatMap (·.body)).length ≤ bulkDs ms := by
  have h : (ms.flatMap (·.body)).length ≤ (ms.map bulkD).sum := by
    induction ms with
    | nil => simp
    | cons m ms ih =>
      have e : bulkD m = m.head.size + (m.body.length + sizes m.body) + sizeMs m.term.kids := rfl
      simp only [List.flatMap_cons, List.length_append, List.map_cons, List.sum_cons]
      omega
  unfold bulkDs
  omega
theorem RchN.len {ms : List MadeD} {start : ByteArray} {rc : List ByteArray} (g : RchN ms start rc) : rc.length ≤ 1 + bulkDs ms := by
  have := nodup_le rc (start :: ms.flatMap (·.body)) g.nodup fun h hh => by
    rcases g.sub h hh with rfl | ⟨m, hm, hb⟩
    · exact List.mem_cons_self
    · exact List.mem_cons_of_mem _ (List.mem_flatMap.2 ⟨m, hm, hb⟩)
  have h2 := flat_len ms
  simp only [List.length_cons] at this
  omega
theorem RchN.more {ms : List MadeD} {start : ByteArray} {rc : List ByteArray} (g : RchN ms start rc) {m : MadeD} (hm : m ∈ ms) (hr : m.head ∈ rc) (hb : bodyG ms m.body) {s : ByteArray} (hs : s ∈ m.body) (ht : tokB s = false) (hn : inB rc s = false) : RchN ms start (rc ++ [s]) where
  first := List.mem_append_left _ g.first
  sound := fun h hh => by
    rw [List.mem_append, List.mem_singleton] at hh
    rcases hh with hh | rfl
    · exact g.sound h hh
    · exact .step m hm (g.sound _ hr) hb _ hs ht
  nodup := by
    rw [List.nodup_append]
    refine ⟨g.nodup, by simp, fun a ha b hb' e => ?_⟩
    rw [List.mem_singleton] at hb'
    subst e hb'
    rw [(inB_iff _ _).2 ha] at hn
    cases hn
  sub := fun h hh => by
    rw [List.mem_append, List.mem_singleton] at hh
    rcases hh with hh | rfl
    · exact g.sub h hh
    · exact .inr ⟨m, hm, hs⟩
/-- what a Made gives that is asked for a head t -/
def DoneM (ms : List MadeD) (rc : List ByteArray) (t : ByteArray) (m : MadeD) : Prop := m.head = t → bodyG ms m.body → ∀ s, s ∈ m.body → tokB s = false → s ∈ rc
theorem DoneM.app {ms : List MadeD} {rc : List ByteArray} {t : ByteArray} {m : MadeD} (h : DoneM ms rc t m) (l : List ByteArray) : DoneM ms (rc ++ l) t m := fun a b s c d => List.mem_append_left _ (h a b s c d)
/-- the first i of the reached heads are done -/
def DoneR (ms : List MadeD) (rc : List ByteArray) (i : Nat) : Prop := ∀ j t, rc[j]? = some t → j < i → ∀ m ∈ ms, DoneM ms rc t m
theorem DoneR.app {ms : List MadeD} {rc : List ByteArray} {i : Nat} (h : DoneR ms rc i) (hi : i ≤ rc.length) (l : List ByteArray) : DoneR ms (rc ++ l) i := fun j t ht hj m hm => by
  rw [List.getElem?_append_left (by omega)] at ht
  exact (h j t ht hj m hm).app l
theorem RchN.done {ms : List MadeD} {start : ByteArray} {rc : List ByteArray} (g : RchN ms start rc) (d : DoneR ms rc rc.length) : RchL ms start rc := ⟨g.first, g.sound, fun m hm hh hb s hs ht => by
  obtain ⟨j, hj, e⟩ := List.mem_iff_getElem.1 hh
  exact d j m.head (by rw [List.getElem?_eq_getElem hj, e]) hj m hm rfl hb s hs ht⟩
end Go.Proofs.Ytiochjagolijfaa

/- A list of Mades that grows by append, what hangs from each in blocks of its own; and how the clean ones gather. No program stands in this text but its types' numbers. -/
namespace Go.Proofs.Ytiochjagolijfaa
open Go.RowKit

structure GcAt (w : World) (base : Nat) (x : Gx) : Prop where
  head : x.m.head.size ≤ maxLen
  top : TopM x.m.term
  body : Strs w x.l x.h x.u x.m.body
  kids : KM true w x.l x.h x.x x.m.term.kids
  ord : base ≤ x.l ∧ x.l ≤ x.h ∧ x.h ≤ w.heap.size
theorem GcAt.keep {w w' : World} {base : Nat} {x : Gx} (a : GcAt w base x) (hs : w.heap.size ≤ w'.heap.size) (k : Keeps x.l x.h w w') : GcAt w' base x where
  head := a.head
  top := a.top
  body := a.body.keep k
  kids := a.kids.keep k
  ord := ⟨a.ord.1, a.ord.2.1, Nat.le_trans a.ord.2.2 hs⟩
structure GrowC (w : World) (base : Nat) (v : Value) (xs : List Gx) : Prop where
  row : w.ownsRow base 67 5 v xs.length (flatD xs)
  each : ∀ x ∈ xs, GcAt w base x
  out : ∀ g, v.ownBlock = some g → ∀ x ∈ xs, g < x.l ∨ x.h ≤ g
theorem GrowC.move {w w' : World} {base : Nat} {v : Value} {xs : List Gx} (a : GrowC w base v xs) (hs : w.heap.size ≤ w'.heap.size)
    (h1 : ∀ g, v.ownBlock = some g → w'.heap[g]? = w.heap[g]?) (h2 : ∀ x ∈ xs, Keeps x.l x.h w w') : GrowC w' base v xs where
  row := by
    refine ⟨a.row.1, ?_⟩
    rcases a.row.2 with a2 | ⟨g, cap, cur, rfl, hb, hh, r⟩
    · exact .inl a2
    · exact .inr ⟨g, cap, cur, rfl, hb, (h1 g rfl).trans hh, r⟩
  each := fun x hx => (a.each x hx).keep hs (h2 x hx)
  out := a.out
theorem GrowC.below {w w' : World} {base : Nat} {v : Value} {xs : List Gx} (a : GrowC w base v xs) (k : Below w.heap.size w w') : GrowC w' base v xs :=
  a.move k.size (fun g hg => k.block g (a.row.lt g hg).2) fun x hx p _ hp => k.block p (by have := (a.each x hx).ord; omega)
theorem GrowC.snoc {w w' : World} {base g cap : Nat} {v : Value} {xs : List Gx} {y : Gx} (a : GrowC w base v xs) (hy : GcAt w base y) (hv : ∀ q, v.ownBlock = some q → q < y.l)
    (ho : w'.ownsRow base 67 5 (.slice (some ⟨g, 0, none⟩) (xs.length + 1) cap) (xs.length + 1) (flatD xs ++ y.cells)) (hg : w.grownBy w' v.ownBlock) (hat : v.ownBlock = some g ∨ g = w.heap.size) :
    GrowC w' base (.slice (some ⟨g, 0, none⟩) (xs.length + 1) cap) (xs ++ [y]) where
  row := by rw [flatD_snoc, List.length_append]; exact ho
  each := fun x hm => by
    rw [List.mem_append, List.mem_singleton] at hm
    rcases hm with hm | rfl
    · refine (a.each x hm).keep hg.size fun p p1 p2 => hg.block p (by have := (a.each x hm).ord; omega) fun e => ?_
      have := a.out p e.symm x hm
      omega
    · refine hy.keep hg.size fun p p1 p2 => hg.block p (by have := hy.ord; omega) fun e => ?_
      have := hv p e.symm
      omega
  out := fun q hq x hm => by
    obtain rfl : g = q := by simpa [Value.ownBlock] using hq
    rw [List.mem_append, List.mem_singleton] at hm
    rcases hat with e | rfl
    · rcases hm with hm | rfl
      · exact a.out _ e x hm
      · exact .inl (hv _ e)
    · rcases hm with hm | rfl
      · exact .inr (a.each x hm).ord.2.2
      · exact .inr hy.ord.2.2
/-- what it reads as -/
theorem GrowC.dm {w : World} {base : Nat} {v : Value} {xs : List Gx} (a : GrowC w base v xs) : DM true w 0 w.heap.size v (xs.map (·.m)) := by
  rcases a.row.2 with ⟨rfl, h0⟩ | ⟨g, cap, cur, rfl, hb, hh, hc, hm, hs, ht⟩
  · obtain rfl : xs = [] := List.eq_nil_of_length_eq_zero h0
    exact ⟨none, 0, rfl, Nat.le_refl _, by unfold maxLen; omega, fun h => by simp at h⟩
  · have hr : Row w g 67 cur := hh
    refine ⟨some ⟨g, 0, none⟩, cap, by simp, by simpa using hc, hm, fun hp => ⟨g, 0, rfl, Nat.zero_le _, hr.lt, fun _ => ⟨_, _, hr⟩, fun i hi => ?_⟩⟩
    have hi' : i < xs.length := by simpa using hi
    have q := a.each xs[i] (List.getElem_mem hi')
    have cell : ∀ j, j < 5 → cur[i * 5 + j]? = xs[i].cells[j]? := fun j hj => by
      rw [← flatD_at xs i j hi' hj, ← ht, List.getElem?_take_of_lt (by omega), Array.getElem?_toList]
    rw [List.getElem_map]
    have c0 := cell 0 (by omega)
    rw [Nat.add_zero] at c0
    refine ⟨q.head, q.top, by rw [Nat.zero_add, hr.cell, c0]; rfl, xs[i].u, xs[i].x, ?_, ?_, ?_, ?_, q.body.more (Nat.zero_le _) q.ord.2.2, q.kids.more (Nat.zero_le _) q.ord.2.2⟩
    · rw [Nat.zero_add, hr.cell, cell 1 (by omega)]; rfl
    · rw [Nat.zero_add, hr.cell, cell 2 (by omega)]; rfl
    · rw [Nat.zero_add, hr.cell, cell 3 (by omega)]; rfl
    · rw [Nat.zero_add, hr.cell, cell 4 (by omega)]; rfl

open Classical in
/-- the clean ones of the first k -/
noncomputable def cleanUp (ms : List MadeD) (start : ByteArray) (k : Nat) : List MadeD := (ms.take k).filter fun m => decide (bodyG ms m.body ∧ RchM ms start m.head)
theorem cleanUp_zero (ms : List MadeD) (start : ByteArray) : cleanUp ms start 0 = [] := by simp [cleanUp]
theorem cleanUp_all (ms : List MadeD) (start : ByteArray) : cleanUp ms start ms.length = cleanOf ms start := by unfold cleanUp cleanOf; rw [List.take_length]
theorem cleanUp_len (ms : List MadeD) (start : ByteArray) (k : Nat) : (cleanUp ms start k).length ≤ k := by
  unfold cleanUp
  exact Nat.le_trans (List.length_filter_le _ _) (by rw [List.length_take]; omega)
theorem cleanUp_no {ms : List MadeD} {start : ByteArray} {ins rc : List ByteArray} (g : GoodL ms ins) (r : RchL ms start rc) {k : Nat} (h : k < ms.length) (n : ¬(inB ins ms[k].head = true ∧ allB ms[k].body ins true = true ∧ inB rc ms[k].head = true)) : cleanUp ms start (k + 1) = cleanUp ms start k := by
  rw [clean_ask g r (List.getElem_mem h)] at n
  unfold cleanUp
  rw [cleanOf_snoc k h, if_neg n, List.append_nil]
theorem cleanUp_yes {ms : List MadeD} {start : ByteArray} {ins rc : List ByteArray} (g : GoodL ms ins) (r : RchL ms start rc) {k : Nat} (h : k < ms.length) (n : inB ins ms[k].head = true ∧ allB ms[k].body ins true = true ∧ inB rc ms[k].head = true) : cleanUp ms start (k + 1) = cleanUp ms start k ++ [ms[k]] := by
  rw [clean_ask g r (List.getElem_mem h)] at n
  unfold cleanUp
  rw [cleanOf_snoc k h, if_pos n]
theorem bulk_mem {ms : List MadeD} {m : MadeD} (h : m ∈ ms) : m.body.length + sizeMs m.term.kids + 1 ≤ bulkDs ms := by
  have e : bulkD m = m.head.size + (m.body.length + sizes m.body) + sizeMs m.term.kids := rfl
  have hp : 0 < ms.length := List.length_pos_of_mem h
  have hs : bulkD m ≤ (ms.map bulkD).sum := by
    clear hp e
    induction ms with
    | nil => cases h
    | cons a l ih =>
      rw [List.map_cons, List.sum_cons]
      rcases List.mem_cons.1 h with rfl | h
      · omega
      · have := ih h; omega
  unfold bulkDs
  omega
end Go.Proofs.Ytiochjagolijfaa
