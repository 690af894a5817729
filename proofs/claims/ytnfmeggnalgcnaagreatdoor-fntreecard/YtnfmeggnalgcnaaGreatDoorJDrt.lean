import Derived.Test.YtnfmeggnalgcnaaGreatDoorJReadR
import Derived.Test.YtnfmeggnalgcnaaGreatDoorJTre
import Derived.Deep.AppendLies
/- A list of rules that grows by append, its bodies in blocks of their own. -/
namespace Go.Proofs.YtnfmeggnalgcnaaGreatDoor
open Go.RowKit
open Tx (bs)

/-- a rule, the value of its body, and the block of that -/
def flatX (xs : List (RuleD × Value × Nat)) : List Value := xs.flatMap fun x => [.string x.1.head, x.2.1]
def Grow (w : World) (base : Nat) (v : Value) (xs : List (RuleD × Value × Nat)) : Prop :=
  w.ownsRow base 45 2 v xs.length (flatX xs) ∧
    (∀ x ∈ xs, OwnS w x.2.2 x.2.1 x.1.body ∧ x.1.head.size ≤ maxLen ∧ (x.1.body ≠ [] → base ≤ x.2.2 ∧ x.2.2 < w.heap.size)) ∧
    xs.Pairwise fun a b => a.1.body ≠ [] → b.1.body ≠ [] → a.2.2 ≠ b.2.2
theorem flatX_snoc (xs : List (RuleD × Value × Nat)) (x : RuleD × Value × Nat) : flatX (xs ++ [x]) = flatX xs ++ [.string x.1.head, x.2.1] := by simp [flatX]
theorem flatX_len (xs : List (RuleD × Value × Nat)) : (flatX xs).length = xs.length * 2 := by
  induction xs with
  | nil => rfl
  | cons x l ih => simp only [flatX, List.flatMap_cons, List.length_append, List.length_cons, List.length_nil] at ih ⊢; omega
theorem flatX_at (xs : List (RuleD × Value × Nat)) (i : Nat) (h : i < xs.length) : (flatX xs)[i * 2]? = some (.string xs[i].1.head) ∧ (flatX xs)[i * 2 + 1]? = some xs[i].2.1 := by
  induction xs generalizing i with
  | nil => simp at h
  | cons x l ih =>
    cases i with
    | zero => exact ⟨rfl, rfl⟩
    | succ i =>
      have := ih i (by simpa using h)
      have e : flatX (x :: l) = .string x.1.head :: x.2.1 :: flatX l := rfl
      rw [e]
      rw [show (i + 1) * 2 = i * 2 + 1 + 1 by omega]
      simpa using this
theorem Grow.nil (w : World) (base : Nat) : Grow w base (.slice none 0 0) [] := ⟨World.ownsRow_nil _ _ _ _, by simp, List.Pairwise.nil⟩
theorem Grow.move {w w' : World} {base : Nat} {v : Value} {xs : List (RuleD × Value × Nat)} (h : Grow w base v xs) (hs : w.heap.size ≤ w'.heap.size)
    (h1 : ∀ g, v.ownBlock = some g → w'.heap[g]? = w.heap[g]?) (h2 : ∀ x ∈ xs, x.1.body ≠ [] → w'.heap[x.2.2]? = w.heap[x.2.2]?) : Grow w' base v xs := by
  obtain ⟨a, b, c⟩ := h
  refine ⟨⟨a.1, ?_⟩, fun x hx => ?_, c⟩
  · rcases a.2 with a2 | ⟨g, cap, cur, rfl, hb, hh, r⟩
    · exact .inl a2
    · exact .inr ⟨g, cap, cur, rfl, hb, (h1 g rfl).trans hh, r⟩
  · obtain ⟨b1, b2, b3⟩ := b x hx
    exact ⟨b1.keep (h2 x hx), b2, fun hn => by have := b3 hn; omega⟩
theorem Grow.below {w w' : World} {base : Nat} {v : Value} {xs : List (RuleD × Value × Nat)} (h : Grow w base v xs) (k : Below w.heap.size w w') : Grow w' base v xs :=
  h.move k.size (fun g hg => k.block g (h.1.lt g hg).2) (fun x hx hn => k.block _ ((h.2.1 x hx).2.2 hn).2)
theorem Grow.away {w : World} {base : Nat} {v : Value} {xs : List (RuleD × Value × Nat)} (h : Grow w base v xs) {p : Addr} {t : TypeId} {cur : Array Value} (hr : Row w p.block t cur) (h1 : t ≠ 45) (h2 : t ≠ 9) (u : Value) : Grow (w.setCell p u) base v xs := by
  refine h.move (by simp [World.setCell]) (fun g hg => Below.heap_setCell _ _ _ _ ?_) (fun x hx hn => Below.heap_setCell _ _ _ _ ?_)
  · rcases h.1.2 with ⟨rfl, _⟩ | ⟨g', cap, c', rfl, _, hh, _⟩
    · simp [Value.ownBlock] at hg
    · have : g' = g := by simpa [Value.ownBlock] using hg
      subst this
      exact fun e => hr.apart (t' := 45) (cur' := c') hh h1 e.symm
  · obtain ⟨A, c, _, _, _, _, p5⟩ := (h.2.1 x hx).1
    obtain ⟨off, cu, _, q1, _⟩ := p5 (List.length_pos_iff.2 hn)
    exact fun e => hr.apart q1 h2 e.symm
theorem Grow.snoc {w w' : World} {base : Nat} {v v' : Value} {xs : List (RuleD × Value × Nat)} {r : RuleD} {u : Value} {g : Nat} (h : Grow w base v xs)
    (ho : w'.ownsRow base 45 2 v' (xs.length + 1) (flatX xs ++ [.string r.head, u])) (hg : w.grownBy w' v.ownBlock) (hr : OwnS w g u r.body) (hh : r.head.size ≤ maxLen)
    (hb : r.body ≠ [] → base ≤ g ∧ g < w.heap.size) (hd : r.body ≠ [] → ∀ x ∈ xs, x.1.body ≠ [] → x.2.2 ≠ g) : Grow w' base v' (xs ++ [(r, u, g)]) := by
  obtain ⟨a, b, c⟩ := h
  have keep : ∀ (g : Nat) (u : Value) (ss : List ByteArray), OwnS w g u ss → ss ≠ [] → w'.heap[g]? = w.heap[g]? := fun g u ss hs hn => by
    refine hg.block g (hs.lt hn) fun e => ?_
    obtain ⟨A, c, _, _, _, _, p5⟩ := hs
    obtain ⟨off, cu, _, q1, _⟩ := p5 (List.length_pos_iff.2 hn)
    rcases a.2 with ⟨rfl, _⟩ | ⟨g', cap, c', rfl, _, hh, _⟩
    · simp [Value.ownBlock] at e
    · have : g = g' := by simpa [Value.ownBlock] using e
      subst this
      exact q1.apart (t' := 45) (cur' := c') hh (by decide) rfl
  refine ⟨?_, fun x hx => ?_, ?_⟩
  · rw [flatX_snoc, List.length_append]; exact ho
  · rw [List.mem_append, List.mem_singleton] at hx
    rcases hx with hx | rfl
    · obtain ⟨b1, b2, b3⟩ := b x hx
      exact ⟨b1.keep fun hn => keep _ _ _ b1 hn, b2, fun hn => by have := b3 hn; have := hg.size; omega⟩
    · exact ⟨hr.keep fun hn => keep _ _ _ hr hn, hh, fun hn => by have := hb hn; have := hg.size; show base ≤ g ∧ g < _; omega⟩
  · rw [List.pairwise_append]
    refine ⟨c, by simp, fun x hx y hy => ?_⟩
    rw [List.mem_singleton] at hy
    subst hy
    exact fun h1 h2 => hd h2 x hx h1
theorem Grow.done {w : World} {base : Nat} {v : Value} {xs : List (RuleD × Value × Nat)} (h : Grow w base v xs) : OwnR w base w.heap.size v (xs.map (·.1)) := by
  obtain ⟨a, b, c⟩ := h
  rcases a.2 with ⟨rfl, h0⟩ | ⟨g, cap, cur, rfl, hb, hh, hc, hm, hs, ht⟩
  · obtain rfl : xs = [] := List.eq_nil_of_length_eq_zero h0
    exact ⟨none, 0, rfl, Nat.le_refl _, by unfold maxLen; omega, fun hp => by simp at hp⟩
  · have hr : Row w g 45 cur := hh
    refine ⟨_, cap, by rw [List.length_map], by rw [List.length_map]; exact hc, hm, fun hp => ?_⟩
    refine ⟨g, cur, fun i => (xs[i]?.map fun x => x.2.2).getD 0, rfl, hb, hr.lt, hr, fun i hi => ?_, fun i j hij hj => ?_⟩
    · rw [List.length_map] at hi
      obtain ⟨b1, b2, b3⟩ := b xs[i] (List.getElem_mem hi)
      obtain ⟨f1, f2⟩ := flatX_at xs i hi
      have cell : ∀ j, j < xs.length * 2 → cur[j]? = (flatX xs)[j]? := fun j hj => by
        rw [← ht, List.getElem?_take_of_lt hj, Array.getElem?_toList]
      simp only [List.getElem_map, List.getElem?_eq_getElem hi, Option.map_some, Option.getD_some]
      exact ⟨b2, by rw [cell _ (by omega)]; exact f1, xs[i].2.1, by rw [cell _ (by omega)]; exact f2, b1, b3⟩
    · rw [List.length_map] at hj
      have hi : i < xs.length := by omega
      simp only [List.getElem_map, List.getElem?_eq_getElem hi, List.getElem?_eq_getElem hj, Option.map_some, Option.getD_some]
      exact List.pairwise_iff_getElem.1 c i j hi hj hij

theorem readAll_snoc {ls : List (List UInt8)} {l : List UInt8} {rs : List RuleD} {r : RuleD} (h : readAll ls = some rs) (hr : readR l = some r) : readAll (ls ++ [l]) = some (rs ++ [r]) := by
  induction ls generalizing rs with
  | nil => unfold readAll at h; injection h with h; subst h; simp [readAll, hr]
  | cons x ls ih =>
    unfold readAll at h
    split at h
    · cases h
    · rename_i a ha
      split at h
      · cases h
      · rename_i b hb
        injection h with h
        subst h
        rw [List.cons_append]
        unfold readAll
        rw [ha, ih hb]
        rfl
theorem readAll_bad {ls : List (List UInt8)} {i : Nat} (h : i < ls.length) (hr : readR ls[i] = none) : readAll ls = none := by
  induction ls generalizing i with
  | nil => simp at h
  | cons x ls ih =>
    unfold readAll
    cases i with
    | zero =>
      simp only [List.getElem_cons_zero] at hr
      rw [hr]
    | succ i =>
      simp only [List.getElem_cons_succ] at hr
      rw [ih (by simpa using h) hr]
      cases readR x <;> rfl
/-- the lines of a text -/
def linesOf (t : ByteArray) : List (List UInt8) := (splitB 10 t.data.toList).dropLast
theorem linesOf_len (t : ByteArray) : (linesOf t).length = (pieces 10 t).length - 1 := by unfold linesOf; rw [List.length_dropLast, pieces_length]
theorem linesOf_at {t : ByteArray} {k : Nat} (h : k < (linesOf t).length) (h' : k < (pieces 10 t).length) : (pieces 10 t)[k].data.toList = (linesOf t)[k] := by
  rw [pieces_at h']
  unfold linesOf at h ⊢
  rw [List.getElem_dropLast, List.getElem?_eq_getElem (by rw [List.length_dropLast] at h; omega)]
  rfl
theorem last_at {t : ByteArray} (h : (pieces 10 t).length - 1 < (pieces 10 t).length) : (pieces 10 t)[(pieces 10 t).length - 1].data.toList = (splitB 10 t.data.toList).getLastD [] := by
  rw [pieces_at h, pieces_length, List.getLastD_eq_getLast?, List.getLast?_eq_getElem?]
theorem parse_last {t : ByteArray} (h : (splitB 10 t.data.toList).getLastD [] ≠ []) : parseT t.data.toList = none := by
  unfold parseT; simp only; rw [if_pos h]
theorem parse_bad {t : ByteArray} (h : readAll (linesOf t) = none) : parseT t.data.toList = none := by
  unfold parseT; simp only
  split
  · rfl
  · unfold linesOf at h; rw [h]
theorem parse_wrong {t : ByteArray} {rs : List RuleD} (h : readAll (linesOf t) = some rs) (hg : gramB rs = false) : parseT t.data.toList = none := by
  unfold parseT; simp only
  split
  · rfl
  · unfold linesOf at h; rw [h]; simp [hg]
theorem parse_right {t : ByteArray} {rs : List RuleD} (hl : (splitB 10 t.data.toList).getLastD [] = []) (h : readAll (linesOf t) = some rs) (hg : gramB rs = true) : parseT t.data.toList = some rs := by
  unfold parseT; simp only
  rw [if_neg (by rw [hl]; simp)]
  unfold linesOf at h; rw [h]; simp [hg]
end Go.Proofs.YtnfmeggnalgcnaaGreatDoor

/- A list of rules that grows, and whose bodies can be grown, too. -/
namespace Go.Proofs.YtnfmeggnalgcnaaGreatDoor
open Go.RowKit

theorem Sts.same {w w' : World} {base : Nat} {v : Value} {ss : List ByteArray} (h : Sts w base v ss) (e : ∀ g, v.ownBlock = some g → w'.heap[g]? = w.heap[g]?) : Sts w' base v ss := by
  refine ⟨h.1, ?_⟩
  rcases h.2 with hn | ⟨g, cap, cur, rfl, hb, hh, r⟩
  · exact .inl hn
  · exact .inr ⟨g, cap, cur, rfl, hb, (e g rfl).trans hh, r⟩
theorem Sts.lower {w : World} {base base' : Nat} {v : Value} {ss : List ByteArray} (h : Sts w base v ss) (hb : base' ≤ base) : Sts w base' v ss := by
  refine ⟨h.1, ?_⟩
  rcases h.2 with hn | ⟨g, cap, cur, rfl, hg, r⟩
  · exact .inl hn
  · exact .inr ⟨g, cap, cur, rfl, by omega, r⟩
theorem OwnS.block {w : World} {g : Nat} {v : Value} {ss : List ByteArray} (h : OwnS w g v ss) (hn : ss ≠ []) : v.ownBlock = some g := by
  obtain ⟨A, c, rfl, _, _, _, p5⟩ := h
  obtain ⟨off, cu, rfl, _, _⟩ := p5 (List.length_pos_iff.2 hn)
  rfl
theorem body_far {w w' : World} {base g n : Nat} {v u : Value} {ss : List ByteArray} {ys : List Value} (hs : OwnS w g u ss) (hn : ss ≠ []) (ho : w.ownsRow base 45 2 v n ys) (hg : w.grownBy w' v.ownBlock) : w'.heap[g]? = w.heap[g]? := by
  refine hg.block g (hs.lt hn) fun e => ?_
  obtain ⟨A, c, _, _, _, _, p5⟩ := hs
  obtain ⟨off, cu, _, q1, _⟩ := p5 (List.length_pos_iff.2 hn)
  rcases ho.2 with ⟨rfl, _⟩ | ⟨g', cap, c', rfl, _, hh, _⟩
  · simp [Value.ownBlock] at e
  · have : g = g' := by simpa [Value.ownBlock] using e
    subst this
    exact q1.apart (t' := 45) (cur' := c') hh (by decide) rfl

def Full (w : World) (base : Nat) (v : Value) (xs : List (RuleD × Value × Nat)) : Prop :=
  w.ownsRow base 45 2 v xs.length (flatX xs) ∧
    (∀ x ∈ xs, OwnS w x.2.2 x.2.1 x.1.body ∧ x.1.head.size ≤ maxLen ∧ (x.1.body ≠ [] → base ≤ x.2.2 ∧ x.2.2 < w.heap.size)) ∧
    (xs.Pairwise fun a b => a.1.body ≠ [] → b.1.body ≠ [] → a.2.2 ≠ b.2.2) ∧
    ∀ x ∈ xs, x.1.body ≠ [] → Sts w base x.2.1 x.1.body
theorem Full.grow {w : World} {base : Nat} {v : Value} {xs : List (RuleD × Value × Nat)} (h : Full w base v xs) : Grow w base v xs := ⟨h.1, h.2.1, h.2.2.1⟩
theorem Full.on {w w' : World} {base : Nat} {v : Value} {xs : List (RuleD × Value × Nat)} (h : Full w base v xs) (g : Grow w' base v xs) (h2 : ∀ x ∈ xs, x.1.body ≠ [] → w'.heap[x.2.2]? = w.heap[x.2.2]?) : Full w' base v xs :=
  ⟨g.1, g.2.1, g.2.2, fun x hx hn => (h.2.2.2 x hx hn).same fun q hq => by
    have := ((h.2.1 x hx).1.block hn).symm.trans hq
    injection this with this
    subst this
    exact h2 x hx hn⟩
theorem Full.nil (w : World) (base : Nat) : Full w base (.slice none 0 0) [] := ⟨World.ownsRow_nil _ _ _ _, by simp, List.Pairwise.nil, by simp⟩
theorem Full.move {w w' : World} {base : Nat} {v : Value} {xs : List (RuleD × Value × Nat)} (h : Full w base v xs) (hs : w.heap.size ≤ w'.heap.size)
    (h1 : ∀ g, v.ownBlock = some g → w'.heap[g]? = w.heap[g]?) (h2 : ∀ x ∈ xs, x.1.body ≠ [] → w'.heap[x.2.2]? = w.heap[x.2.2]?) : Full w' base v xs := h.on (h.grow.move hs h1 h2) h2
theorem Full.below {w w' : World} {base : Nat} {v : Value} {xs : List (RuleD × Value × Nat)} (h : Full w base v xs) (k : Below w.heap.size w w') : Full w' base v xs :=
  h.move k.size (fun g hg => k.block g (h.1.lt g hg).2) (fun x hx hn => k.block _ ((h.2.1 x hx).2.2 hn).2)
theorem Full.away {w : World} {base : Nat} {v : Value} {xs : List (RuleD × Value × Nat)} (h : Full w base v xs) {p : Addr} {t : TypeId} {cur : Array Value} (hr : Row w p.block t cur) (h1 : t ≠ 45) (h2 : t ≠ 9) (u : Value) : Full (w.setCell p u) base v xs :=
  h.on (h.grow.away hr h1 h2 u) fun x hx hn => Below.heap_setCell _ _ _ _ (by
    obtain ⟨A, c, _, _, _, _, p5⟩ := (h.2.1 x hx).1
    obtain ⟨off, cu, _, q1, _⟩ := p5 (List.length_pos_iff.2 hn)
    exact fun e => hr.apart q1 h2 e.symm)
theorem Full.snoc {w w' : World} {base : Nat} {v v' : Value} {xs : List (RuleD × Value × Nat)} {r : RuleD} {u : Value} {g : Nat} (h : Full w base v xs)
    (ho : w'.ownsRow base 45 2 v' (xs.length + 1) (flatX xs ++ [.string r.head, u])) (hg : w.grownBy w' v.ownBlock) (hr : OwnS w g u r.body) (hh : r.head.size ≤ maxLen)
    (hb : r.body ≠ [] → base ≤ g ∧ g < w.heap.size) (hd : r.body ≠ [] → ∀ x ∈ xs, x.1.body ≠ [] → x.2.2 ≠ g) (hs : r.body ≠ [] → Sts w base u r.body) : Full w' base v' (xs ++ [(r, u, g)]) := by
  obtain ⟨a, b, c⟩ := h.grow.snoc ho hg hr hh hb hd
  refine ⟨a, b, c, fun x hx hn => ?_⟩
  rw [List.mem_append, List.mem_singleton] at hx
  rcases hx with hx | rfl
  · refine (h.2.2.2 x hx hn).same fun q hq => ?_
    have := ((h.2.1 x hx).1.block hn).symm.trans hq
    injection this with this
    subst this
    exact body_far (h.2.1 x hx).1 hn h.1 hg
  · refine (hs hn).same fun q hq => ?_
    have := (hr.block hn).symm.trans hq
    injection this with this
    subst this
    exact body_far hr hn h.1 hg
theorem Full.done {w : World} {base : Nat} {v : Value} {xs : List (RuleD × Value × Nat)} (h : Full w base v xs) : OwnR w base w.heap.size v (xs.map (·.1)) := h.grow.done
theorem Full.put {w : World} {base : Nat} {v : Value} {xs : List (RuleD × Value × Nat)} (h : Full w base v xs) {p : Addr} (hp : p.block < base) (u : Value) : Full (w.setCell p u) base v xs :=
  h.move (by simp [World.setCell]) (fun g hg => Below.heap_setCell _ _ _ _ (by have := (h.1.lt g hg).1; omega)) (fun x hx hn => Below.heap_setCell _ _ _ _ (by have := ((h.2.1 x hx).2.2 hn).1; omega))
theorem Full.lower {w : World} {base base' : Nat} {v : Value} {xs : List (RuleD × Value × Nat)} (h : Full w base v xs) (hb : base' ≤ base) : Full w base' v xs := by
  obtain ⟨a, b, c, d⟩ := h
  refine ⟨⟨a.1, ?_⟩, fun x hx => ?_, c, fun x hx hn => (d x hx hn).lower hb⟩
  · rcases a.2 with a2 | ⟨g, cap, cur, rfl, hg, r⟩
    · exact .inl a2
    · exact .inr ⟨g, cap, cur, rfl, by omega, r⟩
  · obtain ⟨b1, b2, b3⟩ := b x hx
    exact ⟨b1, b2, fun hn => by have := b3 hn; omega⟩
/-- a grammar and a code that a call has made; the list and its bodies can be grown -/
def MadeF (w : World) (o : List RuleD × Int) (e : Ending) (w' : World) : Prop := ∃ v xs, e = .returned (.agg #[v, .int .i64 o.2]) ∧ xs.map (·.1) = o.1 ∧ Full w' w.heap.size v xs ∧ Below w.heap.size w w'
end Go.Proofs.YtnfmeggnalgcnaaGreatDoor

/- Trees that a draw makes: a list of Kids that can be grown. No program stands in this text but its types' numbers. -/
namespace Go.Proofs.YtnfmeggnalgcnaaGreatDoor
open Go.RowKit

/-- how many letters and parts are in a drawn tree at most, by its depth, if nodes have at most five Kids and tokens four letters -/
def bulkM : Nat → Nat
  | 0 => 4
  | d + 1 => 5 + 5 * bulkM d
theorem bulkM_pos (d : Nat) : 4 ≤ bulkM d := by cases d <;> simp [bulkM]; omega
theorem bulkM_le (d : Nat) : bulkM d ≤ bulkM (d + 1) := by simp only [bulkM]; omega
/-- the cells of trees, the value of the Kids of each given -/
def flatT (xs : List (TreeD × Value)) : List Value := xs.flatMap fun x => [.int .i64 x.1.rule, .string x.1.tok, x.2]
theorem flatT_snoc (xs : List (TreeD × Value)) (x : TreeD × Value) : flatT (xs ++ [x]) = flatT xs ++ [.int .i64 x.1.rule, .string x.1.tok, x.2] := by simp [flatT]
theorem flatT_len (xs : List (TreeD × Value)) : (flatT xs).length = xs.length * 3 := by
  induction xs with
  | nil => rfl
  | cons x l ih => simp only [flatT, List.flatMap_cons, List.length_append, List.length_cons, List.length_nil] at ih ⊢; omega
theorem flatT_at (xs : List (TreeD × Value)) (i : Nat) (h : i < xs.length) : (flatT xs)[i * 3]? = some (.int .i64 xs[i].1.rule) ∧ (flatT xs)[i * 3 + 1]? = some (.string xs[i].1.tok) ∧ (flatT xs)[i * 3 + 2]? = some xs[i].2 := by
  induction xs generalizing i with
  | nil => simp at h
  | cons x l ih =>
    cases i with
    | zero => exact ⟨rfl, rfl, rfl⟩
    | succ i =>
      have := ih i (by simpa using h)
      have e : flatT (x :: l) = .int .i64 x.1.rule :: .string x.1.tok :: x.2 :: flatT l := rfl
      rw [e]
      rw [show (i + 1) * 3 = i * 3 + 1 + 1 + 1 by omega]
      simpa using this
/-- a list of trees that stands also if block g turns -/
def Far (w : World) (g lo hi : Nat) (v : Value) (ts : List TreeD) : Prop := ∀ w' : World, (∀ k, lo ≤ k → k < hi → k ≠ g → w'.heap[k]? = w.heap[k]?) → Kd true w' lo hi v ts
theorem Far.kd {w : World} {g lo hi : Nat} {v : Value} {ts : List TreeD} (h : Far w g lo hi v ts) : Kd true w lo hi v ts := h w fun _ _ _ _ => rfl
/-- a list of Kids that can be grown: its block is none of those of the trees within -/
def KidsX (w : World) (base : Nat) (v : Value) (xs : List (TreeD × Value)) : Prop :=
  w.ownsRow base 29 3 v xs.length (flatT xs) ∧ ∀ x ∈ xs, TopOk x.1 ∧ ∀ g, v.ownBlock = some g → Far w g base w.heap.size x.2 x.1.kids
def KidsR (w : World) (base : Nat) (v : Value) (ts : List TreeD) : Prop := ∃ xs : List (TreeD × Value), xs.map (·.1) = ts ∧ KidsX w base v xs
theorem KidsX.nil (w : World) (base : Nat) : KidsX w base (.slice none 0 0) [] := ⟨World.ownsRow_nil _ _ _ _, by simp⟩
theorem KidsR.nil (w : World) (base : Nat) : KidsR w base (.slice none 0 0) [] := ⟨[], rfl, KidsX.nil w base⟩
theorem KidsX.kd {w : World} {base : Nat} {v : Value} {xs : List (TreeD × Value)} (h : KidsX w base v xs) : Kd true w base w.heap.size v (xs.map (·.1)) := by
  obtain ⟨⟨_, a⟩, b⟩ := h
  rcases a with ⟨rfl, hn⟩ | ⟨g, cap, cur, rfl, hb, hh, hn, hm, hs, ht⟩
  · have : xs = [] := List.length_eq_zero_iff.1 hn
    subst this
    exact .mk none 0 [] (fun _ => .slice none 0 0) (Nat.le_refl _) (by unfold maxLen; omega) (fun i h => by simp at h) (fun h => by simp at h) (fun i h => by simp at h)
  · have key : ∀ i (hi : i < xs.length), w.cell? ⟨g, 0 + i * 3, none⟩ = some (.int .i64 xs[i].1.rule) ∧ w.cell? ⟨g, 0 + i * 3 + 1, none⟩ = some (.string xs[i].1.tok) ∧ w.cell? ⟨g, 0 + i * 3 + 2, none⟩ = some xs[i].2 := fun i hi => by
      obtain ⟨f1, f2, f3⟩ := flatT_at xs i hi
      have e : ∀ j, j < xs.length * 3 → w.cell? ⟨g, j, none⟩ = (flatT xs)[j]? := fun j hj => by
        rw [cell_of_row w g j cur 29 (0, 0) hh, ← ht, List.getElem?_take_of_lt hj]
        simp
      exact ⟨by rw [Nat.zero_add, e _ (by omega)]; exact f1, by rw [Nat.zero_add, e _ (by omega)]; exact f2, by rw [Nat.zero_add, e _ (by omega)]; exact f3⟩
    have hgl : g < w.heap.size := by
      rcases Nat.lt_or_ge g w.heap.size with h | h
      · exact h
      · rw [Array.getElem?_eq_none h] at hh; cases hh
    have e : (.slice (some ⟨g, 0, none⟩) xs.length cap : Value) = .slice (some ⟨g, 0, none⟩) (xs.map (·.1)).length cap := by simp
    rw [e]
    refine .mk _ cap _ (fun i => if h : i < xs.length then xs[i].2 else .slice none 0 0) (by simpa using hn) hm (fun i hi => ?_) (fun _ => ⟨g, 0, rfl, hb, hgl, (fun _ => ⟨cur, _, hh⟩), fun i hi => ?_⟩) (fun i hi => ?_)
    · have hi' : i < xs.length := by simpa using hi
      have := (b _ (List.getElem_mem hi')).1
      simpa [TopOk] using this
    · have hi' : i < xs.length := by simpa using hi
      simpa [hi'] using key i hi'
    · have hi' : i < xs.length := by simpa using hi
      have := ((b _ (List.getElem_mem hi')).2 g rfl).kd
      simpa [hi'] using this
theorem KidsR.kd {w : World} {base : Nat} {v : Value} {ts : List TreeD} (h : KidsR w base v ts) : Kd true w base w.heap.size v ts := by
  obtain ⟨xs, rfl, h⟩ := h
  exact h.kd
theorem KidsX.move {w w' : World} {base : Nat} {v : Value} {xs : List (TreeD × Value)} (h : KidsX w base v xs) (hs : w.heap.size ≤ w'.heap.size) (e : ∀ k, base ≤ k → k < w.heap.size → w'.heap[k]? = w.heap[k]?) : KidsX w' base v xs := by
  obtain ⟨a, b⟩ := h
  refine ⟨⟨a.1, ?_⟩, fun x hx => ⟨(b x hx).1, fun g hg w2 e2 => ((b x hx).2 g hg w2 fun k h1 h2 h3 => (e2 k h1 (by omega) h3).trans (e k h1 h2)).more (Nat.le_refl _) hs⟩⟩
  rcases a.2 with a2 | ⟨g, cap, cur, rfl, hb, hh, r⟩
  · exact .inl a2
  · have hgl : g < w.heap.size := by
      rcases Nat.lt_or_ge g w.heap.size with h | h
      · exact h
      · rw [Array.getElem?_eq_none h] at hh; cases hh
    exact .inr ⟨g, cap, cur, rfl, hb, (e g hb hgl).trans hh, r⟩
theorem KidsR.move {w w' : World} {base : Nat} {v : Value} {ts : List TreeD} (h : KidsR w base v ts) (hs : w.heap.size ≤ w'.heap.size) (e : ∀ k, base ≤ k → k < w.heap.size → w'.heap[k]? = w.heap[k]?) : KidsR w' base v ts := by
  obtain ⟨xs, h1, h⟩ := h
  exact ⟨xs, h1, h.move hs e⟩
theorem KidsX.below {w w' : World} {base : Nat} {v : Value} {xs : List (TreeD × Value)} (h : KidsX w base v xs) (b : Below w.heap.size w w') : KidsX w' base v xs := h.move b.size fun k _ h2 => b.block k h2
theorem KidsR.below {w w' : World} {base : Nat} {v : Value} {ts : List TreeD} (h : KidsR w base v ts) (b : Below w.heap.size w w') : KidsR w' base v ts := h.move b.size fun k _ h2 => b.block k h2
theorem KidsX.lower {w : World} {base base' : Nat} {v : Value} {xs : List (TreeD × Value)} (h : KidsX w base v xs) (hb : base' ≤ base) : KidsX w base' v xs := by
  obtain ⟨a, b⟩ := h
  refine ⟨⟨a.1, ?_⟩, fun x hx => ⟨(b x hx).1, fun g hg w2 e2 => ((b x hx).2 g hg w2 fun k h1 h2 h3 => e2 k (by omega) h2 h3).more hb (Nat.le_refl _)⟩⟩
  rcases a.2 with a2 | ⟨g, cap, cur, rfl, hg, r⟩
  · exact .inl a2
  · exact .inr ⟨g, cap, cur, rfl, by omega, r⟩
theorem KidsR.lower {w : World} {base base' : Nat} {v : Value} {ts : List TreeD} (h : KidsR w base v ts) (hb : base' ≤ base) : KidsR w base' v ts := by
  obtain ⟨xs, h1, h⟩ := h
  exact ⟨xs, h1, h.lower hb⟩
/-- one tree more: the list stands in the block where it stood, or in a new one -/
theorem KidsX.push {w w' : World} {base lo hi g' cap : Nat} {v u : Value} {xs : List (TreeD × Value)} {x : TreeD} (h : KidsX w base v xs) (ht : TopOk x) (hk : Kd true w lo hi u x.kids) (h1 : base ≤ lo) (h2 : hi ≤ w.heap.size)
    (h3 : ∀ g, v.ownBlock = some g → g < lo ∨ hi ≤ g) (ho : w'.ownsRow base 29 3 (.slice (some ⟨g', 0, none⟩) (xs.length + 1) cap) (xs.length + 1) (flatT xs ++ [.int .i64 x.rule, .string x.tok, u]))
    (hg : w.grownBy w' v.ownBlock) (hl : v.ownBlock = some g' ∨ g' = w.heap.size) : KidsX w' base (.slice (some ⟨g', 0, none⟩) (xs.length + 1) cap) (xs ++ [(x, u)]) := by
  obtain ⟨a, b⟩ := h
  refine ⟨by rw [flatT_snoc, List.length_append]; exact ho, fun y hy => ?_⟩
  rw [List.mem_append, List.mem_singleton] at hy
  have hgs := hg.size
  rcases hy with hy | rfl
  · refine ⟨(b y hy).1, fun g0 e0 w2 e2 => ?_⟩
    have e0 : g' = g0 := by simpa [Value.ownBlock] using e0
    subst e0
    rcases a.2 with ⟨rfl, hn⟩ | ⟨g, cap', cur, rfl, hb, hh, r⟩
    · have : xs = [] := List.length_eq_zero_iff.1 hn
      subst this
      simp at hy
    · refine ((b y hy).2 g rfl w2 fun k k1 k2 k3 => ?_).more (Nat.le_refl _) hgs
      have hne : k ≠ g' := by
        rcases hl with hl | hl
        · have : g = g' := by simpa [Value.ownBlock] using hl
          omega
        · omega
      exact (e2 k k1 (by omega) hne).trans (hg.block k k2 (fun e => k3 (by simpa [Value.ownBlock] using e)))
  · refine ⟨ht, fun g0 e0 w2 e2 => ?_⟩
    have e0 : g' = g0 := by simpa [Value.ownBlock] using e0
    subst e0
    refine (hk.keep fun k k1 k2 => ?_).more h1 (Nat.le_trans h2 hgs)
    have hne : k ≠ g' := by
      rcases hl with hl | hl
      · have := h3 _ hl; omega
      · omega
    refine (e2 k (by omega) (by omega) hne).trans (hg.block k (by omega) fun e => ?_)
    have := h3 _ e.symm; omega
theorem KidsX.own {w : World} {base g : Nat} {v : Value} {xs : List (TreeD × Value)} (h : KidsX w base v xs) (e : v.ownBlock = some g) : base ≤ g ∧ g < w.heap.size := World.ownsRow.lt h.1 g e
theorem KidsX.shape {w : World} {base : Nat} {v : Value} {xs : List (TreeD × Value)} (h : KidsX w base v xs) : ∃ A d, v = .slice A xs.length d := by
  rcases h.1.2 with ⟨rfl, h0⟩ | ⟨g, cap, cur, rfl, _⟩
  · exact ⟨none, 0, by rw [h0]⟩
  · exact ⟨_, _, rfl⟩
theorem KidsR.shape {w : World} {base : Nat} {v : Value} {ts : List TreeD} (h : KidsR w base v ts) : ∃ A d, v = .slice A ts.length d := by
  obtain ⟨xs, rfl, h⟩ := h
  obtain ⟨A, d, e⟩ := h.shape
  exact ⟨A, d, by rw [e, List.length_map]⟩
end Go.Proofs.YtnfmeggnalgcnaaGreatDoor
