/- A list of rules that grows by append, its bodies in blocks of their own. -/
import Derived.Test.YtojmcjcdcneikaaReadR
namespace Go.Proofs.Ytojmcjcdcneikaa
open Go.RowKit
open Tx (bs)

/-- a rule, the value of its body, and the block of that -/
def flatX (xs : List (RuleD × Value × Nat)) : List Value := xs.flatMap fun x => [.string x.1.head, x.2.1]
def Grow (w : World) (base : Nat) (v : Value) (xs : List (RuleD × Value × Nat)) : Prop :=
  w.ownsRow base 56 2 v xs.length (flatX xs) ∧
    (∀ x ∈ xs, OwnS w x.2.2 x.2.1 x.1.body ∧ x.1.head.size ≤ maxLen ∧ (x.1.body ≠ [] → base ≤ x.2.2 ∧ x.2.2 < w.heap.size)) ∧
    xs.Pairwise fun a b => a.1.body ≠ [] → b.1.body ≠ [] → a.2.2 ≠ b.2.2
theorem flatX_snoc (xs : List (RuleD × Value × Nat)) (x : RuleD × Value × Nat) : flatX (xs ++ [x]) = flatX xs ++ [.string x.1.head, x.2.1] := by simp [flatX]
theorem flatX_len (xs : List (RuleD × Value × Nat)) : (flatX xs).length = xs.length * 2 := by
  induction xs with
  | nil => rfl
  | cons x l ih => simp only [flatX, List.flatMap_cons, List.length_append, List.length_cons, List.length_nil] at ih ⊢; omega
theorem flatX_at (xs : List (RuleD × Value × Nat)) (i : Nat) (h : i < xs.length) : (flatX xs)[i * 2]? = some (.string xs[i].1.head) ∧ (flatX xs)[i * 2 + 1]? = some xs[i].2.1 := by
  induction xs generalizing i with
  | nil => simp at h
  | cons x l ih =>
    cases i with
    | zero => exact ⟨rfl, rfl⟩
    | succ i =>
      have := ih i (by simpa using h)
      have e : flatX (x :: l) = .string x.1.head :: x.2.1 :: flatX l := rfl
      rw [e]
      rw [show (i + 1) * 2 = i * 2 + 1 + 1 by omega]
      simpa using this
theorem Grow.nil (w : World) (base : Nat) : Grow w base (.slice none 0 0) [] := ⟨World.ownsRow_nil _ _ _ _, by simp, List.Pairwise.nil⟩
theorem Grow.move {w w' : World} {base : Nat} {v : Value} {xs : List (RuleD × Value × Nat)} (h : Grow w base v xs) (hs : w.heap.size ≤ w'.heap.size)
    (h1 : ∀ g, v.ownBlock = some g → w'.heap[g]? = w.heap[g]?) (h2 : ∀ x ∈ xs, x.1.body ≠ [] → w'.heap[x.2.2]? = w.heap[x.2.2]?) : Grow w' base v xs := by
  obtain ⟨a, b, c⟩ := h
  refine ⟨⟨a.1, ?_⟩, fun x hx => ?_, c⟩
  · rcases a.2 with a2 | ⟨g, cap, cur, rfl, hb, hh, r⟩
    · exact .inl a2
    · exact .inr ⟨g, cap, cur, rfl, hb, (h1 g rfl).trans hh, r⟩
  · obtain ⟨b1, b2, b3⟩ := b x hx
    exact ⟨b1.keep (h2 x hx), b2, fun hn => by have := b3 hn; omega⟩
theorem Grow.below {w w' : World} {base : Nat} {v : Value} {xs : List (RuleD × Value × Nat)} (h : Grow w base v xs) (k : Below w.heap.size w w') : Grow w' base v xs :=
  h.move k.size (fun g hg => k.block g (h.1.lt g hg).2) (fun x hx hn => k.block _ ((h.2.1 x hx).2.2 hn).2)
theorem Grow.away {w : World} {base : Nat} {v : Value} {xs : List (RuleD × Value × Nat)} (h : Grow w base v xs) {p : Addr} {t : TypeId} {cur : Array Value} (hr : Row w p.block t cur) (h1 : t ≠ 56) (h2 : t ≠ 9) (u : Value) : Grow (w.setCell p u) base v xs := by
  refine h.move (by simp [World.setCell]) (fun g hg => Below.heap_setCell _ _ _ _ ?_) (fun x hx hn => Below.heap_setCell _ _ _ _ ?_)
  · rcases h.1.2 with ⟨rfl, _⟩ | ⟨g', cap, c', rfl, _, hh, _⟩
    · simp [Value.ownBlock] at hg
    · have : g' = g := by simpa [Value.ownBlock] using hg
      subst this
      exact fun e => hr.apart (t' := 56) (cur' := c') hh h1 e.symm
  · obtain ⟨A, c, _, _, _, _, p5⟩ := (h.2.1 x hx).1
    obtain ⟨off, cu, _, q1, _⟩ := p5 (List.length_pos_iff.2 hn)
    exact fun e => hr.apart q1 h2 e.symm
theorem Grow.snoc {w w' : World} {base : Nat} {v v' : Value} {xs : List (RuleD × Value × Nat)} {r : RuleD} {u : Value} {g : Nat} (h : Grow w base v xs)
    (ho : w'.ownsRow base 56 2 v' (xs.length + 1) (flatX xs ++ [.string r.head, u])) (hg : w.grownBy w' v.ownBlock) (hr : OwnS w g u r.body) (hh : r.head.size ≤ maxLen)
    (hb : r.body ≠ [] → base ≤ g ∧ g < w.heap.size) (hd : r.body ≠ [] → ∀ x ∈ xs, x.1.body ≠ [] → x.2.2 ≠ g) : Grow w' base v' (xs ++ [(r, u, g)]) := by
  obtain ⟨a, b, c⟩ := h
  have keep : ∀ (g : Nat) (u : Value) (ss : List ByteArray), OwnS w g u ss → ss ≠ [] → w'.heap[g]? = w.heap[g]? := fun g u ss hs hn => by
    refine hg.block g (hs.lt hn) fun e => ?_
    obtain ⟨A, c, _, _, _, _, p5⟩ := hs
    obtain ⟨off, cu, _, q1, _⟩ := p5 (List.length_pos_iff.2 hn)
    rcases a.2 with ⟨rfl, _⟩ | ⟨g', cap, c', rfl, _, hh, _⟩
    · simp [Value.ownBlock] at e
    · have : g = g' := by simpa [Value.ownBlock] using e
      subst this
      exact q1.apart (t' := 56) (cur' := c') hh (by decide) rfl
  refine ⟨?_, fun x hx => ?_, ?_⟩
  · rw [flatX_snoc, List.length_append]; exact ho
  · rw [List.mem_append, List.mem_singleton] at hx
    rcases hx with hx | rfl
    · obtain ⟨b1, b2, b3⟩ := b x hx
      exact ⟨b1.keep fun hn => keep _ _ _ b1 hn, b2, fun hn => by have := b3 hn; have := hg.size; omega⟩
    · exact ⟨hr.keep fun hn => keep _ _ _ hr hn, hh, fun hn => by have := hb hn; have := hg.size; show base ≤ g ∧ g < _; omega⟩
  · rw [List.pairwise_append]
    refine ⟨c, by simp, fun x hx y hy => ?_⟩
    rw [List.mem_singleton] at hy
    subst hy
    exact fun h1 h2 => hd h2 x hx h1
theorem Grow.done {w : World} {base : Nat} {v : Value} {xs : List (RuleD × Value × Nat)} (h : Grow w base v xs) : OwnR w base w.heap.size v (xs.map (·.1)) := by
  obtain ⟨a, b, c⟩ := h
  rcases a.2 with ⟨rfl, h0⟩ | ⟨g, cap, cur, rfl, hb, hh, hc, hm, hs, ht⟩
  · obtain rfl : xs = [] := List.eq_nil_of_length_eq_zero h0
    exact ⟨none, 0, rfl, Nat.le_refl _, by unfold maxLen; omega, fun hp => by simp at hp⟩
  · have hr : Row w g 56 cur := hh
    refine ⟨_, cap, by rw [List.length_map], by rw [List.length_map]; exact hc, hm, fun hp => ?_⟩
    refine ⟨g, cur, fun i => (xs[i]?.map fun x => x.2.2).getD 0, rfl, hb, hr.lt, hr, fun i hi => ?_, fun i j hij hj => ?_⟩
    · rw [List.length_map] at hi
      obtain ⟨b1, b2, b3⟩ := b xs[i] (List.getElem_mem hi)
      obtain ⟨f1, f2⟩ := flatX_at xs i hi
      have cell : ∀ j, j < xs.length * 2 → cur[j]? = (flatX xs)[j]? := fun j hj => by
        rw [← ht, List.getElem?_take_of_lt hj, Array.getElem?_toList]
      simp only [List.getElem_map, List.getElem?_eq_getElem hi, Option.map_some, Option.getD_some]
      exact ⟨b2, by rw [cell _ (by omega)]; exact f1, xs[i].2.1, by rw [cell _ (by omega)]; exact f2, b1, b3⟩
    · rw [List.length_map] at hj
      have hi : i < xs.length := by omega
      simp only [List.getElem_map, List.getElem?_eq_getElem hi, List.getElem?_eq_getElem hj, Option.map_some, Option.getD_some]
      exact List.pairwise_iff_getElem.1 c i j hi hj hij

theorem readAll_snoc {ls : List (List UInt8)} {l : List UInt8} {rs : List RuleD} {r : RuleD} (h : readAll ls = some rs) (hr : readR l = some r) : readAll (ls ++ [l]) = some (rs ++ [r]) := by
  induction ls generalizing rs with
  | nil => unfold readAll at h; injection h with h; subst h; simp [readAll, hr]
  | cons x ls ih =>
    unfold readAll at h
    split at h
    · cases h
    · rename_i a ha
      split at h
      · cases h
      · rename_i b hb
        injection h with h
        subst h
        rw [List.cons_append]
        unfold readAll
        rw [ha, ih hb]
        rfl
theorem readAll_bad {ls : List (List UInt8)} {i : Nat} (h : i < ls.length) (hr : readR ls[i] = none) : readAll ls = none := by
  induction ls generalizing i with
  | nil => simp at h
  | cons x ls ih =>
    unfold readAll
    cases i with
    | zero =>
      simp only [List.getElem_cons_zero] at hr
      rw [hr]
    | succ i =>
      simp only [List.getElem_cons_succ] at hr
      rw [ih (by simpa using h) hr]
      cases readR x <;> rfl
/-- the lines of a text -/
def linesOf (t : ByteArray) : List (List UInt8) := (splitB 10 t.data.toList).dropLast
theorem linesOf_len (t : ByteArray) : (linesOf t).length = (pieces 10 t).length - 1 := by unfold linesOf; rw [List.length_dropLast, pieces_length]
theorem linesOf_at {t : ByteArray} {k : Nat} (h : k < (linesOf t).length) (h' : k < (pieces 10 t).length) : (pieces 10 t)[k].data.toList = (linesOf t)[k] := by
  rw [pieces_at h']
  unfold linesOf at h ⊢
  rw [List.getElem_dropLast, List.getElem?_eq_getElem (by rw [List.length_dropLast] at h; omega)]
  rfl
theorem last_at {t : ByteArray} (h : (pieces 10 t).length - 1 < (pieces 10 t).length) : (pieces 10 t)[(pieces 10 t).length - 1].data.toList = (splitB 10 t.data.toList).getLastD [] := by
  rw [pieces_at h, pieces_length, List.getLastD_eq_getLast?, List.getLast?_eq_getElem?]
theorem parse_last {t : ByteArray} (h : (splitB 10 t.data.toList).getLastD [] ≠ []) : parseT t.data.toList = none := by
  unfold parseT; simp only; rw [if_pos h]
theorem parse_bad {t : ByteArray} (h : readAll (linesOf t) = none) : parseT t.data.toList = none := by
  unfold parseT; simp only
  split
  · rfl
  · unfold linesOf at h; rw [h]
theorem parse_wrong {t : ByteArray} {rs : List RuleD} (h : readAll (linesOf t) = some rs) (hg : gramB rs = false) : parseT t.data.toList = none := by
  unfold parseT; simp only
  split
  · rfl
  · unfold linesOf at h; rw [h]; simp [hg]
theorem parse_right {t : ByteArray} {rs : List RuleD} (hl : (splitB 10 t.data.toList).getLastD [] = []) (h : readAll (linesOf t) = some rs) (hg : gramB rs = true) : parseT t.data.toList = some rs := by
  unfold parseT; simp only
  rw [if_neg (by rw [hl]; simp)]
  unfold linesOf at h; rw [h]; simp [hg]
end Go.Proofs.Ytojmcjcdcneikaa
