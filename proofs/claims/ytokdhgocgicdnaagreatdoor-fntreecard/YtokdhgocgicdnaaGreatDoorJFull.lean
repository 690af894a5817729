import Derived.Test.YtokdhgocgicdnaaGreatDoorJTextS
/- The program's readRule. -/
namespace Go.Proofs.YtokdhgocgicdnaaGreatDoor
open Go.RowKit
open Tx (bs)

theorem piece_size {m : UInt8} {t : ByteArray} {s : ByteArray} (h : s ∈ pieces m t) : s.size ≤ t.size := by
  have key : ∀ (l cur : List UInt8) (x : List UInt8), x ∈ splitGo m cur l → x.length ≤ cur.length + l.length := by
    intro l
    induction l with
    | nil => intro cur x hx; simp [splitGo] at hx; subst hx; simp
    | cons c l ih =>
      intro cur x hx
      unfold splitGo at hx
      split at hx
      · rw [List.mem_cons] at hx
        rcases hx with rfl | hx
        · simp
        · have := ih [] x hx; simp at this ⊢; omega
      · have := ih (cur ++ [c]) x hx; simp at this ⊢; omega
  unfold pieces at h
  obtain ⟨x, hx, rfl⟩ := List.mem_map.1 h
  have := key _ _ _ hx
  rw [Tx.bs_size]
  have e : t.data.toList.length = t.size := rfl
  simp only [List.length_nil] at this
  omega
theorem Sts.form {w : World} {base : Nat} {v : Value} {ss : List ByteArray} (h : Sts w base v ss) (hn : ss ≠ []) : ∃ g cap cur, v = .slice (some ⟨g, 0, none⟩) ss.length cap ∧ base ≤ g ∧ Row w g 9 cur ∧ ss.length ≤ cap ∧ cap ≤ maxLen ∧ ∀ i (h : i < ss.length), cur[i]? = some (.string ss[i]) := by
  rcases h.2 with ⟨rfl, h0⟩ | ⟨g, cap, cur, rfl, hb, hh, hc, hm, hs, ht⟩
  · exact absurd (List.eq_nil_of_length_eq_zero h0) hn
  · refine ⟨g, cap, cur, rfl, hb, hh, hc, hm, fun i hi => ?_⟩
    have h1 : (cur.toList.take (ss.length * 1))[i]? = some (.string ss[i]) := by rw [ht, List.getElem?_map, List.getElem?_eq_getElem hi]; rfl
    rw [List.getElem?_take_of_lt (by omega)] at h1
    rw [← Array.getElem?_toList]
    exact h1
theorem pieces_at {m : UInt8} {t : ByteArray} {i : Nat} (h : i < (pieces m t).length) : (pieces m t)[i].data.toList = (splitB m t.data.toList)[i]?.getD [] := by
  unfold pieces at h ⊢
  rw [List.length_map] at h
  rw [List.getElem_map, List.getElem?_eq_getElem h]; rfl
theorem pieces_length (m : UInt8) (t : ByteArray) : (pieces m t).length = (splitB m t.data.toList).length := by unfold pieces; rw [List.length_map]
theorem pieces_drop (m : UInt8) (t : ByteArray) (k : Nat) : (pieces m t).drop k = ((splitB m t.data.toList).drop k).map bs := by unfold pieces; rw [List.map_drop]

theorem neq_lit {s : ByteArray} {l : List UInt8} (h : s ≠ ⟨l.toArray⟩) : (s.toList == l) = false := by
  have := list_eqH s ⟨l.toArray⟩
  rw [decide_eq_false h, ByteArray.toList_eq ⟨l.toArray⟩] at this
  exact this
theorem eq_lit {s : ByteArray} {l : List UInt8} (h : s = ⟨l.toArray⟩) : (s.toList == l) = true := by
  have := list_eqH s ⟨l.toArray⟩
  rw [decide_eq_true h, ByteArray.toList_eq ⟨l.toArray⟩] at this
  exact this

/-- what a line that is read says of its words -/
theorem readR_some {l : List UInt8} {r : RuleD} (h : readR l = some r) : 3 ≤ (splitB 32 l).length ∧ (splitB 32 l)[1]?.getD [] = [45, 62] ∧ r.head = bs ((splitB 32 l)[0]?.getD []) ∧
    r.body = if 3 < (splitB 32 l).length ∨ (splitB 32 l)[2]?.getD [] ≠ [126] then ((splitB 32 l).drop 2).map bs else [] := by
  unfold readR at h
  simp only at h
  split at h
  · cases h
  · rename_i hn
    injection h with h
    subst h
    refine ⟨by
      have : ¬ (splitB 32 l).length < 3 := fun e => hn (.inl e)
      omega, ?_, rfl, rfl⟩
    by_cases e : (splitB 32 l)[1]?.getD [] = [45, 62]
    · exact e
    · exact absurd (.inr e) hn
theorem ba_eq {a b : ByteArray} (h : a.data.toList = b.data.toList) : a = b := ByteArray.ext (Array.ext' h)

theorem drop_own {W : World} {g cap : Nat} {cur : Array Value} {ps bd : List ByteArray} (hb : bd = ps.drop 2) (h3 : 3 ≤ ps.length) (hlc : ps.length ≤ cap) (hc : cap ≤ maxLen) (hsz : ∀ s ∈ ps, s.size ≤ maxLen) (hr : Row W g 9 cur)
    (hcc : ∀ i (h : i < ps.length), cur[i]? = some (.string ps[i])) : OwnS W g (.slice (some ⟨g, 2, none⟩) (ps.length - 2) (cap - 2)) bd := by
  subst hb
  refine ⟨_, cap - 2, by rw [List.length_drop], by rw [List.length_drop]; omega, by omega, fun s hs => hsz s (List.mem_of_mem_drop hs), fun _ => ⟨2, cur, rfl, hr, fun i hi => ?_⟩⟩
  rw [List.length_drop] at hi
  rw [hcc (2 + i) (by omega), List.getElem_drop]
/-- a rule that a call has made of a line -/
def MadeR (w : World) (r : RuleD) (e : Ending) (w' : World) : Prop := ∃ u g, e = .returned (.tuple #[.agg #[.string r.head, u], .bool true]) ∧ OwnS w' g u r.body ∧ (r.body ≠ [] → w.heap.size < g ∧ g < w'.heap.size) ∧ Below w.heap.size w w'

end Go.Proofs.YtokdhgocgicdnaaGreatDoor

/- A list of rules that grows by append, its bodies in blocks of their own. -/
namespace Go.Proofs.YtokdhgocgicdnaaGreatDoor
open Go.RowKit
open Tx (bs)

/-- a rule, the value of its body, and the block of that -/
def flatX (xs : List (RuleD × Value × Nat)) : List Value := xs.flatMap fun x => [.string x.1.head, x.2.1]
def Grow (w : World) (base : Nat) (v : Value) (xs : List (RuleD × Value × Nat)) : Prop :=
  w.ownsRow base 45 2 v xs.length (flatX xs) ∧
    (∀ x ∈ xs, OwnS w x.2.2 x.2.1 x.1.body ∧ x.1.head.size ≤ maxLen ∧ (x.1.body ≠ [] → base ≤ x.2.2 ∧ x.2.2 < w.heap.size)) ∧
    xs.Pairwise fun a b => a.1.body ≠ [] → b.1.body ≠ [] → a.2.2 ≠ b.2.2
theorem flatX_snoc (xs : List (RuleD × Value × Nat)) (x : RuleD × Value × Nat) : flatX (xs ++ [x]) = flatX xs ++ [.string x.1.head, x.2.1] := by simp [flatX]
theorem flatX_len (xs : List (RuleD × Value × Nat)) : (flatX xs).length = xs.length * 2 := by
  induction xs with
  | nil => rfl
  | cons x l ih => simp only [flatX, List.flatMap_cons, List.length_append, List.length_cons, List.length_nil] at ih ⊢; omega
theorem flatX_at (xs : List (RuleD × Value × Nat)) (i : Nat) (h : i < xs.length) : (flatX xs)[i * 2]? = some (.string xs[i].1.head) ∧ (flatX xs)[i * 2 + 1]? = some xs[i].2.1 := by
  induction xs generalizing i with
  | nil => simp at h
  | cons x l ih =>
    cases i with
    | zero => exact ⟨rfl, rfl⟩
    | succ i =>
      have := ih i (by simpa using h)
      have e : flatX (x :: l) = .string x.1.head :: x.2.1 :: flatX l := rfl
      rw [e]
      rw [show (i + 1) * 2 = i * 2 + 1 + 1 by omega]
      simpa using this
theorem Grow.nil (w : World) (base : Nat) : Grow w base (.slice none 0 0) [] := ⟨World.ownsRow_nil _ _ _ _, by simp, List.Pairwise.nil⟩
theorem Grow.move {w w' : World} {base : Nat} {v : Value} {xs : List (RuleD × Value × Nat)} (h : Grow w base v xs) (hs : w.heap.size ≤ w'.heap.size)
    (h1 : ∀ g, v.ownBlock = some g → w'.heap[g]? = w.heap[g]?) (h2 : ∀ x ∈ xs, x.1.body ≠ [] → w'.heap[x.2.2]? = w.heap[x.2.2]?) : Grow w' base v xs := by
  obtain ⟨a, b, c⟩ := h
  refine ⟨⟨a.1, ?_⟩, fun x hx => ?_, c⟩
  · rcases a.2 with a2 | ⟨g, cap, cur, rfl, hb, hh, r⟩
    · exact .inl a2
    · exact .inr ⟨g, cap, cur, rfl, hb, (h1 g rfl).trans hh, r⟩
  · obtain ⟨b1, b2, b3⟩ := b x hx
    exact ⟨b1.keep (h2 x hx), b2, fun hn => by have := b3 hn; omega⟩
theorem Grow.below {w w' : World} {base : Nat} {v : Value} {xs : List (RuleD × Value × Nat)} (h : Grow w base v xs) (k : Below w.heap.size w w') : Grow w' base v xs :=
  h.move k.size (fun g hg => k.block g (h.1.lt g hg).2) (fun x hx hn => k.block _ ((h.2.1 x hx).2.2 hn).2)
theorem Grow.away {w : World} {base : Nat} {v : Value} {xs : List (RuleD × Value × Nat)} (h : Grow w base v xs) {p : Addr} {t : TypeId} {cur : Array Value} (hr : Row w p.block t cur) (h1 : t ≠ 45) (h2 : t ≠ 9) (u : Value) : Grow (w.setCell p u) base v xs := by
  refine h.move (by simp [World.setCell]) (fun g hg => Below.heap_setCell _ _ _ _ ?_) (fun x hx hn => Below.heap_setCell _ _ _ _ ?_)
  · rcases h.1.2 with ⟨rfl, _⟩ | ⟨g', cap, c', rfl, _, hh, _⟩
    · simp [Value.ownBlock] at hg
    · have : g' = g := by simpa [Value.ownBlock] using hg
      subst this
      exact fun e => hr.apart (t' := 45) (cur' := c') hh h1 e.symm
  · obtain ⟨A, c, _, _, _, _, p5⟩ := (h.2.1 x hx).1
    obtain ⟨off, cu, _, q1, _⟩ := p5 (List.length_pos_iff.2 hn)
    exact fun e => hr.apart q1 h2 e.symm
theorem Grow.snoc {w w' : World} {base : Nat} {v v' : Value} {xs : List (RuleD × Value × Nat)} {r : RuleD} {u : Value} {g : Nat} (h : Grow w base v xs)
    (ho : w'.ownsRow base 45 2 v' (xs.length + 1) (flatX xs ++ [.string r.head, u])) (hg : w.grownBy w' v.ownBlock) (hr : OwnS w g u r.body) (hh : r.head.size ≤ maxLen)
    (hb : r.body ≠ [] → base ≤ g ∧ g < w.heap.size) (hd : r.body ≠ [] → ∀ x ∈ xs, x.1.body ≠ [] → x.2.2 ≠ g) : Grow w' base v' (xs ++ [(r, u, g)]) := by
  obtain ⟨a, b, c⟩ := h
  have keep : ∀ (g : Nat) (u : Value) (ss : List ByteArray), OwnS w g u ss → ss ≠ [] → w'.heap[g]? = w.heap[g]? := fun g u ss hs hn => by
    refine hg.block g (hs.lt hn) fun e => ?_
    obtain ⟨A, c, _, _, _, _, p5⟩ := hs
    obtain ⟨off, cu, _, q1, _⟩ := p5 (List.length_pos_iff.2 hn)
    rcases a.2 with ⟨rfl, _⟩ | ⟨g', cap, c', rfl, _, hh, _⟩
    · simp [Value.ownBlock] at e
    · have : g = g' := by simpa [Value.ownBlock] using e
      subst this
      exact q1.apart (t' := 45) (cur' := c') hh (by decide) rfl
  refine ⟨?_, fun x hx => ?_, ?_⟩
  · rw [flatX_snoc, List.length_append]; exact ho
  · rw [List.mem_append, List.mem_singleton] at hx
    rcases hx with hx | rfl
    · obtain ⟨b1, b2, b3⟩ := b x hx
      exact ⟨b1.keep fun hn => keep _ _ _ b1 hn, b2, fun hn => by have := b3 hn; have := hg.size; omega⟩
    · exact ⟨hr.keep fun hn => keep _ _ _ hr hn, hh, fun hn => by have := hb hn; have := hg.size; show base ≤ g ∧ g < _; omega⟩
  · rw [List.pairwise_append]
    refine ⟨c, by simp, fun x hx y hy => ?_⟩
    rw [List.mem_singleton] at hy
    subst hy
    exact fun h1 h2 => hd h2 x hx h1
theorem Grow.done {w : World} {base : Nat} {v : Value} {xs : List (RuleD × Value × Nat)} (h : Grow w base v xs) : OwnR w base w.heap.size v (xs.map (·.1)) := by
  obtain ⟨a, b, c⟩ := h
  rcases a.2 with ⟨rfl, h0⟩ | ⟨g, cap, cur, rfl, hb, hh, hc, hm, hs, ht⟩
  · obtain rfl : xs = [] := List.eq_nil_of_length_eq_zero h0
    exact ⟨none, 0, rfl, Nat.le_refl _, by unfold maxLen; omega, fun hp => by simp at hp⟩
  · have hr : Row w g 45 cur := hh
    refine ⟨_, cap, by rw [List.length_map], by rw [List.length_map]; exact hc, hm, fun hp => ?_⟩
    refine ⟨g, cur, fun i => (xs[i]?.map fun x => x.2.2).getD 0, rfl, hb, hr.lt, hr, fun i hi => ?_, fun i j hij hj => ?_⟩
    · rw [List.length_map] at hi
      obtain ⟨b1, b2, b3⟩ := b xs[i] (List.getElem_mem hi)
      obtain ⟨f1, f2⟩ := flatX_at xs i hi
      have cell : ∀ j, j < xs.length * 2 → cur[j]? = (flatX xs)[j]? := fun j hj => by
        rw [← ht, List.getElem?_take_of_lt hj, Array.getElem?_toList]
      simp only [List.getElem_map, List.getElem?_eq_getElem hi, Option.map_some, Option.getD_some]
      exact ⟨b2, by rw [cell _ (by omega)]; exact f1, xs[i].2.1, by rw [cell _ (by omega)]; exact f2, b1, b3⟩
    · rw [List.length_map] at hj
      have hi : i < xs.length := by omega
      simp only [List.getElem_map, List.getElem?_eq_getElem hi, List.getElem?_eq_getElem hj, Option.map_some, Option.getD_some]
      exact List.pairwise_iff_getElem.1 c i j hi hj hij

theorem readAll_snoc {ls : List (List UInt8)} {l : List UInt8} {rs : List RuleD} {r : RuleD} (h : readAll ls = some rs) (hr : readR l = some r) : readAll (ls ++ [l]) = some (rs ++ [r]) := by
  induction ls generalizing rs with
  | nil => unfold readAll at h; injection h with h; subst h; simp [readAll, hr]
  | cons x ls ih =>
    unfold readAll at h
    split at h
    · cases h
    · rename_i a ha
      split at h
      · cases h
      · rename_i b hb
        injection h with h
        subst h
        rw [List.cons_append]
        unfold readAll
        rw [ha, ih hb]
        rfl
theorem readAll_bad {ls : List (List UInt8)} {i : Nat} (h : i < ls.length) (hr : readR ls[i] = none) : readAll ls = none := by
  induction ls generalizing i with
  | nil => simp at h
  | cons x ls ih =>
    unfold readAll
    cases i with
    | zero =>
      simp only [List.getElem_cons_zero] at hr
      rw [hr]
    | succ i =>
      simp only [List.getElem_cons_succ] at hr
      rw [ih (by simpa using h) hr]
      cases readR x <;> rfl
/-- the lines of a text -/
def linesOf (t : ByteArray) : List (List UInt8) := (splitB 10 t.data.toList).dropLast
theorem linesOf_len (t : ByteArray) : (linesOf t).length = (pieces 10 t).length - 1 := by unfold linesOf; rw [List.length_dropLast, pieces_length]
theorem linesOf_at {t : ByteArray} {k : Nat} (h : k < (linesOf t).length) (h' : k < (pieces 10 t).length) : (pieces 10 t)[k].data.toList = (linesOf t)[k] := by
  rw [pieces_at h']
  unfold linesOf at h ⊢
  rw [List.getElem_dropLast, List.getElem?_eq_getElem (by rw [List.length_dropLast] at h; omega)]
  rfl
theorem last_at {t : ByteArray} (h : (pieces 10 t).length - 1 < (pieces 10 t).length) : (pieces 10 t)[(pieces 10 t).length - 1].data.toList = (splitB 10 t.data.toList).getLastD [] := by
  rw [pieces_at h, pieces_length, List.getLastD_eq_getLast?, List.getLast?_eq_getElem?]
theorem parse_last {t : ByteArray} (h : (splitB 10 t.data.toList).getLastD [] ≠ []) : parseT t.data.toList = none := by
  unfold parseT; simp only; rw [if_pos h]
theorem parse_bad {t : ByteArray} (h : readAll (linesOf t) = none) : parseT t.data.toList = none := by
  unfold parseT; simp only
  split
  · rfl
  · unfold linesOf at h; rw [h]
theorem parse_wrong {t : ByteArray} {rs : List RuleD} (h : readAll (linesOf t) = some rs) (hg : gramB rs = false) : parseT t.data.toList = none := by
  unfold parseT; simp only
  split
  · rfl
  · unfold linesOf at h; rw [h]; simp [hg]
theorem parse_right {t : ByteArray} {rs : List RuleD} (hl : (splitB 10 t.data.toList).getLastD [] = []) (h : readAll (linesOf t) = some rs) (hg : gramB rs = true) : parseT t.data.toList = some rs := by
  unfold parseT; simp only
  rw [if_neg (by rw [hl]; simp)]
  unfold linesOf at h; rw [h]; simp [hg]
end Go.Proofs.YtokdhgocgicdnaaGreatDoor

/- A list of rules that grows, and whose bodies can be grown, too. -/
namespace Go.Proofs.YtokdhgocgicdnaaGreatDoor
open Go.RowKit

theorem Sts.same {w w' : World} {base : Nat} {v : Value} {ss : List ByteArray} (h : Sts w base v ss) (e : ∀ g, v.ownBlock = some g → w'.heap[g]? = w.heap[g]?) : Sts w' base v ss := by
  refine ⟨h.1, ?_⟩
  rcases h.2 with hn | ⟨g, cap, cur, rfl, hb, hh, r⟩
  · exact .inl hn
  · exact .inr ⟨g, cap, cur, rfl, hb, (e g rfl).trans hh, r⟩
theorem Sts.lower {w : World} {base base' : Nat} {v : Value} {ss : List ByteArray} (h : Sts w base v ss) (hb : base' ≤ base) : Sts w base' v ss := by
  refine ⟨h.1, ?_⟩
  rcases h.2 with hn | ⟨g, cap, cur, rfl, hg, r⟩
  · exact .inl hn
  · exact .inr ⟨g, cap, cur, rfl, by omega, r⟩
theorem OwnS.block {w : World} {g : Nat} {v : Value} {ss : List ByteArray} (h : OwnS w g v ss) (hn : ss ≠ []) : v.ownBlock = some g := by
  obtain ⟨A, c, rfl, _, _, _, p5⟩ := h
  obtain ⟨off, cu, rfl, _, _⟩ := p5 (List.length_pos_iff.2 hn)
  rfl
theorem body_far {w w' : World} {base g n : Nat} {v u : Value} {ss : List ByteArray} {ys : List Value} (hs : OwnS w g u ss) (hn : ss ≠ []) (ho : w.ownsRow base 45 2 v n ys) (hg : w.grownBy w' v.ownBlock) : w'.heap[g]? = w.heap[g]? := by
  refine hg.block g (hs.lt hn) fun e => ?_
  obtain ⟨A, c, _, _, _, _, p5⟩ := hs
  obtain ⟨off, cu, _, q1, _⟩ := p5 (List.length_pos_iff.2 hn)
  rcases ho.2 with ⟨rfl, _⟩ | ⟨g', cap, c', rfl, _, hh, _⟩
  · simp [Value.ownBlock] at e
  · have : g = g' := by simpa [Value.ownBlock] using e
    subst this
    exact q1.apart (t' := 45) (cur' := c') hh (by decide) rfl

def Full (w : World) (base : Nat) (v : Value) (xs : List (RuleD × Value × Nat)) : Prop :=
  w.ownsRow base 45 2 v xs.length (flatX xs) ∧
    (∀ x ∈ xs, OwnS w x.2.2 x.2.1 x.1.body ∧ x.1.head.size ≤ maxLen ∧ (x.1.body ≠ [] → base ≤ x.2.2 ∧ x.2.2 < w.heap.size)) ∧
    (xs.Pairwise fun a b => a.1.body ≠ [] → b.1.body ≠ [] → a.2.2 ≠ b.2.2) ∧
    ∀ x ∈ xs, x.1.body ≠ [] → Sts w base x.2.1 x.1.body
theorem Full.grow {w : World} {base : Nat} {v : Value} {xs : List (RuleD × Value × Nat)} (h : Full w base v xs) : Grow w base v xs := ⟨h.1, h.2.1, h.2.2.1⟩
theorem Full.on {w w' : World} {base : Nat} {v : Value} {xs : List (RuleD × Value × Nat)} (h : Full w base v xs) (g : Grow w' base v xs) (h2 : ∀ x ∈ xs, x.1.body ≠ [] → w'.heap[x.2.2]? = w.heap[x.2.2]?) : Full w' base v xs :=
  ⟨g.1, g.2.1, g.2.2, fun x hx hn => (h.2.2.2 x hx hn).same fun q hq => by
    have := ((h.2.1 x hx).1.block hn).symm.trans hq
    injection this with this
    subst this
    exact h2 x hx hn⟩
theorem Full.nil (w : World) (base : Nat) : Full w base (.slice none 0 0) [] := ⟨World.ownsRow_nil _ _ _ _, by simp, List.Pairwise.nil, by simp⟩
theorem Full.move {w w' : World} {base : Nat} {v : Value} {xs : List (RuleD × Value × Nat)} (h : Full w base v xs) (hs : w.heap.size ≤ w'.heap.size)
    (h1 : ∀ g, v.ownBlock = some g → w'.heap[g]? = w.heap[g]?) (h2 : ∀ x ∈ xs, x.1.body ≠ [] → w'.heap[x.2.2]? = w.heap[x.2.2]?) : Full w' base v xs := h.on (h.grow.move hs h1 h2) h2
theorem Full.below {w w' : World} {base : Nat} {v : Value} {xs : List (RuleD × Value × Nat)} (h : Full w base v xs) (k : Below w.heap.size w w') : Full w' base v xs :=
  h.move k.size (fun g hg => k.block g (h.1.lt g hg).2) (fun x hx hn => k.block _ ((h.2.1 x hx).2.2 hn).2)
theorem Full.away {w : World} {base : Nat} {v : Value} {xs : List (RuleD × Value × Nat)} (h : Full w base v xs) {p : Addr} {t : TypeId} {cur : Array Value} (hr : Row w p.block t cur) (h1 : t ≠ 45) (h2 : t ≠ 9) (u : Value) : Full (w.setCell p u) base v xs :=
  h.on (h.grow.away hr h1 h2 u) fun x hx hn => Below.heap_setCell _ _ _ _ (by
    obtain ⟨A, c, _, _, _, _, p5⟩ := (h.2.1 x hx).1
    obtain ⟨off, cu, _, q1, _⟩ := p5 (List.length_pos_iff.2 hn)
    exact fun e => hr.apart q1 h2 e.symm)
theorem Full.snoc {w w' : World} {base : Nat} {v v' : Value} {xs : List (RuleD × Value × Nat)} {r : RuleD} {u : Value} {g : Nat} (h : Full w base v xs)
    (ho : w'.ownsRow base 45 2 v' (xs.length + 1) (flatX xs ++ [.string r.head, u])) (hg : w.grownBy w' v.ownBlock) (hr : OwnS w g u r.body) (hh : r.head.size ≤ maxLen)
    (hb : r.body ≠ [] → base ≤ g ∧ g < w.heap.size) (hd : r.body ≠ [] → ∀ x ∈ xs, x.1.body ≠ [] → x.2.2 ≠ g) (hs : r.body ≠ [] → Sts w base u r.body) : Full w' base v' (xs ++ [(r, u, g)]) := by
  obtain ⟨a, b, c⟩ := h.grow.snoc ho hg hr hh hb hd
  refine ⟨a, b, c, fun x hx hn => ?_⟩
  rw [List.mem_append, List.mem_singleton] at hx
  rcases hx with hx | rfl
  · refine (h.2.2.2 x hx hn).same fun q hq => ?_
    have := ((h.2.1 x hx).1.block hn).symm.trans hq
    injection this with this
    subst this
    exact body_far (h.2.1 x hx).1 hn h.1 hg
  · refine (hs hn).same fun q hq => ?_
    have := (hr.block hn).symm.trans hq
    injection this with this
    subst this
    exact body_far hr hn h.1 hg
theorem Full.done {w : World} {base : Nat} {v : Value} {xs : List (RuleD × Value × Nat)} (h : Full w base v xs) : OwnR w base w.heap.size v (xs.map (·.1)) := h.grow.done
theorem Full.put {w : World} {base : Nat} {v : Value} {xs : List (RuleD × Value × Nat)} (h : Full w base v xs) {p : Addr} (hp : p.block < base) (u : Value) : Full (w.setCell p u) base v xs :=
  h.move (by simp [World.setCell]) (fun g hg => Below.heap_setCell _ _ _ _ (by have := (h.1.lt g hg).1; omega)) (fun x hx hn => Below.heap_setCell _ _ _ _ (by have := ((h.2.1 x hx).2.2 hn).1; omega))
theorem Full.lower {w : World} {base base' : Nat} {v : Value} {xs : List (RuleD × Value × Nat)} (h : Full w base v xs) (hb : base' ≤ base) : Full w base' v xs := by
  obtain ⟨a, b, c, d⟩ := h
  refine ⟨⟨a.1, ?_⟩, fun x hx => ?_, c, fun x hx hn => (d x hx hn).lower hb⟩
  · rcases a.2 with a2 | ⟨g, cap, cur, rfl, hg, r⟩
    · exact .inl a2
    · exact .inr ⟨g, cap, cur, rfl, by omega, r⟩
  · obtain ⟨b1, b2, b3⟩ := b x hx
    exact ⟨b1, b2, fun hn => by have := b3 hn; omega⟩
/-- a grammar and a code that a call has made; the list and its bodies can be grown -/
def MadeF (w : World) (o : List RuleD × Int) (e : Ending) (w' : World) : Prop := ∃ v xs, e = .returned (.agg #[v, .int .i64 o.2]) ∧ xs.map (·.1) = o.1 ∧ Full w' w.heap.size v xs ∧ Below w.heap.size w w'
end Go.Proofs.YtokdhgocgicdnaaGreatDoor
