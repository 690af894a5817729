/- A list of rules that grows, and whose bodies can be grown, too. -/
import Derived.Test.YtonfiahihmcmlaaJGrow
namespace Go.Proofs.Ytonfiahihmcmlaa
open Go.RowKit

theorem Sts.same {w w' : World} {base : Nat} {v : Value} {ss : List ByteArray} (h : Sts w base v ss) (e : ∀ g, v.ownBlock = some g → w'.heap[g]? = w.heap[g]?) : Sts w' base v ss := by
  refine ⟨h.1, ?_⟩
  rcases h.2 with hn | ⟨g, cap, cur, rfl, hb, hh, r⟩
  · exact .inl hn
  · exact .inr ⟨g, cap, cur, rfl, hb, (e g rfl).trans hh, r⟩
theorem Sts.lower {w : World} {base base' : Nat} {v : Value} {ss : List ByteArray} (h : Sts w base v ss) (hb : base' ≤ base) : Sts w base' v ss := by
  refine ⟨h.1, ?_⟩
  rcases h.2 with hn | ⟨g, cap, cur, rfl, hg, r⟩
  · exact .inl hn
  · exact .inr ⟨g, cap, cur, rfl, by omega, r⟩
theorem OwnS.block {w : World} {g : Nat} {v : Value} {ss : List ByteArray} (h : OwnS w g v ss) (hn : ss ≠ []) : v.ownBlock = some g := by
  obtain ⟨A, c, rfl, _, _, _, p5⟩ := h
  obtain ⟨off, cu, rfl, _, _⟩ := p5 (List.length_pos_iff.2 hn)
  rfl
theorem body_far {w w' : World} {base g n : Nat} {v u : Value} {ss : List ByteArray} {ys : List Value} (hs : OwnS w g u ss) (hn : ss ≠ []) (ho : w.ownsRow base 49 2 v n ys) (hg : w.grownBy w' v.ownBlock) : w'.heap[g]? = w.heap[g]? := by
  refine hg.block g (hs.lt hn) fun e => ?_
  obtain ⟨A, c, _, _, _, _, p5⟩ := hs
  obtain ⟨off, cu, _, q1, _⟩ := p5 (List.length_pos_iff.2 hn)
  rcases ho.2 with ⟨rfl, _⟩ | ⟨g', cap, c', rfl, _, hh, _⟩
  · simp [Value.ownBlock] at e
  · have : g = g' := by simpa [Value.ownBlock] using e
    subst this
    exact q1.apart (t' := 49) (cur' := c') hh (by decide) rfl

def Full (w : World) (base : Nat) (v : Value) (xs : List (RuleD × Value × Nat)) : Prop :=
  w.ownsRow base 49 2 v xs.length (flatX xs) ∧
    (∀ x ∈ xs, OwnS w x.2.2 x.2.1 x.1.body ∧ x.1.head.size ≤ maxLen ∧ (x.1.body ≠ [] → base ≤ x.2.2 ∧ x.2.2 < w.heap.size)) ∧
    (xs.Pairwise fun a b => a.1.body ≠ [] → b.1.body ≠ [] → a.2.2 ≠ b.2.2) ∧
    ∀ x ∈ xs, x.1.body ≠ [] → Sts w base x.2.1 x.1.body
theorem Full.grow {w : World} {base : Nat} {v : Value} {xs : List (RuleD × Value × Nat)} (h : Full w base v xs) : Grow w base v xs := ⟨h.1, h.2.1, h.2.2.1⟩
theorem Full.on {w w' : World} {base : Nat} {v : Value} {xs : List (RuleD × Value × Nat)} (h : Full w base v xs) (g : Grow w' base v xs) (h2 : ∀ x ∈ xs, x.1.body ≠ [] → w'.heap[x.2.2]? = w.heap[x.2.2]?) : Full w' base v xs :=
  ⟨g.1, g.2.1, g.2.2, fun x hx hn => (h.2.2.2 x hx hn).same fun q hq => by
    have := ((h.2.1 x hx).1.block hn).symm.trans hq
    injection this with this
    subst this
    exact h2 x hx hn⟩
theorem Full.nil (w : World) (base : Nat) : Full w base (.slice none 0 0) [] := ⟨World.ownsRow_nil _ _ _ _, by simp, List.Pairwise.nil, by simp⟩
theorem Full.move {w w' : World} {base : Nat} {v : Value} {xs : List (RuleD × Value × Nat)} (h : Full w base v xs) (hs : w.heap.size ≤ w'.heap.size)
    (h1 : ∀ g, v.ownBlock = some g → w'.heap[g]? = w.heap[g]?) (h2 : ∀ x ∈ xs, x.1.body ≠ [] → w'.heap[x.2.2]? = w.heap[x.2.2]?) : Full w' base v xs := h.on (h.grow.move hs h1 h2) h2
theorem Full.below {w w' : World} {base : Nat} {v : Value} {xs : List (RuleD × Value × Nat)} (h : Full w base v xs) (k : Below w.heap.size w w') : Full w' base v xs :=
  h.move k.size (fun g hg => k.block g (h.1.lt g hg).2) (fun x hx hn => k.block _ ((h.2.1 x hx).2.2 hn).2)
theorem Full.away {w : World} {base : Nat} {v : Value} {xs : List (RuleD × Value × Nat)} (h : Full w base v xs) {p : Addr} {t : TypeId} {cur : Array Value} (hr : Row w p.block t cur) (h1 : t ≠ 49) (h2 : t ≠ 9) (u : Value) : Full (w.setCell p u) base v xs :=
  h.on (h.grow.away hr h1 h2 u) fun x hx hn => Below.heap_setCell _ _ _ _ (by
    obtain ⟨A, c, _, _, _, _, p5⟩ := (h.2.1 x hx).1
    obtain ⟨off, cu, _, q1, _⟩ := p5 (List.length_pos_iff.2 hn)
    exact fun e => hr.apart q1 h2 e.symm)
theorem Full.snoc {w w' : World} {base : Nat} {v v' : Value} {xs : List (RuleD × Value × Nat)} {r : RuleD} {u : Value} {g : Nat} (h : Full w base v xs)
    (ho : w'.ownsRow base 49 2 v' (xs.length + 1) (flatX xs ++ [.string r.head, u])) (hg : w.grownBy w' v.ownBlock) (hr : OwnS w g u r.body) (hh : r.head.size ≤ maxLen)
    (hb : r.body ≠ [] → base ≤ g ∧ g < w.heap.size) (hd : r.body ≠ [] → ∀ x ∈ xs, x.1.body ≠ [] → x.2.2 ≠ g) (hs : r.body ≠ [] → Sts w base u r.body) : Full w' base v' (xs ++ [(r, u, g)]) := by
  obtain ⟨a, b, c⟩ := h.grow.snoc ho hg hr hh hb hd
  refine ⟨a, b, c, fun x hx hn => ?_⟩
  rw [List.mem_append, List.mem_singleton] at hx
  rcases hx with hx | rfl
  · refine (h.2.2.2 x hx hn).same fun q hq => ?_
    have := ((h.2.1 x hx).1.block hn).symm.trans hq
    injection this with this
    subst this
    exact body_far (h.2.1 x hx).1 hn h.1 hg
  · refine (hs hn).same fun q hq => ?_
    have := (hr.block hn).symm.trans hq
    injection this with this
    subst this
    exact body_far hr hn h.1 hg
theorem Full.done {w : World} {base : Nat} {v : Value} {xs : List (RuleD × Value × Nat)} (h : Full w base v xs) : OwnR w base w.heap.size v (xs.map (·.1)) := h.grow.done
theorem Full.put {w : World} {base : Nat} {v : Value} {xs : List (RuleD × Value × Nat)} (h : Full w base v xs) {p : Addr} (hp : p.block < base) (u : Value) : Full (w.setCell p u) base v xs :=
  h.move (by simp [World.setCell]) (fun g hg => Below.heap_setCell _ _ _ _ (by have := (h.1.lt g hg).1; omega)) (fun x hx hn => Below.heap_setCell _ _ _ _ (by have := ((h.2.1 x hx).2.2 hn).1; omega))
theorem Full.lower {w : World} {base base' : Nat} {v : Value} {xs : List (RuleD × Value × Nat)} (h : Full w base v xs) (hb : base' ≤ base) : Full w base' v xs := by
  obtain ⟨a, b, c, d⟩ := h
  refine ⟨⟨a.1, ?_⟩, fun x hx => ?_, c, fun x hx hn => (d x hx hn).lower hb⟩
  · rcases a.2 with a2 | ⟨g, cap, cur, rfl, hg, r⟩
    · exact .inl a2
    · exact .inr ⟨g, cap, cur, rfl, by omega, r⟩
  · obtain ⟨b1, b2, b3⟩ := b x hx
    exact ⟨b1, b2, fun hn => by have := b3 hn; omega⟩
/-- a grammar and a code that a call has made; the list and its bodies can be grown -/
def MadeF (w : World) (o : List RuleD × Int) (e : Ending) (w' : World) : Prop := ∃ v xs, e = .returned (.agg #[v, .int .i64 o.2]) ∧ xs.map (·.1) = o.1 ∧ Full w' w.heap.size v xs ∧ Below w.heap.size w w'
end Go.Proofs.Ytonfiahihmcmlaa
