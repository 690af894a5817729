/- What symbols come to of a text, by rules; what can be the beginning; looks that go through a text from left to right: what is found by them is all that is come to. No program stands in this text. -/
import Derived.Test.YtiochjagolijfaaJCom
namespace Go.Proofs.Ytiochjagolijfaa
open Go.RowKit

/-- these symbols come to the text's tokens from a place on ahead of another -/
inductive Der (R : RuleD → Prop) (t : List ByteArray) : List ByteArray → Nat → Nat → Prop
  | nil (i : Nat) : Der R t [] i i
  | tok {s : ByteArray} {l : List ByteArray} {i k : Nat} (h : t[i]? = some s) (h' : Der R t l (i + 1) k) : Der R t (s :: l) i k
  | head {r : RuleD} {l : List ByteArray} {i j k : Nat} (hr : R r) (h : Der R t r.body i j) (h' : Der R t l j k) : Der R t (r.head :: l) i k
section
variable {R R' : RuleD → Prop} {t : List ByteArray}
theorem Der.le {l : List ByteArray} {i k : Nat} (h : Der R t l i k) : i ≤ k := by
  induction h with
  | nil => exact Nat.le_refl _
  | tok _ _ ih => omega
  | head _ _ _ ih1 ih2 => omega
theorem Der.end {l : List ByteArray} {i k : Nat} (h : Der R t l i k) : i ≤ t.length → k ≤ t.length := by
  induction h with
  | nil => exact id
  | tok h _ ih =>
    intro _
    have := (List.getElem?_eq_some_iff.1 h).1
    exact ih (by omega)
  | head _ _ _ ih1 ih2 => exact fun h => ih2 (ih1 h)
theorem Der.append {a b : List ByteArray} {i j k : Nat} (h : Der R t a i j) (h' : Der R t b j k) : Der R t (a ++ b) i k := by
  induction h with
  | nil => exact h'
  | tok h _ ih => exact .tok h (ih h')
  | head hr h _ _ ih2 => exact .head hr h (ih2 h')
theorem Der.mono (hR : ∀ r, R r → R' r) {l : List ByteArray} {i k : Nat} (h : Der R t l i k) : Der R' t l i k := by
  induction h with
  | nil => exact .nil _
  | tok h _ ih => exact .tok h ih
  | head hr _ _ ih1 ih2 => exact .head (hR _ hr) ih1 ih2
/-- a text that is cut behind the place is as good -/
theorem Der.cut {n : Nat} {l : List ByteArray} {i k : Nat} (h : Der R t l i k) (hk : k ≤ n) : Der R (t.take n) l i k := by
  induction h with
  | nil => exact .nil _
  | tok h h' ih =>
    have := h'.le
    exact .tok (by rw [List.getElem?_take_of_lt (by omega)]; exact h) (ih hk)
  | head hr h h' ih1 ih2 =>
    have := h'.le
    exact .head hr (ih1 (by omega)) (ih2 hk)
theorem Der.uncut {n : Nat} {l : List ByteArray} {i k : Nat} (h : Der R (t.take n) l i k) : Der R t l i k := by
  induction h with
  | nil => exact .nil _
  | @tok s l i k h h' ih =>
    have hi : i < n := by
      rcases Nat.lt_or_ge i n with h1 | h1
      · exact h1
      · rw [List.getElem?_take_eq_none h1] at h; cases h
    exact .tok (by rw [List.getElem?_take_of_lt hi] at h; exact h) ih
  | head hr h h' ih1 ih2 => exact .head hr ih1 ih2
theorem Der.split {a b : List ByteArray} {i k : Nat} (h : Der R t (a ++ b) i k) : ∃ j, Der R t a i j ∧ Der R t b j k := by
  induction a generalizing i with
  | nil => exact ⟨i, .nil i, h⟩
  | cons x a ih =>
    cases h with
    | tok h h' => obtain ⟨j, h1, h2⟩ := ih h'; exact ⟨j, .tok h h1, h2⟩
    | head hr h h' => obtain ⟨j, h1, h2⟩ := ih h'; exact ⟨j, .head hr h h1, h2⟩
theorem Der.one {r : RuleD} {i k : Nat} (hr : R r) (h : Der R t r.body i k) : Der R t [r.head] i k := .head hr h (.nil _)
theorem Der.snoc_tok {l : List ByteArray} {s : ByteArray} {i k : Nat} (h : Der R t l i k) (hs : t[k]? = some s) : Der R t (l ++ [s]) i (k + 1) := h.append (.tok hs (.nil _))
/-- a head that comes to something does so by a rule of its own -/
theorem Der.head_inv {h : ByteArray} {i k : Nat} (d : Der R t [h] i k) (ht : ∀ s, t[i]? = some s → s ≠ h) : ∃ r, R r ∧ r.head = h ∧ Der R t r.body i k := by
  cases d with
  | tok e _ => exact absurd rfl (ht _ e)
  | head hr d d' => cases d'; exact ⟨_, hr, rfl, d⟩
end

/-- all of a rule's body may come to tokens alone -/
def GoodR (rs : List RuleD) (r : RuleD) : Prop := ∀ s ∈ r.body, tokB s = true ∨ Com true rs s
theorem GoodR.com {rs : List RuleD} {r : RuleD} (hr : r ∈ rs) (h : GoodR rs r) : Com true rs r.head := by
  obtain ⟨i, hi, rfl⟩ := List.getElem_of_mem hr
  refine .mk i hi fun s hs hn => ?_
  rcases h s hs with h | h
  · simp [h] at hn
  · exact h
theorem Der.com {rs : List RuleD} {t : List ByteArray} (ht : ∀ s ∈ t, tokB s = true) {l : List ByteArray} {i k : Nat} (h : Der (· ∈ rs) t l i k) : ∀ s ∈ l, tokB s = true ∨ Com true rs s := by
  induction h with
  | nil => simp
  | tok h _ ih =>
    intro s hs
    rcases List.mem_cons.1 hs with rfl | hs
    · exact .inl (ht _ (List.mem_of_getElem? h))
    · exact ih s hs
  | head hr _ _ ih1 ih2 =>
    intro s hs
    rcases List.mem_cons.1 hs with rfl | hs
    · exact .inr (GoodR.com hr ih1)
    · exact ih2 s hs
theorem Der.good {rs : List RuleD} {t : List ByteArray} (ht : ∀ s ∈ t, tokB s = true) {l : List ByteArray} {i k : Nat} (h : Der (· ∈ rs) t l i k) : Der (fun r => r ∈ rs ∧ GoodR rs r) t l i k := by
  induction h with
  | nil => exact .nil _
  | tok h _ ih => exact .tok h ih
  | head hr h _ ih1 ih2 => exact .head ⟨hr, h.com ht⟩ ih1 ih2

/-- what comes of a head may begin with the text's tokens from a place on ahead of m -/
inductive Beg (R : RuleD → Prop) (t : List ByteArray) (m : Nat) : ByteArray → Nat → Prop
  | stop {r : RuleD} {i : Nat} (j : Nat) (hr : R r) (h : Der R t (r.body.take j) i m) : Beg R t m r.head i
  | go {r : RuleD} {i k : Nat} (j : Nat) {s : ByteArray} (hr : R r) (h : Der R t (r.body.take j) i k) (hj : r.body[j]? = some s) (h' : Beg R t m s k) : Beg R t m r.head i

/-- a rule on its way through the text -/
structure Look where
  rule : Nat
  done : Nat
  fr : Nat
  at' : Nat
deriving DecidableEq
def Look.past (l : Look) (k : Nat) : Look := ⟨l.rule, l.done + 1, l.fr, k⟩

/-- nothing is left to be looked for -/
structure Closed (rs : List RuleD) (t : List ByteArray) (K : Look → Prop) (F : ByteArray → Nat → Nat → Prop) : Prop where
  fin : ∀ l (h : l.rule < rs.length), K l → l.done = rs[l.rule].body.length → F rs[l.rule].head l.fr l.at'
  tok : ∀ l (h : l.rule < rs.length) s, K l → rs[l.rule].body[l.done]? = some s → headB s = false → t[l.at']? = some s → K (l.past (l.at' + 1))
  ask : ∀ l (h : l.rule < rs.length) s, K l → rs[l.rule].body[l.done]? = some s → headB s = true → ∀ r (hr : r < rs.length), rs[r].head = s → K ⟨r, 0, l.at', l.at'⟩
  step : ∀ l (h : l.rule < rs.length) s, K l → rs[l.rule].body[l.done]? = some s → headB s = true → ∀ k, F s l.at' k → K (l.past k)
section
variable {rs : List RuleD} {t : List ByteArray} {K : Look → Prop} {F : ByteArray → Nat → Nat → Prop}
theorem Closed.walk (C : Closed rs t K F) (hh : ∀ i (h : i < rs.length), headB rs[i].head = true) (ht : ∀ s ∈ t, tokB s = true) {l : List ByteArray} {i k : Nat} (h : Der (· ∈ rs) t l i k) :
    ∀ (n d i0 : Nat) (hn : n < rs.length), K ⟨n, d, i0, i⟩ → (∃ g, rs[n].body.drop d = l ++ g) → K ⟨n, d + l.length, i0, k⟩ := by
  induction h with
  | nil => exact fun n d i0 _ h _ => h
  | @tok s l i k h _ ih =>
    rintro n d i0 hn hk ⟨g, hg⟩
    have hd : rs[n].body[d]? = some s := by
      have := congrArg (fun x => x[0]?) hg
      simpa using this
    have hs : headB s = false := by
      have h1 := ht _ (List.mem_of_getElem? h)
      cases hb : headB s
      · rfl
      · rw [head_no_tok hb] at h1; cases h1
    have := ih n (d + 1) i0 hn (C.tok _ hn s hk hd hs h) ⟨g, by
      have := congrArg List.tail hg
      simpa [List.tail_drop] using this⟩
    rw [List.length_cons]
    rwa [show d + (l.length + 1) = d + 1 + l.length by omega]
  | @head r l i j k hr h _ ih1 ih2 =>
    rintro n d i0 hn hk ⟨g, hg⟩
    obtain ⟨q, hq, rfl⟩ := List.getElem_of_mem hr
    have hd : rs[n].body[d]? = some rs[q].head := by
      have := congrArg (fun x => x[0]?) hg
      simpa using this
    have hs := hh q hq
    have a1 := C.ask _ hn _ hk hd hs q hq rfl
    have a2 := ih1 q 0 i hq a1 ⟨[], by simp⟩
    have a3 := C.fin _ hq a2 (by simp)
    have a4 := C.step _ hn _ hk hd hs j a3
    have := ih2 n (d + 1) i0 hn a4 ⟨g, by
      have := congrArg List.tail hg
      simpa [List.tail_drop] using this⟩
    rw [List.length_cons]
    rwa [show d + (l.length + 1) = d + 1 + l.length by omega]
/-- all that a head comes to is found -/
theorem Closed.all (C : Closed rs t K F) (hh : ∀ i (h : i < rs.length), headB rs[i].head = true) (ht : ∀ s ∈ t, tokB s = true) {h : ByteArray} (hb : headB h = true) {i k : Nat} (hk : ∀ r (hr : r < rs.length), rs[r].head = h → K ⟨r, 0, i, i⟩) (d : Der (· ∈ rs) t [h] i k) : F h i k := by
  obtain ⟨r, hr, rfl, d2⟩ := d.head_inv fun s hs e => by
    subst e
    have := ht _ (List.mem_of_getElem? hs)
    rw [head_no_tok hb] at this; cases this
  obtain ⟨q, hq, rfl⟩ := List.getElem_of_mem hr
  have a2 := C.walk hh ht d2 q 0 i hq (hk q hq rfl) ⟨[], by simp⟩
  exact C.fin _ hq a2 (by simp)
/-- where a beginning ends, there is a look -/
theorem Closed.beg (C : Closed rs t K F) (hh : ∀ i (h : i < rs.length), headB rs[i].head = true) (ht : ∀ s ∈ t, tokB s = true) {m : Nat} {h : ByteArray} {i : Nat} (b : Beg (· ∈ rs) t m h i) :
    (∀ r (hr : r < rs.length), rs[r].head = h → K ⟨r, 0, i, i⟩) → ∃ l, K l ∧ l.at' = m := by
  induction b with
  | @stop r i j hr d =>
    intro hk
    obtain ⟨q, hq, rfl⟩ := List.getElem_of_mem hr
    exact ⟨_, C.walk hh ht d q 0 i hq (hk q hq rfl) ⟨rs[q].body.drop j, by simp⟩, rfl⟩
  | @go r i k j s hr d hj b ih =>
    intro hk
    obtain ⟨q, hq, rfl⟩ := List.getElem_of_mem hr
    have a1 := C.walk hh ht d q 0 i hq (hk q hq rfl) ⟨rs[q].body.drop j, by simp⟩
    have hjl := (List.getElem?_eq_some_iff.1 hj).1
    have hl : 0 + (rs[q].body.take j).length = j := by simp; omega
    rw [hl] at a1
    have hs : headB s = true := by
      cases b with
      | stop j hr _ => obtain ⟨p, hp, rfl⟩ := List.getElem_of_mem hr; exact hh p hp
      | go j hr _ _ _ => obtain ⟨p, hp, rfl⟩ := List.getElem_of_mem hr; exact hh p hp
    exact ih fun r hr e => C.ask _ hq s a1 hj hs r hr e
end

/-- what a look says is so, and it may be gone on with from the start -/
structure Sound (rs : List RuleD) (t : List ByteArray) (l : Look) : Prop where
  rule : l.rule < rs.length
  done : l.done ≤ rs[l.rule].body.length
  le : l.fr ≤ l.at'
  fit : l.at' ≤ t.length
  der : Der (· ∈ rs) t (rs[l.rule].body.take l.done) l.fr l.at'
/-- what begins here, begins from the start on, too -/
def Ctx (rs : List RuleD) (t : List ByteArray) (st h : ByteArray) (i : Nat) : Prop := ∀ m, Beg (· ∈ rs) t m h i → Beg (· ∈ rs) t m st 0
section
variable {rs : List RuleD} {t : List ByteArray}
theorem Sound.new {r i : Nat} (hr : r < rs.length) (hi : i ≤ t.length) : Sound rs t ⟨r, 0, i, i⟩ := ⟨hr, Nat.zero_le _, Nat.le_refl _, hi, by simp; exact .nil i⟩
theorem take_snoc' {l : List ByteArray} {j : Nat} {s : ByteArray} (h : l[j]? = some s) : l.take (j + 1) = l.take j ++ [s] := by
  obtain ⟨h1, rfl⟩ := List.getElem?_eq_some_iff.1 h
  exact List.take_succ_eq_append_getElem h1
theorem Sound.tok {l : Look} (S : Sound rs t l) {s : ByteArray} (hb : (rs[l.rule]'S.rule).body[l.done]? = some s) (ht : t[l.at']? = some s) : Sound rs t (l.past (l.at' + 1)) := by
  have h1 := (List.getElem?_eq_some_iff.1 hb).1
  have h2 := (List.getElem?_eq_some_iff.1 ht).1
  refine ⟨S.rule, by show l.done + 1 ≤ _; exact h1, by show l.fr ≤ l.at' + 1; have := S.le; omega, by show l.at' + 1 ≤ _; omega, ?_⟩
  show Der _ _ ((rs[l.rule]'S.rule).body.take (l.done + 1)) _ _
  rw [take_snoc' hb]
  exact S.der.snoc_tok ht
theorem Sound.head {l : Look} (S : Sound rs t l) {s : ByteArray} (hb : (rs[l.rule]'S.rule).body[l.done]? = some s) {k : Nat} (hd : Der (· ∈ rs) t [s] l.at' k) : Sound rs t (l.past k) := by
  have h1 := (List.getElem?_eq_some_iff.1 hb).1
  have h2 := hd.le
  refine ⟨S.rule, by show l.done + 1 ≤ _; exact h1, by show l.fr ≤ k; have := S.le; omega, by show k ≤ _; exact hd.end S.fit, ?_⟩
  show Der _ _ ((rs[l.rule]'S.rule).body.take (l.done + 1)) _ _
  rw [take_snoc' hb]
  exact S.der.append hd
theorem Sound.fin {l : Look} (S : Sound rs t l) (hd : l.done = (rs[l.rule]'S.rule).body.length) : Der (· ∈ rs) t [(rs[l.rule]'S.rule).head] l.fr l.at' := by
  have := S.der
  rw [hd, List.take_length] at this
  exact .one (List.getElem_mem S.rule) this
theorem Sound.ctx {l : Look} (S : Sound rs t l) {st : ByteArray} (c : Ctx rs t st (rs[l.rule]'S.rule).head l.fr) {s : ByteArray} (hb : (rs[l.rule]'S.rule).body[l.done]? = some s) : Ctx rs t st s l.at' :=
  fun m b => c m (.go l.done (List.getElem_mem S.rule) S.der hb b)
theorem Sound.beg {l : Look} (S : Sound rs t l) {st : ByteArray} (c : Ctx rs t st (rs[l.rule]'S.rule).head l.fr) : Beg (· ∈ rs) t l.at' st 0 := c _ (.stop l.done (List.getElem_mem S.rule) S.der)
end

/-- how many looks there may be -/
def allLooks (rs : List RuleD) (p : Nat) : List Look :=
  (List.range rs.length).flatMap fun r => (List.range ((ruleAt rs r).body.length + 1)).flatMap fun d => (List.range p).flatMap fun i => (List.range p).map fun k => ⟨r, d, i, k⟩
def mostTo (rs : List RuleD) (p k : Nat) : Nat := ((rs.take k).map fun r => (r.body.length + 1) * p * p).sum
theorem mostTo_succ {rs : List RuleD} {p k : Nat} (h : k < rs.length) : mostTo rs p (k + 1) = mostTo rs p k + (rs[k].body.length + 1) * p * p := by
  unfold mostTo
  rw [List.take_succ_eq_append_getElem h, List.map_append, List.sum_append]
  simp
theorem sum_const {α : Type} (l : List α) (n : Nat) : (l.map fun _ => n).sum = l.length * n := by
  induction l with
  | nil => simp
  | cons a l ih => rw [List.map_cons, List.sum_cons, ih, List.length_cons, Nat.succ_mul]; omega
theorem length_flat_const {α β : Type} (l : List α) (f : α → List β) (n : Nat) (h : ∀ x ∈ l, (f x).length = n) : (l.flatMap f).length = l.length * n := by
  induction l with
  | nil => simp
  | cons a l ih =>
    rw [List.flatMap_cons, List.length_append, ih fun x hx => h x (List.mem_cons_of_mem _ hx), h a (List.mem_cons_self), List.length_cons, Nat.succ_mul]; omega
theorem allLooks_len (rs : List RuleD) (p : Nat) : (allLooks rs p).length = mostTo rs p rs.length := by
  have key : ∀ k, k ≤ rs.length → ((List.range k).flatMap fun r => (List.range ((ruleAt rs r).body.length + 1)).flatMap fun d => (List.range p).flatMap fun i => (List.range p).map fun k => (⟨r, d, i, k⟩ : Look)).length = mostTo rs p k := by
    intro k
    induction k with
    | zero => intro _; simp [mostTo]
    | succ k ih =>
      intro hk
      rw [List.range_succ, List.flatMap_append, List.length_append, ih (by omega), mostTo_succ (by omega)]
      congr 1
      simp only [List.flatMap_cons, List.flatMap_nil, List.append_nil]
      rw [length_flat_const _ _ (p * p) fun d _ => by rw [length_flat_const _ _ p fun i _ => by simp]; simp, List.length_range, ruleAt_eq (by omega), Nat.mul_assoc]
  exact key rs.length (Nat.le_refl _)
theorem Sound.mem {rs : List RuleD} {t : List ByteArray} {l : Look} (S : Sound rs t l) : l ∈ allLooks rs (t.length + 1) := by
  unfold allLooks
  simp only [List.mem_flatMap, List.mem_range, List.mem_map]
  have h1 := S.le
  have h2 := S.fit
  have h3 := S.done
  refine ⟨l.rule, S.rule, l.done, by rw [ruleAt_eq S.rule]; omega, l.fr, by omega, l.at', by omega, rfl⟩
theorem len_le_of_nodup {α : Type} [DecidableEq α] {l m : List α} (hn : l.Nodup) (h : ∀ x ∈ l, x ∈ m) : l.length ≤ m.length := by
  induction l generalizing m with
  | nil => simp
  | cons a l ih =>
    rw [List.nodup_cons] at hn
    have h1 := ih (m := m.erase a) hn.2 fun x hx => (List.mem_erase_of_ne (fun e => hn.1 (by rw [← e]; exact hx))).2 (h x (List.mem_cons_of_mem _ hx))
    have h2 := List.length_erase_of_mem (h a List.mem_cons_self)
    have h3 := List.length_pos_of_mem (h a List.mem_cons_self)
    rw [List.length_cons]; omega
theorem looks_few {rs : List RuleD} {t : List ByteArray} {ks : List Look} (hn : ks.Nodup) (hs : ∀ l ∈ ks, Sound rs t l) : ks.length ≤ mostTo rs (t.length + 1) rs.length := by
  rw [← allLooks_len]
  exact len_le_of_nodup hn fun l hl => (hs l hl).mem
end Go.Proofs.Ytiochjagolijfaa
