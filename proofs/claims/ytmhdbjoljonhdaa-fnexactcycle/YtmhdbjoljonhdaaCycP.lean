/- How the model finds whether a head comes to itself alone: what its list holds at each place. -/
import Derived.Test.YtmhdbjoljonhdaaLeftP
import Derived.Test.YtmhdbjoljonhdaaAloneS
namespace Go.Proofs.Ytmhdbjoljonhdaa
open Go.RowKit

abbrev AftC (rs : List RuleD) (ix : List Nat) (h s : ByteArray) : Prop := Aft rs ix (tkAlone (Com false rs)) h s
theorem aftC_body {rs : List RuleD} {ix : List Nat} {h s : ByteArray} (ha : AftC rs ix h s) : s ∈ rs.flatMap (·.body) := by
  rw [List.mem_flatMap]
  cases ha with
  | one i hi _ _ _ ht => obtain ⟨k, hk, rfl, _⟩ := ht; exact ⟨_, List.getElem_mem hi, List.getElem_mem hk⟩
  | more i hi _ _ _ ht => obtain ⟨k, hk, rfl, _⟩ := ht; exact ⟨_, List.getElem_mem hi, List.getElem_mem hk⟩
structure WayC (rs : List RuleD) (ix : List Nat) (h : ByteArray) (ins : List ByteArray) : Prop where
  nodup : ins.Nodup
  aft : ∀ s ∈ ins, AftC rs ix h s
  no : h ∉ ins
theorem WayC.len {rs : List RuleD} {ix : List Nat} {h : ByteArray} {ins : List ByteArray} (H : WayC rs ix h ins) (R : Rt rs) : ins.length ≤ 100 := by
  have h1 : ins.length ≤ (rs.flatMap (·.body)).length := H.nodup.length_le_of_subset fun s hs => aftC_body (H.aft s hs)
  have h2 := flat_len rs R.len
  have h3 := R.few
  omega
theorem WayC.size {rs : List RuleD} {ix : List Nat} {h : ByteArray} {ins : List ByteArray} (H : WayC rs ix h ins) (R : Rt rs) (hh : headB h = true) : ∀ s ∈ h :: ins, s.size ≤ maxLen := fun s hs => by
  have : s.size ≤ 4 := by
    rw [List.mem_cons] at hs
    rcases hs with rfl | hs
    · exact headB_size hh
    · have := aftC_body (H.aft s hs)
      rw [List.mem_flatMap] at this
      obtain ⟨r, hr, hs⟩ := this
      obtain ⟨i, hi, rfl⟩ := List.getElem_of_mem hr
      have k := R.body i hi s hs
      unfold symOK at k
      rw [Bool.or_eq_true] at k
      rcases k with k | k
      · exact headB_size k
      · exact tokB_size k
  unfold maxLen; omega
/-- at a head all of these rules ahead of the k-th have been gone through -/
def ShutC (rs : List RuleD) (ix : List Nat) (ins : List ByteArray) (t : ByteArray) (k : Nat) : Prop :=
  ∀ p (hp : p < ix.length), p < k → (ruleAt rs ix[p]).head = t → ∀ s, tkAlone (Com false rs) (ruleAt rs ix[p]).body s → headB s = true → s ∈ ins
theorem ShutC.mono {rs : List RuleD} {ix : List Nat} {ins ins' : List ByteArray} {t : ByteArray} {k : Nat} (h : ShutC rs ix ins t k) (hs : ∀ s ∈ ins, s ∈ ins') : ShutC rs ix ins' t k :=
  fun i hi hk he s ht hh => hs s (h i hi hk he s ht hh)
structure OldC (rs : List RuleD) (ix : List Nat) (h : ByteArray) (i : Nat) (ins : List ByteArray) : Prop where
  way : WayC rs ix h ins
  few : i ≤ ins.length + 1
  old : ∀ p, p < i → ∀ u, (h :: ins)[p]? = some u → ShutC rs ix ins u ix.length
structure NowC (rs : List RuleD) (ix : List Nat) (h t : ByteArray) (i k : Nat) (ins : List ByteArray) : Prop where
  way : WayC rs ix h ins
  cur : (h :: ins)[i]? = some t
  old : ∀ p, p < i → ∀ u, (h :: ins)[p]? = some u → ShutC rs ix ins u ix.length
  now : ShutC rs ix ins t k
theorem NowC.lt {rs : List RuleD} {ix : List Nat} {h t : ByteArray} {i k : Nat} {ins : List ByteArray} (H : NowC rs ix h t i k ins) : i < ins.length + 1 := by
  rcases Nat.lt_or_ge i (ins.length + 1) with h1 | h1
  · exact h1
  · have := H.cur
    rw [List.getElem?_eq_none (by simpa using h1)] at this; cases this
theorem OldC.start (rs : List RuleD) (ix : List Nat) (h : ByteArray) : OldC rs ix h 0 [] := ⟨⟨by simp, by simp, by simp⟩, by simp, fun p hp => by omega⟩
theorem OldC.now {rs : List RuleD} {ix : List Nat} {h : ByteArray} {i : Nat} {ins : List ByteArray} (H : OldC rs ix h i ins) {t : ByteArray} (ht : (h :: ins)[i]? = some t) : NowC rs ix h t i 0 ins :=
  ⟨H.way, ht, H.old, fun i _ h => by omega⟩
theorem NowC.done {rs : List RuleD} {ix : List Nat} {h t : ByteArray} {i : Nat} {ins : List ByteArray} (H : NowC rs ix h t i ix.length ins) : OldC rs ix h (i + 1) ins := by
  refine ⟨H.way, by have := H.lt; omega, fun p hp u hu => ?_⟩
  by_cases e : p = i
  · subst e
    have := H.cur
    rw [hu] at this
    injection this with this
    subst this
    exact H.now
  · exact H.old p (by omega) u hu
theorem NowC.next {rs : List RuleD} {ix : List Nat} {h t : ByteArray} {i k : Nat} {ins : List ByteArray} (H : NowC rs ix h t i k ins) (hn : ∀ hk : k < ix.length, (ruleAt rs ix[k]).head = t → ∀ s, tkAlone (Com false rs) (ruleAt rs ix[k]).body s → headB s = true → s ∈ ins) : NowC rs ix h t i (k + 1) ins := by
  refine ⟨H.way, H.cur, H.old, fun j hj hjk => ?_⟩
  by_cases e : j = k
  · subst e; exact hn hj
  · exact H.now j hj (by omega)
theorem NowC.aft {rs : List RuleD} {ix : List Nat} {h t : ByteArray} {i k : Nat} {ins : List ByteArray} (H : NowC rs ix h t i k ins) (hk : k < ix.length) (hl : ix[k] < rs.length) (he : (ruleAt rs ix[k]).head = t) {s : ByteArray} (hs : tkAlone (Com false rs) (ruleAt rs ix[k]).body s) : AftC rs ix h s := by
  rw [ruleAt_eq hl] at he hs
  refine Aft.step hl (List.getElem_mem hk) ?_ hs
  have h1 := List.mem_of_getElem? H.cur
  rw [List.mem_cons] at h1
  rw [he]
  rcases h1 with h1 | h1
  · exact .inl h1
  · exact .inr (H.way.aft t h1)
theorem NowC.add {rs : List RuleD} {ix : List Nat} {h t : ByteArray} {i k : Nat} {ins : List ByteArray} (H : NowC rs ix h t i k ins) {s : ByteArray} (ha : AftC rs ix h s) (hno : inB (h :: ins) s = false) : NowC rs ix h t i k (ins ++ [s]) := by
  have hlt := H.lt
  have hnot : s ∉ h :: ins := fun hm => by rw [(inB_iff _ _).2 hm] at hno; cases hno
  have hat : ∀ p, p ≤ i → (h :: (ins ++ [s]))[p]? = (h :: ins)[p]? := fun p hp => by
    rw [← List.cons_append, List.getElem?_append_left (by simp; omega)]
  have hsub : ∀ u ∈ ins, u ∈ ins ++ [s] := fun u hs => List.mem_append_left _ hs
  refine ⟨⟨?_, ?_, ?_⟩, by rw [hat i (Nat.le_refl _)]; exact H.cur, fun p hp u hu => ?_, H.now.mono hsub⟩
  · rw [List.nodup_append]
    refine ⟨H.way.nodup, by simp, fun a hm b hb e => ?_⟩
    rw [List.mem_singleton] at hb
    subst hb e
    exact hnot (List.mem_cons_of_mem _ hm)
  · intro u hu
    rw [List.mem_append, List.mem_singleton] at hu
    rcases hu with hu | rfl
    · exact H.way.aft u hu
    · exact ha
  · intro hm
    rw [List.mem_append, List.mem_singleton] at hm
    rcases hm with hm | rfl
    · exact H.way.no hm
    · exact hnot (by simp)
  · rw [hat p (by omega)] at hu
    exact (H.old p hp u hu).mono hsub
theorem OldC.out {rs : List RuleD} {ix : List Nat} {h : ByteArray} {i : Nat} {ins : List ByteArray} (H : OldC rs ix h i ins) (R : Rt rs) (hh : headB h = true) (hi : i = ins.length + 1) : ¬ AftC rs ix h h := by
  have shut : ∀ t ∈ h :: ins, ShutC rs ix ins t ix.length := fun t ht => by
    obtain ⟨p, hp, e⟩ := List.getElem_of_mem ht
    exact H.old p (by simp at hp; omega) t (by rw [List.getElem?_eq_getElem hp, e])
  have key : ∀ s, AftC rs ix h s → headB s = true → s ∈ ins := by
    intro s ha
    induction ha with
    | one j hj hx he s ht =>
      intro hs
      obtain ⟨p, hp, rfl⟩ := List.getElem_of_mem hx
      refine shut h (by simp) p hp hp (by rw [ruleAt_eq hj]; exact he) s (by rw [ruleAt_eq hj]; exact ht) hs
    | more j hj hx ha s ht ih =>
      intro hs
      obtain ⟨p, hp, rfl⟩ := List.getElem_of_mem hx
      exact shut _ (List.mem_cons_of_mem _ (ih (R.head _ hj))) p hp hp (by rw [ruleAt_eq hj]) s (by rw [ruleAt_eq hj]; exact ht) hs
  intro ha
  exact H.way.no (key h ha hh)
end Go.Proofs.Ytmhdbjoljonhdaa
