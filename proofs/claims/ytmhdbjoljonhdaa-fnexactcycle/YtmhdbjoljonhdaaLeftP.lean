/- How the model finds what may stand at the left end: what its lists hold at each place. -/
import Derived.Test.YtmhdbjoljonhdaaLeftI
import Derived.Test.YtmhdbjoljonhdaaFixT
namespace Go.Proofs.Ytmhdbjoljonhdaa
open Go.RowKit

theorem com_mem {tok : Bool} {rs : List RuleD} (h : gramB rs = true) {s : ByteArray} : inB (comOf tok rs) s = true ↔ Com tok rs s := by
  rw [inB_iff]
  unfold comOf
  rw [headsOf_t h, List.mem_filter]
  constructor
  · rintro ⟨_, h2⟩; simpa using h2
  · intro h2; exact ⟨h2.in, by simpa using h2⟩
abbrev AftL (rs : List RuleD) (h s : ByteArray) : Prop := Aft rs (List.range rs.length) (tkLeft (Com false rs)) h s
theorem aftL_body {rs : List RuleD} {h s : ByteArray} (ha : AftL rs h s) : s ∈ rs.flatMap (·.body) := by
  rw [List.mem_flatMap]
  cases ha with
  | one i hi _ _ _ ht => obtain ⟨k, hk, rfl, _⟩ := ht; exact ⟨_, List.getElem_mem hi, List.getElem_mem hk⟩
  | more i hi _ _ _ ht => obtain ⟨k, hk, rfl, _⟩ := ht; exact ⟨_, List.getElem_mem hi, List.getElem_mem hk⟩
theorem aft_head {rs : List RuleD} {ix : List Nat} {tk : List ByteArray → ByteArray → Prop} {h s : ByteArray} (ha : Aft rs ix tk h s) : ∃ i, ∃ hi : i < rs.length, rs[i].head = h := by
  induction ha with
  | one i hi _ he _ _ => exact ⟨i, hi, he⟩
  | more _ _ _ _ _ _ ih => exact ih
theorem flat_len (rs : List RuleD) (h : ∀ i (hi : i < rs.length), rs[i].body.length ≤ 5) : (rs.flatMap (·.body)).length ≤ rs.length * 5 := by
  induction rs with
  | nil => simp
  | cons r rs ih =>
    have h0 := h 0 (by simp)
    have h1 := ih fun i hi => by have := h (i + 1) (by simpa using hi); simpa using this
    simp only [List.flatMap_cons, List.length_append, List.length_cons, List.getElem_cons_zero] at h0 h1 ⊢
    omega
structure WayL (rs : List RuleD) (h : ByteArray) (ins : List ByteArray) : Prop where
  nodup : ins.Nodup
  aft : ∀ s ∈ ins, AftL rs h s
theorem WayL.nil (rs : List RuleD) (h : ByteArray) : WayL rs h [] := ⟨by simp, by simp⟩
theorem WayL.len {rs : List RuleD} {h : ByteArray} {ins : List ByteArray} (H : WayL rs h ins) (R : Rt rs) : ins.length ≤ 100 := by
  have h1 : ins.length ≤ (rs.flatMap (·.body)).length := H.nodup.length_le_of_subset fun s hs => aftL_body (H.aft s hs)
  have h2 := flat_len rs R.len
  have h3 := R.few
  omega
theorem WayL.size {rs : List RuleD} {h : ByteArray} {ins : List ByteArray} (H : WayL rs h ins) (R : Rt rs) : ∀ s ∈ ins, s.size ≤ maxLen := fun s hs => by
  have := aftL_body (H.aft s hs)
  rw [List.mem_flatMap] at this
  obtain ⟨r, hr, hs⟩ := this
  obtain ⟨i, hi, rfl⟩ := List.getElem_of_mem hr
  have k := R.body i hi s hs
  unfold symOK at k
  rw [Bool.or_eq_true] at k
  have : s.size ≤ 4 := by
    rcases k with k | k
    · exact headB_size k
    · exact tokB_size k
  unfold maxLen; omega
/-- at a head all rules ahead of k have been gone through -/
def ShutL (rs : List RuleD) (ins : List ByteArray) (t : ByteArray) (k : Nat) : Prop :=
  ∀ i (hi : i < rs.length), i < k → rs[i].head = t → ∀ s, tkLeft (Com false rs) rs[i].body s → headB s = true → s ∈ ins
theorem ShutL.mono {rs : List RuleD} {ins ins' : List ByteArray} {t : ByteArray} {k : Nat} (h : ShutL rs ins t k) (hs : ∀ s ∈ ins, s ∈ ins') : ShutL rs ins' t k :=
  fun i hi hk he s ht hh => hs s (h i hi hk he s ht hh)
/-- the heads ahead of the i-th have been gone through -/
structure OldL (rs : List RuleD) (h : ByteArray) (i : Nat) (ins : List ByteArray) : Prop where
  way : WayL rs h ins
  few : i ≤ ins.length + 1
  old : ∀ p, p < i → ∀ u, (h :: ins)[p]? = some u → ShutL rs ins u rs.length
/-- at the i-th, t, the rules ahead of k have been gone through -/
structure NowL (rs : List RuleD) (h t : ByteArray) (i k : Nat) (ins : List ByteArray) : Prop where
  way : WayL rs h ins
  cur : (h :: ins)[i]? = some t
  old : ∀ p, p < i → ∀ u, (h :: ins)[p]? = some u → ShutL rs ins u rs.length
  now : ShutL rs ins t k
theorem NowL.lt {rs : List RuleD} {h t : ByteArray} {i k : Nat} {ins : List ByteArray} (H : NowL rs h t i k ins) : i < ins.length + 1 := by
  rcases Nat.lt_or_ge i (ins.length + 1) with h1 | h1
  · exact h1
  · have := H.cur
    rw [List.getElem?_eq_none (by simpa using h1)] at this; cases this
theorem OldL.start (rs : List RuleD) (h : ByteArray) : OldL rs h 0 [] := ⟨WayL.nil _ _, by simp, fun p hp => by omega⟩
theorem OldL.now {rs : List RuleD} {h : ByteArray} {i : Nat} {ins : List ByteArray} (H : OldL rs h i ins) {t : ByteArray} (ht : (h :: ins)[i]? = some t) : NowL rs h t i 0 ins :=
  ⟨H.way, ht, H.old, fun i _ h => by omega⟩
theorem NowL.done {rs : List RuleD} {h t : ByteArray} {i : Nat} {ins : List ByteArray} (H : NowL rs h t i rs.length ins) : OldL rs h (i + 1) ins := by
  refine ⟨H.way, by have := H.lt; omega, fun p hp u hu => ?_⟩
  by_cases e : p = i
  · subst e
    have := H.cur
    rw [hu] at this
    injection this with this
    subst this
    exact H.now
  · exact H.old p (by omega) u hu
theorem NowL.next {rs : List RuleD} {h t : ByteArray} {i k : Nat} {ins : List ByteArray} (H : NowL rs h t i k ins) (hn : ∀ hk : k < rs.length, rs[k].head = t → ∀ s, tkLeft (Com false rs) rs[k].body s → headB s = true → s ∈ ins) : NowL rs h t i (k + 1) ins := by
  refine ⟨H.way, H.cur, H.old, fun j hj hjk => ?_⟩
  by_cases e : j = k
  · subst e; exact hn hj
  · exact H.now j hj (by omega)
theorem NowL.add {rs : List RuleD} {h t : ByteArray} {i k n : Nat} {ins : List ByteArray} (H : NowL rs h t i k ins) (hk : k < rs.length) (he : rs[k].head = t) (hn : n < rs[k].body.length)
    (hall : ∀ m (hm : m < rs[k].body.length), m < n → Com false rs rs[k].body[m]) (hno : inB ins rs[k].body[n] = false) : NowL rs h t i k (ins ++ [rs[k].body[n]]) := by
  have hlt := H.lt
  have hat : ∀ p, p ≤ i → (h :: (ins ++ [rs[k].body[n]]))[p]? = (h :: ins)[p]? := fun p hp => by
    rw [← List.cons_append, List.getElem?_append_left (by simp; omega)]
  have hsub : ∀ s ∈ ins, s ∈ ins ++ [rs[k].body[n]] := fun s hs => List.mem_append_left _ hs
  refine ⟨⟨?_, ?_⟩, by rw [hat i (Nat.le_refl _)]; exact H.cur, fun p hp u hu => ?_, H.now.mono hsub⟩
  · rw [List.nodup_append]
    refine ⟨H.way.nodup, by simp, fun a ha b hb e => ?_⟩
    rw [List.mem_singleton] at hb
    subst hb e
    rw [(inB_iff _ _).2 ha] at hno; cases hno
  · intro s hs
    rw [List.mem_append, List.mem_singleton] at hs
    rcases hs with hs | rfl
    · exact H.way.aft s hs
    · refine Aft.step hk (List.mem_range.2 hk) ?_ ⟨n, hn, rfl, fun m hm => hall m (by omega) hm⟩
      have h1 := List.mem_of_getElem? H.cur
      rw [List.mem_cons] at h1
      rw [he]
      rcases h1 with h1 | h1
      · exact .inl h1
      · exact .inr (H.way.aft t h1)
  · rw [hat p (by omega)] at hu
    exact (H.old p hp u hu).mono hsub
open Classical in
theorem OldL.out {rs : List RuleD} {h : ByteArray} {i : Nat} {ins : List ByteArray} (H : OldL rs h i ins) (R : Rt rs) (hq : gramB rs = true) (hi : i = ins.length + 1) : ((hsOf rs).filter fun s => inB ins s) = leftOf rs h := by
  unfold leftOf
  rw [headsOf_t hq]
  apply List.filter_congr
  intro s hs
  rw [Bool.eq_iff_iff, decide_eq_true_eq, inB_iff]
  have shut : ∀ t ∈ h :: ins, ShutL rs ins t rs.length := fun t ht => by
    obtain ⟨p, hp, e⟩ := List.getElem_of_mem ht
    exact H.old p (by simp at hp; omega) t (by rw [List.getElem?_eq_getElem hp, e])
  constructor
  · intro h1; exact H.way.aft s h1
  · intro ha
    have hh := R.hs_head hs
    clear hs
    induction ha with
    | one j hj hx he s ht => exact shut h (by simp) j hj hj he s ht hh
    | more j hj hx ha s ht ih => exact shut _ (List.mem_cons_of_mem _ (ih (R.head j hj))) j hj hj rfl s ht hh
open Classical in
theorem leftOf_big {rs : List RuleD} {h : ByteArray} (hb : 8000 < h.size) : leftOf rs h = [] := by
  unfold leftOf
  cases hq : gramB rs
  · rw [headsOf_f hq]; rfl
  · rw [List.filter_eq_nil_iff]
    intro s _
    rw [decide_eq_true_eq]
    intro ha
    obtain ⟨i, hi, e⟩ := aft_head ha
    have := headB_size ((Rt.of hq).head i hi)
    rw [e] at this
    omega
theorem leftOf_f {rs : List RuleD} {h : ByteArray} (hq : gramB rs = false) : leftOf rs h = [] := by unfold leftOf; rw [headsOf_f hq]; rfl
end Go.Proofs.Ytmhdbjoljonhdaa
