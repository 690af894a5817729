/- The program's Nullable and Productive. -/
import Derived.Test.YtlgedjpolmlciaaSetsOf
import Derived.Deep.RegionHeld3
namespace Go.Proofs.Ytlgedjpolmlciaa
open Go.RowKit

theorem pickB_filter {n : Nat} {hs : List ByteArray} {p : ByteArray → Bool} (h : ∀ i (hi : i < hs.length), n.testBit i = p hs[i]) : pickB n hs hs.length = hs.filter p := by
  have key : ∀ k, k ≤ hs.length → pickB n hs k = (hs.take k).filter p := by
    intro k
    induction k with
    | zero => intro _; rfl
    | succ k ih =>
      intro hk
      have h1 := h k (by omega)
      rw [List.take_succ_eq_append_getElem (by omega), List.filter_append, ← ih (by omega)]
      cases hb : n.testBit k
      · rw [pickB_f (by omega) hb]
        rw [hb] at h1
        simp [← h1]
      · rw [pickB_t (by omega) hb]
        rw [hb] at h1
        simp [← h1]
  rw [key _ (Nat.le_refl _), List.take_length]
theorem headsOf_few (rs : List RuleD) : (headsOf rs).length ≤ 20 := by
  cases hq : gramB rs
  · rw [headsOf_f hq]; simp
  · rw [headsOf_t hq]; exact (Rt.of hq).hs_len
theorem rlOf_head (rs : List RuleD) : ∀ r ∈ rlOf rs, r.head < 4194304 := by
  intro r hr
  cases hq : gramB rs
  · rw [rlOf_f hq] at hr; simp at hr
  · rw [rlOf_t hq] at hr
    obtain ⟨i, _, rfl⟩ := List.mem_map.1 hr
    exact (Rt.of hq).setN_lt _
theorem rlOf_body (rs : List RuleD) : ∀ r ∈ rlOf rs, ∀ x ∈ r.body, x < 4194304 := by
  intro r hr x hx
  cases hq : gramB rs
  · rw [rlOf_f hq] at hr; simp at hr
  · rw [rlOf_t hq] at hr
    obtain ⟨i, _, rfl⟩ := List.mem_map.1 hr
    obtain ⟨t, _, rfl⟩ := List.mem_map.1 hx
    exact (Rt.of hq).setN_lt _
theorem come_list {rs : List RuleD} {tok : Bool} {m : Nat} (h : FixAt (stepCome (rlOf rs)) (tokBase tok) m) : pickB m (headsOf rs) (headsOf rs).length = comOf tok rs := by
  unfold comOf
  cases hq : gramB rs
  · rw [headsOf_f hq]; rfl
  · have R := Rt.of hq
    have e : headsOf rs = hsOf rs := headsOf_t hq
    rw [rlOf_t hq] at h
    rw [e]
    apply pickB_filter
    intro i hi
    have h1 := com_bits R tok h (hsOf rs)[i]
    rw [R.idx_at hi] at h1
    have ht := head_no_tok (R.hs_head (List.getElem_mem hi))
    rw [Bool.eq_iff_iff, h1, ht]
    simp

end Go.Proofs.Ytlgedjpolmlciaa
