/- The program's Reachable. -/
import Derived.Test.YtlgedjpolmlciaaNullI
import Derived.Test.YtlgedjpolmlciaaJAfterU
namespace Go.Proofs.Ytlgedjpolmlciaa
open Go.RowKit

theorem headsTo_first {rs : List RuleD} (h : 0 < rs.length) {k : Nat} (hk : 1 ≤ k) (hl : k ≤ rs.length) : (headsTo rs k)[0]? = some rs[0].head := by
  induction k with
  | zero => omega
  | succ k ih =>
    rw [headsTo_succ (by omega)]
    rcases Nat.eq_zero_or_pos k with h0 | h0
    · subst h0
      rfl
    · have := ih h0 (by omega)
      unfold addSym
      split
      · exact this
      · rw [List.getElem?_append_left]
        · exact this
        · rcases Nat.eq_zero_or_pos (headsTo rs k).length with h1 | h1
          · rw [List.getElem?_eq_none (by omega)] at this; cases this
          · exact h1
theorem Rt.start_idx {rs : List RuleD} (R : Rt rs) : symIdx (hsOf rs) (rs[0]'R.one).head = 0 := by
  have h := headsTo_first R.one (k := rs.length) R.one (Nat.le_refl _)
  change (hsOf rs)[0]? = _ at h
  have hl : 0 < (hsOf rs).length := by
    rcases Nat.eq_zero_or_pos (hsOf rs).length with h1 | h1
    · rw [List.getElem?_eq_none (by omega)] at h; cases h
    · exact h1
  rw [List.getElem?_eq_getElem hl] at h
  injection h with h
  rw [← h]
  exact R.idx_at hl
/-- the start of a grammar -/
def startOf (rs : List RuleD) : ByteArray := (ruleAt rs 0).head
theorem Rt.start {rs : List RuleD} (R : Rt rs) : startOf rs = (rs[0]'R.one).head := by unfold startOf; rw [ruleAt_eq R.one]
theorem Rt.start_set {rs : List RuleD} (R : Rt rs) : setN (hsOf rs) (startOf rs) = 1 := by unfold setN; rw [R.start, R.start_idx]
/-- the start, or what is come to from it -/
def Rch (rs : List RuleD) (ix : List Nat) (s : ByteArray) : Prop := s = startOf rs ∨ Aft rs ix tkAll (startOf rs) s
theorem reach_bit {rs : List RuleD} (R : Rt rs) {ix : List Nat} (hix : ∀ i ∈ ix, i < rs.length) {m : Nat} (hf : FixAt (stepAfter (rnl rs ix) 1 joinAll) 0 m) {s : ByteArray} (hs : s ∈ hsOf rs) : (1 ||| m).testBit (symIdx (hsOf rs) s) = true ↔ Rch rs ix s := by
  rw [← R.start_set] at hf
  rw [Nat.testBit_or, Bool.or_eq_true, aft_bit R hix (takes_all rs) _ hf hs]
  have h1 : Nat.testBit 1 (symIdx (hsOf rs) s) = true ↔ s = startOf rs := by
    rw [← R.start_set, setN_bit]
    exact ⟨fun e => (R.idx_inj hs e).symm, fun e => by rw [e]⟩
  rw [h1]; rfl
open Classical in
noncomputable def reachOf (rs : List RuleD) : List ByteArray := (headsOf rs).filter fun s => decide (Rch rs (List.range rs.length) s)
theorem reachOf_len (rs : List RuleD) : (reachOf rs).length ≤ 1000 := Nat.le_trans (List.length_filter_le _ _) (headsOf_len rs)
theorem reach_list {rs : List RuleD} {m : Nat} (h : FixAt (stepAfter (rlOf rs) 1 joinAll) 0 m) : pickB (1 ||| m) (headsOf rs) (headsOf rs).length = reachOf rs := by
  unfold reachOf
  cases hq : gramB rs
  · rw [headsOf_f hq]; rfl
  · have R := Rt.of hq
    have e : headsOf rs = hsOf rs := headsOf_t hq
    rw [rlOf_t hq] at h
    rw [e]
    apply pickB_filter
    intro i hi
    have h1 := reach_bit R (fun i hi => List.mem_range.1 hi) h (List.getElem_mem hi)
    rw [R.idx_at hi] at h1
    rw [Bool.eq_iff_iff, h1]
    simp

end Go.Proofs.Ytlgedjpolmlciaa
