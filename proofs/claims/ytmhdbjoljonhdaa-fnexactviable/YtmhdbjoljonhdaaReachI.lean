/- The program's Reachable. -/
import Derived.Test.YtmhdbjoljonhdaaNullI
import Derived.Test.YtmhdbjoljonhdaaAfterU
namespace Go.Proofs.Ytmhdbjoljonhdaa
open Go.RowKit

theorem headsTo_first {rs : List RuleD} (h : 0 < rs.length) {k : Nat} (hk : 1 ≤ k) (hl : k ≤ rs.length) : (headsTo rs k)[0]? = some rs[0].head := by
  induction k with
  | zero => omega
  | succ k ih =>
    rw [headsTo_succ (by omega)]
    rcases Nat.eq_zero_or_pos k with h0 | h0
    · subst h0
      rfl
    · have := ih h0 (by omega)
      unfold addSym
      split
      · exact this
      · rw [List.getElem?_append_left]
        · exact this
        · rcases Nat.eq_zero_or_pos (headsTo rs k).length with h1 | h1
          · rw [List.getElem?_eq_none (by omega)] at this; cases this
          · exact h1
theorem Rt.start_idx {rs : List RuleD} (R : Rt rs) : symIdx (hsOf rs) (rs[0]'R.one).head = 0 := by
  have h := headsTo_first R.one (k := rs.length) R.one (Nat.le_refl _)
  change (hsOf rs)[0]? = _ at h
  have hl : 0 < (hsOf rs).length := by
    rcases Nat.eq_zero_or_pos (hsOf rs).length with h1 | h1
    · rw [List.getElem?_eq_none (by omega)] at h; cases h
    · exact h1
  rw [List.getElem?_eq_getElem hl] at h
  injection h with h
  rw [← h]
  exact R.idx_at hl
/-- the start of a grammar -/
def startOf (rs : List RuleD) : ByteArray := (ruleAt rs 0).head
theorem Rt.start {rs : List RuleD} (R : Rt rs) : startOf rs = (rs[0]'R.one).head := by unfold startOf; rw [ruleAt_eq R.one]
theorem Rt.start_set {rs : List RuleD} (R : Rt rs) : setN (hsOf rs) (startOf rs) = 1 := by unfold setN; rw [R.start, R.start_idx]
/-- the start, or what is come to from it -/
def Rch (rs : List RuleD) (ix : List Nat) (s : ByteArray) : Prop := s = startOf rs ∨ Aft rs ix tkAll (startOf rs) s
theorem reach_bit {rs : List RuleD} (R : Rt rs) {ix : List Nat} (hix : ∀ i ∈ ix, i < rs.length) {m : Nat} (hf : FixAt (stepAfter (rnl rs ix) 1 joinAll) 0 m) {s : ByteArray} (hs : s ∈ hsOf rs) : (1 ||| m).testBit (symIdx (hsOf rs) s) = true ↔ Rch rs ix s := by
  rw [← R.start_set] at hf
  rw [Nat.testBit_or, Bool.or_eq_true, aft_bit R hix (takes_all rs) _ hf hs]
  have h1 : Nat.testBit 1 (symIdx (hsOf rs) s) = true ↔ s = startOf rs := by
    rw [← R.start_set, setN_bit]
    exact ⟨fun e => (R.idx_inj hs e).symm, fun e => by rw [e]⟩
  rw [h1]; rfl
open Classical in
noncomputable def reachOf (rs : List RuleD) : List ByteArray := (headsOf rs).filter fun s => decide (Rch rs (List.range rs.length) s)
theorem reachOf_len (rs : List RuleD) : (reachOf rs).length ≤ 1000 := Nat.le_trans (List.length_filter_le _ _) (headsOf_len rs)
theorem reach_list {rs : List RuleD} {m : Nat} (h : FixAt (stepAfter (rlOf rs) 1 joinAll) 0 m) : pickB (1 ||| m) (headsOf rs) (headsOf rs).length = reachOf rs := by
  unfold reachOf
  cases hq : gramB rs
  · rw [headsOf_f hq]; rfl
  · have R := Rt.of hq
    have e : headsOf rs = hsOf rs := headsOf_t hq
    rw [rlOf_t hq] at h
    rw [e]
    apply pickB_filter
    intro i hi
    have h1 := reach_bit R (fun i hi => List.mem_range.1 hi) h (List.getElem_mem hi)
    rw [R.idx_at hi] at h1
    rw [Bool.eq_iff_iff, h1]
    simp

set_option maxRecDepth 100000 in
set_option maxHeartbeats 4000000 in
theorem implReachable_any (rs : List RuleD) (v : Value) (lo hi : Nat) (w : World) (h : Rules w lo hi v rs) (hh : hi ≤ w.heap.size) :
    Calls Try.prog 13 #[.agg #[v]] w (MadeS w (reachOf rs)) := by
  have HV := Lib.hid h
  obtain ⟨A, c, rfl, -⟩ := h
  have hb := al1 w (.cells #[.slice A rs.length c] 25)
  go_enter Try.func13, Try.ntmps13
  go_wp2_with fail
  refine (setsOf_any rs _ lo hi _ (HV.out.below hb hh) (by simp; omega)).mono ?_
  rintro e w1 ⟨x, rfl, SG, b1⟩
  have hb1 := hb.trans (b1.mono (by simp))
  have hs1 := hb1.size
  have HSG := Lib.hid SG
  obtain ⟨Ah, ch, Bv, dv, rfl, -, -⟩ := SG.form
  have R1 := Row.made w1 68 #[.slice Ah (headsOf rs).length ch, .slice Bv (rlOf rs).length dv]
  have hb2 := al1 w1 (.cells #[.slice Ah (headsOf rs).length ch, .slice Bv (rlOf rs).length dv] 68)
  have hsz : (w1.alloc (.cells #[.slice Ah (headsOf rs).length ch, .slice Bv (rlOf rs).length dv] 68)).heap.size = w1.heap.size + 1 := by simp
  clear SG b1 hb
  go_wp2
  generalize w1.alloc (.cells #[.slice Ah (headsOf rs).length ch, .slice Bv (rlOf rs).length dv] 68) = wA at *
  have c0 := R1.cell 0
  have c1 := R1.cell 1
  simp at c0 c1
  have hlA := R1.lt
  have hbA := hb1.trans (hb2.mono hs1)
  have HSZ := Lib.hid hsz
  have SGd0 := HSG.out.below hb2 (Nat.le_refl _)
  have SGd : SetsG wA.drew w1.heap.size (.agg #[.slice Ah (headsOf rs).length ch, .slice Bv (rlOf rs).length dv]) (headsOf rs) (rlOf rs) := SGd0
  clear SGd0 R1 hb2 hb1 hsz
  have HZD : Hid (wA.drew.heap.size = wA.heap.size) := Lib.hid rfl
  have HF := Lib.hid (headsOf_few rs)
  have HRL := Lib.hid (fun r hr => joinAll_lt (rlOf_body rs r hr))
  go_region_held3 (fun w' => w'.cell? ⟨w1.heap.size, 0, none⟩ = some (.slice Ah (headsOf rs).length ch) ∧ w'.cell? ⟨w1.heap.size, 1, none⟩ = some (.slice Bv (rlOf rs).length dv))
    (first | go_keep | (refine ⟨?_, ?_⟩ <;> (rw [b6.cell (by show w1.heap.size < _; rw [HZD.out]; omega)]; assumption)) | (refine ⟨?_, ?_⟩ <;> (rw [b7.cell (by show w1.heap.size < _; omega), b6.cell (by show w1.heap.size < _; rw [HZD.out]; omega)]; assumption)))
    (first
      | (go_at_call 56; refine (reachable_any (headsOf rs) (rlOf rs) _ w1.heap.size wA.drew SGd (by rw [HZD.out]; omega) HRL.out).mono ?_; rintro e w6 ⟨m, rfl, hfix, b6⟩; have z6 : wA.heap.size ≤ w6.heap.size := b6.size; have hm := or_lt (show 1 < 4194304 by omega) hfix.1)
      | (go_at_call 53; refine (toldSet_any (headsOf rs) (rlOf rs) _ (1 ||| m) w1.heap.size _ (SGd.below b6 (by rw [HZD.out]; omega)) (by omega) HF.out hm).mono ?_; rintro e w7 ⟨u, g, rfl, o7, g7, b7⟩))
  have hl := reach_list hfix
  rw [hl] at o7 g7
  have B7 : Below w.heap.size w w7 := (hbA.trans ((show Below wA.heap.size wA w6 from ⟨b6.os, b6.tape, b6.output, b6.size, b6.block⟩).mono hbA.size)).trans (b7.mono (by omega))
  clear b6 b7 SGd
  go_wp2
  go_ret
  exact ⟨u, g, rfl, o7, fun hn => by have := g7 hn; omega, B7⟩
end Go.Proofs.Ytmhdbjoljonhdaa
