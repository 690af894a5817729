/- The program's Nullable and Productive. -/
import Derived.Test.YtmhdbjoljonhdaaSetsOf
import Derived.Deep.RegionHeld3
namespace Go.Proofs.Ytmhdbjoljonhdaa
open Go.RowKit

theorem pickB_filter {n : Nat} {hs : List ByteArray} {p : ByteArray → Bool} (h : ∀ i (hi : i < hs.length), n.testBit i = p hs[i]) : pickB n hs hs.length = hs.filter p := by
  have key : ∀ k, k ≤ hs.length → pickB n hs k = (hs.take k).filter p := by
    intro k
    induction k with
    | zero => intro _; rfl
    | succ k ih =>
      intro hk
      have h1 := h k (by omega)
      rw [List.take_succ_eq_append_getElem (by omega), List.filter_append, ← ih (by omega)]
      cases hb : n.testBit k
      · rw [pickB_f (by omega) hb]
        rw [hb] at h1
        simp [← h1]
      · rw [pickB_t (by omega) hb]
        rw [hb] at h1
        simp [← h1]
  rw [key _ (Nat.le_refl _), List.take_length]
theorem headsOf_few (rs : List RuleD) : (headsOf rs).length ≤ 20 := by
  cases hq : gramB rs
  · rw [headsOf_f hq]; simp
  · rw [headsOf_t hq]; exact (Rt.of hq).hs_len
theorem rlOf_head (rs : List RuleD) : ∀ r ∈ rlOf rs, r.head < 4194304 := by
  intro r hr
  cases hq : gramB rs
  · rw [rlOf_f hq] at hr; simp at hr
  · rw [rlOf_t hq] at hr
    obtain ⟨i, _, rfl⟩ := List.mem_map.1 hr
    exact (Rt.of hq).setN_lt _
theorem rlOf_body (rs : List RuleD) : ∀ r ∈ rlOf rs, ∀ x ∈ r.body, x < 4194304 := by
  intro r hr x hx
  cases hq : gramB rs
  · rw [rlOf_f hq] at hr; simp at hr
  · rw [rlOf_t hq] at hr
    obtain ⟨i, _, rfl⟩ := List.mem_map.1 hr
    obtain ⟨t, _, rfl⟩ := List.mem_map.1 hx
    exact (Rt.of hq).setN_lt _
theorem come_list {rs : List RuleD} {tok : Bool} {m : Nat} (h : FixAt (stepCome (rlOf rs)) (tokBase tok) m) : pickB m (headsOf rs) (headsOf rs).length = comOf tok rs := by
  unfold comOf
  cases hq : gramB rs
  · rw [headsOf_f hq]; rfl
  · have R := Rt.of hq
    have e : headsOf rs = hsOf rs := headsOf_t hq
    rw [rlOf_t hq] at h
    rw [e]
    apply pickB_filter
    intro i hi
    have h1 := com_bits R tok h (hsOf rs)[i]
    rw [R.idx_at hi] at h1
    have ht := head_no_tok (R.hs_head (List.getElem_mem hi))
    rw [Bool.eq_iff_iff, h1, ht]
    simp

set_option maxRecDepth 100000 in
set_option maxHeartbeats 4000000 in
theorem implNullable_any (rs : List RuleD) (v : Value) (lo hi : Nat) (w : World) (h : Rules w lo hi v rs) (hh : hi ≤ w.heap.size) :
    Calls Try.prog 11 #[.agg #[v]] w (MadeS w (comOf false rs)) := by
  have HV := Lib.hid h
  obtain ⟨A, c, rfl, -⟩ := h
  have hb := al1 w (.cells #[.slice A rs.length c] 25)
  go_enter Try.func11, Try.ntmps11
  go_wp2_with fail
  refine (setsOf_any rs _ lo hi _ (HV.out.below hb hh) (by simp; omega)).mono ?_
  rintro e w1 ⟨x, rfl, SG, b1⟩
  have hb1 := hb.trans (b1.mono (by simp))
  have hs1 := hb1.size
  have HSG := Lib.hid SG
  obtain ⟨Ah, ch, Bv, dv, rfl, -, -⟩ := SG.form
  have R1 := Row.made w1 68 #[.slice Ah (headsOf rs).length ch, .slice Bv (rlOf rs).length dv]
  have hb2 := al1 w1 (.cells #[.slice Ah (headsOf rs).length ch, .slice Bv (rlOf rs).length dv] 68)
  have hsz : (w1.alloc (.cells #[.slice Ah (headsOf rs).length ch, .slice Bv (rlOf rs).length dv] 68)).heap.size = w1.heap.size + 1 := by simp
  clear SG b1 hb
  go_wp2
  generalize w1.alloc (.cells #[.slice Ah (headsOf rs).length ch, .slice Bv (rlOf rs).length dv] 68) = wA at *
  have c0 := R1.cell 0
  have c1 := R1.cell 1
  simp at c0 c1
  have hlA := R1.lt
  have hbA := hb1.trans (hb2.mono hs1)
  have HSZ := Lib.hid hsz
  have SGd0 := HSG.out.below hb2 (Nat.le_refl _)
  have SGd : SetsG wA.drew w1.heap.size (.agg #[.slice Ah (headsOf rs).length ch, .slice Bv (rlOf rs).length dv]) (headsOf rs) (rlOf rs) := SGd0
  clear SGd0 R1 hb2 hb1 hsz
  have HZD : Hid (wA.drew.heap.size = wA.heap.size) := Lib.hid rfl
  have HF := Lib.hid (headsOf_few rs)
  have HRL := Lib.hid (rlOf_head rs)
  go_region_held3 (fun w' => w'.cell? ⟨w1.heap.size, 0, none⟩ = some (.slice Ah (headsOf rs).length ch) ∧ w'.cell? ⟨w1.heap.size, 1, none⟩ = some (.slice Bv (rlOf rs).length dv))
    (first | go_keep | (refine ⟨?_, ?_⟩ <;> (rw [b6.cell (by show w1.heap.size < _; rw [HZD.out]; omega)]; assumption)) | (refine ⟨?_, ?_⟩ <;> (rw [b7.cell (by show w1.heap.size < _; omega), b6.cell (by show w1.heap.size < _; rw [HZD.out]; omega)]; assumption)))
    (first
      | (go_at_call 54; refine (nullable_any (headsOf rs) (rlOf rs) _ w1.heap.size wA.drew SGd (by rw [HZD.out]; omega) HRL.out).mono ?_; rintro e w6 ⟨m, rfl, hfix, b6⟩; have z6 : wA.heap.size ≤ w6.heap.size := b6.size; have hm := hfix.1)
      | (go_at_call 53; refine (toldSet_any (headsOf rs) (rlOf rs) _ m w1.heap.size _ (SGd.below b6 (by rw [HZD.out]; omega)) (by omega) HF.out hm).mono ?_; rintro e w7 ⟨u, g, rfl, o7, g7, b7⟩))
  have hl := come_list hfix
  rw [hl] at o7 g7
  have B7 : Below w.heap.size w w7 := (hbA.trans ((show Below wA.heap.size wA w6 from ⟨b6.os, b6.tape, b6.output, b6.size, b6.block⟩).mono hbA.size)).trans (b7.mono (by omega))
  clear b6 b7 SGd
  go_wp2
  go_ret
  exact ⟨u, g, rfl, o7, fun hn => by have := g7 hn; omega, B7⟩

set_option maxRecDepth 100000 in
set_option maxHeartbeats 4000000 in
theorem implProductive_any (rs : List RuleD) (v : Value) (lo hi : Nat) (w : World) (h : Rules w lo hi v rs) (hh : hi ≤ w.heap.size) :
    Calls Try.prog 12 #[.agg #[v]] w (MadeS w (comOf true rs)) := by
  have HV := Lib.hid h
  obtain ⟨A, c, rfl, -⟩ := h
  have hb := al1 w (.cells #[.slice A rs.length c] 25)
  go_enter Try.func12, Try.ntmps12
  go_wp2_with fail
  refine (setsOf_any rs _ lo hi _ (HV.out.below hb hh) (by simp; omega)).mono ?_
  rintro e w1 ⟨x, rfl, SG, b1⟩
  have hb1 := hb.trans (b1.mono (by simp))
  have hs1 := hb1.size
  have HSG := Lib.hid SG
  obtain ⟨Ah, ch, Bv, dv, rfl, -, -⟩ := SG.form
  have R1 := Row.made w1 68 #[.slice Ah (headsOf rs).length ch, .slice Bv (rlOf rs).length dv]
  have hb2 := al1 w1 (.cells #[.slice Ah (headsOf rs).length ch, .slice Bv (rlOf rs).length dv] 68)
  have hsz : (w1.alloc (.cells #[.slice Ah (headsOf rs).length ch, .slice Bv (rlOf rs).length dv] 68)).heap.size = w1.heap.size + 1 := by simp
  clear SG b1 hb
  go_wp2
  generalize w1.alloc (.cells #[.slice Ah (headsOf rs).length ch, .slice Bv (rlOf rs).length dv] 68) = wA at *
  have c0 := R1.cell 0
  have c1 := R1.cell 1
  simp at c0 c1
  have hlA := R1.lt
  have hbA := hb1.trans (hb2.mono hs1)
  have HSZ := Lib.hid hsz
  have SGd0 := HSG.out.below hb2 (Nat.le_refl _)
  have SGd : SetsG wA.drew w1.heap.size (.agg #[.slice Ah (headsOf rs).length ch, .slice Bv (rlOf rs).length dv]) (headsOf rs) (rlOf rs) := SGd0
  clear SGd0 R1 hb2 hb1 hsz
  have HZD : Hid (wA.drew.heap.size = wA.heap.size) := Lib.hid rfl
  have HF := Lib.hid (headsOf_few rs)
  have HRL := Lib.hid (rlOf_head rs)
  go_region_held3 (fun w' => w'.cell? ⟨w1.heap.size, 0, none⟩ = some (.slice Ah (headsOf rs).length ch) ∧ w'.cell? ⟨w1.heap.size, 1, none⟩ = some (.slice Bv (rlOf rs).length dv))
    (first | go_keep | (refine ⟨?_, ?_⟩ <;> (rw [b6.cell (by show w1.heap.size < _; rw [HZD.out]; omega)]; assumption)) | (refine ⟨?_, ?_⟩ <;> (rw [b7.cell (by show w1.heap.size < _; omega), b6.cell (by show w1.heap.size < _; rw [HZD.out]; omega)]; assumption)))
    (first
      | (go_at_call 55; refine (productive_any (headsOf rs) (rlOf rs) _ w1.heap.size wA.drew SGd (by rw [HZD.out]; omega) HRL.out).mono ?_; rintro e w6 ⟨m, rfl, hfix, b6⟩; have z6 : wA.heap.size ≤ w6.heap.size := b6.size; have hm := hfix.1)
      | (go_at_call 53; refine (toldSet_any (headsOf rs) (rlOf rs) _ m w1.heap.size _ (SGd.below b6 (by rw [HZD.out]; omega)) (by omega) HF.out hm).mono ?_; rintro e w7 ⟨u, g, rfl, o7, g7, b7⟩))
  have hl := come_list hfix
  rw [hl] at o7 g7
  have B7 : Below w.heap.size w w7 := (hbA.trans ((show Below wA.heap.size wA w6 from ⟨b6.os, b6.tape, b6.output, b6.size, b6.block⟩).mono hbA.size)).trans (b7.mono (by omega))
  clear b6 b7 SGd
  go_wp2
  go_ret
  exact ⟨u, g, rfl, o7, fun hn => by have := g7 hn; omega, B7⟩
end Go.Proofs.Ytmhdbjoljonhdaa
