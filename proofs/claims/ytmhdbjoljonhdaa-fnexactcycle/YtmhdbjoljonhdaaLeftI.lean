/- The program's LeftOf. -/
import Derived.Test.YtmhdbjoljonhdaaNullI
import Derived.Test.YtmhdbjoljonhdaaAfterU
namespace Go.Proofs.Ytmhdbjoljonhdaa
open Go.RowKit

theorem Below.nxt {w0 wk w' : World} (h : Below w0.heap.size w0 wk) (b : Below wk.heap.size wk w') : Below w0.heap.size w0 w' := h.trans (b.mono h.size)
theorem setN_small (hs : List ByteArray) (s : ByteArray) (h : hs.length ≤ 20) : setN hs s < 4194304 := by
  unfold setN
  refine Nat.pow_lt_pow_right (a := 2) (n := 22) (by omega) ?_
  unfold symIdx
  split
  · omega
  · split <;> omega
open Classical in
/-- the heads that may stand at the left end of what comes of a head -/
noncomputable def leftOf (rs : List RuleD) (h : ByteArray) : List ByteArray := (headsOf rs).filter fun s => decide (Aft rs (List.range rs.length) (tkLeft (Com false rs)) h s)
theorem leftOf_len (rs : List RuleD) (h : ByteArray) : (leftOf rs h).length ≤ 1000 := Nat.le_trans (List.length_filter_le _ _) (headsOf_len rs)
theorem left_list {rs : List RuleD} {h : ByteArray} {m1 m2 : Nat} (h1 : FixAt (stepCome (rlOf rs)) (tokBase false) m1) (h2 : FixAt (stepAfter (rlOf rs) (setN (headsOf rs) h) (leftN m1)) 0 m2) : pickB m2 (headsOf rs) (headsOf rs).length = leftOf rs h := by
  unfold leftOf
  cases hq : gramB rs
  · rw [headsOf_f hq]; rfl
  · have R := Rt.of hq
    have e : headsOf rs = hsOf rs := headsOf_t hq
    rw [rlOf_t hq] at h1 h2
    rw [e] at h2 ⊢
    have htk : Takes rs (leftN m1) (tkLeft (Com false rs)) := takes_left rs fun i hi s hs => by
      have := com_bits R false h1 s
      simpa using this
    apply pickB_filter
    intro i hi
    have h3 := aft_bit R (fun i hi => List.mem_range.1 hi) htk h h2 (List.getElem_mem hi)
    rw [R.idx_at hi] at h3
    rw [Bool.eq_iff_iff, h3]
    simp

set_option maxRecDepth 100000 in
set_option maxHeartbeats 8000000 in
theorem implLeftOf_any (rs : List RuleD) (v : Value) (hd : ByteArray) (lo hi : Nat) (w : World) (h : Rules w lo hi v rs) (hh : hi ≤ w.heap.size) :
    Calls Try.prog 16 #[.agg #[v], .string hd] w (MadeS w (leftOf rs hd)) := by
  have HV := Lib.hid h
  obtain ⟨A, c, rfl, -⟩ := h
  have hb := al1 w (.cells #[.slice A rs.length c] 25)
  go_enter Try.func16, Try.ntmps16
  go_wp2_with fail
  refine (setsOf_any rs _ lo hi _ (HV.out.below hb hh) (by simp; omega)).mono ?_
  rintro e w1 ⟨x, rfl, SG, b1⟩
  have hb1 := hb.trans (b1.mono (by simp))
  have hs1 := hb1.size
  have HSG := Lib.hid SG
  obtain ⟨Ah, ch, Bv, dv, rfl, ST, -⟩ := SG.form
  have HST := Lib.hid ST
  have R1 := Row.made w1 68 #[.slice Ah (headsOf rs).length ch, .slice Bv (rlOf rs).length dv]
  have hb2 := al1 w1 (.cells #[.slice Ah (headsOf rs).length ch, .slice Bv (rlOf rs).length dv] 68)
  have hsz : (w1.alloc (.cells #[.slice Ah (headsOf rs).length ch, .slice Bv (rlOf rs).length dv] 68)).heap.size = w1.heap.size + 1 := by simp
  clear SG b1 hb ST
  go_wp2
  generalize w1.alloc (.cells #[.slice Ah (headsOf rs).length ch, .slice Bv (rlOf rs).length dv] 68) = wA at *
  have c0 := R1.cell 0
  have c1 := R1.cell 1
  simp at c0 c1
  have hlA := R1.lt
  have hbA := hb1.trans (hb2.mono hs1)
  have HSZ := Lib.hid hsz
  have HSGD := Lib.hid (HSG.out.below hb2 (Nat.le_refl _))
  have HSTD := Lib.hid (HST.out.below hb2 (Nat.le_refl _))
  have HF := Lib.hid (headsOf_few rs)
  have HRL := Lib.hid (rlOf_head rs)
  have HTK : Hid (∀ m, ∀ r ∈ rlOf rs, leftN m r.body < 4194304) := Lib.hid fun m r hr => by
    have := leftN_lt (null := m) (rlOf_body rs r hr) r.body.length
    rwa [List.take_length] at this
  have hsn := setN_small (headsOf rs) hd HF.out
  have BB : Below wA.heap.size wA wA.drew := (Below.refl _ _).drew
  have HBA := Lib.hid hbA
  clear R1 hb2 hb1 hsz hbA
  go_region_held3 (fun w' => w'.cell? ⟨w1.heap.size, 0, none⟩ = some (.slice Ah (headsOf rs).length ch) ∧ w'.cell? ⟨w1.heap.size, 1, none⟩ = some (.slice Bv (rlOf rs).length dv))
    (first | go_keep | (refine ⟨?_, ?_⟩ <;> (rw [BB.cell hlA]; assumption)))
    (first
      | (go_at_call 60; refine (setOf_any (headsOf rs) _ (rlOf rs) Ah ch Bv dv hd w1.heap.size _ (HSTD.out.below BB (Nat.le_of_lt hlA)) rfl (Nat.le_trans (Nat.le_of_lt hlA) BB.size) HF.out).mono ?_; rintro e w2 ⟨rfl, b2⟩; have BB := Below.nxt BB b2)
      | (go_at_call 54; refine (nullable_any (headsOf rs) (rlOf rs) _ w1.heap.size _ (HSGD.out.below BB (Nat.le_of_lt hlA)) (Nat.le_trans (Nat.le_of_lt hlA) BB.size) HRL.out).mono ?_; rintro e w3 ⟨m, rfl, hfix, b3⟩; have BB := Below.nxt BB b3; have hm := hfix.1)
      | (go_at_call 61; refine (takeLeft_any m _ hm).mono ?_; rintro e w4 ⟨lb, rfl, hT, b4⟩; have BB := Below.nxt BB b4)
      | (go_at_call 59; refine (after_any (headsOf rs) (rlOf rs) _ (setN (headsOf rs) hd) w1.heap.size 103 lb (enters_of Try.func103 (by kernel_rfl) rfl) (leftN m) _ (HSGD.out.below BB (Nat.le_of_lt hlA)) (Nat.le_trans (Nat.le_of_lt hlA) BB.size) hsn (HTK.out m) hT).mono ?_; rintro e w5 ⟨m2, rfl, hfix2, b5⟩; have BB := Below.nxt BB b5; have hm2 := hfix2.1)
      | (go_at_call 53; refine (toldSet_any (headsOf rs) (rlOf rs) _ m2 w1.heap.size _ (HSGD.out.below BB (Nat.le_of_lt hlA)) (Nat.le_trans (Nat.le_of_lt hlA) BB.size) HF.out hm2).mono ?_; rintro e w7 ⟨u, g, rfl, o7, g7, b7⟩; have ZZ := BB.size; have BB := Below.nxt BB b7))
  have hl := left_list hfix hfix2
  rw [hl] at o7 g7
  have B7 : Below w.heap.size w w7 := HBA.out.trans (BB.mono HBA.out.size)
  have zA := HBA.out.size
  go_wp2
  go_ret
  exact ⟨u, g, rfl, o7, fun hn => by have := g7 hn; omega, B7⟩
end Go.Proofs.Ytmhdbjoljonhdaa
