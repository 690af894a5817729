import Derived.Test.YtcgmnpfeiiomgaaSp4
import Derived.Test.YtcgmnpfeiiomgaaJWder
import Derived.Test.YtcgmnpfeiiomgaaJReachI
import Derived.Test.YtcgmnpfeiiomgaaJWspan
import Derived.Test.YtcgmnpfeiiomgaaJVb
import Derived.Test.YtcgmnpfeiiomgaaJAft
import Derived.BigQuiet
import Derived.Deep.QuietTactic
/- The model's Derives. -/
namespace Go.Proofs.Ytcgmnpfeiiomgaa
open Go.RowKit

theorem hs_start {rs : List RuleD} (R : Rt rs) (h : 0 < (hsOf rs).length) : (hsOf rs)[0] = (ruleAt rs 0).head := by
  have h0 := headsTo_first R.one (k := rs.length) R.one (Nat.le_refl _)
  change (hsOf rs)[0]? = _ at h0
  rw [List.getElem?_eq_getElem h] at h0
  injection h0 with h0
  rw [h0, ruleAt_eq R.one]
open Classical in
theorem derB_tab {rs : List RuleD} {t : List ByteArray} {T : TabF} (hg : gramB rs = true) (ht : textB t = true) (S : TSound rs t T) (C : TClosed rs t T) : T 0 t.length = derB rs t := by
  have R := Rt.of hg
  have hp : 0 < (hsOf rs).length := List.length_pos_of_mem (hs_all (rs := rs) (i := 0) R.one)
  have := tab_tells S C (tok_no_head R ((textB_iff t).1 ht).2) hp (k := 0) (e := t.length) (by omega) (Nat.le_refl _)
  rw [hs_start R hp, show 13 * 0 + t.length = t.length by omega] at this
  unfold derB
  rw [hg, ht, Bool.eq_iff_iff, this, Bool.true_and, Bool.true_and, decide_eq_true_iff]
  exact Iff.rfl

set_option maxRecDepth 100000 in
set_option maxHeartbeats 4000000 in
theorem specDerives_any (rs : List RuleD) (t : List ByteArray) (v tv : Value) (lo hi lo2 hi2 : Nat) (w : World) (h : Rules w lo hi v rs) (hh : hi ≤ w.heap.size) (h2 : Strs w lo2 hi2 tv t) (hh2 : hi2 ≤ w.heap.size) :
    Calls Try.prog 52 #[.agg #[v], tv] w fun e w' => e = .returned (.bool (derB rs t)) ∧ Below w.heap.size w w' := by
  have HV := Lib.hid h
  have HW := Lib.hid h2
  obtain ⟨A, c, rfl, -⟩ := h
  obtain ⟨B, d, rfl, -⟩ := h2
  have hb := al1 w (.cells #[.slice A rs.length c] 25)
  have R0 := Row.made w 25 #[.slice A rs.length c]
  have HB := Lib.hid hb
  have HR0 := Lib.hid R0
  have hsz : (w.alloc (.cells #[.slice A rs.length c] 25)).heap.size = w.heap.size + 1 := by simp
  have HSZ := Lib.hid hsz
  clear hb R0 hsz
  cases hq : gramB rs
  · have HE := Lib.hid (derB_no (rs := rs) (t := t) (by rw [hq]; rfl))
    have HQ := Lib.hid hq
    clear hq
    go_enter Try.func52, Try.ntmps52
    go_wp2_with fail
    refine (specGramRight_any rs _ lo hi _ (HV.out.below HB.out hh) (by rw [HSZ.out]; omega)).mono ?_
    rintro _ w1 ⟨rfl, b1⟩
    rw [HQ.out]
    go_wp2
    go_ret
    exact ⟨ret_bool HE.out.symm, HB.out.trans (b1.mono (by rw [HSZ.out]; omega))⟩
  · cases ht : textB t
    · have HE := Lib.hid (derB_no (rs := rs) (t := t) (by rw [ht, Bool.and_false]))
      have HQ := Lib.hid hq
      have HT := Lib.hid ht
      clear hq ht
      go_enter Try.func52, Try.ntmps52
      go_wp2_with fail
      refine (specGramRight_any rs _ lo hi _ (HV.out.below HB.out hh) (by rw [HSZ.out]; omega)).mono ?_
      rintro _ w1 ⟨rfl, b1⟩
      rw [HQ.out]
      have B1 := HB.out.trans (b1.mono (by rw [HSZ.out]; omega))
      have HB1 := Lib.hid B1
      have z1 := B1.size
      clear B1 b1
      go_wp2_with fail
      refine (specTextB_any t _ lo2 hi2 _ (HW.out.below HB1.out hh2) (by omega)).mono ?_
      rintro _ w2 ⟨rfl, b2⟩
      rw [HT.out]
      go_wp2
      go_ret
      exact ⟨ret_bool HE.out.symm, HB1.out.trans (b2.mono (by omega))⟩
    · have HQ := Lib.hid hq
      have HT := Lib.hid ht
      have h12 := ((textB_iff t).1 ht).1
      have hhpos : 0 < (hsOf rs).length := List.length_pos_of_mem (hs_all (rs := rs) (i := 0) (Rt.of hq).one)
      clear hq ht
      go_enter Try.func52, Try.ntmps52
      go_wp2_with fail
      refine (specGramRight_any rs _ lo hi _ (HV.out.below HB.out hh) (by rw [HSZ.out]; omega)).mono ?_
      rintro _ w1 ⟨rfl, b1⟩
      rw [HQ.out]
      have B1 := HB.out.trans (b1.mono (by rw [HSZ.out]; omega))
      have r1 := HR0.out.below b1 HR0.out.lt
      have HB1 := Lib.hid B1
      have HR1 := Lib.hid r1
      have z1 := B1.size
      clear B1 b1 r1
      go_wp2_with fail
      refine (specTextB_any t _ lo2 hi2 _ (HW.out.below HB1.out hh2) (by omega)).mono ?_
      rintro _ w2 ⟨rfl, b2⟩
      rw [HT.out]
      have B2 := HB1.out.trans (b2.mono (by omega))
      have r2 := HR1.out.below b2 HR1.out.lt
      have q2 := r2.cell 0
      simp at q2
      have l2 := r2.lt
      have HB2 := Lib.hid B2
      have z2 := B2.size
      clear B2 b2 r2
      go_wp2_with fail
      refine (specFill_any rs t _ _ lo hi lo2 hi2 _ (HV.out.below HB2.out hh) (by omega) (HW.out.below HB2.out hh2) (by omega) HQ.out HT.out).mono ?_
      rintro _ w3 ⟨p, Ah, ch, G, cG, hi3, R, T, rfl, htab, hS, hC, hI, -, b3⟩
      obtain ⟨rb, y0, y1, y2, y3⟩ := htab.cells (q := t.length) hhpos (by omega)
      rw [derB_tab HQ.out HT.out hS hC] at y2
      have lp := htab.box.lt
      have lG := htab.lt.1
      have hcG := htab.cap
      unfold maxLen at hcG
      have B3 := Lib.hid (HB2.out.trans (b3.mono (by omega)))
      have i1 : (0 : Int) < ((hsOf rs).length : Int) := by omega
      have i2 : (t.length : Int) < 169 := by omega
      clear htab hS hC hI b3
      go_wp2
      go_ret
      exact ⟨rfl, B3.out⟩
end Go.Proofs.Ytcgmnpfeiiomgaa

/- What FnDerive asks of Derives, Viable and Spans, as data. No program stands in this text. -/
namespace Go.Proofs.Ytcgmnpfeiiomgaa
open Go.RowKit

theorem lastB_top {p : Nat → Prop} {n : Nat} (h : p n) : lastB p n = n := by
  cases n with
  | zero => unfold lastB; rw [if_pos h]; rfl
  | succ n => unfold lastB; rw [if_pos h]
theorem lastB_is {p : Nat → Prop} {n m : Nat} (h : lastB p n = (m : Int)) : m ≤ n ∧ p m := by
  induction n with
  | zero =>
    unfold lastB at h
    split at h
    · obtain rfl : m = 0 := by omega
      exact ⟨Nat.le_refl _, by assumption⟩
    · omega
  | succ n ih =>
    unfold lastB at h
    split at h
    · obtain rfl : m = n + 1 := by omega
      exact ⟨Nat.le_refl _, by assumption⟩
    · have := ih h
      exact ⟨by omega, this.2⟩
theorem derB_parts {rs : List RuleD} {t : List ByteArray} (h : derB rs t = true) : gramB rs = true ∧ textB t = true ∧ DerP rs t := by
  cases hg : gramB rs
  · rw [derB_no (by rw [hg]; rfl)] at h; cases h
  · cases ht : textB t
    · rw [derB_no (by rw [ht, Bool.and_false])] at h; cases h
    · refine ⟨rfl, rfl, Classical.byContradiction fun hn => ?_⟩
      rw [derB_not hn] at h; cases h
/-- what is said can be the beginning, as a whole -/
theorem der_via {rs : List RuleD} {t : List ByteArray} (h : derB rs t = true) : viaZ rs t = (t.length : Int) := by
  obtain ⟨hg, ht, hd⟩ := derB_parts h
  have R := Rt.of hg
  have htk := ((textB_iff t).1 ht).2
  rw [viaZ_yes hg ht]
  apply lastB_top
  have d : Der (· ∈ frs rs) t [(ruleAt rs 0).head] 0 t.length := (der_frs htk).2 hd
  obtain ⟨r, hr, hrh, d2⟩ := d.head_inv fun s hs e => tok_no_head R htk s (List.mem_of_getElem? hs) (by rw [e, ruleAt_eq R.one]; exact hs_all R.one)
  unfold BegP
  rw [← hrh]
  exact .stop r.body.length hr (by rwa [List.take_length])
theorem via_parts {rs : List RuleD} {t : List ByteArray} (h : 0 ≤ viaZ rs t) : gramB rs = true ∧ textB t = true ∧ ∃ m : Nat, viaZ rs t = (m : Int) ∧ m ≤ t.length ∧ BegP rs t m := by
  cases hg : gramB rs
  · rw [viaZ_no (by rw [hg]; rfl)] at h; omega
  · cases ht : textB t
    · rw [viaZ_no (by rw [ht, Bool.and_false])] at h; omega
    · refine ⟨rfl, rfl, (viaZ rs t).toNat, by omega, ?_⟩
      have e := viaZ_yes hg ht
      exact lastB_is (by rw [← e]; omega)
/-- how much can be is told of that much alone, too -/
theorem via_take {rs : List RuleD} {t : List ByteArray} {m : Nat} (h : viaZ rs t = (m : Int)) : viaZ rs (t.take m) = (m : Int) := by
  obtain ⟨hg, ht, m', e, hm, hp⟩ := via_parts (rs := rs) (t := t) (by omega)
  obtain rfl : m' = m := by omega
  have ht2 : textB (t.take m') = true := by
    obtain ⟨h1, h2⟩ := (textB_iff t).1 ht
    exact (textB_iff _).2 ⟨by rw [List.length_take]; omega, fun s hs => h2 s (List.mem_of_mem_take hs)⟩
  rw [viaZ_yes hg ht2, show (t.take m').length = m' by rw [List.length_take]; omega]
  exact lastB_top (show Beg _ (t.take m') m' _ 0 from Beg.cut hp)
/-- a head that is the start comes to the whole just if it is said -/
theorem spans_whole {rs : List RuleD} {t : List ByteArray} (hg : gramB rs = true) (ht : textB t = true) : (t.length : Int) ∈ spansOf rs t (ruleAt rs 0).head ↔ derB rs t = true := by
  have R := Rt.of hg
  have h12 := ((textB_iff t).1 ht).1
  have hh : headB (ruleAt rs 0).head = true := by rw [ruleAt_eq R.one]; exact R.head 0 R.one
  unfold spansOf
  rw [hg, ht, hh]
  show _ ∈ spanTo rs t (ruleAt rs 0).head 169 ↔ _
  unfold spanTo
  have e1 : t.length / 13 = 0 := by omega
  have e2 : t.length % 13 = t.length := by omega
  constructor
  · intro h
    obtain ⟨q, hq, e⟩ := List.mem_map.1 h
    obtain rfl : q = t.length := by omega
    have := (List.mem_filter.1 hq).2
    simp only [decide_eq_true_eq] at this
    obtain ⟨_, _, d⟩ := this
    rw [e1, e2] at d
    exact derB_yes hg ht d
  · intro h
    obtain ⟨_, _, d⟩ := derB_parts h
    refine List.mem_map.2 ⟨t.length, List.mem_filter.2 ⟨List.mem_range.2 (by omega), ?_⟩, rfl⟩
    simp only [decide_eq_true_eq]
    refine ⟨by omega, by omega, ?_⟩
    rw [e1, e2]
    exact d
/-- they stand in order, and none ends ahead of where it begins -/
theorem spans_order {rs : List RuleD} {t : List ByteArray} {h : ByteArray} : (spansOf rs t h).Pairwise (· < ·) ∧ ∀ z ∈ spansOf rs t h, ∃ q : Nat, z = (q : Int) ∧ q < 169 ∧ q / 13 ≤ q % 13 := by
  unfold spansOf
  split
  · unfold spanTo
    constructor
    · rw [List.pairwise_map]
      refine List.Pairwise.imp ?_ ((List.pairwise_lt_range (n := 169)).filter _)
      intro a b hab
      omega
    · intro z hz
      obtain ⟨q, hq, rfl⟩ := List.mem_map.1 hz
      have h1 := (List.mem_filter.1 hq).1
      have h2 := (List.mem_filter.1 hq).2
      simp only [decide_eq_true_eq] at h2
      exact ⟨q, rfl, List.mem_range.1 h1, h2.2.2.le⟩
  · exact ⟨.nil, fun z hz => by cases hz⟩
end Go.Proofs.Ytcgmnpfeiiomgaa

/- The program's LeftOf. -/
namespace Go.Proofs.Ytcgmnpfeiiomgaa
open Go.RowKit

theorem Below.nxt {w0 wk w' : World} (h : Below w0.heap.size w0 wk) (b : Below wk.heap.size wk w') : Below w0.heap.size w0 w' := h.trans (b.mono h.size)
theorem setN_small (hs : List ByteArray) (s : ByteArray) (h : hs.length ≤ 20) : setN hs s < 4194304 := by
  unfold setN
  refine Nat.pow_lt_pow_right (a := 2) (n := 22) (by omega) ?_
  unfold symIdx
  split
  · omega
  · split <;> omega
open Classical in
/-- the heads that may stand at the left end of what comes of a head -/
noncomputable def leftOf (rs : List RuleD) (h : ByteArray) : List ByteArray := (headsOf rs).filter fun s => decide (Aft rs (List.range rs.length) (tkLeft (Com false rs)) h s)
theorem leftOf_len (rs : List RuleD) (h : ByteArray) : (leftOf rs h).length ≤ 1000 := Nat.le_trans (List.length_filter_le _ _) (headsOf_len rs)
theorem left_list {rs : List RuleD} {h : ByteArray} {m1 m2 : Nat} (h1 : FixAt (stepCome (rlOf rs)) (tokBase false) m1) (h2 : FixAt (stepAfter (rlOf rs) (setN (headsOf rs) h) (leftN m1)) 0 m2) : pickB m2 (headsOf rs) (headsOf rs).length = leftOf rs h := by
  unfold leftOf
  cases hq : gramB rs
  · rw [headsOf_f hq]; rfl
  · have R := Rt.of hq
    have e : headsOf rs = hsOf rs := headsOf_t hq
    rw [rlOf_t hq] at h1 h2
    rw [e] at h2 ⊢
    have htk : Takes rs (leftN m1) (tkLeft (Com false rs)) := takes_left rs fun i hi s hs => by
      have := com_bits R false h1 s
      simpa using this
    apply pickB_filter
    intro i hi
    have h3 := aft_bit R (fun i hi => List.mem_range.1 hi) htk h h2 (List.getElem_mem hi)
    rw [R.idx_at hi] at h3
    rw [Bool.eq_iff_iff, h3]
    simp

set_option maxRecDepth 100000 in
set_option maxHeartbeats 8000000 in
theorem implLeftOf_any (rs : List RuleD) (v : Value) (hd : ByteArray) (lo hi : Nat) (w : World) (h : Rules w lo hi v rs) (hh : hi ≤ w.heap.size) :
    Calls Try.prog 35 #[.agg #[v], .string hd] w (MadeS w (leftOf rs hd)) := by
  have HV := Lib.hid h
  obtain ⟨A, c, rfl, -⟩ := h
  have hb := al1 w (.cells #[.slice A rs.length c] 25)
  go_enter Try.func35, Try.ntmps35
  go_wp2_with fail
  refine (setsOf_any rs _ lo hi _ (HV.out.below hb hh) (by simp; omega)).mono ?_
  rintro e w1 ⟨x, rfl, SG, b1⟩
  have hb1 := hb.trans (b1.mono (by simp))
  have hs1 := hb1.size
  have HSG := Lib.hid SG
  obtain ⟨Ah, ch, Bv, dv, rfl, ST, -⟩ := SG.form
  have HST := Lib.hid ST
  have R1 := Row.made w1 112 #[.slice Ah (headsOf rs).length ch, .slice Bv (rlOf rs).length dv]
  have hb2 := al1 w1 (.cells #[.slice Ah (headsOf rs).length ch, .slice Bv (rlOf rs).length dv] 112)
  have hsz : (w1.alloc (.cells #[.slice Ah (headsOf rs).length ch, .slice Bv (rlOf rs).length dv] 112)).heap.size = w1.heap.size + 1 := by simp
  clear SG b1 hb ST
  go_wp2
  generalize w1.alloc (.cells #[.slice Ah (headsOf rs).length ch, .slice Bv (rlOf rs).length dv] 112) = wA at *
  have c0 := R1.cell 0
  have c1 := R1.cell 1
  simp at c0 c1
  have hlA := R1.lt
  have hbA := hb1.trans (hb2.mono hs1)
  have HSZ := Lib.hid hsz
  have HSGD := Lib.hid (HSG.out.below hb2 (Nat.le_refl _))
  have HSTD := Lib.hid (HST.out.below hb2 (Nat.le_refl _))
  have HF := Lib.hid (headsOf_few rs)
  have HRL := Lib.hid (rlOf_head rs)
  have HTK : Hid (∀ m, ∀ r ∈ rlOf rs, leftN m r.body < 4194304) := Lib.hid fun m r hr => by
    have := leftN_lt (null := m) (rlOf_body rs r hr) r.body.length
    rwa [List.take_length] at this
  have hsn := setN_small (headsOf rs) hd HF.out
  have BB : Below wA.heap.size wA wA.drew := (Below.refl _ _).drew
  have HBA := Lib.hid hbA
  clear R1 hb2 hb1 hsz hbA
  go_region_held3 (fun w' => w'.cell? ⟨w1.heap.size, 0, none⟩ = some (.slice Ah (headsOf rs).length ch) ∧ w'.cell? ⟨w1.heap.size, 1, none⟩ = some (.slice Bv (rlOf rs).length dv))
    (first | go_keep | (refine ⟨?_, ?_⟩ <;> (rw [BB.cell hlA]; assumption)))
    (first
      | (go_at_call 100; refine (setOf_any (headsOf rs) _ (rlOf rs) Ah ch Bv dv hd w1.heap.size _ (HSTD.out.below BB (Nat.le_of_lt hlA)) rfl (Nat.le_trans (Nat.le_of_lt hlA) BB.size) HF.out).mono ?_; rintro e w2 ⟨rfl, b2⟩; have BB := Below.nxt BB b2)
      | (go_at_call 95; refine (nullable_any (headsOf rs) (rlOf rs) _ w1.heap.size _ (HSGD.out.below BB (Nat.le_of_lt hlA)) (Nat.le_trans (Nat.le_of_lt hlA) BB.size) HRL.out).mono ?_; rintro e w3 ⟨m, rfl, hfix, b3⟩; have BB := Below.nxt BB b3; have hm := hfix.1)
      | (go_at_call 101; refine (takeLeft_any m _ hm).mono ?_; rintro e w4 ⟨lb, rfl, hT, b4⟩; have BB := Below.nxt BB b4)
      | (go_at_call 99; refine (after_any (headsOf rs) (rlOf rs) _ (setN (headsOf rs) hd) w1.heap.size 154 lb (enters_of Try.func154 (by kernel_rfl) rfl) (leftN m) _ (HSGD.out.below BB (Nat.le_of_lt hlA)) (Nat.le_trans (Nat.le_of_lt hlA) BB.size) hsn (HTK.out m) hT).mono ?_; rintro e w5 ⟨m2, rfl, hfix2, b5⟩; have BB := Below.nxt BB b5; have hm2 := hfix2.1)
      | (go_at_call 94; refine (toldSet_any (headsOf rs) (rlOf rs) _ m2 w1.heap.size _ (HSGD.out.below BB (Nat.le_of_lt hlA)) (Nat.le_trans (Nat.le_of_lt hlA) BB.size) HF.out hm2).mono ?_; rintro e w7 ⟨u, g, rfl, o7, g7, b7⟩; have ZZ := BB.size; have BB := Below.nxt BB b7))
  have hl := left_list hfix hfix2
  rw [hl] at o7 g7
  have B7 : Below w.heap.size w w7 := HBA.out.trans (BB.mono HBA.out.size)
  have zA := HBA.out.size
  go_wp2
  go_ret
  exact ⟨u, g, rfl, o7, fun hn => by have := g7 hn; omega, B7⟩
end Go.Proofs.Ytcgmnpfeiiomgaa

/- The walks of takeAlone and of what it hands back. -/
namespace Go.Proofs.Ytcgmnpfeiiomgaa
open Go.RowKit

theorem BitsAt.take {w : World} {hi b off n c : Nat} {l : List Nat} (h : BitsAt w hi (.slice (some ⟨b, off, none⟩) n c) l) {k : Nat} (hk : k ≤ l.length) : BitsAt w hi (.slice (some ⟨b, off, none⟩) k c) (l.take k) := by
  obtain ⟨A, c', e, h1, h2, h3, h4⟩ := h
  injection e with e1 e2 e3
  subst e1 e3
  have hlen : (l.take k).length = k := by rw [List.length_take]; omega
  refine ⟨_, c, by rw [hlen], by rw [hlen]; omega, h2, fun x hx => h3 x (List.mem_of_mem_take hx), fun hp => ?_⟩
  rw [hlen] at hp
  obtain ⟨b', off', e, hb, hc⟩ := h4 (by omega)
  injection e with e
  injection e with e1 e2
  subst e1 e2
  refine ⟨_, _, rfl, hb, fun i hi => ?_⟩
  rw [hc i (by rw [hlen] at hi; omega), List.getElem_take]
theorem BitsAt.drop {w : World} {hi b off n c : Nat} {l : List Nat} (h : BitsAt w hi (.slice (some ⟨b, off, none⟩) n c) l) {k : Nat} (hk : k ≤ l.length) {a : Option Addr} (ha : c ≠ k → a = some ⟨b, off + k, none⟩) : BitsAt w hi (.slice a (n - k) (c - k)) (l.drop k) := by
  obtain ⟨A, c', e, h1, h2, h3, h4⟩ := h
  injection e with e1 e2 e3
  subst e1 e2 e3
  have hlen : (l.drop k).length = l.length - k := List.length_drop
  refine ⟨a, c - k, by rw [hlen], by rw [hlen]; omega, by omega, fun x hx => h3 x (List.mem_of_mem_drop hx), fun hp => ?_⟩
  rw [hlen] at hp
  obtain ⟨b', off', e, hb, hc⟩ := h4 (by omega)
  injection e with e
  injection e with e1 e2
  subst e1 e2
  refine ⟨b, off + k, ha (by omega), hb, fun i hi => ?_⟩
  rw [hlen] at hi
  rw [Nat.add_assoc, hc (k + i) (by omega), List.getElem_drop]

set_option maxRecDepth 100000 in
set_option maxHeartbeats 4000000 in
theorem takeAloneStep_any (v : Value) (l : List Nat) (hi null q : Nat) (w : World) (h : BitsAt w hi v l) (hh : hi ≤ w.heap.size) (hq : Row w q 116 #[.int .u32 (null : Int)]) (hn : null < 4194304) :
    Calls Try.prog 157 #[v, .pointer (some ⟨q, 0, none⟩)] w fun e w' => e = .returned (.int .u32 ((aloneN null l l.length : Nat) : Int)) ∧ Below w.heap.size w w' := by
  have HV := Lib.hid h
  obtain ⟨A, c, rfl, hlc, hc, hsz, hcell⟩ := h
  unfold maxLen at hc
  have HC := Lib.hid hcell
  have HZ := Lib.hid hsz
  have HQ := Lib.hid hq
  have hql := hq.lt
  clear hcell hsz hq
  go_enter Try.func157, Try.ntmps157
  go_wp2
  go_loopw [4, 5, 6, 7, 8, 11] (fun o _ _ _ _ i wr => ∃ k : Nat, k ≤ l.length ∧ i = .int .i64 k ∧ o = .int .u32 ((aloneN null l k : Nat) : Int) ∧ Below w.heap.size w wr) (fun _ _ _ _ _ i _ => l.length - (intOf i).toNat)
  case atStart => exact ⟨0, by omega, rfl, rfl, Below.refl _ _⟩
  case round =>
    obtain ⟨k, hk, rfl, rfl, hbw⟩ := hrel
    have hsw := hbw.size
    by_cases hlt : k < l.length
    · obtain ⟨b, off, rfl, hbh, hcc⟩ := HC.out (by omega)
      have hck := (hbw.cell (p := ⟨b, off + k, none⟩) (by show b < _; omega)).trans (hcc k hlt)
      have cq := (HQ.out.below hbw hql).cell 0
      simp at cq
      clear hcc
      have h1 := aloneN_lt (null := null) HZ.out k
      have h2 := HZ.out _ (List.getElem_mem hlt)
      have HB1 := Lib.hid (((HV.out.below hbw hh).take (k := k) hk))
      have HB2 := Lib.hid (fun (a : Option Addr) (ha : c ≠ k + 1 → a = some ⟨b, off + (k + 1), none⟩) => (HV.out.below hbw hh).drop (k := k + 1) (by omega) ha)
      have hj1 := joinAll_lt (l := l.take k) fun x hx => HZ.out x (List.mem_of_mem_take hx)
      have hj2 := joinAll_lt (l := l.drop (k + 1)) fun x hx => HZ.out x (List.mem_of_mem_drop hx)
      go_wp2
      have cW1 : ∀ n, Calls Try.prog 148 #[.slice (some ⟨b, off, none⟩) k c] (wr.drewN n) fun e w' => e = .returned (.int .u32 ((joinAll (l.take k) : Nat) : Int)) ∧ w' = wr.drewN n := fun n => (wholeBody_any _ (l.take k) hi _ (show BitsAt (wr.drewN n) _ _ _ from HB1.out)).mono fun _ _ ⟨a, b⟩ => ⟨a, b.symm⟩
      have cW2 : ∀ n a, (c ≠ k + 1 → a = some ⟨b, off + (k + 1), none⟩) → Calls Try.prog 148 #[.slice a (l.length - (k + 1)) (c - (k + 1))] (wr.drewN n) fun e w' => e = .returned (.int .u32 ((joinAll (l.drop (k + 1)) : Nat) : Int)) ∧ w' = wr.drewN n := fun n a ha => (wholeBody_any _ (l.drop (k + 1)) hi _ (show BitsAt (wr.drewN n) _ _ _ from HB2.out a ha)).mono fun _ _ ⟨a, b⟩ => ⟨a, b.symm⟩
      have kc : k ≤ c := by omega
      have kl : k + 1 ≤ l.length := hlt
      go_quiet (first | (go_at_call 148; refine Calls.quiet_of_same (cW1 _)) | (go_at_call 148; refine Calls.quiet_of_same (cW2 _ _ (fun h => if_neg h))))
      generalize (if c = k + 1 then some (⟨b, off, none⟩ : Addr) else some ⟨b, off + (k + 1), none⟩) = aX
      have hB3 : Below w.heap.size w (wr.drewN nq) := ⟨hbw.os, hbw.tape, hbw.output, hbw.size, hbw.block⟩
      have cq3 : (wr.drewN nq).cell? ⟨q, 0, none⟩ = some (.int .u32 (null : Int)) := cq
      have hsz3 : (wr.drewN nq).heap.size = wr.heap.size := rfl
      clear cW1 cW2 cq HB1 HB2 hbw
      generalize wr.drewN nq = wq at hB3 cq3 hsz3 ⊢
      have HR : Hid (restN l k = joinAll (l.take k) ||| joinAll (l.drop (k + 1))) := Lib.hid rfl
      have HSU : Hid (aloneN null l (k + 1) = if holdsB null (restN l k) = true then aloneN null l k ||| l[k] else aloneN null l k) := Lib.hid (by
        have e : l.getD k 0 = l[k] := by simp [hlt]
        show (if holdsB null (restN l k) = true then aloneN null l k ||| l.getD k 0 else aloneN null l k) = _
        rw [e])
      have hor := or_lt hj1 hj2
      have hB2 := al1 wq (.cells #[.int .u32 ((joinAll (l.take k) : Nat) : Int), .int .u32 ((joinAll (l.drop (k + 1)) : Nat) : Int)] 116)
      have R2 := Row.made wq 116 #[.int .u32 ((joinAll (l.take k) : Nat) : Int), .int .u32 ((joinAll (l.drop (k + 1)) : Nat) : Int)]
      have HR2 : Hid (Row (wq.alloc (.cells #[.int .u32 ((joinAll (l.take k) : Nat) : Int), .int .u32 ((joinAll (l.drop (k + 1)) : Nat) : Int)] 116)).drew wq.heap.size 116 #[.int .u32 ((joinAll (l.take k) : Nat) : Int), .int .u32 ((joinAll (l.drop (k + 1)) : Nat) : Int)]) := Lib.hid R2
      have bB : Below w.heap.size w (wq.alloc (.cells #[.int .u32 ((joinAll (l.take k) : Nat) : Int), .int .u32 ((joinAll (l.drop (k + 1)) : Nat) : Int)] 116)).drew := (hB3.trans (hB2.mono hB3.size)).drew
      have hlq : q < wq.heap.size := by omega
      have HSZ := Lib.hid hsz3
      clear R2 hB2 hsz3
      go_wp2
      cases hx : holdsB null (joinAll (l.take k) ||| joinAll (l.drop (k + 1)))
      · have HX := Lib.hid hx
        have HN : Hid (aloneN null l (k + 1) = aloneN null l k) := Lib.hid (by rw [HSU.out, HR.out, hx]; rfl)
        clear hx
        go_region_held3 (fun w' => w'.cell? ⟨q, 0, none⟩ = some (.int .u32 (null : Int)))
          (first | go_keep | assumption)
          (first
            | (go_at_call 147; refine (joinTwo_any wq.heap.size (joinAll (l.take k)) (joinAll (l.drop (k + 1))) 116 _ HR2.out hj1 hj2).mono ?_; rintro e w6 ⟨rfl, rfl⟩)
            | (go_at_call 107; refine (holds_any null (joinAll (l.take k) ||| joinAll (l.drop (k + 1))) _ hn hor).mono ?_; rintro e w7 ⟨rfl, rfl⟩; rw [HX.out]))
        go_wp2
        go_roundw
        case rel => exact ⟨k + 1, by omega, by go_num, by rw [HN.out], bB⟩
        case measure => simp [intOf]; omega
      · have HX := Lib.hid hx
        have HN : Hid (aloneN null l (k + 1) = aloneN null l k ||| l[k]) := Lib.hid (by rw [HSU.out, HR.out, hx]; rfl)
        clear hx
        go_region_held3 (fun w' => w'.cell? ⟨q, 0, none⟩ = some (.int .u32 (null : Int)))
          (first | go_keep | assumption)
          (first
            | (go_at_call 147; refine (joinTwo_any wq.heap.size (joinAll (l.take k)) (joinAll (l.drop (k + 1))) 116 _ HR2.out hj1 hj2).mono ?_; rintro e w6 ⟨rfl, rfl⟩)
            | (go_at_call 107; refine (holds_any null (joinAll (l.take k) ||| joinAll (l.drop (k + 1))) _ hn hor).mono ?_; rintro e w7 ⟨rfl, rfl⟩; rw [HX.out]))
        clear HR2
        generalize (wq.alloc (.cells #[.int .u32 ((joinAll (l.take k) : Nat) : Int), .int .u32 ((joinAll (l.drop (k + 1)) : Nat) : Int)] 116)).drew = wB at *
        have R9 := Row.made wB 116 #[.int .u32 ((aloneN null l k : Nat) : Int), .int .u32 ((l[k] : Nat) : Int)]
        go_wp2_with fail
        refine (joinTwo_any wB.heap.size (aloneN null l k) l[k] 116 _ R9 h1 h2).mono ?_
        rintro e w9 ⟨rfl, rfl⟩
        go_wp2
        go_roundw
        case rel => exact ⟨k + 1, by omega, by go_num, by rw [HN.out], bB.trans ((al1 _ _).mono bB.size)⟩
        case measure => simp [intOf]; omega
    · have hks : k = l.length := by omega
      subst hks
      go_wp2
      go_ret
      exact ⟨rfl, hbw⟩
set_option maxHeartbeats 400000 in
theorem takeAlone_any (null : Nat) (w : World) (hn : null < 4194304) :
    Calls Try.prog 106 #[.int .u32 (null : Int)] w fun e w' => ∃ lb, e = .returned (.func (.func 157) #[] lb) ∧ TakesSet 157 lb (fun l => aloneN null l l.length) w' ∧ Below w.heap.size w w' := by
  have hmf : ∀ (fn : Fn) (first cap : Array Value) (w : World), (Instr.makeFunc fn first cap).run Try.prog w = .ok (.func fn first cap) w := fun _ _ _ _ => rfl
  go_enter Try.func106, Try.ntmps106
  go_wp2
  go_ret
  exact ⟨_, rfl, fun W v l hi hB hh bW => takeAloneStep_any v l hi null w.heap.size W hB hh ((Row.made w 116 #[.int .u32 (null : Int)]).below bW (by simp)) hn, al1 _ _⟩
end Go.Proofs.Ytcgmnpfeiiomgaa
