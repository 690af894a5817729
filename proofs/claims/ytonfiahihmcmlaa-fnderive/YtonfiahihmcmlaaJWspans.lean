import Derived.Test.YtonfiahihmcmlaaSp4
import Derived.Test.YtonfiahihmcmlaaJWder
import Derived.Test.YtonfiahihmcmlaaJReachI
import Derived.Test.YtonfiahihmcmlaaJTbl
import Derived.Test.YtonfiahihmcmlaaJVb
import Derived.Test.YtonfiahihmcmlaaJUseI
/- The model's Derives. -/
namespace Go.Proofs.Ytonfiahihmcmlaa
open Go.RowKit

theorem hs_start {rs : List RuleD} (R : Rt rs) (h : 0 < (hsOf rs).length) : (hsOf rs)[0] = (ruleAt rs 0).head := by
  have h0 := headsTo_first R.one (k := rs.length) R.one (Nat.le_refl _)
  change (hsOf rs)[0]? = _ at h0
  rw [List.getElem?_eq_getElem h] at h0
  injection h0 with h0
  rw [h0, ruleAt_eq R.one]
open Classical in
theorem derB_tab {rs : List RuleD} {t : List ByteArray} {T : TabF} (hg : gramB rs = true) (ht : textB t = true) (S : TSound rs t T) (C : TClosed rs t T) : T 0 t.length = derB rs t := by
  have R := Rt.of hg
  have hp : 0 < (hsOf rs).length := List.length_pos_of_mem (hs_all (rs := rs) (i := 0) R.one)
  have := tab_tells S C (tok_no_head R ((textB_iff t).1 ht).2) hp (k := 0) (e := t.length) (by omega) (Nat.le_refl _)
  rw [hs_start R hp, show 13 * 0 + t.length = t.length by omega] at this
  unfold derB
  rw [hg, ht, Bool.eq_iff_iff, this, Bool.true_and, Bool.true_and, decide_eq_true_iff]
  exact Iff.rfl

set_option maxRecDepth 100000 in
set_option maxHeartbeats 4000000 in
theorem specDerives_any (rs : List RuleD) (t : List ByteArray) (v tv : Value) (lo hi lo2 hi2 : Nat) (w : World) (h : Rules w lo hi v rs) (hh : hi ≤ w.heap.size) (h2 : Strs w lo2 hi2 tv t) (hh2 : hi2 ≤ w.heap.size) :
    Calls Try.prog 36 #[.agg #[v], tv] w fun e w' => e = .returned (.bool (derB rs t)) ∧ Below w.heap.size w w' := by
  have HV := Lib.hid h
  have HW := Lib.hid h2
  obtain ⟨A, c, rfl, -⟩ := h
  obtain ⟨B, d, rfl, -⟩ := h2
  have hb := al1 w (.cells #[.slice A rs.length c] 25)
  have R0 := Row.made w 25 #[.slice A rs.length c]
  have HB := Lib.hid hb
  have HR0 := Lib.hid R0
  have hsz : (w.alloc (.cells #[.slice A rs.length c] 25)).heap.size = w.heap.size + 1 := by simp
  have HSZ := Lib.hid hsz
  clear hb R0 hsz
  cases hq : gramB rs
  · have HE := Lib.hid (derB_no (rs := rs) (t := t) (by rw [hq]; rfl))
    have HQ := Lib.hid hq
    clear hq
    go_enter Try.func36, Try.ntmps36
    go_wp2_with fail
    refine (specGramRight_any rs _ lo hi _ (HV.out.below HB.out hh) (by rw [HSZ.out]; omega)).mono ?_
    rintro _ w1 ⟨rfl, b1⟩
    rw [HQ.out]
    go_wp2
    go_ret
    exact ⟨ret_bool HE.out.symm, HB.out.trans (b1.mono (by rw [HSZ.out]; omega))⟩
  · cases ht : textB t
    · have HE := Lib.hid (derB_no (rs := rs) (t := t) (by rw [ht, Bool.and_false]))
      have HQ := Lib.hid hq
      have HT := Lib.hid ht
      clear hq ht
      go_enter Try.func36, Try.ntmps36
      go_wp2_with fail
      refine (specGramRight_any rs _ lo hi _ (HV.out.below HB.out hh) (by rw [HSZ.out]; omega)).mono ?_
      rintro _ w1 ⟨rfl, b1⟩
      rw [HQ.out]
      have B1 := HB.out.trans (b1.mono (by rw [HSZ.out]; omega))
      have HB1 := Lib.hid B1
      have z1 := B1.size
      clear B1 b1
      go_wp2_with fail
      refine (specTextB_any t _ lo2 hi2 _ (HW.out.below HB1.out hh2) (by omega)).mono ?_
      rintro _ w2 ⟨rfl, b2⟩
      rw [HT.out]
      go_wp2
      go_ret
      exact ⟨ret_bool HE.out.symm, HB1.out.trans (b2.mono (by omega))⟩
    · have HQ := Lib.hid hq
      have HT := Lib.hid ht
      have h12 := ((textB_iff t).1 ht).1
      have hhpos : 0 < (hsOf rs).length := List.length_pos_of_mem (hs_all (rs := rs) (i := 0) (Rt.of hq).one)
      clear hq ht
      go_enter Try.func36, Try.ntmps36
      go_wp2_with fail
      refine (specGramRight_any rs _ lo hi _ (HV.out.below HB.out hh) (by rw [HSZ.out]; omega)).mono ?_
      rintro _ w1 ⟨rfl, b1⟩
      rw [HQ.out]
      have B1 := HB.out.trans (b1.mono (by rw [HSZ.out]; omega))
      have r1 := HR0.out.below b1 HR0.out.lt
      have HB1 := Lib.hid B1
      have HR1 := Lib.hid r1
      have z1 := B1.size
      clear B1 b1 r1
      go_wp2_with fail
      refine (specTextB_any t _ lo2 hi2 _ (HW.out.below HB1.out hh2) (by omega)).mono ?_
      rintro _ w2 ⟨rfl, b2⟩
      rw [HT.out]
      have B2 := HB1.out.trans (b2.mono (by omega))
      have r2 := HR1.out.below b2 HR1.out.lt
      have q2 := r2.cell 0
      simp at q2
      have l2 := r2.lt
      have HB2 := Lib.hid B2
      have z2 := B2.size
      clear B2 b2 r2
      go_wp2_with fail
      refine (specFill_any rs t _ _ lo hi lo2 hi2 _ (HV.out.below HB2.out hh) (by omega) (HW.out.below HB2.out hh2) (by omega) HQ.out HT.out).mono ?_
      rintro _ w3 ⟨p, Ah, ch, G, cG, hi3, R, T, rfl, htab, hS, hC, hI, -, b3⟩
      obtain ⟨rb, y0, y1, y2, y3⟩ := htab.cells (q := t.length) hhpos (by omega)
      rw [derB_tab HQ.out HT.out hS hC] at y2
      have lp := htab.box.lt
      have lG := htab.lt.1
      have hcG := htab.cap
      unfold maxLen at hcG
      have B3 := Lib.hid (HB2.out.trans (b3.mono (by omega)))
      have i1 : (0 : Int) < ((hsOf rs).length : Int) := by omega
      have i2 : (t.length : Int) < 169 := by omega
      clear htab hS hC hI b3
      go_wp2
      go_ret
      exact ⟨rfl, B3.out⟩
end Go.Proofs.Ytonfiahihmcmlaa

/- What FnDerive asks of Derives, Viable and Spans, as data. No program stands in this text. -/
namespace Go.Proofs.Ytonfiahihmcmlaa
open Go.RowKit

theorem lastB_top {p : Nat → Prop} {n : Nat} (h : p n) : lastB p n = n := by
  cases n with
  | zero => unfold lastB; rw [if_pos h]; rfl
  | succ n => unfold lastB; rw [if_pos h]
theorem lastB_is {p : Nat → Prop} {n m : Nat} (h : lastB p n = (m : Int)) : m ≤ n ∧ p m := by
  induction n with
  | zero =>
    unfold lastB at h
    split at h
    · obtain rfl : m = 0 := by omega
      exact ⟨Nat.le_refl _, by assumption⟩
    · omega
  | succ n ih =>
    unfold lastB at h
    split at h
    · obtain rfl : m = n + 1 := by omega
      exact ⟨Nat.le_refl _, by assumption⟩
    · have := ih h
      exact ⟨by omega, this.2⟩
theorem derB_parts {rs : List RuleD} {t : List ByteArray} (h : derB rs t = true) : gramB rs = true ∧ textB t = true ∧ DerP rs t := by
  cases hg : gramB rs
  · rw [derB_no (by rw [hg]; rfl)] at h; cases h
  · cases ht : textB t
    · rw [derB_no (by rw [ht, Bool.and_false])] at h; cases h
    · refine ⟨rfl, rfl, Classical.byContradiction fun hn => ?_⟩
      rw [derB_not hn] at h; cases h
/-- what is said can be the beginning, as a whole -/
theorem der_via {rs : List RuleD} {t : List ByteArray} (h : derB rs t = true) : viaZ rs t = (t.length : Int) := by
  obtain ⟨hg, ht, hd⟩ := derB_parts h
  have R := Rt.of hg
  have htk := ((textB_iff t).1 ht).2
  rw [viaZ_yes hg ht]
  apply lastB_top
  have d : Der (· ∈ frs rs) t [(ruleAt rs 0).head] 0 t.length := (der_frs htk).2 hd
  obtain ⟨r, hr, hrh, d2⟩ := d.head_inv fun s hs e => tok_no_head R htk s (List.mem_of_getElem? hs) (by rw [e, ruleAt_eq R.one]; exact hs_all R.one)
  unfold BegP
  rw [← hrh]
  exact .stop r.body.length hr (by rwa [List.take_length])
theorem via_parts {rs : List RuleD} {t : List ByteArray} (h : 0 ≤ viaZ rs t) : gramB rs = true ∧ textB t = true ∧ ∃ m : Nat, viaZ rs t = (m : Int) ∧ m ≤ t.length ∧ BegP rs t m := by
  cases hg : gramB rs
  · rw [viaZ_no (by rw [hg]; rfl)] at h; omega
  · cases ht : textB t
    · rw [viaZ_no (by rw [ht, Bool.and_false])] at h; omega
    · refine ⟨rfl, rfl, (viaZ rs t).toNat, by omega, ?_⟩
      have e := viaZ_yes hg ht
      exact lastB_is (by rw [← e]; omega)
/-- how much can be is told of that much alone, too -/
theorem via_take {rs : List RuleD} {t : List ByteArray} {m : Nat} (h : viaZ rs t = (m : Int)) : viaZ rs (t.take m) = (m : Int) := by
  obtain ⟨hg, ht, m', e, hm, hp⟩ := via_parts (rs := rs) (t := t) (by omega)
  obtain rfl : m' = m := by omega
  have ht2 : textB (t.take m') = true := by
    obtain ⟨h1, h2⟩ := (textB_iff t).1 ht
    exact (textB_iff _).2 ⟨by rw [List.length_take]; omega, fun s hs => h2 s (List.mem_of_mem_take hs)⟩
  rw [viaZ_yes hg ht2, show (t.take m').length = m' by rw [List.length_take]; omega]
  exact lastB_top (show Beg _ (t.take m') m' _ 0 from Beg.cut hp)
/-- a head that is the start comes to the whole just if it is said -/
theorem spans_whole {rs : List RuleD} {t : List ByteArray} (hg : gramB rs = true) (ht : textB t = true) : (t.length : Int) ∈ spansOf rs t (ruleAt rs 0).head ↔ derB rs t = true := by
  have R := Rt.of hg
  have h12 := ((textB_iff t).1 ht).1
  have hh : headB (ruleAt rs 0).head = true := by rw [ruleAt_eq R.one]; exact R.head 0 R.one
  unfold spansOf
  rw [hg, ht, hh]
  show _ ∈ spanTo rs t (ruleAt rs 0).head 169 ↔ _
  unfold spanTo
  have e1 : t.length / 13 = 0 := by omega
  have e2 : t.length % 13 = t.length := by omega
  constructor
  · intro h
    obtain ⟨q, hq, e⟩ := List.mem_map.1 h
    obtain rfl : q = t.length := by omega
    have := (List.mem_filter.1 hq).2
    simp only [decide_eq_true_eq] at this
    obtain ⟨_, _, d⟩ := this
    rw [e1, e2] at d
    exact derB_yes hg ht d
  · intro h
    obtain ⟨_, _, d⟩ := derB_parts h
    refine List.mem_map.2 ⟨t.length, List.mem_filter.2 ⟨List.mem_range.2 (by omega), ?_⟩, rfl⟩
    simp only [decide_eq_true_eq]
    refine ⟨by omega, by omega, ?_⟩
    rw [e1, e2]
    exact d
/-- they stand in order, and none ends ahead of where it begins -/
theorem spans_order {rs : List RuleD} {t : List ByteArray} {h : ByteArray} : (spansOf rs t h).Pairwise (· < ·) ∧ ∀ z ∈ spansOf rs t h, ∃ q : Nat, z = (q : Int) ∧ q < 169 ∧ q / 13 ≤ q % 13 := by
  unfold spansOf
  split
  · unfold spanTo
    constructor
    · rw [List.pairwise_map]
      refine List.Pairwise.imp ?_ ((List.pairwise_lt_range (n := 169)).filter _)
      intro a b hab
      omega
    · intro z hz
      obtain ⟨q, hq, rfl⟩ := List.mem_map.1 hz
      have h1 := (List.mem_filter.1 hq).1
      have h2 := (List.mem_filter.1 hq).2
      simp only [decide_eq_true_eq] at h2
      exact ⟨q, rfl, List.mem_range.1 h1, h2.2.2.le⟩
  · exact ⟨.nil, fun z hz => by cases hz⟩
end Go.Proofs.Ytonfiahihmcmlaa

/- The law's own lwNums. -/
namespace Go.Proofs.Ytonfiahihmcmlaa
open Go.RowKit

set_option maxHeartbeats 1000000 in
theorem lwNums_any (v u : Value) (ss ts : List Int) (lo hi lo' hi' : Nat) (w : World) (h : IntsAt w lo hi v ss) (h' : IntsAt w lo' hi' u ts) :
    Calls Try.prog 38 #[v, u] w fun e w' => e = .returned (.bool (eqIs ss ts)) ∧ ∃ n, w' = w.drewN n := by
  obtain ⟨A, c, rfl, hlc, hc, hcell⟩ := h
  obtain ⟨A', c', rfl, hlc', hc', hcell'⟩ := h'
  unfold maxLen at hc hc'
  by_cases hn : ss.length = ts.length
  · have d0 : ((ss.length : Int) != (ts.length : Int)) = false := by rw [bne_eq_false_iff_eq]; omega
    have HN := Lib.hid hn
    have HC := Lib.hid hcell
    have HC' := Lib.hid hcell'
    clear hcell hcell' hn
    go_enter Try.func38, Try.ntmps38
    go_wp2
    go_loopw [5] (fun i wr => ∃ (k n : Nat), k ≤ ss.length ∧ i = .int .i64 k ∧ wr = w.drewN n ∧ (∀ j (h : j < ss.length), j < k → ss[j] = ts[j]'(by have := HN.out; omega))) (fun i _ => ss.length - (intOf i).toNat)
    case atStart => exact ⟨0, 0, by omega, rfl, rfl, fun j _ hj => by omega⟩
    case round =>
      obtain ⟨k, n, hk, rfl, rfl, hall⟩ := hrel
      have HA := Lib.hid hall
      clear hall
      by_cases hlt : k < ss.length
      · have hlt' : k < ts.length := by have := HN.out; omega
        obtain ⟨b, off, rfl, _, hbh, hcc⟩ := HC.out (by omega)
        obtain ⟨b', off', rfl, _, hbh', hcc'⟩ := HC'.out (by omega)
        have hck := hcc k hlt
        have hck' := hcc' k hlt'
        have i1 : (k : Int) < (ss.length : Int) := by omega
        have i2 : (k : Int) < (ts.length : Int) := by omega
        clear hcc hcc'
        by_cases he : ss[k] = ts[k]
        · have d1 : (ss[k] != ts[k]) = false := by rw [bne_eq_false_iff_eq]; exact he
          have HE := Lib.hid he
          clear he
          go_wp2
          go_quiet (fail)
          go_wp2
          go_roundw
          case rel => exact ⟨k + 1, _, by omega, by go_num, rfl, fun j hj hjk => by
            by_cases e : j = k
            · subst e; exact HE.out
            · exact HA.out j hj (by omega)⟩
          case measure => simp [intOf]; omega
        · have d1 : (ss[k] != ts[k]) = true := by rw [bne_iff_ne]; exact he
          go_wp2
          go_quiet (fail)
          go_wp2
          go_ret
          exact ⟨ret_boolE (eqIs_f (fun e => he (by subst e; rfl))).symm, _, World.drewN_drewN _ _ _⟩
      · go_wp2
        go_ret
        exact ⟨ret_boolE (eqIs_t (List.ext_getElem HN.out fun j h1 h2 => HA.out j h1 (by omega))).symm, _, rfl⟩
  · have d0 : ((ss.length : Int) != (ts.length : Int)) = true := by rw [bne_iff_ne]; omega
    go_enter Try.func38, Try.ntmps38
    go_wp2
    go_ret
    exact ⟨ret_boolE (eqIs_f (fun e => hn (by rw [e]))).symm, 0, rfl⟩
end Go.Proofs.Ytonfiahihmcmlaa

/- The program's Spans, whole. -/
namespace Go.Proofs.Ytonfiahihmcmlaa
open Go.RowKit Go.Maps Go.Conc

theorem spanTo_end {rs : List RuleD} {t : List ByteArray} {h : ByteArray} (h12 : t.length ≤ 12) : spanTo rs t h (13 * (t.length + 1) + (t.length + 1)) = spanTo rs t h 169 := by
  rw [spanTo_next h12 (Nat.le_refl _)]
  symm
  apply spanTo_skip (by omega)
  intro q h1 h2 hp
  obtain ⟨p1, p2, p3⟩ := hp
  have := p3.le
  omega
theorem ask_int (E : Env) (rs : List RuleD) (t : List ByteArray) (M : List WtM) (S : St) (h : ByteArray) (i : Nat) (w : World) (s : Sea w E rs t M S) (hi : i ≤ t.length) :
    Calls Try.prog 92 #[.agg #[.slice E.A rs.length E.c, .slice E.B t.length E.d, .map (some E.bk), .map (some E.bf), .map (some E.bw), .chan (some E.bq)], .agg #[.string h, .int .i64 (i : Int)]] w fun e w' => e = .returned (.tuple #[]) ∧ Sea w' E rs t M (askS rs S h i) ∧ Turn (E.T M) w w' := ask_any E rs t M S h i w s hi

set_option maxRecDepth 100000 in
set_option maxHeartbeats 8000000 in
theorem implSpans_yes (rs : List RuleD) (t : List ByteArray) (h : ByteArray) (v tv : Value) (lo hi lo2 hi2 : Nat) (w : World) (hv : Rules w lo hi v rs) (hh : hi ≤ w.heap.size) (h2 : Strs w lo2 hi2 tv t) (hh2 : hi2 ≤ w.heap.size) (hg : gramB rs = true) (ht : textB t = true) (hhd : headB h = true) :
    Calls Try.prog 35 #[.agg #[v], tv, .string h] w (MadeI w (spanTo rs t h 169)) := by
  obtain ⟨j0, hj0, hy0, hy1, hy2⟩ := info_parts Try.infoI64
  have HV := Lib.hid hv
  have HW := Lib.hid h2
  have h12 := ((textB_iff t).1 ht).1
  have hz4 := headB_size hhd
  obtain ⟨A, c, rfl, -⟩ := hv
  obtain ⟨B, d, rfl, -⟩ := h2
  have hb := al1 w (.cells #[.slice A rs.length c] 25)
  have R0 := Row.made w 25 #[.slice A rs.length c]
  have HR0 := Lib.hid R0
  have HB := Lib.hid hb
  have hsz : (w.alloc (.cells #[.slice A rs.length c] 25)).heap.size = w.heap.size + 1 := by simp
  have HSZ := Lib.hid hsz
  have HFT := Lib.hid (frs_fits hg ht)
  have HQ := Lib.hid hg
  have HT := Lib.hid ht
  have HH := Lib.hid hhd
  clear hb hsz hg ht hhd R0
  go_enter Try.func35, Try.ntmps35
  go_wp2_with fail
  refine (implGramRight_any rs _ lo hi _ (HV.out.below HB.out hh) (by rw [HSZ.out]; omega)).mono ?_
  rintro _ w1 ⟨rfl, b1⟩
  rw [HQ.out]
  have B1 := HB.out.trans (b1.mono (by rw [HSZ.out]; omega))
  have r1 := HR0.out.below b1 HR0.out.lt
  have HR1 := Lib.hid r1
  have HB1 := Lib.hid B1
  have z1 := B1.size
  clear b1 B1 r1
  go_wp2_with fail
  refine (textRight_any t _ lo2 hi2 _ (HW.out.below HB1.out hh2) (by omega)).mono ?_
  rintro _ w2 ⟨rfl, b2⟩
  rw [HT.out]
  have B2 := HB1.out.trans (b2.mono (by omega))
  have r2 := HR1.out.below b2 HR1.out.lt
  have HR2 := Lib.hid r2
  have HB2 := Lib.hid B2
  have z2 := B2.size
  clear b2 B2 r2
  go_wp2_with fail
  refine (implIsHead_any _ _).mono ?_
  rintro _ w3 ⟨rfl, b3⟩
  rw [HH.out]
  have B3 := HB2.out.trans (b3.mono (by omega))
  have r3 := HR2.out.below b3 HR2.out.lt
  have q3 := r3.one4
  have l3 := r3.lt
  have HB3 := Lib.hid B3
  have z3 := B3.size
  clear b3 B3 r3
  go_wp2_with fail
  refine (newSearch_any rs t _ _ lo hi lo2 hi2 _ (HV.out.below HB3.out hh) (by omega) (HW.out.below HB3.out hh2) (by omega) HQ.out HT.out).mono ?_
  rintro _ w4 ⟨E, rfl, s4, hE4, b4⟩
  have B4 := HB3.out.trans (b4.mono (by omega))
  have hbA := al1 w4 (.cells #[.slice E.A (frs rs).length E.c, .slice E.B t.length E.d, .map (some E.bk), .map (some E.bf), .map (some E.bw), .chan (some E.bq)] 117)
  have B5 := B4.trans (hbA.mono B4.size)
  have s5 := s4.below hbA
  have rA := Row.made w4 117 #[.slice E.A (frs rs).length E.c, .slice E.B t.length E.d, .map (some E.bk), .map (some E.bf), .map (some E.bw), .chan (some E.bq)]
  have hnT4 : ¬ E.T [] w4.heap.size := fun ht => by have := s4.T_lt ht; omega
  have hlow : ∀ k, E.T ([] : List WtM) k → w.heap.size ≤ k := fun k hk => by have := s4.T_low hk; omega
  have hz5 := B5.size
  have HS5 := Lib.hid s5
  have HNT := Lib.hid hnT4
  have HLOW := Lib.hid hlow
  have HB5 := Lib.hid B5
  have HRA := Lib.hid rA
  clear s4 s5 b4 B4 B5 hbA hnT4 hlow rA q3
  unfold Env.v
  go_wp2
  generalize w4.alloc (.cells #[.slice E.A (frs rs).length E.c, .slice E.B t.length E.d, .map (some E.bk), .map (some E.bf), .map (some E.bw), .chan (some E.bq)] 117) = wA at *
  go_loopw [8, 31] (fun _ x wr => ∃ j : Nat, j ≤ t.length + 1 ∧ x = .int .i64 (j : Int) ∧ Sea wr E (frs rs) t [] (askTo (frs rs) h j) ∧ Turn (E.T []) wA wr) (fun _ x _ => t.length + 1 - (intOf x).toNat)
  case atStart => exact ⟨0, by omega, rfl, HS5.out, Turn.refl _ _⟩
  case round =>
    obtain ⟨j, hj, rfl, sj, tj⟩ := hrel
    rename World => wr
    have HSJ := Lib.hid sj
    have HTJ := Lib.hid tj
    have rj := tj.row HRA.out HNT.out
    obtain ⟨a0, a1, a2, a3, a4, a5⟩ := rj.six
    have lj := rj.lt
    have HRJ := Lib.hid rj
    clear sj tj rj
    by_cases hlt : j < t.length + 1
    · have i1 : (j : Int) < (t.length : Int) + 1 := by omega
      go_wp2_with fail
      refine (ask_int E (frs rs) t [] _ h j _ HSJ.out (by omega)).mono ?_
      rintro _ w8 ⟨rfl, s8, t8⟩
      have HS8 := Lib.hid s8
      have HT8 := Lib.hid (HTJ.out.trans t8 fun _ h => .inl h)
      clear s8 t8
      go_wp2
      go_roundw
      case rel => exact ⟨j + 1, by omega, by go_num, HS8.out, HT8.out⟩
      case measure => simp [intOf]; omega
    · have hje : j = t.length + 1 := by omega
      subst hje
      have i1 : ¬ ((t.length + 1 : Nat) : Int) < (t.length : Int) + 1 := by omega
      go_wp2_with fail
      refine (run_any E (frs rs) t [] _ _ HSJ.out).mono ?_
      rintro _ w6 ⟨rfl, S6, hruns, hrc, M6, s6, t6, hT6⟩
      have r6 := t6.row HRJ.out HNT.out
      obtain ⟨c0, c1, c2, c3, c4, c5⟩ := r6.six
      have l6 := r6.lt
      have hzr := HTJ.out.size
      have hz6 := t6.size
      have B6 := (HB5.out.trans (HTJ.out.below HLOW.out (by omega))).trans (t6.below HLOW.out (by omega))
      have HR6 := Lib.hid r6
      have HS6 := Lib.hid s6
      have HRU := Lib.hid hruns
      have HRC := Lib.hid hrc
      have HB6 := Lib.hid B6
      clear s6 t6 hT6 hruns hrc B6 r6 a0 a1 a2 a3 a4 a5
      go_wp2
      go_loopw [9, 10, 11, 45] (fun o _ _ x wq => ∃ j : Nat, j ≤ t.length + 1 ∧ x = .int .i64 (j : Int) ∧ Its wq w6.heap.size o (spanTo rs t h (13 * j + j)) ∧ Below w6.heap.size w6 wq) (fun _ _ _ x _ => t.length + 1 - (intOf x).toNat)
      case atStart => exact ⟨0, by omega, rfl, Its.nil _ _, Below.refl _ _⟩
      case round =>
        obtain ⟨j, hj, rfl, hit, hbw⟩ := hrel
        rename World => wq
        have HIT := Lib.hid hit
        have HBW := Lib.hid hbw
        have hsw := hbw.size
        clear hit hbw
        by_cases hlt2 : j < t.length + 1
        · have i2 : (j : Int) < (t.length : Int) + 1 := by omega
          go_wp2
          go_loopw [9, 11] (fun o x wv => ∃ k : Nat, j ≤ k ∧ k ≤ t.length + 1 ∧ x = .int .i64 (k : Int) ∧ Its wv w6.heap.size o (spanTo rs t h (13 * j + k)) ∧ Below w6.heap.size w6 wv) (fun _ x _ => t.length + 1 - (intOf x).toNat)
          case atStart => exact ⟨j, Nat.le_refl _, by omega, rfl, HIT.out, HBW.out⟩
          case round =>
            obtain ⟨k, hk1, hk2, rfl, hik, hbk⟩ := hrel
            rename World => wv
            have hsv := hbk.size
            have HBK := Lib.hid hbk
            have rv := HR6.out.below hbk l6
            obtain ⟨v0, v1, v2, v3, v4, v5⟩ := rv.six
            have lv := rv.lt
            have hln := spanTo_len (rs := rs) (t := t) (h := h) (13 * j + k)
            have HIK := Lib.hid hik
            obtain ⟨Bz, dz, rfl⟩ := hik.form
            by_cases hlt3 : k ≤ t.length
            · have hpk := keyPiece (h := h) (i := j) (k := k) (by unfold maxLen; omega) (by omega) (by omega)
              have hisf := HS6.out.isFound (h := h) (i := j) (k := k) hz4 (by omega) (by omega)
              have hsf := span_found HFT.out HH.out HRU.out HRC.out (i := j) (by omega) k
              have hmf : MapAt wv 121 boolE E.bf S6.found.length (memF (S6.found.map fun p => pieceK p.1 p.2.1 p.2.2)) := HS6.out.found.keep (hbk.block _ HS6.out.found.lt)
              have i3 : (k : Int) ≤ (t.length : Int) := by omega
              by_cases hd : Der (· ∈ rs) t [h] j k
              · have hlk := set_in hmf kPiece Try.underlying113 hpk (hisf.2 (hsf.2 hd))
                have HNX := Lib.hid (spanTo_t (rs := rs) (t := t) (h := h) (q := 13 * j + k) ((SpanP.at (by omega)).2 ⟨by omega, hlt3, hd⟩))
                have HO : Hid (wv.ownsRow w6.heap.size 2 1 (.slice Bz (spanTo rs t h (13 * j + k)).length dz) (spanTo rs t h (13 * j + k)).length ((spanTo rs t h (13 * j + k)).map (Value.int .i64))) := Lib.hid HIK.out
                clear hd hsf hisf hpk hmf hik hbk rv
                unfold pieceV at hlk
                generalize spanTo rs t h (13 * j + k) = L at *
                go_wp2_with (at_builtin; refine wpList_append_own _ rfl _ _ 45 rfl w6.heap.size 2 j0 _ 1 8 Try.underlying45 hj0 hy0 hy1 hy2 rfl (by decide) _ _ _ rfl (World.ownsRow.alloc HO.out _) ⟨wv.heap.size, 0, none⟩ 1 1 [.int .i64 (13 * (j : Int) + (k : Int))] rfl rfl (cell_one_new _ _ _) (one_i64 _) (by unfold maxLen; omega) (by omega) (by simp; omega) ?_)
                intro v1 w9 hown1 hg1 _
                have s1 : Its w9 w6.heap.size v1 (spanTo rs t h (13 * j + k + 1)) := by
                  rw [HNX.out]
                  refine Its.one _ ?_
                  simpa using hown1
                have B1 : Below w6.heap.size w6 w9 := Tx.below_grown (HBK.out.trans ((al1 wv _).mono hsv)) (World.ownsRow.alloc HO.out _) hg1 (by simp; omega) (by omega)
                have HS1 := Lib.hid s1
                have HB1' := Lib.hid B1
                clear hown1 hg1 s1 B1
                go_wp2
                go_roundw
                case rel => exact ⟨k + 1, by omega, by omega, by go_num, HS1.out, HB1'.out⟩
                case measure => simp [intOf]; omega
              · have hlk := set_out hmf kPiece Try.underlying113 hpk (fun hm => hd (hsf.1 (hisf.1 hm)))
                have HNX := Lib.hid (spanTo_f (rs := rs) (t := t) (h := h) (q := 13 * j + k) (fun hp => hd ((SpanP.at (by omega)).1 hp).2.2))
                clear hd hsf hisf hpk hmf hik hbk rv
                unfold pieceV at hlk
                go_wp2
                go_roundw
                case rel => exact ⟨k + 1, by omega, by omega, by go_num, by rw [show 13 * j + (k + 1) = 13 * j + k + 1 by omega, HNX.out]; exact HIK.out, HBK.out⟩
                case measure => simp [intOf]; omega
            · have hke : k = t.length + 1 := by omega
              have i3 : ¬ (k : Int) ≤ (t.length : Int) := by omega
              have HNX := Lib.hid (spanTo_next (rs := rs) (h := h) (i := j) h12 (by omega))
              have HKE := Lib.hid hke
              clear hke hik hbk rv
              go_wp2
              go_roundw
              case rel => exact ⟨j + 1, by omega, by go_num, by rw [HNX.out, ← HKE.out]; exact HIK.out, HBK.out⟩
              case measure => simp [intOf]; omega
        · have hje : j = t.length + 1 := by omega
          have i2 : ¬ (j : Int) < (t.length : Int) + 1 := by omega
          have hie := HIT.out
          rw [hje, spanTo_end h12] at hie
          obtain ⟨g, ho, hg⟩ := hie.own
          have HOG := Lib.hid (And.intro ho hg)
          clear hie ho hg hje
          go_wp2
          go_ret
          exact ⟨_, g, rfl, HOG.out.1, fun hn => by have := HOG.out.2 hn; have := HB6.out.size; omega, HB6.out.trans (HBW.out.mono HB6.out.size)⟩

theorem implSpans_any (rs : List RuleD) (t : List ByteArray) (h : ByteArray) (v tv : Value) (lo hi lo2 hi2 : Nat) (w : World) (hv : Rules w lo hi v rs) (hh : hi ≤ w.heap.size) (h2 : Strs w lo2 hi2 tv t) (hh2 : hi2 ≤ w.heap.size) :
    Calls Try.prog 35 #[.agg #[v], tv, .string h] w (MadeI w (spansOf rs t h)) := by
  unfold spansOf
  cases hq : (gramB rs && textB t && headB h)
  · refine (implSpans_no rs t h v tv lo hi lo2 hi2 w hv hh h2 hh2 hq).mono ?_
    rintro e w' ⟨rfl, b⟩
    exact ⟨_, 0, rfl, OwnI.nil _ _, fun h => absurd rfl h, b⟩
  · rw [if_pos rfl]
    have hg : gramB rs = true := by revert hq; cases gramB rs <;> simp
    have ht : textB t = true := by revert hq; cases textB t <;> simp
    have hb : headB h = true := by revert hq; cases headB h <;> simp
    exact implSpans_yes rs t h v tv lo hi lo2 hi2 w hv hh h2 hh2 hg ht hb
end Go.Proofs.Ytonfiahihmcmlaa
