import Derived.Test.YtmhdbjoljonhdaaSp4
import Derived.Test.YtmhdbjoljonhdaaJWder
import Derived.Test.YtmhdbjoljonhdaaReachI
import Derived.Test.YtmhdbjoljonhdaaJWspans
import Derived.Deep.AppendLies
import Derived.Test.YtmhdbjoljonhdaaWords
import Derived.WalkKit
import Derived.WalkSpells
import Derived.WalkLawsBesides
import Derived.Test.YtmhdbjoljonhdaaMarkc
import Derived.Test.YtmhdbjoljonhdaaToc
import Derived.Test.YtmhdbjoljonhdaaEq
import Derived.Test.YtmhdbjoljonhdaaInts
import Derived.Deep.RegionHeld3
import Derived.ProofKit
import Derived.OpenShut
import Derived.ShutString
import Derived.ChangeOld
import Derived.Deep.Strs
import Derived.Deep.SlicePairs
import Derived.Deep.Fields
/- The model's Derives. -/
namespace Go.Proofs.Ytmhdbjoljonhdaa
open Go.RowKit

theorem hs_start {rs : List RuleD} (R : Rt rs) (h : 0 < (hsOf rs).length) : (hsOf rs)[0] = (ruleAt rs 0).head := by
  have h0 := headsTo_first R.one (k := rs.length) R.one (Nat.le_refl _)
  change (hsOf rs)[0]? = _ at h0
  rw [List.getElem?_eq_getElem h] at h0
  injection h0 with h0
  rw [h0, ruleAt_eq R.one]
open Classical in
theorem derB_tab {rs : List RuleD} {t : List ByteArray} {T : TabF} (hg : gramB rs = true) (ht : textB t = true) (S : TSound rs t T) (C : TClosed rs t T) : T 0 t.length = derB rs t := by
  have R := Rt.of hg
  have hp : 0 < (hsOf rs).length := List.length_pos_of_mem (hs_all (rs := rs) (i := 0) R.one)
  have := tab_tells S C (tok_no_head R ((textB_iff t).1 ht).2) hp (k := 0) (e := t.length) (by omega) (Nat.le_refl _)
  rw [hs_start R hp, show 13 * 0 + t.length = t.length by omega] at this
  unfold derB
  rw [hg, ht, Bool.eq_iff_iff, this, Bool.true_and, Bool.true_and, decide_eq_true_iff]
  exact Iff.rfl

set_option maxRecDepth 100000 in
set_option maxHeartbeats 4000000 in
theorem specDerives_any (rs : List RuleD) (t : List ByteArray) (v tv : Value) (lo hi lo2 hi2 : Nat) (w : World) (h : Rules w lo hi v rs) (hh : hi ≤ w.heap.size) (h2 : Strs w lo2 hi2 tv t) (hh2 : hi2 ≤ w.heap.size) :
    Calls Try.prog 36 #[.agg #[v], tv] w fun e w' => e = .returned (.bool (derB rs t)) ∧ Below w.heap.size w w' := by
  have HV := Lib.hid h
  have HW := Lib.hid h2
  obtain ⟨A, c, rfl, -⟩ := h
  obtain ⟨B, d, rfl, -⟩ := h2
  have hb := al1 w (.cells #[.slice A rs.length c] 25)
  have R0 := Row.made w 25 #[.slice A rs.length c]
  have HB := Lib.hid hb
  have HR0 := Lib.hid R0
  have hsz : (w.alloc (.cells #[.slice A rs.length c] 25)).heap.size = w.heap.size + 1 := by simp
  have HSZ := Lib.hid hsz
  clear hb R0 hsz
  cases hq : gramB rs
  · have HE := Lib.hid (derB_no (rs := rs) (t := t) (by rw [hq]; rfl))
    have HQ := Lib.hid hq
    clear hq
    go_enter Try.func36, Try.ntmps36
    go_wp2_with fail
    refine (specGramRight_any rs _ lo hi _ (HV.out.below HB.out hh) (by rw [HSZ.out]; omega)).mono ?_
    rintro _ w1 ⟨rfl, b1⟩
    rw [HQ.out]
    go_wp2
    go_ret
    exact ⟨ret_bool HE.out.symm, HB.out.trans (b1.mono (by rw [HSZ.out]; omega))⟩
  · cases ht : textB t
    · have HE := Lib.hid (derB_no (rs := rs) (t := t) (by rw [ht, Bool.and_false]))
      have HQ := Lib.hid hq
      have HT := Lib.hid ht
      clear hq ht
      go_enter Try.func36, Try.ntmps36
      go_wp2_with fail
      refine (specGramRight_any rs _ lo hi _ (HV.out.below HB.out hh) (by rw [HSZ.out]; omega)).mono ?_
      rintro _ w1 ⟨rfl, b1⟩
      rw [HQ.out]
      have B1 := HB.out.trans (b1.mono (by rw [HSZ.out]; omega))
      have HB1 := Lib.hid B1
      have z1 := B1.size
      clear B1 b1
      go_wp2_with fail
      refine (specText_any t _ lo2 hi2 _ (HW.out.below HB1.out hh2) (by omega)).mono ?_
      rintro _ w2 ⟨rfl, b2⟩
      rw [HT.out]
      go_wp2
      go_ret
      exact ⟨ret_bool HE.out.symm, HB1.out.trans (b2.mono (by omega))⟩
    · have HQ := Lib.hid hq
      have HT := Lib.hid ht
      have h12 := ((textB_iff t).1 ht).1
      have hhpos : 0 < (hsOf rs).length := List.length_pos_of_mem (hs_all (rs := rs) (i := 0) (Rt.of hq).one)
      clear hq ht
      go_enter Try.func36, Try.ntmps36
      go_wp2_with fail
      refine (specGramRight_any rs _ lo hi _ (HV.out.below HB.out hh) (by rw [HSZ.out]; omega)).mono ?_
      rintro _ w1 ⟨rfl, b1⟩
      rw [HQ.out]
      have B1 := HB.out.trans (b1.mono (by rw [HSZ.out]; omega))
      have r1 := HR0.out.below b1 HR0.out.lt
      have HB1 := Lib.hid B1
      have HR1 := Lib.hid r1
      have z1 := B1.size
      clear B1 b1 r1
      go_wp2_with fail
      refine (specText_any t _ lo2 hi2 _ (HW.out.below HB1.out hh2) (by omega)).mono ?_
      rintro _ w2 ⟨rfl, b2⟩
      rw [HT.out]
      have B2 := HB1.out.trans (b2.mono (by omega))
      have r2 := HR1.out.below b2 HR1.out.lt
      have q2 := r2.cell 0
      simp at q2
      have l2 := r2.lt
      have HB2 := Lib.hid B2
      have z2 := B2.size
      clear B2 b2 r2
      go_wp2_with fail
      refine (specFill_any rs t _ _ lo hi lo2 hi2 _ (HV.out.below HB2.out hh) (by omega) (HW.out.below HB2.out hh2) (by omega) HQ.out HT.out).mono ?_
      rintro _ w3 ⟨p, Ah, ch, G, cG, hi3, R, T, rfl, htab, hS, hC, hI, -, b3⟩
      obtain ⟨rb, y0, y1, y2, y3⟩ := htab.cells (q := t.length) hhpos (by omega)
      rw [derB_tab HQ.out HT.out hS hC] at y2
      have lp := htab.box.lt
      have lG := htab.lt.1
      have hcG := htab.cap
      unfold maxLen at hcG
      have B3 := Lib.hid (HB2.out.trans (b3.mono (by omega)))
      have i1 : (0 : Int) < ((hsOf rs).length : Int) := by omega
      have i2 : (t.length : Int) < 169 := by omega
      clear htab hS hC hI b3
      go_wp2
      go_ret
      exact ⟨rfl, B3.out⟩
end Go.Proofs.Ytmhdbjoljonhdaa

/- The model's Spans. -/
namespace Go.Proofs.Ytmhdbjoljonhdaa
open Go.RowKit

theorem span_tab {rs : List RuleD} {t : List ByteArray} {T : TabF} {h : ByteArray} (hg : gramB rs = true) (ht : textB t = true) (S : TSound rs t T) (C : TClosed rs t T) (I : TIn t T) (hm : h ∈ hsOf rs) {q : Nat} : T (hIx (hsOf rs) h) q = true ↔ SpanP rs t h q := by
  have R := Rt.of hg
  have hi := hIx_lt hm
  have key : q / 13 ≤ t.length → q % 13 ≤ t.length → (T (hIx (hsOf rs) h) q = true ↔ Der (· ∈ rs) t [h] (q / 13) (q % 13)) := fun h1 h2 => by
    have := tab_tells S C (tok_no_head R ((textB_iff t).1 ht).2) hi h1 h2
    rwa [hIx_at hm, show 13 * (q / 13) + q % 13 = q by omega] at this
  constructor
  · intro hT
    obtain ⟨h1, h2⟩ := I _ _ hT
    exact ⟨h1, h2, (key h1 h2).1 hT⟩
  · rintro ⟨h1, h2, d⟩
    exact (key h1 h2).2 d
theorem spanTo_none {rs : List RuleD} {t : List ByteArray} {h : ByteArray} (ht : textB t = true) (hh : headB h = true) (hm : h ∉ hsOf rs) (q : Nat) : spanTo rs t h q = [] := by
  have := spanTo_skip (rs := rs) (t := t) (h := h) (a := 0) (b := q) (by omega) fun q _ _ hp => by
    obtain ⟨_, _, d⟩ := hp
    obtain ⟨r, hr, hrh, _⟩ := d.head_inv fun s hs e => by
      have := ((textB_iff t).1 ht).2 s (List.mem_of_getElem? hs)
      rw [e, head_no_tok hh] at this
      cases this
    obtain ⟨i, hi, rfl⟩ := List.getElem_of_mem hr
    exact hm (hrh ▸ hs_all hi)
  rw [this]
  rfl
theorem spansOf_out {rs : List RuleD} {t : List ByteArray} {h : ByteArray} (ht : textB t = true) (hm : h ∉ hsOf rs) : spansOf rs t h = [] := by
  unfold spansOf
  split
  · rename_i e
    exact spanTo_none ht (by revert e; cases headB h <;> simp) hm _
  · rfl
theorem spansOf_in {rs : List RuleD} {t : List ByteArray} {h : ByteArray} (hg : gramB rs = true) (ht : textB t = true) (hm : h ∈ hsOf rs) : spansOf rs t h = spanTo rs t h 169 := by
  unfold spansOf
  rw [hg, ht, (Rt.of hg).hs_head hm]
  rfl
theorem spansOf_no {rs : List RuleD} {t : List ByteArray} {h : ByteArray} (hn : (gramB rs && textB t) = false) : spansOf rs t h = [] := by
  unfold spansOf
  rw [hn]
  rfl
theorem spansOf_long {rs : List RuleD} {t : List ByteArray} {h : ByteArray} (hn : 8000 < h.size) : spansOf rs t h = [] := by
  unfold spansOf
  split
  · rename_i e
    have := headB_size (s := h) (by revert e; cases headB h <;> simp)
    omega
  · rfl

theorem OwnI.zero (w : World) (g : Nat) (A : Option Addr) : OwnI w g (.slice A 0 0) [] := ⟨A, 0, rfl, Nat.le_refl _, by unfold maxLen; omega, fun h => by simp at h⟩

/-- the list grows; the table's row that is read stands -/
structure Spn (w3 : World) (g0 hi p G ix rb : Nat) (box : Array Value) (f : Nat → Bool) (o : Value) (L : List Int) (wr : World) : Prop where
  its : Its wr g0 o L
  blk : ∀ g, o.ownBlock = some g → g = g0 ∨ hi ≤ g
  box : Row wr p 110 box
  cell : wr.cell? ⟨G, ix, none⟩ = some (.slice (some ⟨rb, 0, none⟩) 169 169)
  row : Row wr rb 4 (cellsB f 169)
  low : Below g0 w3 wr
theorem Spn.grow {w3 wr w9 : World} {g0 hi p G ix rb gg cap : Nat} {box A : Array Value} {f : Nat → Bool} {o : Value} {L : List Int} {x : Int} (h : Spn w3 g0 hi p G ix rb box f o L wr) (h0 : g0 ≤ wr.heap.size) (hG : G ≠ g0) (hGh : G < hi) (hhi : hi ≤ wr.heap.size)
    (hown : w9.ownsRow g0 2 1 (.slice (some ⟨gg, 0, none⟩) (L.length + 1) cap) (L.length + 1) (L.map (Value.int .i64) ++ [.int .i64 x])) (hg : (wr.alloc (.cells A 2)).grownBy w9 o.ownBlock) (hat : o.ownBlock = some gg ∨ gg = wr.heap.size + 1) :
    Spn w3 g0 hi p G ix rb box f (.slice (some ⟨gg, 0, none⟩) (L.length + 1) cap) (L ++ [x]) w9 := by
  have hrow : ∀ k, o.ownBlock = some k → ∃ cur, Row wr k 2 cur := fun k hk => by
    rcases h.its.2 with ⟨e, _⟩ | ⟨g', cap', cur, e, _, hh, _⟩
    · rw [e] at hk; simp [Value.ownBlock] at hk
    · rw [e] at hk
      have : g' = k := by simpa [Value.ownBlock] using hk
      subst this
      exact ⟨cur, hh⟩
  have keep : ∀ k, k < wr.heap.size → o.ownBlock ≠ some k → w9.heap[k]? = wr.heap[k]? := fun k hk hne => by
    rw [hg.block k (by simp; omega) fun e => hne e.symm]
    exact (al1 wr _).block k hk
  have ne : ∀ {k : Nat} {ty : TypeId} {cur : Array Value}, Row wr k ty cur → ty ≠ 2 → o.ownBlock ≠ some k := fun {k ty cur} hr hty hk => by
    obtain ⟨cur', hr'⟩ := hrow k hk
    exact hr.apart hr' hty rfl
  refine ⟨Its.one x hown, fun g e => ?_, h.box.same (keep _ h.box.lt (ne h.box (by decide))), ?_, h.row.same (keep _ h.row.lt (ne h.row (by decide))), ?_⟩
  · have : gg = g := by simpa [Value.ownBlock] using e
    subst this
    rcases hat with e | e
    · exact h.blk _ e
    · right; omega
  · exact (World.cell?_of_block (w := wr) (keep G (by omega) fun e => by rcases h.blk _ e with e | e <;> omega)).trans h.cell
  · exact (h.low.trans ((al1 wr _).mono h0)).grown hg (by simp; omega) fun k e => by
      rcases h.its.2 with ⟨e', _⟩ | ⟨g', cap', cur, e', h1, _⟩
      · rw [e'] at e; simp [Value.ownBlock] at e
      · rw [e'] at e
        have : g' = k := by simpa [Value.ownBlock] using e
        subst this
        exact h1

set_option maxRecDepth 100000 in
set_option maxHeartbeats 4000000 in
theorem specSpans_any (rs : List RuleD) (t : List ByteArray) (h : ByteArray) (v tv : Value) (lo hi lo2 hi2 : Nat) (w : World) (hv : Rules w lo hi v rs) (hh : hi ≤ w.heap.size) (h2 : Strs w lo2 hi2 tv t) (hh2 : hi2 ≤ w.heap.size) (hsz : h.size ≤ maxLen) :
    Calls Try.prog 38 #[.agg #[v], tv, .string h] w (MadeI w (spansOf rs t h)) := by
  obtain ⟨j0, hj0, hy0, hy1, hy2⟩ := info_parts Try.infoI64
  have HV := Lib.hid hv
  have HW := Lib.hid h2
  obtain ⟨A, c, rfl, -⟩ := hv
  obtain ⟨B, d, rfl, -⟩ := h2
  unfold maxLen at hsz
  have hb := al2 w (.cells #[.slice A rs.length c] 25) (.cells #[] 2)
  have R0 := (Row.made w 25 #[.slice A rs.length c]).alloc (.cells #[] 2)
  have I0 := Its.lit0 (w.alloc (.cells #[.slice A rs.length c] 25)) (base := w.heap.size + 1) (by simp)
  have e1 : (w.alloc (.cells #[.slice A rs.length c] 25)).heap.size = w.heap.size + 1 := by simp
  rw [e1] at I0
  have HI0 := Lib.hid I0
  have HB := Lib.hid hb
  have HR0 := Lib.hid R0
  have hsz2 : ((w.alloc (.cells #[.slice A rs.length c] 25)).alloc (.cells #[] 2)).heap.size = w.heap.size + 2 := by simp
  have HSZ := Lib.hid hsz2
  clear hb R0 I0 hsz2 e1
  cases hq : gramB rs
  · have HE := Lib.hid (spansOf_no (rs := rs) (t := t) (h := h) (by rw [hq]; rfl))
    have HQ := Lib.hid hq
    clear hq
    unfold MadeI
    go_enter Try.func38, Try.ntmps38
    go_wp2_with fail
    refine (specGramRight_any rs _ lo hi _ (HV.out.below HB.out hh) (by rw [HSZ.out]; omega)).mono ?_
    rintro _ w1 ⟨rfl, b1⟩
    rw [HQ.out]
    go_wp2
    go_ret
    rw [HE.out]
    exact ⟨_, 0, rfl, OwnI.zero _ _ _, fun h => absurd rfl h, HB.out.trans (b1.mono (by rw [HSZ.out]; omega))⟩
  · cases ht : textB t
    · have HE := Lib.hid (spansOf_no (rs := rs) (t := t) (h := h) (by rw [ht, Bool.and_false]))
      have HQ := Lib.hid hq
      have HT := Lib.hid ht
      clear hq ht
      unfold MadeI
      go_enter Try.func38, Try.ntmps38
      go_wp2_with fail
      refine (specGramRight_any rs _ lo hi _ (HV.out.below HB.out hh) (by rw [HSZ.out]; omega)).mono ?_
      rintro _ w1 ⟨rfl, b1⟩
      rw [HQ.out]
      have B1 := HB.out.trans (b1.mono (by rw [HSZ.out]; omega))
      have HB1 := Lib.hid B1
      have z1 := B1.size
      clear B1 b1
      go_wp2_with fail
      refine (specText_any t _ lo2 hi2 _ (HW.out.below HB1.out hh2) (by omega)).mono ?_
      rintro _ w2 ⟨rfl, b2⟩
      rw [HT.out]
      go_wp2
      go_ret
      rw [HE.out]
      exact ⟨_, 0, rfl, OwnI.zero _ _ _, fun h => absurd rfl h, HB1.out.trans (b2.mono (by omega))⟩
    · have HQ := Lib.hid hq
      have HT := Lib.hid ht
      have h12 := ((textB_iff t).1 ht).1
      have hhpos : 0 < (hsOf rs).length := List.length_pos_of_mem (hs_all (rs := rs) (i := 0) (Rt.of hq).one)
      have hhl := (Rt.of hq).hs_len
      clear hq ht
      by_cases hlong : 8000 < h.size
      · have HE := Lib.hid (spansOf_long (rs := rs) (t := t) hlong)
        have i0 : (8000 : Int) < (h.size : Int) := by omega
        unfold MadeI
        go_enter Try.func38, Try.ntmps38
        go_wp2_with fail
        refine (specGramRight_any rs _ lo hi _ (HV.out.below HB.out hh) (by rw [HSZ.out]; omega)).mono ?_
        rintro _ w1 ⟨rfl, b1⟩
        rw [HQ.out]
        have B1 := HB.out.trans (b1.mono (by rw [HSZ.out]; omega))
        have HB1 := Lib.hid B1
        have z1 := B1.size
        clear B1 b1
        go_wp2_with fail
        refine (specText_any t _ lo2 hi2 _ (HW.out.below HB1.out hh2) (by omega)).mono ?_
        rintro _ w2 ⟨rfl, b2⟩
        rw [HT.out]
        go_wp2
        go_ret
        rw [HE.out]
        exact ⟨_, 0, rfl, OwnI.zero _ _ _, fun h => absurd rfl h, HB1.out.trans (b2.mono (by omega))⟩
      · have i0 : ¬ (8000 : Int) < (h.size : Int) := by omega
        unfold MadeI
        go_enter Try.func38, Try.ntmps38
        go_wp2_with fail
        refine (specGramRight_any rs _ lo hi _ (HV.out.below HB.out hh) (by rw [HSZ.out]; omega)).mono ?_
        rintro _ w1 ⟨rfl, b1⟩
        rw [HQ.out]
        have B1 := HB.out.trans (b1.mono (by rw [HSZ.out]; omega))
        have r1 := HR0.out.below b1 HR0.out.lt
        have I1 := HI0.out.below b1
        have HB1 := Lib.hid B1
        have HR1 := Lib.hid r1
        have HI1 := Lib.hid I1
        have z1 := B1.size
        have z1' : w.heap.size + 2 ≤ w1.heap.size := by have := b1.size; rw [HSZ.out] at this; exact this
        clear B1 b1 r1 I1
        go_wp2_with fail
        refine (specText_any t _ lo2 hi2 _ (HW.out.below HB1.out hh2) (by omega)).mono ?_
        rintro _ w2 ⟨rfl, b2⟩
        rw [HT.out]
        have B2 := HB1.out.trans (b2.mono (by omega))
        have r2 := HR1.out.below b2 HR1.out.lt
        have I2 := HI1.out.below b2
        have q2 := r2.cell 0
        simp at q2
        have l2 := r2.lt
        have HB2 := Lib.hid B2
        have HI2 := Lib.hid I2
        have z2 := B2.size
        have z2' : w.heap.size + 2 ≤ w2.heap.size := by have := b2.size; omega
        clear B2 b2 r2 I2
        go_wp2_with fail
        refine (specFill_any rs t _ _ lo hi lo2 hi2 _ (HV.out.below HB2.out hh) (by omega) (HW.out.below HB2.out hh2) (by omega) HQ.out HT.out).mono ?_
        rintro _ w3 ⟨p, Ah, ch, G, cG, hi3, R, T, rfl, htab, hS, hC, hIn, hGlo, b3⟩
        have HTAB := Lib.hid htab
        have HB3 := Lib.hid (HB2.out.trans (b3.mono (by omega)))
        have HI3 := Lib.hid (HI2.out.below b3)
        have z3 := HB3.out.size
        have hcG := htab.cap
        unfold maxLen at hcG
        have HSP : Hid (h ∈ hsOf rs → ∀ q, (T (hIx (hsOf rs) h) q = true ↔ SpanP rs t h q)) := Lib.hid fun hm q => span_tab HQ.out HT.out hS hC hIn hm
        clear htab hS hC hIn b3
        go_wp2_with fail
        refine (tabAt_any (hsOf rs) h p hi3 Ah ch _ _ HTAB.out.box HTAB.out.heads).mono ?_
        rintro _ _ ⟨rfl, rfl⟩
        by_cases hm : h ∈ hsOf rs
        · rw [atZ_in hm]
          have hix := hIx_lt hm
          have HE := Lib.hid (spansOf_in HQ.out HT.out hm)
          have HP := Lib.hid (HSP.out hm)
          have ige : (0 : Int) ≤ (hIx (hsOf rs) h : Int) := by omega
          have i8 : (hIx (hsOf rs) h : Int) < ((hsOf rs).length : Int) := by omega
          have hixl : hIx (hsOf rs) h < R.length := by rw [HTAB.out.len]; exact hix
          have S0 : Spn w3 (w.heap.size + 1) w3.heap.size p G (hIx (hsOf rs) h) R[hIx (hsOf rs) h] #[.slice Ah (hsOf rs).length ch, .slice (some ⟨G, 0, none⟩) (hsOf rs).length cG] (T (hIx (hsOf rs) h)) (.slice (some ⟨w.heap.size + 1, 0, none⟩) 0 0) [] w3 := ⟨HI3.out, fun g e => .inl (by simpa [Value.ownBlock] using e.symm), HTAB.out.box, HTAB.out.ins _ hixl, HTAB.out.rows _ hixl, Below.refl _ _⟩
          have HS0 := Lib.hid S0
          have lG3 := HTAB.out.lt.1
          generalize R[hIx (hsOf rs) h] = rb at HS0
          clear HSP hm S0 hixl
          go_wp2
          go_loopw [7, 10] (fun o x wr => ∃ k : Nat, k ≤ 169 ∧ x = .int .i64 (k : Int) ∧ Spn w3 (w.heap.size + 1) w3.heap.size p G (hIx (hsOf rs) h) rb #[.slice Ah (hsOf rs).length ch, .slice (some ⟨G, 0, none⟩) (hsOf rs).length cG] (T (hIx (hsOf rs) h)) o (spanTo rs t h k) wr) (fun _ x _ => 169 - (intOf x).toNat)
          case atStart => exact ⟨0, by omega, rfl, HS0.out⟩
          case round =>
            obtain ⟨k, hk, rfl, hsp⟩ := hrel
            rename World => wr
            have HSK := Lib.hid hsp
            have hln := spanTo_len (rs := rs) (t := t) (h := h) k
            obtain ⟨Bz, dz, rfl⟩ := hsp.its.form
            have zr := hsp.low.size
            have q0 := hsp.box.cell 1
            simp at q0
            have lp := hsp.box.lt
            have lG : G < wr.heap.size := by omega
            have q1 := hsp.cell
            have lr := hsp.row.lt
            have q3 := hsp.row.cell k
            by_cases hlt : k < 169
            · rw [cellsB_get hlt] at q3
              have i9 : (k : Int) < 169 := by omega
              cases hTk : T (hIx (hsOf rs) h) k
              · rw [hTk] at q3
                have HNX := Lib.hid (spanTo_f (rs := rs) (t := t) (h := h) (q := k) fun hp => by rw [(HP.out k).2 hp] at hTk; cases hTk)
                clear hsp hTk
                go_wp2
                go_roundw
                case rel => exact ⟨k + 1, by omega, by go_num, by rw [HNX.out]; exact HSK.out⟩
                case measure => simp [intOf]; omega
              · rw [hTk] at q3
                have HNX := Lib.hid (spanTo_t (rs := rs) (t := t) (h := h) (q := k) ((HP.out k).1 hTk))
                have HO : Hid (wr.ownsRow (w.heap.size + 1) 2 1 (.slice Bz (spanTo rs t h k).length dz) (spanTo rs t h k).length ((spanTo rs t h k).map (Value.int .i64))) := Lib.hid HSK.out.its
                clear hsp hTk
                generalize spanTo rs t h k = L at *
                go_wp2_with (at_builtin; refine wpList_append_lies _ rfl _ _ 29 rfl (w.heap.size + 1) 2 j0 _ 1 8 Try.underlying29 hj0 hy0 hy1 hy2 rfl (by decide) _ _ _ rfl (World.ownsRow.alloc HO.out _) ⟨wr.heap.size, 0, none⟩ 1 1 [.int .i64 (k : Int)] rfl rfl (cell_one_new _ _ _) (one_i64 _) (by omega) (by unfold maxLen; omega) (by omega) (by simp; omega) (wr.heap.size + 1) (by simp) ?_)
                intro gg cap w9 hown9 hg9 hat9 hlt9
                have HG := Lib.hid (HSK.out.grow (by omega) (by omega) lG3 (by omega) hown9 hg9 hat9)
                clear hown9 hg9 hat9 hlt9
                go_wp2
                go_roundw
                case rel => exact ⟨k + 1, by omega, by go_num, by rw [HNX.out]; exact HG.out⟩
                case measure => simp [intOf]; omega
            · obtain rfl : k = 169 := by omega
              obtain ⟨g, ho, hg⟩ := hsp.its.own
              have HOG := Lib.hid (And.intro ho hg)
              clear hsp ho hg
              go_wp2
              go_ret
              rw [HE.out]
              exact ⟨_, g, rfl, HOG.out.1, fun hn => by have := HOG.out.2 hn; omega, HB3.out.trans (HSK.out.low.mono (by omega))⟩
        · rw [atZ_out hm]
          have HE := Lib.hid (spansOf_out (t := t) HT.out hm)
          clear hm
          go_wp2
          go_loopw [7, 10] (fun o x wr => x = .int .i64 0 ∧ o = .slice (some ⟨w.heap.size + 1, 0, none⟩) 0 0 ∧ wr = w3) (fun _ _ _ => 0)
          case atStart => exact ⟨rfl, rfl, rfl⟩
          case round =>
            obtain ⟨rfl, rfl, rfl⟩ := hrel
            go_wp2
            go_ret
            rw [HE.out]
            exact ⟨_, 0, rfl, OwnI.zero _ _ _, fun h => absurd rfl h, HB3.out⟩
end Go.Proofs.Ytmhdbjoljonhdaa

/- The law's own measure of what came in: szStringS, szRule, szRuleS, szGram say how much is left of a number, or -1. -/
namespace Go.Proofs.Ytmhdbjoljonhdaa
open Go.RowKit

theorem ret_int {k : IntKind} {a b : Int} (h : a = b) : Ending.returned (.int k a) = .returned (.int k b) := by rw [h]

set_option maxHeartbeats 1000000 in
theorem szStringS_any (v : Value) (ss : List ByteArray) (lo hi : Nat) (left : Int) (w : World) (h : Strs w lo hi v ss) (h0 : 0 ≤ left) (h1 : left ≤ 1048576) :
    Calls Try.prog 46 #[v, .int .i64 left] w fun e w' => e = .returned (.int .i64 (szOut left (bulkS ss))) ∧ w = w' := by
  obtain ⟨A, c, rfl, hlc, hc, hsz, hcell⟩ := h
  unfold maxLen at hc
  have HC := Lib.hid hcell
  have HZ := Lib.hid hsz
  clear hcell hsz
  by_cases hn : left < ss.length
  · go_enter Try.func46, Try.ntmps46
    go_wp2
    go_ret
    exact ⟨ret_int (by rw [szOut_neg]; unfold bulkS; omega), rfl⟩
  have d0 : decide (left - (ss.length : Int) < 0) = false := decide_eq_false (by omega)
  go_enter Try.func46, Try.ntmps46
  go_wp2
  go_loop [1, 5] (fun l i => ∃ k : Nat, k ≤ ss.length ∧ i = .int .i64 k ∧ l = .int .i64 (left - (ss.length : Int) - (sizes (ss.take k) : Int)) ∧ 0 ≤ left - (ss.length : Int) - (sizes (ss.take k) : Int)) (fun _ i => ss.length - (intOf i).toNat)
  case atStart => exact ⟨0, by omega, rfl, by simp [sizes], by simp [sizes]; omega⟩
  case round =>
    obtain ⟨k, hk, rfl, rfl, hle⟩ := hrel
    by_cases hlt : k < ss.length
    · obtain ⟨b, off, rfl, _, _, hcc⟩ := HC.out (by omega)
      have hck := hcc k hlt
      have hs := sizes_take_succ ss k hlt
      have hm := HZ.out ss[k] (List.getElem_mem hlt)
      unfold maxLen at hm
      have HS := Lib.hid hs
      clear hs hcc
      by_cases ht : left - (ss.length : Int) - (sizes (ss.take k) : Int) - (ss[k].size : Int) < 0
      · go_wp2
        go_ret
        exact ⟨ret_int (by rw [szOut_neg]; have := sizes_take_le ss (k + 1); have := HS.out; unfold bulkS; omega), rfl⟩
      · go_wp2
        go_round
        case rel => exact ⟨k + 1, by omega, by go_num, by rw [HS.out]; go_num, by rw [HS.out]; omega⟩
        case measure => simp [intOf]; omega
    · have hks : k = ss.length := by omega
      have HK := Lib.hid hks
      clear hks
      go_wp2
      go_ret
      refine ⟨ret_int ?_, rfl⟩
      have e := HK.out
      subst e
      rw [List.take_length] at hle ⊢
      rw [szOut_pos (by unfold bulkS; omega)]
      unfold bulkS; omega

set_option maxHeartbeats 1000000 in
theorem szRule_any (r : RuleD) (u : Value) (lo hi : Nat) (left : Int) (w : World) (hh : r.head.size ≤ maxLen) (h : Strs w lo hi u r.body) (hhi : hi ≤ w.heap.size) (h0 : 0 ≤ left) (h1 : left ≤ 1048576) :
    Calls Try.prog 116 #[.agg #[.string r.head, u], .int .i64 left] w fun e w' => e = .returned (.int .i64 (szOut left (r.head.size + bulkS r.body))) ∧ Below w.heap.size w w' := by
  unfold maxLen at hh
  by_cases hn : left < r.head.size
  · go_enter Try.func116, Try.ntmps116
    go_wp2
    go_ret
    exact ⟨ret_int (by rw [szOut_neg]; omega), (Below.refl _ _).alloc (Nat.le_refl _) _⟩
  have d0 : decide (left - (r.head.size : Int) < 0) = false := decide_eq_false (by omega)
  have hb : Below w.heap.size w (w.alloc (.cells #[.string r.head, u] 137)) := (Below.refl _ _).alloc (Nat.le_refl _) _
  by_cases ht : left - (r.head.size : Int) < bulkS r.body
  · have e1 : szOut (left - (r.head.size : Int)) (bulkS r.body) = -1 := szOut_neg ht
    go_enter Try.func116, Try.ntmps116
    go_wp2_with (go_at_call 46; refine (szStringS_any u r.body lo hi _ _ (h.below hb hhi) (by omega) (by omega)).mono ?_; rintro e w' ⟨rfl, rfl⟩; rw [e1])
    go_ret
    exact ⟨ret_int (by rw [szOut_neg]; omega), hb⟩
  · have e1 : szOut (left - (r.head.size : Int)) (bulkS r.body) = left - (r.head.size : Int) - (bulkS r.body : Int) := szOut_pos ht
    have d1 : decide (left - (r.head.size : Int) - (bulkS r.body : Int) < 0) = false := decide_eq_false (by omega)
    go_enter Try.func116, Try.ntmps116
    go_wp2_with (go_at_call 46; refine (szStringS_any u r.body lo hi _ _ (h.below hb hhi) (by omega) (by omega)).mono ?_; rintro e w' ⟨rfl, rfl⟩; rw [e1])
    go_ret
    exact ⟨ret_int (by rw [szOut_pos (by omega)]; omega), hb⟩

set_option maxHeartbeats 1000000 in
theorem szRuleS_any (v : Value) (rs : List RuleD) (lo hi : Nat) (left : Int) (w : World) (h : Rules w lo hi v rs) (hhi : hi ≤ w.heap.size) (h0 : 0 ≤ left) (h1 : left ≤ 1048576) :
    Calls Try.prog 86 #[v, .int .i64 left] w fun e w' => e = .returned (.int .i64 (szOut left (bulkR rs))) ∧ Below w.heap.size w w' := by
  obtain ⟨A, c, rfl, hlc, hc, hcell⟩ := h
  unfold maxLen at hc
  have HC := Lib.hid hcell
  clear hcell
  by_cases hn : left < rs.length
  · go_enter Try.func86, Try.ntmps86
    go_wp2
    go_ret
    exact ⟨ret_int (by rw [szOut_neg]; unfold bulkR; omega), Below.refl _ _⟩
  have d0 : decide (left - (rs.length : Int) < 0) = false := decide_eq_false (by omega)
  go_enter Try.func86, Try.ntmps86
  go_wp2
  go_loopw [1, 5] (fun l i wr => ∃ k : Nat, k ≤ rs.length ∧ i = .int .i64 k ∧ l = .int .i64 (left - (rs.length : Int) - (rulesTo rs k : Int)) ∧ 0 ≤ left - (rs.length : Int) - (rulesTo rs k : Int) ∧ Below w.heap.size w wr) (fun _ i _ => rs.length - (intOf i).toNat)
  case atStart => exact ⟨0, by omega, rfl, by simp [rulesTo], by simp [rulesTo]; omega, Below.refl _ _⟩
  case round =>
    obtain ⟨k, hk, rfl, rfl, hle, hbw⟩ := hrel
    have hsw := hbw.size
    by_cases hlt : k < rs.length
    · obtain ⟨b, off, rfl, _, hbh, hcc⟩ := HC.out (by omega)
      obtain ⟨hhs, hc0, u, hc1, hst⟩ := hcc k hlt
      have hs := rulesTo_succ rs k hlt
      have HS := Lib.hid hs
      have hc0' := (hbw.cell (p := ⟨b, off + k * 2, none⟩) (by show b < _; omega)).trans hc0
      have hc1' := (hbw.cell (p := ⟨b, off + k * 2 + 1, none⟩) (by show b < _; omega)).trans hc1
      have hst' := hst.below hbw hhi
      clear hs hcc hc0 hc1 hst
      by_cases ht : left - (rs.length : Int) - (rulesTo rs k : Int) < ((rs[k].head.size + bulkS rs[k].body : Nat) : Int)
      · have e1 := szOut_neg ht
        have E1 := Lib.hid e1
        clear e1
        go_wp2_with (go_at_call 116; refine (szRule_any rs[k] u lo hi _ _ hhs hst' (by omega) (by omega) (by omega)).mono ?_; rintro e w' ⟨rfl, hb2⟩; rw [E1.out])
        go_ret
        exact ⟨ret_int (by rw [szOut_neg]; have := rulesTo_le rs (k + 1); have := HS.out; omega), hbw.trans (hb2.mono hsw)⟩
      · have e1 := szOut_pos ht
        have E1 := Lib.hid e1
        clear e1
        have d1 : decide (left - (rs.length : Int) - (rulesTo rs k : Int) - ((rs[k].head.size + bulkS rs[k].body : Nat) : Int) < 0) = false := decide_eq_false (by omega)
        go_wp2_with (go_at_call 116; refine (szRule_any rs[k] u lo hi _ _ hhs hst' (by omega) (by omega) (by omega)).mono ?_; rintro e w' ⟨rfl, hb2⟩; rw [E1.out])
        go_roundw
        case rel => exact ⟨k + 1, by omega, by go_num, by rw [HS.out]; go_num, by rw [HS.out]; omega, hbw.trans (hb2.mono hsw)⟩
        case measure => simp [intOf]; omega
    · have hks : k = rs.length := by omega
      have HK := Lib.hid hks
      clear hks
      go_wp2
      go_ret
      refine ⟨ret_int ?_, hbw⟩
      have e := HK.out
      subst e
      have := rulesTo_all rs
      rw [szOut_pos (by omega)]
      omega

set_option maxHeartbeats 1000000 in
theorem szGram_any (v : Value) (rs : List RuleD) (lo hi : Nat) (left : Int) (w : World) (h : Rules w lo hi v rs) (hhi : hi ≤ w.heap.size) (h0 : 0 ≤ left) (h1 : left ≤ 1048576) :
    Calls Try.prog 39 #[.agg #[v], .int .i64 left] w fun e w' => e = .returned (.int .i64 (szOut left (bulkR rs))) ∧ Below w.heap.size w w' := by
  have hb : Below w.heap.size w (w.alloc (.cells #[v] 52)) := (Below.refl _ _).alloc (Nat.le_refl _) _
  by_cases ht : left < bulkR rs
  · have e1 := szOut_neg ht
    have E1 := Lib.hid e1
    clear e1
    go_enter Try.func39, Try.ntmps39
    go_wp2_with (go_at_call 86; refine (szRuleS_any v rs lo hi _ _ (h.below hb hhi) (by simp; omega) (by omega) (by omega)).mono ?_; rintro e w' ⟨rfl, hb2⟩; rw [E1.out])
    go_ret
    exact ⟨ret_int (by rw [E1.out]), hb.trans (hb2.mono (by simp))⟩
  · have e1 := szOut_pos ht
    have E1 := Lib.hid e1
    clear e1
    have d1 : decide (left - (bulkR rs : Int) < 0) = false := decide_eq_false (by omega)
    go_enter Try.func39, Try.ntmps39
    go_wp2_with (go_at_call 86; refine (szRuleS_any v rs lo hi _ _ (h.below hb hhi) (by simp; omega) (by omega) (by omega)).mono ?_; rintro e w' ⟨rfl, hb2⟩; rw [E1.out])
    go_ret
    exact ⟨ret_int (by rw [E1.out]), hb.trans (hb2.mono (by simp))⟩
end Go.Proofs.Ytmhdbjoljonhdaa

/- The marks from 1 on, their numbers behind a name. -/
namespace Go.Proofs.Ytmhdbjoljonhdaa
open Go.RowKit

theorem cnt_bulk (rs : List RuleD) : cntTo rs rs.length ≤ bulkR rs := by
  unfold cntTo bulkR
  rw [List.take_length]
  induction rs with
  | nil => simp
  | cons r rs ih =>
    simp only [List.length_cons, List.map_cons, List.sum_cons] at ih ⊢
    unfold bulkS at ih ⊢
    omega
theorem markGram_one (v : Value) (rs : List RuleD) (lo hi : Nat) (w : World) (h : OwnR w lo hi v rs) (hh : hi ≤ w.heap.size) (h2 : cntTo rs rs.length ≤ 2000000) :
    Calls Try.prog 43 #[.agg #[v], .int .i64 1] w fun e w' => ∃ K : Int, e = .returned (.int .i64 K) ∧ 0 ≤ K ∧ OwnR w' lo hi v (markR 1 rs) ∧ Mid lo hi w w' :=
  Calls.mono (markGram_any v rs lo hi 1 w h hh (Nat.le_refl _) (by omega)) fun _ _ ⟨h1, h2⟩ => ⟨_, h1, by omega, h2⟩
theorem markStringS_one (v : Value) (ss : List ByteArray) (g : Nat) (w : World) (h : OwnS w g v ss) (h2 : ss.length ≤ 2000000) :
    Calls Try.prog 49 #[v, .int .i64 1] w fun e w' => ∃ K : Int, e = .returned (.int .i64 K) ∧ 0 ≤ K ∧ K = ((1 + ss.length : Nat) : Int) ∧ OwnS w' g v (marks 1 ss.length) ∧ Mid g (g + 1) w w' :=
  Calls.mono (markStringS_any v ss g 1 w h (Nat.le_refl _) (by omega)) fun _ _ ⟨h1, h2⟩ => ⟨_, h1, by omega, rfl, h2⟩
end Go.Proofs.Ytmhdbjoljonhdaa

/- The walk of the law FnExactSpans. -/
namespace Go.Proofs.Ytmhdbjoljonhdaa.fnExactSpans
open Go.RowKit
theorem markGram_nat (v : Value) (rs : List RuleD) (lo hi : Nat) (w : World) (h : OwnR w lo hi v rs) (hh : hi ≤ w.heap.size) (h2 : cntTo rs rs.length ≤ 2000000) :
    Calls Try.prog 43 #[.agg #[v], .int .i64 1] w fun e w' => ∃ k : Nat, e = .returned (.int .i64 (k : Int)) ∧ 1 ≤ k ∧ k ≤ 2000001 ∧ Mid lo hi w w' :=
  Calls.mono (markGram_any v rs lo hi 1 w h hh (Nat.le_refl _) (by omega)) fun _ _ ⟨h1, _, h3⟩ => ⟨_, h1, by omega, by omega, h3⟩
theorem markStringS_nat (v : Value) (ss : List ByteArray) (g k : Nat) (w : World) (h : OwnS w g v ss) (h1 : 1 ≤ k) (hk : k ≤ 2000001) (h2 : ss.length ≤ 2000000) :
    Calls Try.prog 49 #[v, .int .i64 (k : Int)] w fun e w' => ∃ k : Nat, e = .returned (.int .i64 (k : Int)) ∧ Mid g (g + 1) w w' :=
  Calls.mono (markStringS_any v ss g k w h h1 (by omega)) fun _ _ ⟨h1, _, h3⟩ => ⟨_, h1, h3⟩
set_option maxRecDepth 100000 in
set_option maxHeartbeats 8000000 in
theorem walk (v : Value) (rs : List RuleD) (tv : Value) (t : List ByteArray) (hd : ByteArray) (hhd : hd.size ≤ maxLen) (w : World) (h : Rules w 0 w.heap.size v rs) (h2 : Strs w 0 w.heap.size tv t) :
    Calls Try.prog 9 #[.agg #[v], tv, .string hd] w fun e w' => e = .returned (.bool true) ∧ Below w.heap.size w w' := by
  have hb0 := al1 w (.cells #[v] 52)
  have hhd' := hhd
  unfold maxLen at hhd'
  by_cases hbig0 : 1048576 < hd.size
  · have dz : decide ((hd.size : Int) > 1048576) = true := decide_eq_true (by omega)
    go_enter Try.func9, Try.ntmps9
    go_wp2
    go_ret
    exact ⟨rfl, hb0⟩
  have dz : decide ((hd.size : Int) > 1048576) = false := decide_eq_false (by omega)
  by_cases hbig : (1048576 : Int) < bulkR rs
  · have HS := Lib.hid (szOut_neg hbig)
    go_enter Try.func9, Try.ntmps9
    go_wp2_with fail
    refine (szGram_any v rs 0 w.heap.size _ _ (h.below hb0 (Nat.le_refl _)) (by simp) (by omega) (by omega)).mono ?_
    rintro e w1 ⟨rfl, hb1⟩
    rw [HS.out]
    go_wp2
    go_ret
    exact ⟨rfl, hb0.trans (hb1.mono (by simp))⟩
  have HS := Lib.hid (szOut_pos hbig)
  have d0 : decide ((1048576 : Int) - (bulkR rs : Int) < 0) = false := decide_eq_false (by omega)
  have R0 := Row.made w 52 #[v]
  have HV := Lib.hid h
  have HW := Lib.hid h2
  have HE := Lib.hid (eqRs_t (rfl : rs = rs))
  have HES := Lib.hid (eqSs_t (rfl : t = t))
  obtain ⟨Av, cv, rfl, -⟩ := h
  by_cases hbig2 : (1048576 : Int) - (bulkR rs : Int) < bulkS t
  · have HS2 := Lib.hid (szOut_neg hbig2)
    go_enter Try.func9, Try.ntmps9
    go_wp2_with fail
    refine (szGram_any _ rs 0 w.heap.size _ _ (HV.out.below hb0 (Nat.le_refl _)) (by simp) (by omega) (by omega)).mono ?_
    rintro e w1 ⟨rfl, hb1⟩
    rw [HS.out]
    go_wp2_with fail
    refine (szStringS_any _ t 0 w.heap.size _ _ ((HW.out.below hb0 (Nat.le_refl _)).below hb1 (by simp)) (by omega) (by omega)).mono ?_
    rintro e _ ⟨rfl, rfl⟩
    rw [HS2.out]
    go_wp2
    go_ret
    exact ⟨rfl, hb0.trans (hb1.mono (by simp))⟩
  have HS2 := Lib.hid (szOut_pos hbig2)
  have d1 : decide ((1048576 : Int) - (bulkR rs : Int) - (bulkS t : Int) < 0) = false := decide_eq_false (by omega)
  have HTL : Hid (t.length ≤ 1048576) := Lib.hid (by
    have : t.length ≤ bulkS t := by unfold bulkS; omega
    omega)
  have hcnt := cnt_bulk rs
  have HRLS := Lib.hid (spansOf_len (rs := rs) (t := t) (h := hd))
  have hrl := HRLS.out
  have HC1 := fun V tvv a b c d ww => implSpans_any rs t hd V tvv a b c d ww
  have HC2 := fun V tvv a b c d ww x1 x2 x3 x4 => specSpans_any rs t hd V tvv a b c d ww x1 x2 x3 x4 hhd
  have HC1 := Lib.hid HC1
  have HC2 := Lib.hid HC2
  clear HRLS
  generalize spansOf rs t hd = L at *
  have HEI := Lib.hid (eqIs_t (rfl : L = L))
  go_enter Try.func9, Try.ntmps9
  go_wp2_with fail
  refine (szGram_any _ rs 0 w.heap.size _ _ (HV.out.below hb0 (Nat.le_refl _)) (by simp) (by omega) (by omega)).mono ?_
  rintro e w1 ⟨rfl, hb1⟩
  rw [HS.out]
  have B1 : Below (w.heap.size + 1) (w.alloc (.cells #[.slice Av rs.length cv] 52)) w1 := hb1.mono (by simp)
  have z1 : w.heap.size + 1 ≤ w1.heap.size := by have := hb1.size; simpa using this
  have c1 := (R0.below B1 (by omega)).cell 0
  simp at c1
  have HB0 := Lib.hid hb0
  go_wp2_with fail
  refine (szStringS_any _ t 0 w.heap.size _ _ ((HW.out.below hb0 (Nat.le_refl _)).below B1 (by omega)) (by omega) (by omega)).mono ?_
  rintro e _ ⟨rfl, rfl⟩
  rw [HS2.out]
  go_wp2_with fail
  refine (toGram_any _ rs 0 w.heap.size _ ((HV.out.below hb0 (Nat.le_refl _)).below B1 (by omega)) (by omega) (by omega)).mono ?_
  rintro e w2 ⟨x2, rfl, O2, b2⟩
  have B2 := B1.trans (b2.mono z1)
  have z2 := b2.size
  go_wp2_with fail
  refine (toStringS_any _ t 0 w.heap.size _ ((HW.out.below hb0 (Nat.le_refl _)).below B2 (by omega)) (by omega) HTL.out).mono ?_
  rintro e w3 ⟨t3, rfl, T3, y3, b3⟩
  have B3 := B2.trans (b3.mono (by omega))
  have z3 := b3.size
  go_wp2_with fail
  refine (HC2.out _ _ w1.heap.size w2.heap.size 0 w3.heap.size _ (O2.rules.below b3 (Nat.le_refl _)) (by omega) (T3.strs fun _ => ⟨Nat.zero_le _, y3⟩) (Nat.le_refl _)).mono ?_
  rintro e w4 ⟨u4, g4, rfl, S4, G4, b4⟩
  have B4 := B3.trans (b4.mono (by omega))
  have z4 := b4.size
  have c4 := (R0.below B4 (by omega)).cell 0
  simp at c4
  have I4 := S4.strs G4
  clear T3 O2 S4 G4
  go_wp2_with fail
  refine (toGram_any _ rs 0 w.heap.size _ ((HV.out.below hb0 (Nat.le_refl _)).below B4 (by omega)) (by omega) (by omega)).mono ?_
  rintro e w5 ⟨x5, rfl, O5, b5⟩
  have B5 := B4.trans (b5.mono (by omega))
  have z5 := b5.size
  have HO5 := Lib.hid O5
  obtain ⟨A5, c5, rfl, -⟩ := O5
  have ha := al1 w5 (.cells #[.slice A5 rs.length c5] 25)
  have R5 := Row.made w5 25 #[.slice A5 rs.length c5]
  have Ba := B5.trans (ha.mono (by omega))
  have za : w5.heap.size + 1 = (w5.alloc (.cells #[.slice A5 rs.length c5] 25)).heap.size := by simp
  have HZA := Lib.hid za
  have I5 := (I4.below b5 (Nat.le_refl _)).below ha (by omega)
  clear za I4
  go_wp2_with fail
  refine (toStringS_any _ t 0 w.heap.size _ ((HW.out.below hb0 (Nat.le_refl _)).below Ba (by omega)) (by rw [← HZA.out]; omega) HTL.out).mono ?_
  rintro e w6 ⟨t6, rfl, T6, y6, b6⟩
  rw [← HZA.out] at y6 T6
  have B6 := Ba.trans (b6.mono (by rw [← HZA.out]; omega))
  have R6 := R5.below b6 (by rw [← HZA.out]; omega)
  have c6 := R6.cell 0
  simp at c6
  have O6 : OwnR w6 w4.heap.size w5.heap.size (.slice A5 rs.length c5) rs := HO5.out.keep ((Keeps.below ha (Nat.le_refl _)).trans (Keeps.below b6 (by rw [← HZA.out]; omega)))
  have I6 := I5.below b6 (by rw [← HZA.out]; omega)
  clear ha b6 I5 R5
  go_wp2_with fail
  refine (HC1.out _ _ w4.heap.size w5.heap.size (w5.heap.size + 1) w6.heap.size _ O6.rules (by omega) (T6.strs fun _ => ⟨Nat.le_refl _, y6⟩) (Nat.le_refl _)).mono ?_
  rintro e w7 ⟨u7, g7, rfl, S7, G7, b7⟩
  have B7 := B6.trans (b7.mono (by omega))
  have z7 := b7.size
  have T7 := T6.keep fun _ => b7.block _ y6
  have O7 := O6.keep (Keeps.below b7 (by omega))
  have I7 := I6.below b7 (by omega)
  have R7 := R6.below b7 (by omega)
  clear T6 O6 I6 R6 c6
  go_wp2_with fail
  refine (eqInt64S_any _ _ L L _ _ _ _ _ (S7.strs G7) I7).mono ?_
  rintro e w7b ⟨rfl, nq, rfl⟩
  rw [HEI.out]
  have c7 := (R0.below B7 (by omega)).cell 0
  have c7' := R7.cell 0
  simp at c7 c7'
  have V7 : Rules w7 0 w.heap.size (.slice Av rs.length cv) rs := (HV.out.below hb0 (Nat.le_refl _)).below (B := w.heap.size + 1) B7 (by omega)
  have V7d : Rules (w7.drewN nq).drew 0 w.heap.size (.slice Av rs.length cv) rs := V7
  have X7d : Rules (w7.drewN nq).drew w4.heap.size w5.heap.size (.slice A5 rs.length c5) rs := O7.rules
  have z7d : (w7.drewN nq).drew.heap.size = w7.heap.size := rfl
  have HZ7 := Lib.hid z7d
  clear z7d V7
  go_wp2_with fail
  go_region_held3 (fun w' => w'.cell? ⟨w5.heap.size, 0, none⟩ = some (.slice A5 rs.length c5) ∧ w'.cell? ⟨w.heap.size, 0, none⟩ = some (.slice Av rs.length cv))
    (first | go_keep | (refine ⟨?_, ?_⟩ <;> (rw [b8.cell (by rw [HZ7.out]; simp; omega)]; assumption)) | (refine ⟨?_, ?_⟩ <;> (rw [b9.cell (by simp; omega), b8.cell (by rw [HZ7.out]; simp; omega)]; assumption)))
    (first
      | (go_at_call 40; refine (toGram_any _ rs 0 w.heap.size (w7.drewN nq).drew V7d (by rw [HZ7.out]; omega) (by omega)).mono ?_; rintro e w8 ⟨x8, rfl, O8, b8⟩; have z8 : w7.heap.size ≤ w8.heap.size := b8.size)
      | (go_at_call 42; refine (eqGram_any _ _ rs rs w4.heap.size w5.heap.size w7.heap.size w8.heap.size _ (X7d.below b8 (by rw [HZ7.out]; omega)) O8.rules (by omega) (Nat.le_refl _)).mono ?_; rintro e w9 ⟨rfl, b9⟩; rw [HE.out]))
  have b79 : Below w7.heap.size w7 w9 := Below.trans ⟨b8.os, b8.tape, b8.output, b8.size, b8.block⟩ (b9.mono z8)
  have z9 : w7.heap.size ≤ w9.heap.size := b79.size
  have B9 := B7.trans (b79.mono (by omega))
  have S9 : OwnI w9 g7 u7 L := S7.keep fun hn => b79.block _ (G7 hn).2
  have T9 := T7.keep fun _ => b79.block _ (by omega)
  have O9 := O7.keep (Keeps.below b79 (by omega))
  have I9 := I7.below b79 (by omega)
  have R9 := R7.below b79 (by omega)
  clear b8 b9 O8 X7d V7d S7 R7 c7 c7' T7 O7 I7
  go_wp2_with fail
  refine (toStringS_any _ t 0 w.heap.size _ ((HW.out.below HB0.out (Nat.le_refl _)).below B9 (by omega)) (by omega) HTL.out).mono ?_
  rintro e w10 ⟨t10, rfl, T10, y10, b10⟩
  have B10 := B9.trans (b10.mono (by omega))
  have z10 := b10.size
  have S10 : OwnI w10 g7 u7 L := S9.keep fun hn => b10.block _ (by have := G7 hn; omega)
  have U10 := T9.keep fun _ => b10.block _ (by omega)
  have O10 := O9.keep (Keeps.below b10 (by omega))
  have I10 := I9.below b10 (by omega)
  have R10 := R9.below b10 (by omega)
  clear S9 T9 O9 I9 R9
  go_wp2_with fail
  refine (eqStringS_any _ _ t t _ _ _ _ _ (U10.strs (lo := w5.heap.size + 1) (hi := w6.heap.size) fun _ => ⟨Nat.le_refl _, y6⟩) (T10.strs (lo := 0) (hi := w10.heap.size) fun _ => ⟨Nat.zero_le _, y10⟩)).mono ?_
  rintro e w11 ⟨rfl, n2, rfl⟩
  rw [HES.out]
  have S11 : OwnI (w10.drewN n2) g7 u7 L := S10
  have U11 : OwnS (w10.drewN n2) (w5.heap.size + 1) t6 t := U10
  have O11 : OwnR (w10.drewN n2) w4.heap.size w5.heap.size (.slice A5 rs.length c5) rs := O10
  have I11 : IntsAt (w10.drewN n2) w3.heap.size w4.heap.size u4 L := I10
  have R11 : Row (w10.drewN n2) w5.heap.size 25 #[.slice A5 rs.length c5] := R10
  have B11 : Below (w.heap.size + 1) (w.alloc (.cells #[.slice Av rs.length cv] 52)) (w10.drewN n2) := ⟨B10.os, B10.tape, B10.output, B10.size, B10.block⟩
  have z11 : w10.heap.size ≤ (w10.drewN n2).heap.size := Nat.le_refl _
  clear S10 U10 O10 I10 R10 B10 T10
  generalize w10.drewN n2 = w11 at S11 U11 O11 I11 R11 B11 z11 ⊢
  have c11 := R11.cell 0
  simp at c11
  have l11 := R11.lt
  go_wp2_with fail
  refine (markGram_nat _ rs w4.heap.size w5.heap.size _ O11 (by omega) (by omega)).mono ?_
  rintro e w12 ⟨K12, rfl, hk12, hk12', m12⟩
  have B12 := B11.trans ((m12.below (by omega)).mono (by omega))
  have z12 := m12.size
  have S12 : OwnI w12 g7 u7 L := S11.keep fun hn => m12.block _ (by have := G7 hn; omega) (by have := G7 hn; omega)
  have U12 := U11.keep fun _ => m12.block _ (by omega) (by omega)
  have I12 := I11.keep (Keeps.mid m12 (by omega) (by omega))
  obtain ⟨g', U12', hg1, hg2⟩ := OwnS.pick U12
  have HG1 := Lib.hid hg1
  have HG2 := Lib.hid hg2
  clear S11 U11 O11 I11 R11 hg1 hg2 U12 c11
  go_wp2_with fail
  refine (markStringS_nat _ t g' K12 _ U12' hk12 hk12' (by have := HTL.out; omega)).mono ?_
  rintro e w13 ⟨K13, rfl, m13⟩
  have hm13 : Mid (w5.heap.size + 1) w6.heap.size w12 w13 := mid_pick (g := g') (ss := t) (fun hn => by rw [HG1.out hn]; omega) (fun hn => HG2.out hn) m13
  have B13 := B12.trans ((hm13.below (by omega)).mono (by omega))
  have z13 := hm13.size
  have S13 : OwnI w13 g7 u7 L := S12.keep fun hn => hm13.block _ (by have := G7 hn; omega) (by have := G7 hn; omega)
  have I13 := I12.keep (Keeps.mid hm13 (by omega) (by omega))
  have d13 : decide ((K13 : Int) < 0) = false := decide_eq_false (by omega)
  clear S12 I12 m13 U12' m12
  go_wp2_with fail
  refine (eqInt64S_any _ _ L L _ _ _ _ _ (S13.strs (lo := w6.heap.size) (hi := w7.heap.size) G7) I13).mono ?_
  rintro e w13b ⟨rfl, n13, rfl⟩
  rw [HEI.out]
  obtain ⟨g'', S13', hg3, hg4⟩ := OwnI.pick (w := w13.drewN n13) S13
  have HG3 := Lib.hid hg3
  have HG4 := Lib.hid hg4
  clear hg3 hg4 S13
  go_wp2_with fail
  refine (markInt64S_one _ L g'' _ S13' (by omega)).mono ?_
  rintro e w14 ⟨K14, rfl, hK14, hK14', S14, m14⟩
  have HK14 := Lib.hid hK14'
  clear hK14' S13'
  have z14 : w13.heap.size ≤ w14.heap.size := m14.size
  have hm14 : Mid w6.heap.size w7.heap.size w13 w14 := midI_pick (w := w13) (g := g'') (ss := L) (fun hn => by rw [HG3.out hn]; have := G7 hn; omega) (fun hn => HG4.out hn) ⟨m14.os, m14.tape, m14.output, m14.size, m14.block⟩
  have B14 := B13.trans ((hm14.below (by omega)).mono (by omega))
  have I14 : IntsAt w14 w3.heap.size w4.heap.size u4 L := I13.keep (Keeps.mid hm14 (by omega) (by omega))
  have G14 : marksI 1 L.length ≠ [] → 0 ≤ g'' ∧ g'' < w14.heap.size := fun hn => by
    have hne : L ≠ [] := fun e => hn (by rw [e]; rfl)
    rw [HG3.out hne]; have := G7 hne; omega
  have U14 := S14.strs G14
  clear I13 S14 m14
  go_wp2_with fail
  refine (heldInt64S_one _ L.length _ _ _ U14 (Nat.le_refl _) (by omega)).mono ?_
  rintro e w15 ⟨K15, rfl, hK15, b15⟩
  obtain rfl : K14 = K15 := HK14.out.trans hK15.symm
  have HK15 := Lib.hid hK15
  clear hK15
  have B15 := B14.trans (b15.mono (by omega))
  have z15 := b15.size
  have I15 := I14.below b15 (by omega)
  have U15 := U14.below b15 (Nat.le_refl _)
  have c15 := (R0.below B15 (by omega)).cell 0
  simp at c15
  have d15 : decide (K14 < 0) = false := decide_eq_false (by omega)
  clear I14 U14
  go_wp2_with fail
  refine (toGram_any _ rs 0 w.heap.size _ ((HV.out.below HB0.out (Nat.le_refl _)).below B15 (by omega)) (by omega) (by omega)).mono ?_
  rintro e w16 ⟨x16, rfl, O16, b16⟩
  have B16 := B15.trans (b16.mono (by omega))
  have z16 := b16.size
  have I16 := I15.below b16 (by omega)
  have U16 := U15.below b16 (by omega)
  go_wp2_with fail
  refine (toStringS_any _ t 0 w.heap.size _ ((HW.out.below HB0.out (Nat.le_refl _)).below B16 (by omega)) (by omega) HTL.out).mono ?_
  rintro e w17 ⟨t17, rfl, T17, y17, b17⟩
  have B17 := B16.trans (b17.mono (by omega))
  have z17 := b17.size
  have I17 := I16.below b17 (by omega)
  have U17 := U16.below b17 (by omega)
  clear I15 U15 I16 U16
  go_wp2_with fail
  refine (HC1.out _ _ w15.heap.size w16.heap.size 0 w17.heap.size _ (O16.rules.below b17 (Nat.le_refl _)) (by omega) (T17.strs fun _ => ⟨Nat.zero_le _, y17⟩) (Nat.le_refl _)).mono ?_
  rintro e w18 ⟨u18, g18, rfl, S18, G18, b18⟩
  have B18 := B17.trans (b18.mono (by omega))
  have z18 := b18.size
  have I18 := I17.below b18 (by omega)
  have U18 := U17.below b18 (by omega)
  clear I17 U17 O16 T17
  go_wp2_with fail
  refine (eqInt64S_any _ _ L L _ _ _ _ _ (S18.strs G18) I18).mono ?_
  rintro e w18b ⟨rfl, n18, rfl⟩
  rw [HEI.out]
  have U19 : IntsAt (w18.drewN n18) 0 w14.heap.size u7 (marksI 1 L.length) := U18
  have hz19 : w14.heap.size ≤ (w18.drewN n18).heap.size := by show _ ≤ w18.heap.size; omega
  have B19 : Below w.heap.size w (w18.drewN n18) := by
    have := HB0.out.trans (B18.mono (by omega))
    exact ⟨this.os, this.tape, this.output, this.size, this.block⟩
  generalize w18.drewN n18 = w19 at U19 hz19 B19 ⊢
  clear I18 U18 S18
  go_wp2_with fail
  refine (heldInt64S_one _ L.length _ _ _ U19 hz19 (by omega)).mono ?_
  rintro e w20 ⟨K20, rfl, hK20, b20⟩
  obtain rfl : K14 = K20 := HK15.out.trans hK20.symm
  go_wp2
  go_ret
  exact ⟨rfl, B19.trans (b20.mono B19.size)⟩
end Go.Proofs.Ytmhdbjoljonhdaa.fnExactSpans

/- A grammar that came in, opened: what the law's row reads of it, as lists. -/
namespace Go.Proofs.Ytmhdbjoljonhdaa
open Go.ChangeShapes Go.WideShapes Go.ChangeAt Go.RowKit Go.Deep

theorem lt_of_cell {w : World} {q : Addr} {v : Value} (h : w.cell? q = some v) : q.block < w.heap.size := by
  rcases Nat.lt_or_ge q.block w.heap.size with hlt | hge
  · exact hlt
  · unfold World.cell? at h
    rw [Array.getElem?_eq_none hge] at h
    simp at h
theorem add_at {b off i : Nat} : (⟨b, off, none⟩ : Addr).add i = ⟨b, off + i, none⟩ := by unfold Addr.add; split <;> simp_all
/-- an address at which something stands has no spot -/
theorem plain_addr {w : World} {a : Addr} {v : Value} (h : w.cell? (a.add 0) = some v) : ∃ b off, a = ⟨b, off, none⟩ ∧ b < w.heap.size := by
  obtain ⟨b, off, spot⟩ := a
  have hs : spot = none := by simpa [Addr.add] using World.cell?_spot h
  subst hs
  exact ⟨b, off, rfl, by simpa [Addr.add] using lt_of_cell h⟩

section
variable {H : Type} {enc : TypeId × Value → H} {w : World}
theorem open_Strs {fuel : Nat} {v : Value} {x : DataW H × List MemPlace} (h : DataW.trod enc Try.prog w 0 (fun _ => true) true fuel 27 [v] = some x) : ∃ ss, Strs w 0 w.heap.size v ss := by
  rcases open_strs Try.underlying27 Try.underlying9 (by kernel_rfl) h with ⟨hcs, _⟩ | ⟨a, len, cap, m, Sx, hcs, _, hl, hm, hmm, _, hc⟩
  · simp only [List.cons.injEq, and_true] at hcs
    subst hcs
    exact ⟨[], none, 0, rfl, Nat.le_refl _, by unfold maxLen; omega, by simp, fun h => by simp at h⟩
  · simp only [List.cons.injEq, and_true] at hcs
    subst hcs
    simp only [if_true] at hmm
    subst hmm
    refine ⟨(List.range len).map Sx, some a, m, by simp, by simpa using hl, hm, ?_, fun hp => ?_⟩
    · intro s hs
      obtain ⟨i, hi, rfl⟩ := List.mem_map.1 hs
      exact (hc i (by have := List.mem_range.1 hi; omega)).2
    · simp only [List.length_map, List.length_range] at hp
      obtain ⟨b, off, rfl, hb⟩ := plain_addr (hc 0 (by omega)).1
      refine ⟨b, off, rfl, Nat.zero_le _, hb, fun i hi => ?_⟩
      simp only [List.length_map, List.length_range] at hi
      have := (hc i (by omega)).1
      rw [add_at] at this
      simpa using this

theorem open_Rules {fuel : Nat} {v : Value} {x : DataW H × List MemPlace} (h : DataW.trod enc Try.prog w 0 (fun _ => true) true fuel 50 [v] = some x) : ∃ rs, Rules w 0 w.heap.size v rs := by
  rcases open_slice_pairs Try.underlying50 Try.underlying137 (by kernel_rfl) rfl rfl (by kernel_rfl) (by kernel_rfl) h with ⟨hcs, _⟩ | ⟨a, len, cap, m, n, V0, V1, D0, D1, P0, P1, hcs, _, hl, hm, hmm, _, hc⟩
  · simp only [List.cons.injEq, and_true] at hcs
    subst hcs
    exact ⟨[], none, 0, rfl, Nat.le_refl _, by unfold maxLen; omega, fun h => by simp at h⟩
  · simp only [List.cons.injEq, and_true] at hcs
    subst hcs
    simp only [if_true] at hmm
    subst hmm
    have each : ∀ i, i < len → ∃ r : RuleD, V0 i = .string r.head ∧ r.head.size ≤ maxLen ∧ Strs w 0 w.heap.size (V1 i) r.body := fun i hi => by
      obtain ⟨_, _, t0, t1⟩ := hc i (by omega)
      obtain ⟨s, e1, _, e2⟩ := DataW.trod_string Try.underlying9 t0
      obtain ⟨ss, hs⟩ := open_Strs t1
      exact ⟨⟨s, ss⟩, by simpa using e1, e2, hs⟩
    haveI : Inhabited RuleD := ⟨⟨ByteArray.empty, []⟩⟩
    obtain ⟨R, hR⟩ := choose_lt each
    refine ⟨(List.range len).map R, some a, m, by simp, by simpa using hl, hm, fun hp => ?_⟩
    simp only [List.length_map, List.length_range] at hp
    obtain ⟨b, off, rfl, hb⟩ := plain_addr (by have := (hc 0 (by omega)).1; simpa using this)
    refine ⟨b, off, rfl, Nat.zero_le _, hb, fun i hi => ?_⟩
    simp only [List.length_map, List.length_range] at hi
    obtain ⟨a1, a2, _, _⟩ := hc i (by omega)
    obtain ⟨r1, r2, r3⟩ := hR i hi
    rw [add_at] at a1 a2
    simp only [List.getElem_map, List.getElem_range]
    exact ⟨r2, by rw [a1, r1], V1 i, by rw [← a2]; rfl, r3⟩

set_option maxRecDepth 100000 in
theorem open_Gram {base : Nat} {v : Value} {d : DataW H} {p : List MemPlace} (hv : Value.okWide Try.prog w .any base 52 v) (h : DataW.Trod enc Try.prog w 0 (fun _ => true) true 52 v d p) :
    ∃ u rs, v = .agg #[u] ∧ Rules w 0 w.heap.size u rs := by
  obtain ⟨cs, rfl, hsz⟩ := okWide_struct Try.underlying52 hv
  obtain ⟨l⟩ := cs
  have hC : Try.prog.cellsOf 52 = 1 := by kernel_rfl
  match l, hsz.trans hC with
  | [u], _ =>
    obtain ⟨fuel, hf⟩ := h
    obtain ⟨xs, n, _, hx, _, hlen, hg⟩ := DataW.trod_struct Try.underlying52 hf
    match xs, hlen with
    | [y], _ =>
      have h0 := hg 0 _ rfl
      have hu : DataW.trod enc Try.prog w 0 (fun _ => true) true n 50 [u] = some y := by
        have hk : Try.prog.cellsOf 50 = 1 := by kernel_rfl
        simpa [Value.cells, hk] using h0
      obtain ⟨rs, hr⟩ := open_Rules hu
      exact ⟨u, rs, rfl, hr⟩
end
end Go.Proofs.Ytmhdbjoljonhdaa
