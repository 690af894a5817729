import Derived.Test.YtonfiahihmcmlaaJWspans
import Derived.Test.YtonfiahihmcmlaaJTbl
import Derived.Deep.AppendLies
import Derived.Test.YtonfiahihmcmlaaJVb
import Derived.Test.YtonfiahihmcmlaaSp4
/- The model's Spans. -/
namespace Go.Proofs.Ytonfiahihmcmlaa
open Go.RowKit

theorem span_tab {rs : List RuleD} {t : List ByteArray} {T : TabF} {h : ByteArray} (hg : gramB rs = true) (ht : textB t = true) (S : TSound rs t T) (C : TClosed rs t T) (I : TIn t T) (hm : h ∈ hsOf rs) {q : Nat} : T (hIx (hsOf rs) h) q = true ↔ SpanP rs t h q := by
  have R := Rt.of hg
  have hi := hIx_lt hm
  have key : q / 13 ≤ t.length → q % 13 ≤ t.length → (T (hIx (hsOf rs) h) q = true ↔ Der (· ∈ rs) t [h] (q / 13) (q % 13)) := fun h1 h2 => by
    have := tab_tells S C (tok_no_head R ((textB_iff t).1 ht).2) hi h1 h2
    rwa [hIx_at hm, show 13 * (q / 13) + q % 13 = q by omega] at this
  constructor
  · intro hT
    obtain ⟨h1, h2⟩ := I _ _ hT
    exact ⟨h1, h2, (key h1 h2).1 hT⟩
  · rintro ⟨h1, h2, d⟩
    exact (key h1 h2).2 d
theorem spanTo_none {rs : List RuleD} {t : List ByteArray} {h : ByteArray} (ht : textB t = true) (hh : headB h = true) (hm : h ∉ hsOf rs) (q : Nat) : spanTo rs t h q = [] := by
  have := spanTo_skip (rs := rs) (t := t) (h := h) (a := 0) (b := q) (by omega) fun q _ _ hp => by
    obtain ⟨_, _, d⟩ := hp
    obtain ⟨r, hr, hrh, _⟩ := d.head_inv fun s hs e => by
      have := ((textB_iff t).1 ht).2 s (List.mem_of_getElem? hs)
      rw [e, head_no_tok hh] at this
      cases this
    obtain ⟨i, hi, rfl⟩ := List.getElem_of_mem hr
    exact hm (hrh ▸ hs_all hi)
  rw [this]
  rfl
theorem spansOf_out {rs : List RuleD} {t : List ByteArray} {h : ByteArray} (ht : textB t = true) (hm : h ∉ hsOf rs) : spansOf rs t h = [] := by
  unfold spansOf
  split
  · rename_i e
    exact spanTo_none ht (by revert e; cases headB h <;> simp) hm _
  · rfl
theorem spansOf_in {rs : List RuleD} {t : List ByteArray} {h : ByteArray} (hg : gramB rs = true) (ht : textB t = true) (hm : h ∈ hsOf rs) : spansOf rs t h = spanTo rs t h 169 := by
  unfold spansOf
  rw [hg, ht, (Rt.of hg).hs_head hm]
  rfl
theorem spansOf_no {rs : List RuleD} {t : List ByteArray} {h : ByteArray} (hn : (gramB rs && textB t) = false) : spansOf rs t h = [] := by
  unfold spansOf
  rw [hn]
  rfl
theorem spansOf_long {rs : List RuleD} {t : List ByteArray} {h : ByteArray} (hn : 8000 < h.size) : spansOf rs t h = [] := by
  unfold spansOf
  split
  · rename_i e
    have := headB_size (s := h) (by revert e; cases headB h <;> simp)
    omega
  · rfl

theorem OwnI.zero (w : World) (g : Nat) (A : Option Addr) : OwnI w g (.slice A 0 0) [] := ⟨A, 0, rfl, Nat.le_refl _, by unfold maxLen; omega, fun h => by simp at h⟩

/-- the list grows; the table's row that is read stands -/
structure Spn (w3 : World) (g0 hi p G ix rb : Nat) (box : Array Value) (f : Nat → Bool) (o : Value) (L : List Int) (wr : World) : Prop where
  its : Its wr g0 o L
  blk : ∀ g, o.ownBlock = some g → g = g0 ∨ hi ≤ g
  box : Row wr p 132 box
  cell : wr.cell? ⟨G, ix, none⟩ = some (.slice (some ⟨rb, 0, none⟩) 169 169)
  row : Row wr rb 4 (cellsB f 169)
  low : Below g0 w3 wr
theorem Spn.grow {w3 wr w9 : World} {g0 hi p G ix rb gg cap : Nat} {box A : Array Value} {f : Nat → Bool} {o : Value} {L : List Int} {x : Int} (h : Spn w3 g0 hi p G ix rb box f o L wr) (h0 : g0 ≤ wr.heap.size) (hG : G ≠ g0) (hGh : G < hi) (hhi : hi ≤ wr.heap.size)
    (hown : w9.ownsRow g0 2 1 (.slice (some ⟨gg, 0, none⟩) (L.length + 1) cap) (L.length + 1) (L.map (Value.int .i64) ++ [.int .i64 x])) (hg : (wr.alloc (.cells A 2)).grownBy w9 o.ownBlock) (hat : o.ownBlock = some gg ∨ gg = wr.heap.size + 1) :
    Spn w3 g0 hi p G ix rb box f (.slice (some ⟨gg, 0, none⟩) (L.length + 1) cap) (L ++ [x]) w9 := by
  have hrow : ∀ k, o.ownBlock = some k → ∃ cur, Row wr k 2 cur := fun k hk => by
    rcases h.its.2 with ⟨e, _⟩ | ⟨g', cap', cur, e, _, hh, _⟩
    · rw [e] at hk; simp [Value.ownBlock] at hk
    · rw [e] at hk
      have : g' = k := by simpa [Value.ownBlock] using hk
      subst this
      exact ⟨cur, hh⟩
  have keep : ∀ k, k < wr.heap.size → o.ownBlock ≠ some k → w9.heap[k]? = wr.heap[k]? := fun k hk hne => by
    rw [hg.block k (by simp; omega) fun e => hne e.symm]
    exact (al1 wr _).block k hk
  have ne : ∀ {k : Nat} {ty : TypeId} {cur : Array Value}, Row wr k ty cur → ty ≠ 2 → o.ownBlock ≠ some k := fun {k ty cur} hr hty hk => by
    obtain ⟨cur', hr'⟩ := hrow k hk
    exact hr.apart hr' hty rfl
  refine ⟨Its.one x hown, fun g e => ?_, h.box.same (keep _ h.box.lt (ne h.box (by decide))), ?_, h.row.same (keep _ h.row.lt (ne h.row (by decide))), ?_⟩
  · have : gg = g := by simpa [Value.ownBlock] using e
    subst this
    rcases hat with e | e
    · exact h.blk _ e
    · right; omega
  · exact (World.cell?_of_block (w := wr) (keep G (by omega) fun e => by rcases h.blk _ e with e | e <;> omega)).trans h.cell
  · exact (h.low.trans ((al1 wr _).mono h0)).grown hg (by simp; omega) fun k e => by
      rcases h.its.2 with ⟨e', _⟩ | ⟨g', cap', cur, e', h1, _⟩
      · rw [e'] at e; simp [Value.ownBlock] at e
      · rw [e'] at e
        have : g' = k := by simpa [Value.ownBlock] using e
        subst this
        exact h1

set_option maxRecDepth 100000 in
set_option maxHeartbeats 4000000 in
theorem specSpans_any (rs : List RuleD) (t : List ByteArray) (h : ByteArray) (v tv : Value) (lo hi lo2 hi2 : Nat) (w : World) (hv : Rules w lo hi v rs) (hh : hi ≤ w.heap.size) (h2 : Strs w lo2 hi2 tv t) (hh2 : hi2 ≤ w.heap.size) (hsz : h.size ≤ maxLen) :
    Calls Try.prog 39 #[.agg #[v], tv, .string h] w (MadeI w (spansOf rs t h)) := by
  obtain ⟨j0, hj0, hy0, hy1, hy2⟩ := info_parts Try.infoI64
  have HV := Lib.hid hv
  have HW := Lib.hid h2
  obtain ⟨A, c, rfl, -⟩ := hv
  obtain ⟨B, d, rfl, -⟩ := h2
  unfold maxLen at hsz
  have hb := al2 w (.cells #[.slice A rs.length c] 25) (.cells #[] 2)
  have R0 := (Row.made w 25 #[.slice A rs.length c]).alloc (.cells #[] 2)
  have I0 := Its.lit0 (w.alloc (.cells #[.slice A rs.length c] 25)) (base := w.heap.size + 1) (by simp)
  have e1 : (w.alloc (.cells #[.slice A rs.length c] 25)).heap.size = w.heap.size + 1 := by simp
  rw [e1] at I0
  have HI0 := Lib.hid I0
  have HB := Lib.hid hb
  have HR0 := Lib.hid R0
  have hsz2 : ((w.alloc (.cells #[.slice A rs.length c] 25)).alloc (.cells #[] 2)).heap.size = w.heap.size + 2 := by simp
  have HSZ := Lib.hid hsz2
  clear hb R0 I0 hsz2 e1
  cases hq : gramB rs
  · have HE := Lib.hid (spansOf_no (rs := rs) (t := t) (h := h) (by rw [hq]; rfl))
    have HQ := Lib.hid hq
    clear hq
    unfold MadeI
    go_enter Try.func39, Try.ntmps39
    go_wp2_with fail
    refine (specGramRight_any rs _ lo hi _ (HV.out.below HB.out hh) (by rw [HSZ.out]; omega)).mono ?_
    rintro _ w1 ⟨rfl, b1⟩
    rw [HQ.out]
    go_wp2
    go_ret
    rw [HE.out]
    exact ⟨_, 0, rfl, OwnI.zero _ _ _, fun h => absurd rfl h, HB.out.trans (b1.mono (by rw [HSZ.out]; omega))⟩
  · cases ht : textB t
    · have HE := Lib.hid (spansOf_no (rs := rs) (t := t) (h := h) (by rw [ht, Bool.and_false]))
      have HQ := Lib.hid hq
      have HT := Lib.hid ht
      clear hq ht
      unfold MadeI
      go_enter Try.func39, Try.ntmps39
      go_wp2_with fail
      refine (specGramRight_any rs _ lo hi _ (HV.out.below HB.out hh) (by rw [HSZ.out]; omega)).mono ?_
      rintro _ w1 ⟨rfl, b1⟩
      rw [HQ.out]
      have B1 := HB.out.trans (b1.mono (by rw [HSZ.out]; omega))
      have HB1 := Lib.hid B1
      have z1 := B1.size
      clear B1 b1
      go_wp2_with fail
      refine (specTextB_any t _ lo2 hi2 _ (HW.out.below HB1.out hh2) (by omega)).mono ?_
      rintro _ w2 ⟨rfl, b2⟩
      rw [HT.out]
      go_wp2
      go_ret
      rw [HE.out]
      exact ⟨_, 0, rfl, OwnI.zero _ _ _, fun h => absurd rfl h, HB1.out.trans (b2.mono (by omega))⟩
    · have HQ := Lib.hid hq
      have HT := Lib.hid ht
      have h12 := ((textB_iff t).1 ht).1
      have hhpos : 0 < (hsOf rs).length := List.length_pos_of_mem (hs_all (rs := rs) (i := 0) (Rt.of hq).one)
      have hhl := (Rt.of hq).hs_len
      clear hq ht
      by_cases hlong : 8000 < h.size
      · have HE := Lib.hid (spansOf_long (rs := rs) (t := t) hlong)
        have i0 : (8000 : Int) < (h.size : Int) := by omega
        unfold MadeI
        go_enter Try.func39, Try.ntmps39
        go_wp2_with fail
        refine (specGramRight_any rs _ lo hi _ (HV.out.below HB.out hh) (by rw [HSZ.out]; omega)).mono ?_
        rintro _ w1 ⟨rfl, b1⟩
        rw [HQ.out]
        have B1 := HB.out.trans (b1.mono (by rw [HSZ.out]; omega))
        have HB1 := Lib.hid B1
        have z1 := B1.size
        clear B1 b1
        go_wp2_with fail
        refine (specTextB_any t _ lo2 hi2 _ (HW.out.below HB1.out hh2) (by omega)).mono ?_
        rintro _ w2 ⟨rfl, b2⟩
        rw [HT.out]
        go_wp2
        go_ret
        rw [HE.out]
        exact ⟨_, 0, rfl, OwnI.zero _ _ _, fun h => absurd rfl h, HB1.out.trans (b2.mono (by omega))⟩
      · have i0 : ¬ (8000 : Int) < (h.size : Int) := by omega
        unfold MadeI
        go_enter Try.func39, Try.ntmps39
        go_wp2_with fail
        refine (specGramRight_any rs _ lo hi _ (HV.out.below HB.out hh) (by rw [HSZ.out]; omega)).mono ?_
        rintro _ w1 ⟨rfl, b1⟩
        rw [HQ.out]
        have B1 := HB.out.trans (b1.mono (by rw [HSZ.out]; omega))
        have r1 := HR0.out.below b1 HR0.out.lt
        have I1 := HI0.out.below b1
        have HB1 := Lib.hid B1
        have HR1 := Lib.hid r1
        have HI1 := Lib.hid I1
        have z1 := B1.size
        have z1' : w.heap.size + 2 ≤ w1.heap.size := by have := b1.size; rw [HSZ.out] at this; exact this
        clear B1 b1 r1 I1
        go_wp2_with fail
        refine (specTextB_any t _ lo2 hi2 _ (HW.out.below HB1.out hh2) (by omega)).mono ?_
        rintro _ w2 ⟨rfl, b2⟩
        rw [HT.out]
        have B2 := HB1.out.trans (b2.mono (by omega))
        have r2 := HR1.out.below b2 HR1.out.lt
        have I2 := HI1.out.below b2
        have q2 := r2.cell 0
        simp at q2
        have l2 := r2.lt
        have HB2 := Lib.hid B2
        have HI2 := Lib.hid I2
        have z2 := B2.size
        have z2' : w.heap.size + 2 ≤ w2.heap.size := by have := b2.size; omega
        clear B2 b2 r2 I2
        go_wp2_with fail
        refine (specFill_any rs t _ _ lo hi lo2 hi2 _ (HV.out.below HB2.out hh) (by omega) (HW.out.below HB2.out hh2) (by omega) HQ.out HT.out).mono ?_
        rintro _ w3 ⟨p, Ah, ch, G, cG, hi3, R, T, rfl, htab, hS, hC, hIn, hGlo, b3⟩
        have HTAB := Lib.hid htab
        have HB3 := Lib.hid (HB2.out.trans (b3.mono (by omega)))
        have HI3 := Lib.hid (HI2.out.below b3)
        have z3 := HB3.out.size
        have hcG := htab.cap
        unfold maxLen at hcG
        have HSP : Hid (h ∈ hsOf rs → ∀ q, (T (hIx (hsOf rs) h) q = true ↔ SpanP rs t h q)) := Lib.hid fun hm q => span_tab HQ.out HT.out hS hC hIn hm
        clear htab hS hC hIn b3
        go_wp2_with fail
        refine (tabAt_any (hsOf rs) h p hi3 Ah ch _ _ HTAB.out.box HTAB.out.heads).mono ?_
        rintro _ _ ⟨rfl, rfl⟩
        by_cases hm : h ∈ hsOf rs
        · rw [atZ_in hm]
          have hix := hIx_lt hm
          have HE := Lib.hid (spansOf_in HQ.out HT.out hm)
          have HP := Lib.hid (HSP.out hm)
          have ige : (0 : Int) ≤ (hIx (hsOf rs) h : Int) := by omega
          have i8 : (hIx (hsOf rs) h : Int) < ((hsOf rs).length : Int) := by omega
          have hixl : hIx (hsOf rs) h < R.length := by rw [HTAB.out.len]; exact hix
          have S0 : Spn w3 (w.heap.size + 1) w3.heap.size p G (hIx (hsOf rs) h) R[hIx (hsOf rs) h] #[.slice Ah (hsOf rs).length ch, .slice (some ⟨G, 0, none⟩) (hsOf rs).length cG] (T (hIx (hsOf rs) h)) (.slice (some ⟨w.heap.size + 1, 0, none⟩) 0 0) [] w3 := ⟨HI3.out, fun g e => .inl (by simpa [Value.ownBlock] using e.symm), HTAB.out.box, HTAB.out.ins _ hixl, HTAB.out.rows _ hixl, Below.refl _ _⟩
          have HS0 := Lib.hid S0
          have lG3 := HTAB.out.lt.1
          generalize R[hIx (hsOf rs) h] = rb at HS0
          clear HSP hm S0 hixl
          go_wp2
          go_loopw [7, 10] (fun o x wr => ∃ k : Nat, k ≤ 169 ∧ x = .int .i64 (k : Int) ∧ Spn w3 (w.heap.size + 1) w3.heap.size p G (hIx (hsOf rs) h) rb #[.slice Ah (hsOf rs).length ch, .slice (some ⟨G, 0, none⟩) (hsOf rs).length cG] (T (hIx (hsOf rs) h)) o (spanTo rs t h k) wr) (fun _ x _ => 169 - (intOf x).toNat)
          case atStart => exact ⟨0, by omega, rfl, HS0.out⟩
          case round =>
            obtain ⟨k, hk, rfl, hsp⟩ := hrel
            rename World => wr
            have HSK := Lib.hid hsp
            have hln := spanTo_len (rs := rs) (t := t) (h := h) k
            obtain ⟨Bz, dz, rfl⟩ := hsp.its.form
            have zr := hsp.low.size
            have q0 := hsp.box.cell 1
            simp at q0
            have lp := hsp.box.lt
            have lG : G < wr.heap.size := by omega
            have q1 := hsp.cell
            have lr := hsp.row.lt
            have q3 := hsp.row.cell k
            by_cases hlt : k < 169
            · rw [cellsB_get hlt] at q3
              have i9 : (k : Int) < 169 := by omega
              cases hTk : T (hIx (hsOf rs) h) k
              · rw [hTk] at q3
                have HNX := Lib.hid (spanTo_f (rs := rs) (t := t) (h := h) (q := k) fun hp => by rw [(HP.out k).2 hp] at hTk; cases hTk)
                clear hsp hTk
                go_wp2
                go_roundw
                case rel => exact ⟨k + 1, by omega, by go_num, by rw [HNX.out]; exact HSK.out⟩
                case measure => simp [intOf]; omega
              · rw [hTk] at q3
                have HNX := Lib.hid (spanTo_t (rs := rs) (t := t) (h := h) (q := k) ((HP.out k).1 hTk))
                have HO : Hid (wr.ownsRow (w.heap.size + 1) 2 1 (.slice Bz (spanTo rs t h k).length dz) (spanTo rs t h k).length ((spanTo rs t h k).map (Value.int .i64))) := Lib.hid HSK.out.its
                clear hsp hTk
                generalize spanTo rs t h k = L at *
                go_wp2_with (at_builtin; refine wpList_append_lies _ rfl _ _ 45 rfl (w.heap.size + 1) 2 j0 _ 1 8 Try.underlying45 hj0 hy0 hy1 hy2 rfl (by decide) _ _ _ rfl (World.ownsRow.alloc HO.out _) ⟨wr.heap.size, 0, none⟩ 1 1 [.int .i64 (k : Int)] rfl rfl (cell_one_new _ _ _) (one_i64 _) (by omega) (by unfold maxLen; omega) (by omega) (by simp; omega) (wr.heap.size + 1) (by simp) ?_)
                intro gg cap w9 hown9 hg9 hat9 hlt9
                have HG := Lib.hid (HSK.out.grow (by omega) (by omega) lG3 (by omega) hown9 hg9 hat9)
                clear hown9 hg9 hat9 hlt9
                go_wp2
                go_roundw
                case rel => exact ⟨k + 1, by omega, by go_num, by rw [HNX.out]; exact HG.out⟩
                case measure => simp [intOf]; omega
            · obtain rfl : k = 169 := by omega
              obtain ⟨g, ho, hg⟩ := hsp.its.own
              have HOG := Lib.hid (And.intro ho hg)
              clear hsp ho hg
              go_wp2
              go_ret
              rw [HE.out]
              exact ⟨_, g, rfl, HOG.out.1, fun hn => by have := HOG.out.2 hn; omega, HB3.out.trans (HSK.out.low.mono (by omega))⟩
        · rw [atZ_out hm]
          have HE := Lib.hid (spansOf_out (t := t) HT.out hm)
          clear hm
          go_wp2
          go_loopw [7, 10] (fun o x wr => x = .int .i64 0 ∧ o = .slice (some ⟨w.heap.size + 1, 0, none⟩) 0 0 ∧ wr = w3) (fun _ _ _ => 0)
          case atStart => exact ⟨rfl, rfl, rfl⟩
          case round =>
            obtain ⟨rfl, rfl, rfl⟩ := hrel
            go_wp2
            go_ret
            rw [HE.out]
            exact ⟨_, 0, rfl, OwnI.zero _ _ _, fun h => absurd rfl h, HB3.out⟩
end Go.Proofs.Ytonfiahihmcmlaa

/- The walk of l04Body. -/
namespace Go.Proofs.Ytonfiahihmcmlaa
open Go.RowKit

open Classical in
noncomputable def yesB (P : Prop) : Bool := decide P
theorem yesB_t {P : Prop} (h : P) : yesB P = true := by simp [yesB, h]
theorem yesB_f {P : Prop} (h : ¬ P) : yesB P = false := by simp [yesB, h]
theorem yesB_iff {P : Prop} : yesB P = true ↔ P := by simp [yesB]
/-- what is asked at one place of the body -/
def hitP (T : TabF) (rs : List RuleD) (u : List ByteArray) (Bg : Nat → Bool) (body : List ByteArray) (f j k : Nat) : Prop := ∃ h : j < body.length, endP T (hsOf rs) u (body.take j) (· = f) k ∧ body[j] ∈ hsOf rs ∧ Bg (13 * hIx (hsOf rs) body[j] + k) = true
theorem bodyP_no {T : TabF} {rs : List RuleD} {u : List ByteArray} {Bg : Nat → Bool} {body : List ByteArray} {f : Nat} (h1 : ∀ j, j ≤ body.length → ¬ endP T (hsOf rs) u (body.take j) (· = f) u.length) (h2 : ∀ j k, f ≤ k → k ≤ u.length → ¬ hitP T rs u Bg body f j k) : ¬ bodyP T rs u Bg body f := by
  rintro ⟨j, hj, h | ⟨k, hk, hk2, h⟩⟩
  · exact h1 j hj h
  · exact h2 j k hk hk2 h
theorem Strs.take {w : World} {lo hi : Nat} {A : Option Addr} {c : Nat} {ss : List ByteArray} (h : Strs w lo hi (.slice A ss.length c) ss) {j : Nat} (hj : j ≤ ss.length) : Strs w lo hi (.slice A j c) (ss.take j) := by
  obtain ⟨A', c', e, h1, h2, h3, h4⟩ := h
  injection e with e1 _ e2
  subst e1 e2
  have hl : (ss.take j).length = j := by rw [List.length_take]; omega
  refine ⟨A, c, by rw [hl], by omega, h2, fun s hs => h3 s (List.mem_of_mem_take hs), fun hp => ?_⟩
  obtain ⟨b, off, e, a1, a2, a3⟩ := h4 (by omega)
  refine ⟨b, off, e, a1, a2, fun i hi => ?_⟩
  rw [List.getElem_take]
  exact a3 i (by omega)

set_option maxRecDepth 100000 in
set_option maxHeartbeats 8000000 in
theorem specBody_any (rs : List RuleD) (u body good : List ByteArray) (T : TabF) (Bg : Nat → Bool) (R : List Nat) (p : Nat) (A : Option Addr) (c G cG hi gb : Nat) (bv tv gv : Value) (lb hb lt ht lg hg f : Nat) (w : World) (h : TabAt w p A c G cG hi (hsOf rs) R T) (hB : Strs w lb hb bv body) (hhb : hb ≤ w.heap.size) (hT : Strs w lt ht tv u) (hht : ht ≤ w.heap.size) (hG : Strs w lg hg gv good) (hr : Row w gb 4 (cellsB Bg ((hsOf rs).length * 13))) (hf : f ≤ u.length) (h12 : u.length ≤ 12) (hb5 : body.length ≤ 5) (hs20 : (hsOf rs).length ≤ 20) :
    Calls Try.prog 138 #[.pointer (some ⟨p, 0, none⟩), bv, tv, .int .i64 (f : Int), gv, .slice (some ⟨gb, 0, none⟩) ((hsOf rs).length * 13) ((hsOf rs).length * 13)] w fun e w' => e = .returned (.bool (allB body good true && yesB (bodyP T rs u Bg body f))) ∧ Below w.heap.size w w' := by
  have HTAB := Lib.hid h
  have HB := Lib.hid hB
  have HT := Lib.hid hT
  have HG := Lib.hid hG
  have HR := Lib.hid hr
  obtain ⟨Ab, cb, rfl, hlb, hcb, -, -⟩ := hB
  obtain ⟨At, ct, rfl, hlt', hct, -, -⟩ := hT
  unfold maxLen at hcb hct
  have hlp := h.box.lt
  have lgb := hr.lt
  clear h hr hG
  cases hall : allB body good true
  · have HA := Lib.hid hall
    clear hall
    go_enter Try.func138, Try.ntmps138
    go_wp2_with fail
    refine (specAll_any _ _ body good true lb hb lg hg _ HB.out HG.out).mono ?_
    rintro _ _ ⟨rfl, rfl⟩
    rw [HA.out]
    go_wp2
    go_ret
    exact ⟨rfl, Below.refl _ _⟩
  · have HA := Lib.hid hall
    clear hall
    go_enter Try.func138, Try.ntmps138
    go_wp2_with fail
    refine (specAll_any _ _ body good true lb hb lg hg _ HB.out HG.out).mono ?_
    rintro _ _ ⟨rfl, rfl⟩
    rw [HA.out]
    go_wp2
    go_loopw [13, 14, 15, 16] (fun x _ _ _ wr => ∃ j : Nat, j ≤ body.length + 1 ∧ x = .int .i64 (j : Int) ∧ (∀ j', j' < j → ¬ endP T (hsOf rs) u (body.take j') (· = f) u.length) ∧ (∀ j' k, j' < j → f ≤ k → k ≤ u.length → ¬ hitP T rs u Bg body f j' k) ∧ Below w.heap.size w wr) (fun x _ _ _ _ => body.length + 1 - (intOf x).toNat)
    case atStart => exact ⟨0, by omega, rfl, fun j' h => by omega, fun j' k h => by omega, Below.refl _ _⟩
    case round =>
      obtain ⟨j, hj, rfl, hn1, hn2, hbw⟩ := hrel
      rename World => wr
      have HN1 := Lib.hid hn1
      have HN2 := Lib.hid hn2
      have HBW := Lib.hid hbw
      have hsw := hbw.size
      clear hn1 hn2 hbw
      by_cases hlt : j ≤ body.length
      · have i1 : (j : Int) ≤ (body.length : Int) := by omega
        have i2 : (j : Int) ≤ (cb : Int) := by omega
        go_wp2_with fail
        refine (ends_any (hsOf rs) u (body.take j) T R p A c G cG hi _ _ lb hb lt ht f _ (HTAB.out.below HBW.out) ((HB.out.below HBW.out hhb).take hlt) (by omega) (HT.out.below HBW.out hht) (by omega) hf h12 (by rw [List.length_take]; omega)).mono ?_
        rintro _ x5 ⟨ge, rfl, hre, hge, b5⟩
        have B5 := HBW.out.trans (b5.mono hsw)
        have HB5 := Lib.hid B5
        have HRE := Lib.hid hre
        have HRG := Lib.hid (HR.out.below B5 lgb)
        have z5 := B5.size
        have lge := hre.lt
        have a1 := hre.cell u.length
        rw [cellsB_get (by omega)] at a1
        have i3 : (u.length : Int) < (u.length : Int) + 1 := by omega
        clear hre b5 B5
        by_cases hend : endP T (hsOf rs) u (body.take j) (· = f) u.length
        · rw [fB_t hend] at a1
          have HF := Lib.hid (yesB_t (P := bodyP T rs u Bg body f) ⟨j, hlt, .inl hend⟩)
          clear hend
          go_wp2
          go_ret
          rw [HF.out]
          exact ⟨rfl, HB5.out⟩
        · rw [fB_f hend] at a1
          have HEN := Lib.hid hend
          clear hend
          go_wp2
          go_loopw [15, 16] (fun x _ wq => ∃ k : Nat, f ≤ k ∧ k ≤ u.length + 1 ∧ x = .int .i64 (k : Int) ∧ (∀ k', f ≤ k' → k' < k → ¬ hitP T rs u Bg body f j k') ∧ wq = x5) (fun x _ _ => u.length + 1 - (intOf x).toNat)
          case atStart => exact ⟨f, Nat.le_refl _, by omega, rfl, (fun k' h1 h2 => by omega), rfl⟩
          case round =>
            obtain ⟨k, hk1, hk2, rfl, hk3, rfl⟩ := hrel
            rename World => wq
            have HK3 := Lib.hid hk3
            clear hk3
            by_cases hlk : k ≤ u.length ∧ j < body.length
            · obtain ⟨hlk, hjl⟩ := hlk
              have i4 : (k : Int) ≤ (u.length : Int) := by omega
              have i5 : (j : Int) < (body.length : Int) := by omega
              have i6 : (k : Int) < (u.length : Int) + 1 := by omega
              obtain ⟨b, off, rfl, hbh, _, _, hbj⟩ := (HB.out.below HB5.out hhb).at hjl
              have hbx : b < wq.heap.size := by omega
              have a2 := HRE.out.cell k
              rw [cellsB_get (by omega)] at a2
              go_wp2_with fail
              refine (tabAt_any (hsOf rs) body[j] p hi A c _ _ (HTAB.out.box.below HB5.out hlp) (HTAB.out.heads.below HB5.out HTAB.out.lt.2)).mono ?_
              rintro _ _ ⟨rfl, rfl⟩
              by_cases hend : endP T (hsOf rs) u (body.take j) (· = f) k
              · rw [fB_t hend] at a2
                have HE2 := Lib.hid hend
                clear hend
                by_cases hm : body[j] ∈ hsOf rs
                · rw [atZ_in hm]
                  have hix := hIx_lt hm
                  have HM := Lib.hid hm
                  clear hm
                  have ige : (0 : Int) ≤ (hIx (hsOf rs) body[j] : Int) := by omega
                  have a3 := HRG.out.cell (13 * hIx (hsOf rs) body[j] + k)
                  rw [cellsB_get (by omega)] at a3
                  have lgq := HRG.out.lt
                  have i7 : (13 * (hIx (hsOf rs) body[j] : Int) + (k : Int)) < (((hsOf rs).length * 13 : Nat) : Int) := by omega
                  have i8 : (13 * (hIx (hsOf rs) body[j] : Int) + (k : Int)).toNat = 13 * hIx (hsOf rs) body[j] + k := by omega
                  cases hb : Bg (13 * hIx (hsOf rs) body[j] + k)
                  · rw [hb] at a3
                    have HNB : Hid (¬ hitP T rs u Bg body f j k) := Lib.hid fun ⟨_, _, _, h⟩ => by rw [hb] at h; cases h
                    clear hb
                    go_wp2
                    go_roundw
                    case rel => exact ⟨k + 1, by omega, by omega, by go_num, fun k' h1 h2 => by
                      by_cases e : k' = k
                      · subst e; exact HNB.out
                      · exact HK3.out k' h1 (by omega), (by first | rfl | trivial)⟩
                    case measure => simp [intOf]; omega
                  · rw [hb] at a3
                    have HF := Lib.hid (yesB_t (P := bodyP T rs u Bg body f) ⟨j, hlt, .inr ⟨k, hk1, hlk, hjl, HE2.out, HM.out, hb⟩⟩)
                    clear hb
                    go_wp2
                    go_ret
                    rw [HF.out]
                    exact ⟨rfl, HB5.out⟩
                · rw [atZ_out hm]
                  have HNB : Hid (¬ hitP T rs u Bg body f j k) := Lib.hid fun ⟨_, _, h, _⟩ => hm h
                  clear hm
                  go_wp2
                  go_roundw
                  case rel => exact ⟨k + 1, by omega, by omega, by go_num, fun k' h1 h2 => by
                    by_cases e : k' = k
                    · subst e; exact HNB.out
                    · exact HK3.out k' h1 (by omega), (by first | rfl | trivial)⟩
                  case measure => simp [intOf]; omega
              · rw [fB_f hend] at a2
                have HNB : Hid (¬ hitP T rs u Bg body f j k) := Lib.hid fun ⟨_, h, _⟩ => hend h
                clear hend
                generalize atZ (hsOf rs) body[j] = zz
                go_wp2
                go_roundw
                case rel => exact ⟨k + 1, by omega, by omega, by go_num, fun k' h1 h2 => by
                  by_cases e : k' = k
                  · subst e; exact HNB.out
                  · exact HK3.out k' h1 (by omega), (by first | rfl | trivial)⟩
                case measure => simp [intOf]; omega
            · have HNX : Hid (∀ k', f ≤ k' → k' ≤ u.length → ¬ hitP T rs u Bg body f j k') := Lib.hid fun k' h1 h2 hh => by
                obtain ⟨hjl, _⟩ := id hh
                exact HK3.out k' h1 (by omega) hh
              by_cases hlk2 : k ≤ u.length
              · have i4 : (k : Int) ≤ (u.length : Int) := by omega
                have i5 : ¬ (j : Int) < (body.length : Int) := by omega
                clear hlk
                go_wp2
                go_roundw
                case rel => exact ⟨j + 1, by omega, by go_num, fun j' h => by
                    by_cases e : j' = j
                    · subst e; exact HEN.out
                    · exact HN1.out j' (by omega), fun j' k' h h1 h2 => by
                    by_cases e : j' = j
                    · subst e; exact HNX.out k' h1 h2
                    · exact HN2.out j' k' (by omega) h1 h2, HB5.out⟩
                case measure => simp [intOf]; omega
              · have i4 : ¬ (k : Int) ≤ (u.length : Int) := by omega
                clear hlk
                go_wp2
                go_roundw
                case rel => exact ⟨j + 1, by omega, by go_num, fun j' h => by
                    by_cases e : j' = j
                    · subst e; exact HEN.out
                    · exact HN1.out j' (by omega), fun j' k' h h1 h2 => by
                    by_cases e : j' = j
                    · subst e; exact HNX.out k' h1 h2
                    · exact HN2.out j' k' (by omega) h1 h2, HB5.out⟩
                case measure => simp [intOf]; omega
      · have i1 : ¬ (j : Int) ≤ (body.length : Int) := by omega
        have HF := Lib.hid (yesB_f (bodyP_no (T := T) (rs := rs) (u := u) (Bg := Bg) (body := body) (f := f) (fun j' h => HN1.out j' (by omega)) (fun j' k h1 h2 hh => HN2.out j' k (by obtain ⟨h, _⟩ := hh; omega) h1 h2 hh)))
        go_wp2
        go_ret
        rw [HF.out]
        exact ⟨rfl, HBW.out⟩
end Go.Proofs.Ytonfiahihmcmlaa
