/- The draw of a text for a grammar: l04TextOf. -/
import Derived.Test.YtonfiahihmcmlaaWd7
import Derived.Test.YtonfiahihmcmlaaJWd6
import Derived.Test.YtonfiahihmcmlaaJToksS
namespace Go.Proofs.Ytonfiahihmcmlaa.Dr
open Go.RowKit
open Go.Proofs.Ytonfiahihmcmlaa

theorem word6 (rs : List RuleD) (gv : Value) (h : ByteArray) (lo hi p B : Nat) (w : World) (h1 : Src w p B) (h2 : p < lo) (h3 : Rules w lo hi gv rs) (h4 : hi ≤ w.heap.size) (h5 : rs.length ≤ 100) (h6 : ∀ r ∈ rs, r.body.length ≤ 100) (h7 : h.size ≤ maxLen) :
    Calls Try.prog 159 #[.pointer (some ⟨p, 0, none⟩), .agg #[gv], .string h, .int .i64 6] w (DrawW w p B) := word_any 6 (by omega) rs gv h lo hi p B w h1 h2 h3 h4 h5 h6 h7
/-- what the draw of a text leaves -/
def DrawV (w : World) (p B : Nat) (e : Ending) (w' : World) : Prop :=
  ∃ v ss, e = .returned v ∧ Sts w' w.heap.size v ss ∧ ss.length ≤ 100 ∧ (∀ s ∈ ss, s.size ≤ maxLen) ∧ Src w' p B ∧ w.grownBy w' (some p)
/-- what stands while it goes on -/
structure TxP (w : World) (p B : Nat) (g : Value) (wx : World) : Prop where
  src : Src wx p B
  grw : w.grownBy wx (some p)
  gram : Row wx w.heap.size 25 #[g]
section
variable {w wx wy : World} {p B : Nat} {g : Value}
theorem TxP.grown (h : TxP w p B g wx) (k : wx.grownBy wy (some p)) (s : Src wy p B) (hp : p < w.heap.size) : TxP w p B g wy :=
  ⟨s, grw_trans h.grw k, h.gram.same (k.block _ h.gram.lt (fun e => by injection e with e; omega))⟩
theorem TxP.next (h : TxP w p B g wx) (b : Below wx.heap.size wx wy) : TxP w p B g wy :=
  ⟨h.src.only fun k hk => b.block k (by have := h.src.1; have := h.src.lt; omega), grw_bel h.grw b, h.gram.below b h.gram.lt⟩
theorem TxP.own {base : Nat} {v : Value} {n : Nat} {xs : List Value} {t : TypeId} (h : TxP w p B g wx) (k : wx.grownBy wy v.ownBlock) (o : wx.ownsRow base t 1 v n xs) (hb : w.heap.size < base) (hp : p < w.heap.size) : TxP w p B g wy := by
  have hlt := World.ownsRow.lt o
  refine ⟨h.src.only fun q hq => k.block q (by have := h.src.1; have := h.src.lt; omega) (fun e => by have := (hlt _ e.symm).1; have := h.src.1; omega), grw_own h.grw k (fun q hq => by have := (hlt _ hq).1; omega), h.gram.same (k.block _ h.gram.lt (fun e => by have := (hlt _ e.symm).1; omega))⟩
end
theorem sts_at {w : World} {base : Nat} {v : Value} {ss : List ByteArray} (h : Sts w base v ss) {i : Nat} {t : ByteArray} (hi : ss[i]? = some t) : ∃ g cap, v = .slice (some ⟨g, 0, none⟩) ss.length cap ∧ g < w.heap.size ∧ base ≤ g ∧ w.cell? ⟨g, i, none⟩ = some (.string t) := by
  have hlt : i < ss.length := by
    rcases Nat.lt_or_ge i ss.length with h1 | h1
    · exact h1
    · rw [List.getElem?_eq_none h1] at hi; cases hi
  rcases h.2 with ⟨_, h0⟩ | ⟨g, cap, cur, rfl, hb, hh, hc, hm, hs, ht⟩
  · omega
  · have hr : Row w g 9 cur := hh
    refine ⟨g, cap, rfl, hr.lt, hb, ?_⟩
    have h1 : (cur.toList.take (ss.length * 1))[i]? = some (.string t) := by rw [ht, List.getElem?_map, hi]; rfl
    rw [List.getElem?_take_of_lt (by omega)] at h1
    rw [hr.cell, ← Array.getElem?_toList]
    exact h1
theorem Sts.put {w : World} {base g c i : Nat} {ss : List ByteArray} {s : ByteArray} (h : Sts w base (.slice (some ⟨g, 0, none⟩) ss.length c) ss) : Sts (w.setCell ⟨g, i, none⟩ (.string s)) base (.slice (some ⟨g, 0, none⟩) ss.length c) (ss.set i s) := by
  refine ⟨by simp, .inr ?_⟩
  rcases h.2 with ⟨e, _⟩ | ⟨g', cap, cur, e, hb, hh, hc, hm, hs, ht⟩
  · cases e
  · injection e with e1 e2 e3
    injection e1 with e1
    injection e1 with e1
    subst e1 e3
    have hr : Row w g 9 cur := hh
    refine ⟨g, c, cur.setIfInBounds i (.string s), by simp, hb, hr.put i _, by simpa using hc, hm, by simpa using hs, ?_⟩
    simp only [List.length_set] at *
    rw [Array.toList_setIfInBounds, List.take_set, ht, List.map_set]
theorem mem_set_small {ss : List ByteArray} {i M : Nat} {s : ByteArray} (h : ∀ x ∈ ss, x.size ≤ M) (hs : s.size ≤ M) : ∀ x ∈ ss.set i s, x.size ≤ M := by
  intro x hx
  rcases List.mem_or_eq_of_mem_set hx with h1 | rfl
  · exact h x h1
  · exact hs

set_option maxRecDepth 100000 in
set_option maxHeartbeats 8000000 in
theorem textOf_any (rs : List RuleD) (gv : Value) (lo hi p B : Nat) (w : World) (hs : Src w p B) (hp : p < lo) (hr : Rules w lo hi gv rs) (hh : hi ≤ w.heap.size) (h1 : 1 ≤ rs.length) (hl : rs.length ≤ 100) (hbl : ∀ r ∈ rs, r.body.length ≤ 100) :
    Calls Try.prog 130 #[.pointer (some ⟨p, 0, none⟩), .agg #[gv]] w (DrawV w p B) := by
  obtain ⟨i0, hi0, hz0, hz1, hz2⟩ := info_parts Try.infoStr
  have hpl := hs.lt
  have HR := Lib.hid hr
  have HBL := Lib.hid hbl
  obtain ⟨A, c, rfl, hlc, hc, -⟩ := hr
  have T0 : TxP w p B (.slice A rs.length c) (w.alloc (.cells #[.slice A rs.length c] 25)) := ⟨hs.own (World.grownBy_alloc w _ none) hpl (fun _ e => by cases e), grw_alloc (grw_refl p w) _, Row.made w _ _⟩
  have HT0 := Lib.hid T0
  unfold maxLen at hc
  clear hs hbl T0
  go_enter Try.func130, Try.ntmps130
  go_wp2
  generalize w.alloc (.cells #[.slice A rs.length c] 25) = w0 at HT0 ⊢
  go_loopw [5, 6, 7] (fun i _ _ wr => ∃ k : Nat, k ≤ 4 ∧ i = .int .i64 (k : Int) ∧ TxP w p B (.slice A rs.length c) wr) (fun i _ _ _ => 4 - (intOf i).toNat)
  case atStart => exact ⟨0, by omega, rfl, HT0.out⟩
  case round =>
    obtain ⟨k, hk, rfl, hT⟩ := hrel
    have HT := Lib.hid hT
    have c0 := hT.gram.cell 0
    simp at c0
    have hGl := hT.gram.lt
    have KP := keeps_grown hT.grw hp hh
    have HRW := Lib.hid (HR.out.keep KP)
    obtain ⟨b, off, rfl, hbhi, -, -, hms, hd0, -⟩ := HRW.out.at (show 0 < rs.length by omega)
    have HMS := Lib.hid hms
    have i0' : (0 : Int) < (rs.length : Int) := by omega
    have i1' : 0 < rs.length := by omega
    have hbw : b < wr.heap.size := by have := hT.grw.size; omega
    have HBP : Hid (b ≠ p) := Lib.hid (by have := (HRW.out.cells (show 0 < rs.length by omega)).1; omega)
    simp at hd0
    by_cases hlt : k < 4
    · have dk : decide ((k : Int) < 4) = true := decide_eq_true (by omega)
      have HTd : Hid (TxP w p B (.slice (some ⟨b, off, none⟩) rs.length c) wr.drew) := Lib.hid ⟨HT.out.src.heap rfl, grw_drew HT.out.grw, HT.out.gram⟩
      have HRd : Hid (Rules wr.drew lo hi (.slice (some ⟨b, off, none⟩) rs.length c) rs) := HRW
      have hsz : w.heap.size ≤ wr.drew.heap.size := hT.grw.size
      have h2w : hi ≤ wr.drew.heap.size := Nat.le_trans hh hsz
      have lgd : w.heap.size < wr.drew.heap.size := hGl
      have lbd : b < wr.drew.heap.size := hbw
      have hgp : w.heap.size ≠ p := by omega
      have hbp : b ≠ p := HBP.out
      clear hT KP hms
      go_wp2
      go_region_held3 (fun w' => w'.cell? ⟨w.heap.size, 0, none⟩ = some (.slice (some ⟨b, off, none⟩) rs.length c) ∧ w'.cell? ⟨b, off, none⟩ = some (.string rs[0].head))
        (first | go_keep | (refine ⟨?_, ?_⟩ <;> (rw [World.cell?_of_block (hg3.block _ (by first | exact lgd | exact lbd) (fun e => by injection e with e; first | exact hgp e | exact hbp e))]; assumption)))
        ((go_at_call 159; refine (word6 rs _ rs[0].head lo hi p B wr.drew HTd.out.src hp HRd.out h2w hl HBL.out HMS.out).mono ?_; rintro e w3 ⟨v, ss, ok, rfl, hS, hok, hsm, hs3, hg3⟩))
      have T3 := Lib.hid (HTd.out.grown hg3 hs3 hpl)
      have z3 := hg3.size
      cases ok with
      | false =>
        obtain ⟨Bz, dz, rfl⟩ := hS.shape
        clear hok hS hs3 hg3
        go_wp2
        go_roundw
        case rel => exact ⟨k + 1, by omega, by go_num, T3.out⟩
        case measure => simp [intOf]; omega
      | true =>
        obtain ⟨h12, g, cg, rfl⟩ := hok rfl
        have HS3 := Lib.hid (show Sts w3 w.heap.size (.slice (some ⟨g, 0, none⟩) ss.length cg) ss from hS.lower hsz)
        have HSM : Hid (∀ s ∈ ss, s.size ≤ maxLen) := Lib.hid fun s hx => by have := hsm s hx; unfold maxLen; omega
        clear hok hS hs3 hg3 hsm
        by_cases hn : ss.length = 0
        · have dn : decide ((ss.length : Int) > 0) = false := decide_eq_false (by omega)
          have FIN : Hid (DrawV w p B (.returned (.slice (some ⟨g, 0, none⟩) ss.length cg)) w3) := Lib.hid ⟨_, ss, rfl, HS3.out, by omega, HSM.out, T3.out.src, T3.out.grw⟩
          go_wp2
          exact bodyPost_ret (v := .slice (some ⟨g, 0, none⟩) ss.length cg) (by simp [results, Try.results130, go_sem]) rfl FIN.out
        · have dn : decide ((ss.length : Int) > 0) = true := decide_eq_true (by omega)
          go_wp2_with fail
          refine (one_any w3 p B 4 T3.out.src (by omega)).mono ?_
          rintro e w4 ⟨b4, rfl, hs4, ho4⟩
          have T4 := Lib.hid (T3.out.grown ho4.grown hs4 hpl)
          have HS4 := Lib.hid (Sts.only HS3.out ho4 hpl)
          clear ho4 hs4
          cases b4 with
          | false =>
            have FIN : Hid (DrawV w p B (.returned (.slice (some ⟨g, 0, none⟩) ss.length cg)) w4) := Lib.hid ⟨_, ss, rfl, HS4.out, by omega, HSM.out, T4.out.src, T4.out.grw⟩
            go_wp2
            exact bodyPost_ret (v := .slice (some ⟨g, 0, none⟩) ss.length cg) (by simp [results, Try.results130, go_sem]) rfl FIN.out
          | true =>
            go_wp2_with fail
            refine (n_any w4 p B (ss.length : Int) T4.out.src (by omega)).mono ?_
            rintro e w5 ⟨r, rfl, hr0, hr1, hs5, ho5⟩
            obtain ⟨q, rfl, hq⟩ : ∃ q : Nat, r = (q : Int) ∧ q < ss.length := by
              by_cases h : (1 : Int) < (ss.length : Int)
              · obtain ⟨a, b⟩ := hr1 h
                exact ⟨r.toNat, by omega, by omega⟩
              · exact ⟨0, hr0 (by omega), by omega⟩
            have T5 := Lib.hid (T4.out.grown ho5.grown hs5 hpl)
            have HS5 := Lib.hid (Sts.only HS4.out ho5 hpl)
            have q1 : (q : Int) < (ss.length : Int) := by omega
            clear ho5 hs5 hr0 hr1
            go_wp2_with fail
            refine (pick_any _ p B w5.heap.size [⟨#[97]⟩, ⟨#[98]⟩, ⟨#[110]⟩, ⟨#[122, 122]⟩] 4 rfl (by omega) (by omega) ((T5.out.next (al1 w5 _)).src) (Row.made w5 _ _) (by have := T5.out.src.lt; omega)).mono ?_
            rintro e w6 ⟨t, ht, rfl, hs6, ho6⟩
            have hts := size_all (M := 100) (by rfl) ht
            have T6 := Lib.hid ((T5.out.next (al1 w5 _)).grown ho6.grown hs6 hpl)
            have HS6 := Lib.hid (Sts.only (HS5.out.below (al1 w5 _)) ho6 hpl)
            clear ho6 hs6 ht
            have hcq := sts_at HS6.out (i := q) (t := ss[q]) (by rw [List.getElem?_eq_getElem hq])
            obtain ⟨g', cap', e', hg6, hb6, hc6⟩ := hcq
            injection e' with e1 _ e3
            injection e1 with e1
            injection e1 with e1
            subst e1 e3
            obtain ⟨cur, hrow⟩ : ∃ cur, Row w6 g 9 cur := by
              rcases HS6.out.2 with ⟨e, _⟩ | ⟨g2, cap2, cur, e, _, hh2, _⟩
              · cases e
              · injection e with e1 _ _
                injection e1 with e1
                injection e1 with e1
                subst e1
                exact ⟨cur, hh2⟩
            have fq := hrow.free q
            have HG6 : Hid (DrawV w p B (.returned (.slice (some ⟨g, 0, none⟩) ss.length cg)) (w6.setCell ⟨g, q, none⟩ (.string t))) := Lib.hid (by
              have e9 := T6.out
              refine ⟨_, ss.set q t, rfl, by simpa using Sts.put HS6.out, by simp; omega, mem_set_small HSM.out (by unfold maxLen; omega), e9.src.only fun k hk => Below.heap_setCell _ _ _ _ (by show k ≠ g; have := e9.src.1; omega), grw_set e9.grw hb6 _⟩)
            clear hrow
            go_wp2
            exact bodyPost_ret (v := .slice (some ⟨g, 0, none⟩) ss.length cg) (by simp [results, Try.results130, go_sem]) rfl HG6.out
    · have dk : decide ((k : Int) < 4) = false := decide_eq_false (by omega)
      have hsz : w.heap.size + 1 ≤ wr.heap.size := hGl
      have A1 := al1 wr (.cells #[] 9)
      have HT1 := Lib.hid (HT.out.next A1)
      have HS1 : Hid (Sts (wr.alloc (.cells #[] 9)) (w.heap.size + 1) (.slice (some ⟨wr.heap.size, 0, none⟩) 0 0) []) := Lib.hid (Sts.nil wr hsz)
      have HR1 := Lib.hid (HRW.out.below A1 (by omega))
      clear hT KP hms A1
      go_wp2_with fail
      generalize wr.alloc (.cells #[] 9) = w1 at HT1 HS1 HR1 ⊢
      refine (specTokens_any rs _ lo hi w1 HR1.out (by have := HT1.out.gram.lt; have := HT1.out.grw.size; omega)).mono ?_
      rintro e w2 ⟨tv, tg, rfl, ot, gt, bt⟩
      have HT2 := Lib.hid (HT1.out.next bt)
      have HS2 := Lib.hid (HS1.out.below bt)
      have TS := ot.strs gt
      have HTS := Lib.hid TS
      have z2 := bt.size
      have htz : ∀ s ∈ toksOf rs, s.size ≤ maxLen := by obtain ⟨_, _, _, _, _, hz, _⟩ := TS; exact hz
      have HTZ := Lib.hid htz
      have htn := toksOf_len rs
      obtain ⟨At, ct, rfl, htl, htm, -, -⟩ := TS
      unfold maxLen at htm
      generalize toksOf rs = ts at HTS HTZ htl htn ⊢
      have hw1 : w.heap.size < w1.heap.size := HT1.out.gram.lt
      have OB : ∀ gq, (Value.slice (some ⟨wr.heap.size, 0, none⟩) 0 0).ownBlock = some gq → gq < w1.heap.size := fun gq hq => (World.ownsRow.lt HS1.out gq hq).2
      have HOB := Lib.hid OB
      clear OB ot gt bt HT1 HS1 HR1 htz
      go_wp2_with fail
      refine (n_any w2 p B 6 HT2.out.src (by omega)).mono ?_
      rintro e w3 ⟨r, rfl, -, hr1, hs3, ho3⟩
      obtain ⟨hra, hrb⟩ := hr1 (by omega)
      obtain ⟨m6, rfl⟩ := Int.eq_ofNat_of_zero_le hra
      have HT3 := Lib.hid (HT2.out.grown ho3.grown hs3 hpl)
      have HS3 := Lib.hid (Sts.only HS2.out ho3 (by omega))
      have HTS3 := Lib.hid (HTS.out.keep (fun k h1 h2 => ho3.block k (by omega)))
      have z3 : w2.heap.size ≤ w3.heap.size := by have := ho3.size; omega
      clear hr1 hs3 ho3 HT2 HS2 HTS
      go_wp2
      go_loopw [8, 10] (fun x i wr => ∃ (k : Nat) (ss : List ByteArray), k + ss.length ≤ 6 ∧ i = .int .i64 (k : Int) ∧ Sts wr (w.heap.size + 1) x ss ∧ (∀ s ∈ ss, s.size ≤ maxLen) ∧ TxP w p B (.slice (some ⟨b, off, none⟩) rs.length c) wr ∧ Strs wr w1.heap.size w2.heap.size (.slice At ts.length ct) ts ∧ (∀ gq, x.ownBlock = some gq → gq < w1.heap.size ∨ w2.heap.size ≤ gq) ∧ w2.heap.size ≤ wr.heap.size) (fun _ i _ => (intOf i).toNat)
      case atStart => exact ⟨m6, [], by simp; omega, rfl, HS3.out, by simp, HT3.out, HTS3.out, fun gq hq => .inl (HOB.out gq hq), z3⟩
      case round =>
        rename World => wv
        obtain ⟨k, ss, hkk, rfl, hS, hsm, hT, hTS, hob, hz⟩ := hrel
        have HS := Lib.hid hS
        have HSM := Lib.hid hsm
        have HTv := Lib.hid hT
        have HTSv := Lib.hid hTS
        have HOBv := Lib.hid hob
        obtain ⟨Bv, dv, rfl⟩ := hS.shape
        clear hS hsm hT hTS hob
        have FIN : Hid (DrawV w p B (.returned (.slice Bv ss.length dv)) wv) := Lib.hid ⟨_, ss, rfl, HS.out.lower (by omega), by omega, HSM.out, HTv.out.src, HTv.out.grw⟩
        by_cases hk0 : k = 0
        · have dk9 : decide ((k : Int) > 0) = false := decide_eq_false (by omega)
          go_wp2
          exact bodyPost_ret (v := .slice Bv ss.length dv) (by simp [results, Try.results130, go_sem]) rfl FIN.out
        · have dk9 : decide ((k : Int) > 0) = true := decide_eq_true (by omega)
          by_cases ht0 : ts.length = 0
          · have dt9 : decide ((ts.length : Int) > 0) = false := decide_eq_false (by omega)
            go_wp2
            exact bodyPost_ret (v := .slice Bv ss.length dv) (by simp [results, Try.results130, go_sem]) rfl FIN.out
          · have dt9 : decide ((ts.length : Int) > 0) = true := decide_eq_true (by omega)
            clear FIN
            go_wp2_with fail
            refine (n_any wv p B (ts.length : Int) HTv.out.src (by omega)).mono ?_
            rintro e w4 ⟨r, rfl, hr0, hr1, hs4, ho4⟩
            obtain ⟨q, rfl, hq⟩ : ∃ q : Nat, r = (q : Int) ∧ q < ts.length := by
              by_cases h : (1 : Int) < (ts.length : Int)
              · obtain ⟨a, b⟩ := hr1 h
                exact ⟨r.toNat, by omega, by omega⟩
              · exact ⟨0, hr0 (by omega), by omega⟩
            have HT4 := Lib.hid (HTv.out.grown ho4.grown hs4 hpl)
            have HS4 := Lib.hid (Sts.only HS.out ho4 (by omega))
            have hTS4 := HTSv.out.keep (w' := w4) (fun k h1 h2 => ho4.block k (by omega))
            have HTS4 := Lib.hid hTS4
            have z4 : w2.heap.size ≤ w4.heap.size := by have := ho4.size; omega
            obtain ⟨bt, offt, rfl, hbt, -, -, hct⟩ := strs_at hTS4 hq
            have q1 : (q : Int) < (ts.length : Int) := by omega
            have HZ4 := Lib.hid (HTZ.out _ (List.getElem_mem hq))
            have hbt4 : bt < w4.heap.size := by omega
            clear hr0 hr1 hs4 ho4 hTS4
            go_wp2_with (at_builtin; refine wpList_append_own_at _ rfl _ _ 34 rfl (w.heap.size + 1) 9 i0 (.string ByteArray.empty) 1 16 Try.underlying34 hi0 hz0 hz1 hz2 rfl (by decide) (.slice Bv ss.length dv) ss.length (ss.map Value.string) rfl (World.ownsRow.alloc HS4.out _) ⟨w4.heap.size, 0, none⟩ 1 1 [.string ts[q]] rfl rfl (cell_one_new _ _ _) (one_str _) (by unfold maxLen; omega) (by omega) (by simp; omega) ?_)
            intro v1 w5 hown5 hg5 _ hob5
            have HT5 := Lib.hid ((HT4.out.next (al1 w4 (.cells #[.string ts[q]] 9))).own hg5 (World.ownsRow.alloc HS4.out _) (by omega) hpl)
            have HS5 := Lib.hid (Sts.one ts[q] hown5)
            have HTS5 := Lib.hid ((HTS4.out.below (al1 w4 (.cells #[.string ts[q]] 9)) z4).keep (fun k h1 h2 => hg5.block k (by simp; omega) (fun e => by have := HOBv.out k e.symm; omega)))
            have HOB5 : Hid (∀ gq, v1.ownBlock = some gq → gq < w1.heap.size ∨ w2.heap.size ≤ gq) := Lib.hid fun gq hq9 => by
              rcases hob5 with e | e
              · exact HOBv.out gq (by rw [← e]; exact hq9)
              · rw [e] at hq9
                injection hq9 with hq9
                have z9 : (w4.alloc (.cells #[.string ts[q]] 9)).heap.size = w4.heap.size + 1 := by simp
                omega
            have z5 : w2.heap.size ≤ w5.heap.size := by have := hg5.size; simp at this; omega
            have HM5 : Hid (∀ s ∈ ss ++ [ts[q]], s.size ≤ maxLen) := Lib.hid fun s hx => by
              rw [List.mem_append, List.mem_singleton] at hx
              rcases hx with hx | rfl
              · exact HSM.out s hx
              · exact HZ4.out
            have HJ : Hid (((k : Int) - 1) = ((k - 1 : Nat) : Int)) := Lib.hid (by omega)
            clear hown5 hg5 hob5
            go_wp2
            go_roundw
            case rel => exact ⟨k - 1, _, by simp; omega, by rw [← HJ.out], HS5.out, HM5.out, HT5.out, HTS5.out, HOB5.out, z5⟩
            case measure => simp [intOf]; omega
end Go.Proofs.Ytonfiahihmcmlaa.Dr
