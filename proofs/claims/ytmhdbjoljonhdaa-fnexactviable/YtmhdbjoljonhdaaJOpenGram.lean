import Derived.Test.YtmhdbjoljonhdaaSp4
import Derived.Test.YtmhdbjoljonhdaaJWder
import Derived.Test.YtmhdbjoljonhdaaReachI
import Derived.Test.YtmhdbjoljonhdaaJVc
import Derived.Test.YtmhdbjoljonhdaaWvia
import Derived.Deep.RegionHeld3
import Derived.Test.YtmhdbjoljonhdaaWords
import Derived.WalkKit
import Derived.WalkSpells
import Derived.WalkLawsBesides
import Derived.Test.YtmhdbjoljonhdaaToc
import Derived.Test.YtmhdbjoljonhdaaEq
import Derived.ProofKit
import Derived.OpenShut
import Derived.ShutString
import Derived.ChangeOld
import Derived.Deep.Strs
import Derived.Deep.SlicePairs
import Derived.Deep.Fields
/- The model's Derives. -/
namespace Go.Proofs.Ytmhdbjoljonhdaa
open Go.RowKit

theorem hs_start {rs : List RuleD} (R : Rt rs) (h : 0 < (hsOf rs).length) : (hsOf rs)[0] = (ruleAt rs 0).head := by
  have h0 := headsTo_first R.one (k := rs.length) R.one (Nat.le_refl _)
  change (hsOf rs)[0]? = _ at h0
  rw [List.getElem?_eq_getElem h] at h0
  injection h0 with h0
  rw [h0, ruleAt_eq R.one]
open Classical in
theorem derB_tab {rs : List RuleD} {t : List ByteArray} {T : TabF} (hg : gramB rs = true) (ht : textB t = true) (S : TSound rs t T) (C : TClosed rs t T) : T 0 t.length = derB rs t := by
  have R := Rt.of hg
  have hp : 0 < (hsOf rs).length := List.length_pos_of_mem (hs_all (rs := rs) (i := 0) R.one)
  have := tab_tells S C (tok_no_head R ((textB_iff t).1 ht).2) hp (k := 0) (e := t.length) (by omega) (Nat.le_refl _)
  rw [hs_start R hp, show 13 * 0 + t.length = t.length by omega] at this
  unfold derB
  rw [hg, ht, Bool.eq_iff_iff, this, Bool.true_and, Bool.true_and, decide_eq_true_iff]
  exact Iff.rfl

set_option maxRecDepth 100000 in
set_option maxHeartbeats 4000000 in
theorem specDerives_any (rs : List RuleD) (t : List ByteArray) (v tv : Value) (lo hi lo2 hi2 : Nat) (w : World) (h : Rules w lo hi v rs) (hh : hi ≤ w.heap.size) (h2 : Strs w lo2 hi2 tv t) (hh2 : hi2 ≤ w.heap.size) :
    Calls Try.prog 36 #[.agg #[v], tv] w fun e w' => e = .returned (.bool (derB rs t)) ∧ Below w.heap.size w w' := by
  have HV := Lib.hid h
  have HW := Lib.hid h2
  obtain ⟨A, c, rfl, -⟩ := h
  obtain ⟨B, d, rfl, -⟩ := h2
  have hb := al1 w (.cells #[.slice A rs.length c] 25)
  have R0 := Row.made w 25 #[.slice A rs.length c]
  have HB := Lib.hid hb
  have HR0 := Lib.hid R0
  have hsz : (w.alloc (.cells #[.slice A rs.length c] 25)).heap.size = w.heap.size + 1 := by simp
  have HSZ := Lib.hid hsz
  clear hb R0 hsz
  cases hq : gramB rs
  · have HE := Lib.hid (derB_no (rs := rs) (t := t) (by rw [hq]; rfl))
    have HQ := Lib.hid hq
    clear hq
    go_enter Try.func36, Try.ntmps36
    go_wp2_with fail
    refine (specGramRight_any rs _ lo hi _ (HV.out.below HB.out hh) (by rw [HSZ.out]; omega)).mono ?_
    rintro _ w1 ⟨rfl, b1⟩
    rw [HQ.out]
    go_wp2
    go_ret
    exact ⟨ret_bool HE.out.symm, HB.out.trans (b1.mono (by rw [HSZ.out]; omega))⟩
  · cases ht : textB t
    · have HE := Lib.hid (derB_no (rs := rs) (t := t) (by rw [ht, Bool.and_false]))
      have HQ := Lib.hid hq
      have HT := Lib.hid ht
      clear hq ht
      go_enter Try.func36, Try.ntmps36
      go_wp2_with fail
      refine (specGramRight_any rs _ lo hi _ (HV.out.below HB.out hh) (by rw [HSZ.out]; omega)).mono ?_
      rintro _ w1 ⟨rfl, b1⟩
      rw [HQ.out]
      have B1 := HB.out.trans (b1.mono (by rw [HSZ.out]; omega))
      have HB1 := Lib.hid B1
      have z1 := B1.size
      clear B1 b1
      go_wp2_with fail
      refine (specText_any t _ lo2 hi2 _ (HW.out.below HB1.out hh2) (by omega)).mono ?_
      rintro _ w2 ⟨rfl, b2⟩
      rw [HT.out]
      go_wp2
      go_ret
      exact ⟨ret_bool HE.out.symm, HB1.out.trans (b2.mono (by omega))⟩
    · have HQ := Lib.hid hq
      have HT := Lib.hid ht
      have h12 := ((textB_iff t).1 ht).1
      have hhpos : 0 < (hsOf rs).length := List.length_pos_of_mem (hs_all (rs := rs) (i := 0) (Rt.of hq).one)
      clear hq ht
      go_enter Try.func36, Try.ntmps36
      go_wp2_with fail
      refine (specGramRight_any rs _ lo hi _ (HV.out.below HB.out hh) (by rw [HSZ.out]; omega)).mono ?_
      rintro _ w1 ⟨rfl, b1⟩
      rw [HQ.out]
      have B1 := HB.out.trans (b1.mono (by rw [HSZ.out]; omega))
      have r1 := HR0.out.below b1 HR0.out.lt
      have HB1 := Lib.hid B1
      have HR1 := Lib.hid r1
      have z1 := B1.size
      clear B1 b1 r1
      go_wp2_with fail
      refine (specText_any t _ lo2 hi2 _ (HW.out.below HB1.out hh2) (by omega)).mono ?_
      rintro _ w2 ⟨rfl, b2⟩
      rw [HT.out]
      have B2 := HB1.out.trans (b2.mono (by omega))
      have r2 := HR1.out.below b2 HR1.out.lt
      have q2 := r2.cell 0
      simp at q2
      have l2 := r2.lt
      have HB2 := Lib.hid B2
      have z2 := B2.size
      clear B2 b2 r2
      go_wp2_with fail
      refine (specFill_any rs t _ _ lo hi lo2 hi2 _ (HV.out.below HB2.out hh) (by omega) (HW.out.below HB2.out hh2) (by omega) HQ.out HT.out).mono ?_
      rintro _ w3 ⟨p, Ah, ch, G, cG, hi3, R, T, rfl, htab, hS, hC, hI, -, b3⟩
      obtain ⟨rb, y0, y1, y2, y3⟩ := htab.cells (q := t.length) hhpos (by omega)
      rw [derB_tab HQ.out HT.out hS hC] at y2
      have lp := htab.box.lt
      have lG := htab.lt.1
      have hcG := htab.cap
      unfold maxLen at hcG
      have B3 := Lib.hid (HB2.out.trans (b3.mono (by omega)))
      have i1 : (0 : Int) < ((hsOf rs).length : Int) := by omega
      have i2 : (t.length : Int) < 169 := by omega
      clear htab hS hC hI b3
      go_wp2
      go_ret
      exact ⟨rfl, B3.out⟩
end Go.Proofs.Ytmhdbjoljonhdaa

/- The walk of l04Begins. -/
namespace Go.Proofs.Ytmhdbjoljonhdaa
open Go.RowKit

theorem makeBoolsX (n : Nat) (hn : n ≤ 20) (W : World) : (Instr.makeSlice 84 (.int .i64 ((n : Int) * 13)) (.int .i64 ((n : Int) * 13))).run Try.prog W = .ok (.slice (some ⟨W.heap.size, 0, none⟩) (n * 13) (n * 13)) (W.alloc (.cells (cellsB (fun _ => false) (n * 13)) 4)) := by
  have := makeBools (n * 13) (by omega) W
  rw [cellsB_made] at this
  rw [show ((n * 13 : Nat) : Int) = (n : Int) * 13 by omega] at this
  exact this
/-- the list at work -/
structure BW (gb : Nat) (w3 : World) (rs : List RuleD) (u : List ByteArray) (Bg : Nat → Bool) (wr : World) : Prop where
  row : Row wr gb 4 (cellsB Bg ((hsOf rs).length * 13))
  sound : BSound rs u Bg
  low : Below gb w3 wr
section
variable {gb : Nat} {w3 wr w' : World} {rs : List RuleD} {u : List ByteArray} {Bg : Nat → Bool}
theorem BW.below (h : BW gb w3 rs u Bg wr) (k : Below wr.heap.size wr w') : BW gb w3 rs u Bg w' :=
  ⟨h.row.below k h.row.lt, h.sound, h.low.trans (k.mono (Nat.le_of_lt h.row.lt))⟩
theorem BW.set (h : BW gb w3 rs u Bg wr) {i f : Nat} (hf : f ≤ u.length) (h12 : u.length ≤ 12) (hd : ∀ h : i < (hsOf rs).length, Beg (· ∈ frs rs) u u.length (hsOf rs)[i] f) : BW gb w3 rs u (setB Bg (13 * i + f)) (wr.setCell ⟨gb, 13 * i + f, none⟩ (.bool true)) := by
  refine ⟨?_, h.sound.set hf h12 hd, h.low.setCell (Nat.le_refl _) _⟩
  have := h.row.put (13 * i + f) (.bool true)
  rw [cellsB_put] at this
  exact this
end
def MadeB (w : World) (rs : List RuleD) (u : List ByteArray) (e : Ending) (w' : World) : Prop := ∃ g, e = .returned (.slice (some ⟨g, 0, none⟩) ((hsOf rs).length * 13) ((hsOf rs).length * 13)) ∧ g < w'.heap.size ∧ w'.cell? ⟨g, 0, none⟩ = some (.bool (yesB (Beg (· ∈ frs rs) u u.length (ruleAt rs 0).head 0))) ∧ Below w.heap.size w w'

set_option maxRecDepth 100000 in
set_option maxHeartbeats 16000000 in
theorem specBegins_any (rs : List RuleD) (t : List ByteArray) (v tv : Value) (lo hi lo2 hi2 : Nat) (w : World) (h : Rules w lo hi v rs) (hh : hi ≤ w.heap.size) (h2 : Strs w lo2 hi2 tv t) (hh2 : hi2 ≤ w.heap.size) (hg : gramB rs = true) (ht : textB t = true) :
    Calls Try.prog 84 #[.agg #[v], tv] w (MadeB w rs t) := by
  have R := Rt.of hg
  have h12 := ((textB_iff t).1 ht).1
  have HTK := Lib.hid ((textB_iff t).1 ht).2
  have hpos := R.one
  have h20 := R.few
  have hhl := R.hs_len
  have hmk := makeBoolsX (hsOf rs).length hhl
  have HRT := Lib.hid R
  have HQ := Lib.hid hg
  have HT := Lib.hid ht
  have HV := Lib.hid h
  have HW := Lib.hid h2
  obtain ⟨A, c, rfl, hlc, hc, -⟩ := h
  obtain ⟨B, d, rfl, hld, hd, -, -⟩ := h2
  unfold maxLen at hc hd
  have hb := al1 w (.cells #[.slice A rs.length c] 25)
  have R0 := Row.made w 25 #[.slice A rs.length c]
  have HB := Lib.hid hb
  have HR0 := Lib.hid R0
  have hsz : (w.alloc (.cells #[.slice A rs.length c] 25)).heap.size = w.heap.size + 1 := by simp
  have HSZ := Lib.hid hsz
  have hhpos : 0 < (hsOf rs).length := List.length_pos_of_mem (hs_all (rs := rs) (i := 0) (by omega))
  clear hb R0 hsz R hg ht
  go_enter Try.func84, Try.ntmps84
  go_wp2_with fail
  refine (specFill_any rs t _ _ lo hi lo2 hi2 _ (HV.out.below HB.out hh) (by rw [HSZ.out]; omega) (HW.out.below HB.out hh2) (by rw [HSZ.out]; omega) HQ.out HT.out).mono ?_
  rintro _ w1 ⟨p, Ah, ch, G, cG, hi3, R, T, rfl, htab, hS, hC, -, -, b1⟩
  have B1 := HB.out.trans (b1.mono (by rw [HSZ.out]; omega))
  have r1 := HR0.out.below b1 HR0.out.lt
  have q1 := r1.cell 0
  simp at q1
  have l1 := r1.lt
  have HTAB := Lib.hid htab
  have HS := Lib.hid hS
  have HC := Lib.hid hC
  have HB1 := Lib.hid B1
  have HR1 := Lib.hid r1
  have z1 := B1.size
  have lp1 := htab.box.lt
  clear htab hS hC b1 B1 r1
  go_wp2_with fail
  refine (specFix_any rs _ true lo hi _ (HV.out.below HB1.out hh) (by omega) HQ.out).mono ?_
  rintro _ w2 ⟨u2, g2, rfl, ho2, hg2, b2⟩
  have HG2 := Lib.hid (ho2.strs (lo := 0) (hi := w2.heap.size) fun hn => ⟨Nat.zero_le _, (hg2 hn).2⟩)
  have z2 := b2.size
  have HB2 := Lib.hid (HB1.out.trans (b2.mono z1))
  have HB12 := Lib.hid b2
  have r2 := HTAB.out.box.below b2 lp1
  have q2 := r2.cell 0
  simp at q2
  have l2 := r2.lt
  have hA := al1 w2 (.cells (cellsB (fun _ => false) ((hsOf rs).length * 13)) 4)
  have RB := Row.made w2 4 (cellsB (fun _ => false) ((hsOf rs).length * 13))
  have HA := Lib.hid hA
  have W0 : BW w2.heap.size (w2.alloc (.cells (cellsB (fun _ => false) ((hsOf rs).length * 13)) 4)) rs t (fun _ => false) (w2.alloc (.cells (cellsB (fun _ => false) ((hsOf rs).length * 13)) 4)) := ⟨RB, (fun _ _ _ _ h => by cases h), Below.refl _ _⟩
  have HW0 := Lib.hid W0
  have HR2 := Lib.hid ((HR1.out.below b2 l1).below hA (by omega))
  clear ho2 hg2 b2 r2 hA RB W0
  obtain ⟨Au, cu, eu, hlu, hcu, -⟩ := id HG2.out
  subst eu
  go_wp2
  generalize hw3 : w2.alloc (.cells (cellsB (fun _ => false) ((hsOf rs).length * 13)) 4) = w3 at *
  clear hw3
  generalize hgb : w2.heap.size = gb at *
  have HGB := Lib.hid hgb
  clear hgb
  go_loopg [8, 9, 10, 11, 12] (2 * emptyAt (fun _ => false) ((hsOf rs).length * 13) + 1) (fun gk x8 _ _ _ _ wr => ∃ (Bg : Nat → Bool) (ag : Bool), x8 = .bool ag ∧ BW gb w3 rs t Bg wr ∧ (ag = false → BDid rs t T Bg rs.length 0) ∧ 2 * emptyAt Bg ((hsOf rs).length * 13) + (if ag = true then 1 else 0) = gk)
  case atStart => exact ⟨_, true, rfl, HW0.out, (fun h => by cases h), by simp⟩
  case round =>
    obtain ⟨B0, ag, rfl, hW0, hC0, hgk⟩ := hrel
    have HX0 := Lib.hid hW0
    have HC0 := Lib.hid hC0
    have HGK := Lib.hid hgk
    clear hW0 hC0 hgk HW0
    cases ag
    · have HFIN := Lib.hid (begins_tells HX0.out.sound (HC0.out rfl) HS.out HC.out HRT.out HTK.out hhpos (f := 0) (by omega))
      go_wp2
      go_ret
      refine ⟨gb, rfl, HX0.out.row.lt, ?_, HB2.out.trans ((HA.out.mono (by have := HGB.out; omega)).trans (HX0.out.low.mono (by have := HGB.out; omega)))⟩
      rw [HX0.out.row.cell, cellsB_get (by omega)]
      congr 2
      rw [Bool.eq_iff_iff, yesB_iff, ← hs_start HRT.out hhpos]
      exact HFIN.out
    · go_wp2
      go_loopw [8, 9, 10, 11, 12] (fun x8 x9 _ _ _ wr => ∃ (i : Nat) (Bg : Nat → Bool) (ag : Bool), i ≤ rs.length ∧ x9 = .int .i64 (i : Int) ∧ x8 = .bool ag ∧ BW gb w3 rs t Bg wr ∧ FlagB ((hsOf rs).length * 13) B0 Bg ag (BDid rs t T B0 i 0)) (fun _ x _ _ _ _ => rs.length - (intOf x).toNat)
      case atStart => exact ⟨0, B0, false, by omega, rfl, rfl, HX0.out, ⟨fun _ => ⟨rfl, BDid.zero⟩, fun h => by cases h⟩⟩
      case round =>
        obtain ⟨i, B3, ag3, hi3', rfl, rfl, hW3, hF3⟩ := hrel
        rename World => x3
        have HW3 := Lib.hid hW3
        have HF3 := Lib.hid hF3
        have hl3 := hW3.low
        have lgb3 := hW3.row.lt
        have HL3 := Lib.hid hl3
        have r03 := HR2.out.below hl3 (by have := HGB.out; omega)
        have g03 := r03.cell 0
        simp at g03
        have l03 := r03.lt
        have HBX : Hid (Below w.heap.size w x3) := Lib.hid (HB2.out.trans ((HA.out.mono (by have := HGB.out; omega)).trans (hl3.mono (by have := HGB.out; omega))))
        have zx3 := HBX.out.size
        clear hW3 hF3 hl3 r03
        by_cases hlt : i < rs.length
        · obtain ⟨b, off, rfl, hbh, hlc', hcm', hhz, hch', Bb, db, hcb, hsb⟩ := (HV.out.below HBX.out hh).at hlt
          have hbx : b < x3.heap.size := by omega
          have HSB := Lib.hid hsb
          have hal := al1 x3 (.cells #[.string rs[i].head, .slice Bb rs[i].body.length db] 39)
          have RR := Row.made x3 39 #[.string rs[i].head, .slice Bb rs[i].body.length db]
          have HAL := Lib.hid hal
          have HRR := Lib.hid RR
          have HW4 := Lib.hid (HW3.out.below hal)
          have hix := hIx_lt (hs_all hlt)
          have HX := Lib.hid (hIx_at (hs_all hlt))
          have HTB4 : Hid (Below w1.heap.size w1 (x3.alloc (.cells #[.string rs[i].head, .slice Bb rs[i].body.length db] 39))) := Lib.hid ((HB12.out.trans ((HA.out.mono (by have := HGB.out; omega)).trans (HL3.out.mono (by have := HGB.out; omega)))).trans (hal.mono (by omega)))
          have hz4 : (x3.alloc (.cells #[.string rs[i].head, .slice Bb rs[i].body.length db] 39)).heap.size = x3.heap.size + 1 := by simp
          have HZ4 := Lib.hid hz4
          have HBL := Lib.hid (HRT.out.len i hlt)
          clear hsb hal RR hz4
          go_wp2_with fail
          refine (tabAt_any (hsOf rs) rs[i].head p hi3 Ah ch _ _ (HTAB.out.box.below HTB4.out lp1) (HTAB.out.heads.below HTB4.out HTAB.out.lt.2)).mono ?_
          rintro _ _ ⟨rfl, rfl⟩
          rw [atZ_in (hs_all hlt)]
          go_wp2
          generalize hx4 : x3.alloc (.cells #[.string rs[i].head, .slice Bb rs[i].body.length db] 39) = x4 at *
          clear hx4
          have hz4 := HZ4.out
          have HXZ := Lib.hid hz4
          clear HZ4 hz4
          go_loopw [8, 12] (fun x8 x12 wr => ∃ (f : Nat) (Bg : Nat → Bool) (ag : Bool), f ≤ t.length + 1 ∧ x12 = .int .i64 (f : Int) ∧ x8 = .bool ag ∧ BW gb w3 rs t Bg wr ∧ FlagB ((hsOf rs).length * 13) B0 Bg ag (BDid rs t T B0 i f) ∧ Row wr x3.heap.size 39 #[.string rs[i].head, .slice Bb rs[i].body.length db]) (fun _ x _ => t.length + 1 - (intOf x).toNat)
          case atStart => exact ⟨0, B3, ag3, by omega, rfl, rfl, HW4.out, HF3.out, HRR.out⟩
          case round =>
            obtain ⟨f, B5, ag5, hf5, rfl, rfl, hW5, hF5, hR5⟩ := hrel
            rename World => x5
            have HW5 := Lib.hid hW5
            have HF5 := Lib.hid hF5
            have HR5 := Lib.hid hR5
            have hl5 := hW5.low
            have lgb5 := hW5.row.lt
            have zg := HGB.out
            have HBX5 : Hid (Below w.heap.size w x5) := Lib.hid (HB2.out.trans ((HA.out.mono (by omega)).trans (hl5.mono (by omega))))
            have HTB5 : Hid (Below w1.heap.size w1 x5) := Lib.hid (HB12.out.trans ((HA.out.mono (by omega)).trans (hl5.mono (by omega))))
            have HGD5 : Hid (Strs x5 0 gb (.slice Au (comOf true rs).length cu) (comOf true rs)) := Lib.hid ((HG2.out.below HA.out (by omega)).below hl5 (Nat.le_refl _))
            have zx5 := HBX5.out.size
            have zt5 := HTB5.out.size
            have r5 := hR5.cell 1
            simp at r5
            have lr5 := hR5.lt
            clear zg
            by_cases hlf : f ≤ t.length
            · have i4 : (f : Int) ≤ (t.length : Int) := by omega
              have i7 : (13 * (hIx (hsOf rs) rs[i].head : Int) + (f : Int)) < (((hsOf rs).length * 13 : Nat) : Int) := by omega
              have i8 : (13 * (hIx (hsOf rs) rs[i].head : Int) + (f : Int)).toNat = 13 * hIx (hsOf rs) rs[i].head + f := by omega
              have a1 := hW5.row.cell (13 * hIx (hsOf rs) rs[i].head + f)
              rw [cellsB_get (by omega)] at a1
              have af := hW5.row.free (13 * hIx (hsOf rs) rs[i].head + f)
              cases hbq : B5 (13 * hIx (hsOf rs) rs[i].head + f)
              · rw [hbq] at a1
                have HBQ := Lib.hid hbq
                clear hW5 hF5 hR5 hl5 hbq
                have HSB5 : Hid (Strs x5 lo hi (.slice Bb rs[i].body.length db) rs[i].body) := Lib.hid (HSB.out.keep fun k _ h2 => (HBX5.out.block k (by omega)).trans (HBX.out.block k (by omega)).symm)
                go_wp2_with fail
                refine (specBody_any rs t rs[i].body (comOf true rs) T B5 R p Ah ch G cG hi3 gb _ _ _ lo hi lo2 hi2 0 gb f _ (HTAB.out.below HTB5.out) HSB5.out (by omega) (HW.out.below HBX5.out hh2) (by omega) HGD5.out HW5.out.row hlf h12 HBL.out hhl).mono ?_
                rintro _ x6 ⟨rfl, b6⟩
                have HW6 := Lib.hid (HW5.out.below b6)
                have HR6 := Lib.hid (HR5.out.below b6 lr5)
                have z6 := b6.size
                have a6 := HW6.out.row.cell (13 * hIx (hsOf rs) rs[i].head + f)
                rw [cellsB_get (by omega), HBQ.out] at a6
                have f6 := HW6.out.row.free (13 * hIx (hsOf rs) rs[i].head + f)
                have l6 := HW6.out.row.lt
                clear b6
                cases hans : (allB rs[i].body (comOf true rs) true && yesB (bodyP T rs t B5 rs[i].body f))
                · have HNF := Lib.hid (HF5.out.more (D' := BDid rs t T B0 i (f + 1)) fun e hd => hd.step fun _ hin hb => by
                    rw [← (HF5.out.no e).1] at hb
                    rw [(good_all HQ.out hlt).2 hin, yesB_t hb] at hans
                    cases hans)
                  clear hans
                  go_wp2
                  go_roundw
                  case rel => exact ⟨f + 1, B5, ag5, by omega, by go_num, rfl, HW6.out, HNF.out, HR6.out⟩
                  case measure => simp [intOf]; omega
                · have hin := (good_all HQ.out hlt).1 (by revert hans; cases allB rs[i].body (comOf true rs) true <;> simp)
                  have hbp : bodyP T rs t B5 rs[i].body f := yesB_iff.1 (by revert hans; cases yesB (bodyP T rs t B5 rs[i].body f) <;> simp)
                  have HN := Lib.hid (HW6.out.set (i := hIx (hsOf rs) rs[i].head) (f := f) hlf h12 fun hq => by
                    rw [HX.out]
                    exact HW6.out.sound.body HS.out HTK.out hlt hin hbp)
                  have HNF := Lib.hid (HF5.out.set (D' := BDid rs t T B0 i (f + 1)) (q := 13 * hIx (hsOf rs) rs[i].head + f) (by omega) HBQ.out)
                  have HNR := Lib.hid (HR6.out.away (p := ⟨gb, 13 * hIx (hsOf rs) rs[i].head + f, none⟩) (HR6.out.apart HW6.out.row (by decide)) (.bool true))
                  clear hans hin hbp
                  go_wp2
                  go_roundw
                  case rel => exact ⟨f + 1, _, true, by omega, by go_num, rfl, HN.out, HNF.out, HNR.out⟩
                  case measure => simp [intOf]; omega
              · rw [hbq] at a1
                have HNF := Lib.hid (hF5.more (D' := BDid rs t T B0 i (f + 1)) fun e hd => hd.step fun _ _ _ => by rw [← (hF5.no e).1]; exact hbq)
                clear hW5 hF5 hR5 hl5 hbq
                go_wp2
                go_roundw
                case rel => exact ⟨f + 1, B5, ag5, by omega, by go_num, rfl, HW5.out, HNF.out, HR5.out⟩
                case measure => simp [intOf]; omega
            · have i4 : ¬ (f : Int) ≤ (t.length : Int) := by omega
              have HNF := Lib.hid (hF5.more (D' := BDid rs t T B0 (i + 1) 0) fun e hd => by rw [show f = t.length + 1 by omega] at hd; exact hd.rule)
              clear hW5 hF5 hR5 hl5
              go_wp2
              go_roundw
              case rel => exact ⟨i + 1, B5, ag5, by omega, by go_num, rfl, HW5.out, HNF.out⟩
              case measure => simp [intOf]; omega
        · have HNF : Hid (FlagB ((hsOf rs).length * 13) B0 B3 ag3 (BDid rs t T B0 rs.length 0)) := Lib.hid (HF3.out.more fun e hd => by rw [show i = rs.length by omega] at hd; exact hd)
          clear HF3
          go_wp2
          go_roundg (2 * emptyAt B3 ((hsOf rs).length * 13) + (if ag3 = true then 1 else 0))
          case measure =>
            have := HGK.out
            cases ag3
            · have e := (HNF.out.no rfl).1
              rw [e]
              simp at *
              omega
            · have e := HNF.out.yes rfl
              simp at *
              omega
          case rel => exact ⟨B3, ag3, rfl, HW3.out, fun e => by rw [(HNF.out.no e).1]; exact (HNF.out.no e).2, rfl⟩
end Go.Proofs.Ytmhdbjoljonhdaa

/- The model's Viable. -/
namespace Go.Proofs.Ytmhdbjoljonhdaa
open Go.RowKit

open Classical in
noncomputable def downB (p : Nat → Prop) : Nat → Int
  | 0 => -1
  | n + 1 => if p n then (n : Int) else downB p n
theorem lastB_down (p : Nat → Prop) (n : Nat) : lastB p n = downB p (n + 1) := by
  induction n with
  | zero => unfold lastB downB downB; rfl
  | succ n ih => unfold lastB downB; rw [ih]
theorem downB_t {p : Nat → Prop} {n : Nat} (h : p n) : downB p (n + 1) = n := by unfold downB; rw [if_pos h]
theorem downB_f {p : Nat → Prop} {n : Nat} (h : ¬ p n) : downB p (n + 1) = downB p n := by rw [downB, if_neg h]
theorem textB_take {t : List ByteArray} (h : textB t = true) (n : Nat) : textB (t.take n) = true := by
  obtain ⟨h1, h2⟩ := (textB_iff t).1 h
  exact (textB_iff _).2 ⟨by rw [List.length_take]; omega, fun s hs => h2 s (List.mem_of_mem_take hs)⟩
theorem begP_take {rs : List RuleD} {t : List ByteArray} {n : Nat} (hn : n ≤ t.length) : Beg (· ∈ frs rs) (t.take n) (t.take n).length (ruleAt rs 0).head 0 ↔ BegP rs t n := by
  rw [List.length_take, Nat.min_eq_left hn]
  exact ⟨fun h => h.uncut, fun h => h.cut⟩

set_option maxRecDepth 100000 in
set_option maxHeartbeats 4000000 in
theorem specViable_any (rs : List RuleD) (t : List ByteArray) (v tv : Value) (lo hi lo2 hi2 : Nat) (w : World) (h : Rules w lo hi v rs) (hh : hi ≤ w.heap.size) (h2 : Strs w lo2 hi2 tv t) (hh2 : hi2 ≤ w.heap.size) :
    Calls Try.prog 37 #[.agg #[v], tv] w fun e w' => e = .returned (.int .i64 (viaZ rs t)) ∧ Below w.heap.size w w' := by
  have HV := Lib.hid h
  have HW := Lib.hid h2
  obtain ⟨A, c, rfl, -⟩ := h
  obtain ⟨B, d, rfl, hld, hd, -⟩ := h2
  unfold maxLen at hd
  have hb := al1 w (.cells #[.slice A rs.length c] 25)
  have R0 := Row.made w 25 #[.slice A rs.length c]
  have HB := Lib.hid hb
  have HR0 := Lib.hid R0
  have hsz : (w.alloc (.cells #[.slice A rs.length c] 25)).heap.size = w.heap.size + 1 := by simp
  have HSZ := Lib.hid hsz
  clear hb R0 hsz
  cases hq : gramB rs
  · have HE := Lib.hid (viaZ_no (rs := rs) (t := t) (by rw [hq]; rfl))
    have HQ := Lib.hid hq
    clear hq
    go_enter Try.func37, Try.ntmps37
    go_wp2_with fail
    refine (specGramRight_any rs _ lo hi _ (HV.out.below HB.out hh) (by rw [HSZ.out]; omega)).mono ?_
    rintro _ w1 ⟨rfl, b1⟩
    rw [HQ.out]
    go_wp2
    go_ret
    rw [HE.out]
    exact ⟨rfl, HB.out.trans (b1.mono (by rw [HSZ.out]; omega))⟩
  · cases ht : textB t
    · have HE := Lib.hid (viaZ_no (rs := rs) (t := t) (by rw [ht, Bool.and_false]))
      have HQ := Lib.hid hq
      have HT := Lib.hid ht
      clear hq ht
      go_enter Try.func37, Try.ntmps37
      go_wp2_with fail
      refine (specGramRight_any rs _ lo hi _ (HV.out.below HB.out hh) (by rw [HSZ.out]; omega)).mono ?_
      rintro _ w1 ⟨rfl, b1⟩
      rw [HQ.out]
      have B1 := HB.out.trans (b1.mono (by rw [HSZ.out]; omega))
      have HB1 := Lib.hid B1
      have z1 := B1.size
      clear B1 b1
      go_wp2_with fail
      refine (specText_any t _ lo2 hi2 _ (HW.out.below HB1.out hh2) (by omega)).mono ?_
      rintro _ w2 ⟨rfl, b2⟩
      rw [HT.out]
      go_wp2
      go_ret
      rw [HE.out]
      exact ⟨rfl, HB1.out.trans (b2.mono (by omega))⟩
    · have HE := Lib.hid ((viaZ_yes hq ht).trans (lastB_down _ _))
      have HQ := Lib.hid hq
      have HT := Lib.hid ht
      have h12 := ((textB_iff t).1 ht).1
      have hhpos : 0 < (hsOf rs).length := List.length_pos_of_mem (hs_all (rs := rs) (i := 0) (Rt.of hq).one)
      have hhl := (Rt.of hq).hs_len
      clear hq ht
      go_enter Try.func37, Try.ntmps37
      go_wp2_with fail
      refine (specGramRight_any rs _ lo hi _ (HV.out.below HB.out hh) (by rw [HSZ.out]; omega)).mono ?_
      rintro _ w1 ⟨rfl, b1⟩
      rw [HQ.out]
      have B1 := HB.out.trans (b1.mono (by rw [HSZ.out]; omega))
      have r1 := HR0.out.below b1 HR0.out.lt
      have HB1 := Lib.hid B1
      have HR1 := Lib.hid r1
      have z1 := B1.size
      clear B1 b1 r1
      go_wp2_with fail
      refine (specText_any t _ lo2 hi2 _ (HW.out.below HB1.out hh2) (by omega)).mono ?_
      rintro _ w2 ⟨rfl, b2⟩
      rw [HT.out]
      have B2 := HB1.out.trans (b2.mono (by omega))
      have r2 := HR1.out.below b2 HR1.out.lt
      have HB2 := Lib.hid B2
      have HR2 := Lib.hid r2
      have l2 := r2.lt
      have z2 := B2.size
      clear B2 b2 r2
      go_wp2
      go_loopw [5] (fun x wr => ∃ m : Nat, m ≤ t.length + 1 ∧ x = .int .i64 ((m : Int) - 1) ∧ downB (BegP rs t) (t.length + 1) = downB (BegP rs t) m ∧ Below w2.heap.size w2 wr) (fun x _ => (intOf x + 1).toNat)
      case atStart => exact ⟨t.length + 1, Nat.le_refl _, by go_num, rfl, Below.refl _ _⟩
      case round =>
        obtain ⟨m, hm, rfl, hdn, hbw⟩ := hrel
        rename World => wr
        have HDN := Lib.hid hdn
        have HBW := Lib.hid hbw
        have zw := hbw.size
        clear hdn
        cases m with
        | zero =>
          clear hbw
          go_wp2
          go_ret
          rw [HE.out, HDN.out]
          exact ⟨rfl, HB2.out.trans (HBW.out.mono z2)⟩
        | succ n =>
          rw [show ((n + 1 : Nat) : Int) - 1 = (n : Int) by omega]
          have rw' := HR2.out.below hbw l2
          have cg := rw'.cell 0
          simp at cg
          have lg := rw'.lt
          have i1 : (0 : Int) ≤ (n : Int) := by omega
          have i2 : (n : Int) ≤ (t.length : Int) := by omega
          have i3 : (n : Int) ≤ (d : Int) := by omega
          have i4 : (0 : Int) < (((hsOf rs).length * 13 : Nat) : Int) := by omega
          have i5 : (0 : Int) < ((hsOf rs).length : Int) * 13 := by omega
          have HBX := Lib.hid (HB2.out.trans (hbw.mono z2))
          have zx := HBX.out.size
          have HBD : Hid (Below w.heap.size w wr.drew) := Lib.hid HBX.out.drew
          have HTAKE := Lib.hid ((HW.out.below HBD.out hh2).take (j := n) (by omega))
          have HRUD := Lib.hid (HV.out.below HBD.out hh)
          have HY : Hid (yesB (Beg (· ∈ frs rs) (t.take n) (t.take n).length (ruleAt rs 0).head 0) = yesB (BegP rs t n)) := Lib.hid (by rw [Bool.eq_iff_iff, yesB_iff, yesB_iff]; exact begP_take (by omega))
          clear hbw rw'
          go_wp2
          go_region_with (go_at_call 84; refine (specBegins_any rs (t.take n) _ _ lo hi lo2 hi2 wr.drew HRUD.out (by show hi ≤ wr.heap.size; omega) HTAKE.out (by show hi2 ≤ wr.heap.size; omega) HQ.out (textB_take HT.out n)).mono ?_; rintro e w6 ⟨g6, rfl, l6, c6, b6⟩; rw [HY.out] at c6)
          have b6' : Below wr.heap.size wr w6 := ⟨b6.os, b6.tape, b6.output, b6.size, b6.block⟩
          have HB6 := Lib.hid (HBW.out.trans (b6'.mono zw))
          have HBE := Lib.hid (HBX.out.trans (b6'.mono zx))
          clear b6 b6' cg HTAKE HRUD c6
          by_cases hp : BegP rs t n
          · have HF := Lib.hid (downB_t hp)
            rw [yesB_t hp]
            clear hp
            go_wp2
            go_ret
            rw [HE.out, HDN.out, HF.out]
            exact ⟨rfl, HBE.out⟩
          · have HF := Lib.hid (downB_f hp)
            rw [yesB_f hp]
            clear hp
            go_wp2
            go_roundw
            case rel => exact ⟨n, by omega, by first | rfl | go_num, HDN.out.trans HF.out, HB6.out⟩
            case measure => simp [intOf]
end Go.Proofs.Ytmhdbjoljonhdaa

/- The law's own measure of what came in: szStringS, szRule, szRuleS, szGram say how much is left of a number, or -1. -/
namespace Go.Proofs.Ytmhdbjoljonhdaa
open Go.RowKit

theorem ret_int {k : IntKind} {a b : Int} (h : a = b) : Ending.returned (.int k a) = .returned (.int k b) := by rw [h]

set_option maxHeartbeats 1000000 in
theorem szStringS_any (v : Value) (ss : List ByteArray) (lo hi : Nat) (left : Int) (w : World) (h : Strs w lo hi v ss) (h0 : 0 ≤ left) (h1 : left ≤ 1048576) :
    Calls Try.prog 46 #[v, .int .i64 left] w fun e w' => e = .returned (.int .i64 (szOut left (bulkS ss))) ∧ w = w' := by
  obtain ⟨A, c, rfl, hlc, hc, hsz, hcell⟩ := h
  unfold maxLen at hc
  have HC := Lib.hid hcell
  have HZ := Lib.hid hsz
  clear hcell hsz
  by_cases hn : left < ss.length
  · go_enter Try.func46, Try.ntmps46
    go_wp2
    go_ret
    exact ⟨ret_int (by rw [szOut_neg]; unfold bulkS; omega), rfl⟩
  have d0 : decide (left - (ss.length : Int) < 0) = false := decide_eq_false (by omega)
  go_enter Try.func46, Try.ntmps46
  go_wp2
  go_loop [1, 5] (fun l i => ∃ k : Nat, k ≤ ss.length ∧ i = .int .i64 k ∧ l = .int .i64 (left - (ss.length : Int) - (sizes (ss.take k) : Int)) ∧ 0 ≤ left - (ss.length : Int) - (sizes (ss.take k) : Int)) (fun _ i => ss.length - (intOf i).toNat)
  case atStart => exact ⟨0, by omega, rfl, by simp [sizes], by simp [sizes]; omega⟩
  case round =>
    obtain ⟨k, hk, rfl, rfl, hle⟩ := hrel
    by_cases hlt : k < ss.length
    · obtain ⟨b, off, rfl, _, _, hcc⟩ := HC.out (by omega)
      have hck := hcc k hlt
      have hs := sizes_take_succ ss k hlt
      have hm := HZ.out ss[k] (List.getElem_mem hlt)
      unfold maxLen at hm
      have HS := Lib.hid hs
      clear hs hcc
      by_cases ht : left - (ss.length : Int) - (sizes (ss.take k) : Int) - (ss[k].size : Int) < 0
      · go_wp2
        go_ret
        exact ⟨ret_int (by rw [szOut_neg]; have := sizes_take_le ss (k + 1); have := HS.out; unfold bulkS; omega), rfl⟩
      · go_wp2
        go_round
        case rel => exact ⟨k + 1, by omega, by go_num, by rw [HS.out]; go_num, by rw [HS.out]; omega⟩
        case measure => simp [intOf]; omega
    · have hks : k = ss.length := by omega
      have HK := Lib.hid hks
      clear hks
      go_wp2
      go_ret
      refine ⟨ret_int ?_, rfl⟩
      have e := HK.out
      subst e
      rw [List.take_length] at hle ⊢
      rw [szOut_pos (by unfold bulkS; omega)]
      unfold bulkS; omega

set_option maxHeartbeats 1000000 in
theorem szRule_any (r : RuleD) (u : Value) (lo hi : Nat) (left : Int) (w : World) (hh : r.head.size ≤ maxLen) (h : Strs w lo hi u r.body) (hhi : hi ≤ w.heap.size) (h0 : 0 ≤ left) (h1 : left ≤ 1048576) :
    Calls Try.prog 116 #[.agg #[.string r.head, u], .int .i64 left] w fun e w' => e = .returned (.int .i64 (szOut left (r.head.size + bulkS r.body))) ∧ Below w.heap.size w w' := by
  unfold maxLen at hh
  by_cases hn : left < r.head.size
  · go_enter Try.func116, Try.ntmps116
    go_wp2
    go_ret
    exact ⟨ret_int (by rw [szOut_neg]; omega), (Below.refl _ _).alloc (Nat.le_refl _) _⟩
  have d0 : decide (left - (r.head.size : Int) < 0) = false := decide_eq_false (by omega)
  have hb : Below w.heap.size w (w.alloc (.cells #[.string r.head, u] 137)) := (Below.refl _ _).alloc (Nat.le_refl _) _
  by_cases ht : left - (r.head.size : Int) < bulkS r.body
  · have e1 : szOut (left - (r.head.size : Int)) (bulkS r.body) = -1 := szOut_neg ht
    go_enter Try.func116, Try.ntmps116
    go_wp2_with (go_at_call 46; refine (szStringS_any u r.body lo hi _ _ (h.below hb hhi) (by omega) (by omega)).mono ?_; rintro e w' ⟨rfl, rfl⟩; rw [e1])
    go_ret
    exact ⟨ret_int (by rw [szOut_neg]; omega), hb⟩
  · have e1 : szOut (left - (r.head.size : Int)) (bulkS r.body) = left - (r.head.size : Int) - (bulkS r.body : Int) := szOut_pos ht
    have d1 : decide (left - (r.head.size : Int) - (bulkS r.body : Int) < 0) = false := decide_eq_false (by omega)
    go_enter Try.func116, Try.ntmps116
    go_wp2_with (go_at_call 46; refine (szStringS_any u r.body lo hi _ _ (h.below hb hhi) (by omega) (by omega)).mono ?_; rintro e w' ⟨rfl, rfl⟩; rw [e1])
    go_ret
    exact ⟨ret_int (by rw [szOut_pos (by omega)]; omega), hb⟩

set_option maxHeartbeats 1000000 in
theorem szRuleS_any (v : Value) (rs : List RuleD) (lo hi : Nat) (left : Int) (w : World) (h : Rules w lo hi v rs) (hhi : hi ≤ w.heap.size) (h0 : 0 ≤ left) (h1 : left ≤ 1048576) :
    Calls Try.prog 86 #[v, .int .i64 left] w fun e w' => e = .returned (.int .i64 (szOut left (bulkR rs))) ∧ Below w.heap.size w w' := by
  obtain ⟨A, c, rfl, hlc, hc, hcell⟩ := h
  unfold maxLen at hc
  have HC := Lib.hid hcell
  clear hcell
  by_cases hn : left < rs.length
  · go_enter Try.func86, Try.ntmps86
    go_wp2
    go_ret
    exact ⟨ret_int (by rw [szOut_neg]; unfold bulkR; omega), Below.refl _ _⟩
  have d0 : decide (left - (rs.length : Int) < 0) = false := decide_eq_false (by omega)
  go_enter Try.func86, Try.ntmps86
  go_wp2
  go_loopw [1, 5] (fun l i wr => ∃ k : Nat, k ≤ rs.length ∧ i = .int .i64 k ∧ l = .int .i64 (left - (rs.length : Int) - (rulesTo rs k : Int)) ∧ 0 ≤ left - (rs.length : Int) - (rulesTo rs k : Int) ∧ Below w.heap.size w wr) (fun _ i _ => rs.length - (intOf i).toNat)
  case atStart => exact ⟨0, by omega, rfl, by simp [rulesTo], by simp [rulesTo]; omega, Below.refl _ _⟩
  case round =>
    obtain ⟨k, hk, rfl, rfl, hle, hbw⟩ := hrel
    have hsw := hbw.size
    by_cases hlt : k < rs.length
    · obtain ⟨b, off, rfl, _, hbh, hcc⟩ := HC.out (by omega)
      obtain ⟨hhs, hc0, u, hc1, hst⟩ := hcc k hlt
      have hs := rulesTo_succ rs k hlt
      have HS := Lib.hid hs
      have hc0' := (hbw.cell (p := ⟨b, off + k * 2, none⟩) (by show b < _; omega)).trans hc0
      have hc1' := (hbw.cell (p := ⟨b, off + k * 2 + 1, none⟩) (by show b < _; omega)).trans hc1
      have hst' := hst.below hbw hhi
      clear hs hcc hc0 hc1 hst
      by_cases ht : left - (rs.length : Int) - (rulesTo rs k : Int) < ((rs[k].head.size + bulkS rs[k].body : Nat) : Int)
      · have e1 := szOut_neg ht
        have E1 := Lib.hid e1
        clear e1
        go_wp2_with (go_at_call 116; refine (szRule_any rs[k] u lo hi _ _ hhs hst' (by omega) (by omega) (by omega)).mono ?_; rintro e w' ⟨rfl, hb2⟩; rw [E1.out])
        go_ret
        exact ⟨ret_int (by rw [szOut_neg]; have := rulesTo_le rs (k + 1); have := HS.out; omega), hbw.trans (hb2.mono hsw)⟩
      · have e1 := szOut_pos ht
        have E1 := Lib.hid e1
        clear e1
        have d1 : decide (left - (rs.length : Int) - (rulesTo rs k : Int) - ((rs[k].head.size + bulkS rs[k].body : Nat) : Int) < 0) = false := decide_eq_false (by omega)
        go_wp2_with (go_at_call 116; refine (szRule_any rs[k] u lo hi _ _ hhs hst' (by omega) (by omega) (by omega)).mono ?_; rintro e w' ⟨rfl, hb2⟩; rw [E1.out])
        go_roundw
        case rel => exact ⟨k + 1, by omega, by go_num, by rw [HS.out]; go_num, by rw [HS.out]; omega, hbw.trans (hb2.mono hsw)⟩
        case measure => simp [intOf]; omega
    · have hks : k = rs.length := by omega
      have HK := Lib.hid hks
      clear hks
      go_wp2
      go_ret
      refine ⟨ret_int ?_, hbw⟩
      have e := HK.out
      subst e
      have := rulesTo_all rs
      rw [szOut_pos (by omega)]
      omega

set_option maxHeartbeats 1000000 in
theorem szGram_any (v : Value) (rs : List RuleD) (lo hi : Nat) (left : Int) (w : World) (h : Rules w lo hi v rs) (hhi : hi ≤ w.heap.size) (h0 : 0 ≤ left) (h1 : left ≤ 1048576) :
    Calls Try.prog 39 #[.agg #[v], .int .i64 left] w fun e w' => e = .returned (.int .i64 (szOut left (bulkR rs))) ∧ Below w.heap.size w w' := by
  have hb : Below w.heap.size w (w.alloc (.cells #[v] 52)) := (Below.refl _ _).alloc (Nat.le_refl _) _
  by_cases ht : left < bulkR rs
  · have e1 := szOut_neg ht
    have E1 := Lib.hid e1
    clear e1
    go_enter Try.func39, Try.ntmps39
    go_wp2_with (go_at_call 86; refine (szRuleS_any v rs lo hi _ _ (h.below hb hhi) (by simp; omega) (by omega) (by omega)).mono ?_; rintro e w' ⟨rfl, hb2⟩; rw [E1.out])
    go_ret
    exact ⟨ret_int (by rw [E1.out]), hb.trans (hb2.mono (by simp))⟩
  · have e1 := szOut_pos ht
    have E1 := Lib.hid e1
    clear e1
    have d1 : decide (left - (bulkR rs : Int) < 0) = false := decide_eq_false (by omega)
    go_enter Try.func39, Try.ntmps39
    go_wp2_with (go_at_call 86; refine (szRuleS_any v rs lo hi _ _ (h.below hb hhi) (by simp; omega) (by omega) (by omega)).mono ?_; rintro e w' ⟨rfl, hb2⟩; rw [E1.out])
    go_ret
    exact ⟨ret_int (by rw [E1.out]), hb.trans (hb2.mono (by simp))⟩
end Go.Proofs.Ytmhdbjoljonhdaa

/- The walk of the law FnExactViable. -/
namespace Go.Proofs.Ytmhdbjoljonhdaa.fnExactViable
open Go.RowKit
set_option maxRecDepth 100000 in
set_option maxHeartbeats 4000000 in
theorem walk (v : Value) (rs : List RuleD) (tv : Value) (t : List ByteArray) (w : World) (h : Rules w 0 w.heap.size v rs) (h2 : Strs w 0 w.heap.size tv t) :
    Calls Try.prog 8 #[.agg #[v], tv] w fun e w' => e = .returned (.bool true) ∧ Below w.heap.size w w' := by
  have hb0 := al1 w (.cells #[v] 52)
  by_cases hbig : (1048576 : Int) < bulkR rs
  · have HS := Lib.hid (szOut_neg hbig)
    go_enter Try.func8, Try.ntmps8
    go_wp2_with fail
    refine (szGram_any v rs 0 w.heap.size _ _ (h.below hb0 (Nat.le_refl _)) (by simp) (by omega) (by omega)).mono ?_
    rintro e w1 ⟨rfl, hb1⟩
    rw [HS.out]
    go_wp2
    go_ret
    exact ⟨rfl, hb0.trans (hb1.mono (by simp))⟩
  have HS := Lib.hid (szOut_pos hbig)
  have d0 : decide ((1048576 : Int) - (bulkR rs : Int) < 0) = false := decide_eq_false (by omega)
  have R0 := Row.made w 52 #[v]
  have HV := Lib.hid h
  have HW := Lib.hid h2
  have HE := Lib.hid (eqRs_t (rfl : rs = rs))
  have HES := Lib.hid (eqSs_t (rfl : t = t))
  obtain ⟨Av, cv, rfl, -⟩ := h
  by_cases hbig2 : (1048576 : Int) - (bulkR rs : Int) < bulkS t
  · have HS2 := Lib.hid (szOut_neg hbig2)
    go_enter Try.func8, Try.ntmps8
    go_wp2_with fail
    refine (szGram_any _ rs 0 w.heap.size _ _ (HV.out.below hb0 (Nat.le_refl _)) (by simp) (by omega) (by omega)).mono ?_
    rintro e w1 ⟨rfl, hb1⟩
    rw [HS.out]
    go_wp2_with fail
    refine (szStringS_any _ t 0 w.heap.size _ _ ((HW.out.below hb0 (Nat.le_refl _)).below hb1 (by simp)) (by omega) (by omega)).mono ?_
    rintro e _ ⟨rfl, rfl⟩
    rw [HS2.out]
    go_wp2
    go_ret
    exact ⟨rfl, hb0.trans (hb1.mono (by simp))⟩
  have HS2 := Lib.hid (szOut_pos hbig2)
  have d1 : decide ((1048576 : Int) - (bulkR rs : Int) - (bulkS t : Int) < 0) = false := decide_eq_false (by omega)
  have htl : t.length ≤ 1048576 := by
    have : t.length ≤ bulkS t := by unfold bulkS; omega
    omega
  have htl0 := htl
  have HTL := Lib.hid htl
  clear htl
  go_enter Try.func8, Try.ntmps8
  go_wp2_with fail
  refine (szGram_any _ rs 0 w.heap.size _ _ (HV.out.below hb0 (Nat.le_refl _)) (by simp) (by omega) (by omega)).mono ?_
  rintro e w1 ⟨rfl, hb1⟩
  rw [HS.out]
  have B1 : Below (w.heap.size + 1) (w.alloc (.cells #[.slice Av rs.length cv] 52)) w1 := hb1.mono (by simp)
  have z1 : w.heap.size + 1 ≤ w1.heap.size := by have := hb1.size; simpa using this
  have c1 := (R0.below B1 (by omega)).cell 0
  simp at c1
  have HB0 := Lib.hid hb0
  go_wp2_with fail
  refine (szStringS_any _ t 0 w.heap.size _ _ ((HW.out.below hb0 (Nat.le_refl _)).below B1 (by omega)) (by omega) (by omega)).mono ?_
  rintro e _ ⟨rfl, rfl⟩
  rw [HS2.out]
  go_wp2_with fail
  refine (toGram_any _ rs 0 w.heap.size _ ((HV.out.below hb0 (Nat.le_refl _)).below B1 (by omega)) (by omega) (by omega)).mono ?_
  rintro e w2 ⟨x2, rfl, O2, b2⟩
  have B2 := B1.trans (b2.mono z1)
  have z2 := b2.size
  go_wp2_with fail
  refine (toStringS_any _ t 0 w.heap.size _ ((HW.out.below hb0 (Nat.le_refl _)).below B2 (by omega)) (by omega) HTL.out).mono ?_
  rintro e w3 ⟨t3, rfl, T3, y3, b3⟩
  have B3 := B2.trans (b3.mono (by omega))
  have z3 := b3.size
  go_wp2_with fail
  refine (specViable_any rs t _ _ w1.heap.size w2.heap.size 0 w3.heap.size _ (O2.rules.below b3 (Nat.le_refl _)) (by omega) (T3.strs fun _ => ⟨Nat.zero_le _, y3⟩) (Nat.le_refl _)).mono ?_
  rintro e w4 ⟨rfl, b4⟩
  have B4 := B3.trans (b4.mono (by omega))
  have z4 := b4.size
  have c4 := (R0.below B4 (by omega)).cell 0
  simp at c4
  clear T3 O2
  go_wp2_with fail
  refine (toGram_any _ rs 0 w.heap.size _ ((HV.out.below hb0 (Nat.le_refl _)).below B4 (by omega)) (by omega) (by omega)).mono ?_
  rintro e w5 ⟨x5, rfl, O5, b5⟩
  have B5 := B4.trans (b5.mono (by omega))
  have z5 := b5.size
  have HO5 := Lib.hid O5
  obtain ⟨A5, c5, rfl, -⟩ := O5
  have ha := al1 w5 (.cells #[.slice A5 rs.length c5] 25)
  have R5 := Row.made w5 25 #[.slice A5 rs.length c5]
  have Ba := B5.trans (ha.mono (by omega))
  have za : w5.heap.size + 1 = (w5.alloc (.cells #[.slice A5 rs.length c5] 25)).heap.size := by simp
  have HZA := Lib.hid za
  have HA := Lib.hid ha
  clear za
  go_wp2_with fail
  refine (toStringS_any _ t 0 w.heap.size _ ((HW.out.below hb0 (Nat.le_refl _)).below Ba (by omega)) (by rw [← HZA.out]; omega) HTL.out).mono ?_
  rintro e w6 ⟨t6, rfl, T6, y6, b6⟩
  rw [← HZA.out] at y6
  have B6 := Ba.trans (b6.mono (by rw [← HZA.out]; omega))
  have R6 := R5.below b6 (by rw [← HZA.out]; omega)
  have c6 := R6.cell 0
  simp at c6
  have S6 := T6.strs (lo := w5.heap.size + 1) (hi := w6.heap.size) fun _ => ⟨by rw [← HZA.out]; omega, by rw [← HZA.out]; exact y6⟩
  have O6 := (HO5.out.rules.below ha (Nat.le_refl _)).below b6 (by rw [← HZA.out]; omega)
  clear T6 ha b6
  go_wp2_with fail
  refine (implViable_any rs t _ _ w4.heap.size w5.heap.size (w5.heap.size + 1) w6.heap.size _ O6 (by omega) S6 (Nat.le_refl _)).mono ?_
  rintro e w7 ⟨rfl, b7⟩
  have B7 := B6.trans (b7.mono (by omega))
  have z7 := b7.size
  have c7 := (R0.below B7 (by omega)).cell 0
  have R7 := R6.below b7 (by omega)
  have c7' := R7.cell 0
  simp at c7 c7'
  have V7 : Rules w7 0 w.heap.size (.slice Av rs.length cv) rs := (HV.out.below hb0 (Nat.le_refl _)).below (B := w.heap.size + 1) B7 (by omega)
  have X7 : Rules w7 w4.heap.size w5.heap.size (.slice A5 rs.length c5) rs := O6.below b7 (by omega)
  have V7d : Rules w7.drew 0 w.heap.size (.slice Av rs.length cv) rs := V7
  have X7d : Rules w7.drew w4.heap.size w5.heap.size (.slice A5 rs.length c5) rs := X7
  clear V7 X7
  have S7 := S6.below b7 (Nat.le_refl _)
  have z7d : w7.drew.heap.size = w7.heap.size := rfl
  have HZ7 := Lib.hid z7d
  clear z7d S6 O6 R6 c6
  generalize viaZ rs t = ans at *
  go_wp2_with fail
  go_region_held3 (fun w' => w'.cell? ⟨w5.heap.size, 0, none⟩ = some (.slice A5 rs.length c5) ∧ w'.cell? ⟨w.heap.size, 0, none⟩ = some (.slice Av rs.length cv))
    (first | go_keep | (refine ⟨?_, ?_⟩ <;> (rw [b8.cell (by rw [HZ7.out]; simp; omega)]; assumption)) | (refine ⟨?_, ?_⟩ <;> (rw [b9.cell (by simp; omega), b8.cell (by rw [HZ7.out]; simp; omega)]; assumption)))
    (first
      | (go_at_call 40; refine (toGram_any _ rs 0 w.heap.size w7.drew V7d (by rw [HZ7.out]; omega) (by omega)).mono ?_; rintro e w8 ⟨x8, rfl, O8, b8⟩; have z8 : w7.heap.size ≤ w8.heap.size := b8.size)
      | (go_at_call 42; refine (eqGram_any _ _ rs rs w4.heap.size w5.heap.size w7.heap.size w8.heap.size _ (X7d.below b8 (by rw [HZ7.out]; omega)) O8.rules (by omega) (Nat.le_refl _)).mono ?_; rintro e w9 ⟨rfl, b9⟩; rw [HE.out]))
  have b79 : Below w7.heap.size w7 w9 := Below.trans ⟨b8.os, b8.tape, b8.output, b8.size, b8.block⟩ (b9.mono z8)
  have z9 : w7.heap.size ≤ w9.heap.size := b79.size
  have B9 := B7.trans (b79.mono (by omega))
  have S9 := S7.below b79 (by omega)
  clear b8 b9 O8 X7d V7d S7 R7 c7 c7'
  go_wp2_with fail
  refine (toStringS_any _ t 0 w.heap.size _ ((HW.out.below HB0.out (Nat.le_refl _)).below B9 (by omega)) (by omega) HTL.out).mono ?_
  rintro e w10 ⟨t10, rfl, T10, y10, b10⟩
  have B10 := B9.trans (b10.mono (by omega))
  have S10 := S9.below b10 (by omega)
  have U10 := T10.strs (lo := 0) (hi := w10.heap.size) fun _ => ⟨Nat.zero_le _, y10⟩
  clear T10
  go_wp2_with fail
  refine (eqStringS_any _ _ t t _ _ _ _ _ S10 U10).mono ?_
  rintro e w11 ⟨rfl, nq, rfl⟩
  rw [HES.out]
  have BE : Below w.heap.size w (w10.drewN nq) := by
    have := HB0.out.trans (B10.mono (by omega))
    exact ⟨this.os, this.tape, this.output, this.size, this.block⟩
  go_wp2
  go_ret
  exact ⟨rfl, BE⟩
end Go.Proofs.Ytmhdbjoljonhdaa.fnExactViable

/- A grammar that came in, opened: what the law's row reads of it, as lists. -/
namespace Go.Proofs.Ytmhdbjoljonhdaa
open Go.ChangeShapes Go.WideShapes Go.ChangeAt Go.RowKit Go.Deep

theorem lt_of_cell {w : World} {q : Addr} {v : Value} (h : w.cell? q = some v) : q.block < w.heap.size := by
  rcases Nat.lt_or_ge q.block w.heap.size with hlt | hge
  · exact hlt
  · unfold World.cell? at h
    rw [Array.getElem?_eq_none hge] at h
    simp at h
theorem add_at {b off i : Nat} : (⟨b, off, none⟩ : Addr).add i = ⟨b, off + i, none⟩ := by unfold Addr.add; split <;> simp_all
/-- an address at which something stands has no spot -/
theorem plain_addr {w : World} {a : Addr} {v : Value} (h : w.cell? (a.add 0) = some v) : ∃ b off, a = ⟨b, off, none⟩ ∧ b < w.heap.size := by
  obtain ⟨b, off, spot⟩ := a
  have hs : spot = none := by simpa [Addr.add] using World.cell?_spot h
  subst hs
  exact ⟨b, off, rfl, by simpa [Addr.add] using lt_of_cell h⟩

section
variable {H : Type} {enc : TypeId × Value → H} {w : World}
theorem open_Strs {fuel : Nat} {v : Value} {x : DataW H × List MemPlace} (h : DataW.trod enc Try.prog w 0 (fun _ => true) true fuel 27 [v] = some x) : ∃ ss, Strs w 0 w.heap.size v ss := by
  rcases open_strs Try.underlying27 Try.underlying9 (by kernel_rfl) h with ⟨hcs, _⟩ | ⟨a, len, cap, m, Sx, hcs, _, hl, hm, hmm, _, hc⟩
  · simp only [List.cons.injEq, and_true] at hcs
    subst hcs
    exact ⟨[], none, 0, rfl, Nat.le_refl _, by unfold maxLen; omega, by simp, fun h => by simp at h⟩
  · simp only [List.cons.injEq, and_true] at hcs
    subst hcs
    simp only [if_true] at hmm
    subst hmm
    refine ⟨(List.range len).map Sx, some a, m, by simp, by simpa using hl, hm, ?_, fun hp => ?_⟩
    · intro s hs
      obtain ⟨i, hi, rfl⟩ := List.mem_map.1 hs
      exact (hc i (by have := List.mem_range.1 hi; omega)).2
    · simp only [List.length_map, List.length_range] at hp
      obtain ⟨b, off, rfl, hb⟩ := plain_addr (hc 0 (by omega)).1
      refine ⟨b, off, rfl, Nat.zero_le _, hb, fun i hi => ?_⟩
      simp only [List.length_map, List.length_range] at hi
      have := (hc i (by omega)).1
      rw [add_at] at this
      simpa using this

theorem open_Rules {fuel : Nat} {v : Value} {x : DataW H × List MemPlace} (h : DataW.trod enc Try.prog w 0 (fun _ => true) true fuel 50 [v] = some x) : ∃ rs, Rules w 0 w.heap.size v rs := by
  rcases open_slice_pairs Try.underlying50 Try.underlying137 (by kernel_rfl) rfl rfl (by kernel_rfl) (by kernel_rfl) h with ⟨hcs, _⟩ | ⟨a, len, cap, m, n, V0, V1, D0, D1, P0, P1, hcs, _, hl, hm, hmm, _, hc⟩
  · simp only [List.cons.injEq, and_true] at hcs
    subst hcs
    exact ⟨[], none, 0, rfl, Nat.le_refl _, by unfold maxLen; omega, fun h => by simp at h⟩
  · simp only [List.cons.injEq, and_true] at hcs
    subst hcs
    simp only [if_true] at hmm
    subst hmm
    have each : ∀ i, i < len → ∃ r : RuleD, V0 i = .string r.head ∧ r.head.size ≤ maxLen ∧ Strs w 0 w.heap.size (V1 i) r.body := fun i hi => by
      obtain ⟨_, _, t0, t1⟩ := hc i (by omega)
      obtain ⟨s, e1, _, e2⟩ := DataW.trod_string Try.underlying9 t0
      obtain ⟨ss, hs⟩ := open_Strs t1
      exact ⟨⟨s, ss⟩, by simpa using e1, e2, hs⟩
    haveI : Inhabited RuleD := ⟨⟨ByteArray.empty, []⟩⟩
    obtain ⟨R, hR⟩ := choose_lt each
    refine ⟨(List.range len).map R, some a, m, by simp, by simpa using hl, hm, fun hp => ?_⟩
    simp only [List.length_map, List.length_range] at hp
    obtain ⟨b, off, rfl, hb⟩ := plain_addr (by have := (hc 0 (by omega)).1; simpa using this)
    refine ⟨b, off, rfl, Nat.zero_le _, hb, fun i hi => ?_⟩
    simp only [List.length_map, List.length_range] at hi
    obtain ⟨a1, a2, _, _⟩ := hc i (by omega)
    obtain ⟨r1, r2, r3⟩ := hR i hi
    rw [add_at] at a1 a2
    simp only [List.getElem_map, List.getElem_range]
    exact ⟨r2, by rw [a1, r1], V1 i, by rw [← a2]; rfl, r3⟩

set_option maxRecDepth 100000 in
theorem open_Gram {base : Nat} {v : Value} {d : DataW H} {p : List MemPlace} (hv : Value.okWide Try.prog w .any base 52 v) (h : DataW.Trod enc Try.prog w 0 (fun _ => true) true 52 v d p) :
    ∃ u rs, v = .agg #[u] ∧ Rules w 0 w.heap.size u rs := by
  obtain ⟨cs, rfl, hsz⟩ := okWide_struct Try.underlying52 hv
  obtain ⟨l⟩ := cs
  have hC : Try.prog.cellsOf 52 = 1 := by kernel_rfl
  match l, hsz.trans hC with
  | [u], _ =>
    obtain ⟨fuel, hf⟩ := h
    obtain ⟨xs, n, _, hx, _, hlen, hg⟩ := DataW.trod_struct Try.underlying52 hf
    match xs, hlen with
    | [y], _ =>
      have h0 := hg 0 _ rfl
      have hu : DataW.trod enc Try.prog w 0 (fun _ => true) true n 50 [u] = some y := by
        have hk : Try.prog.cellsOf 50 = 1 := by kernel_rfl
        simpa [Value.cells, hk] using h0
      obtain ⟨rs, hr⟩ := open_Rules hu
      exact ⟨u, rs, rfl, hr⟩
end
end Go.Proofs.Ytmhdbjoljonhdaa
