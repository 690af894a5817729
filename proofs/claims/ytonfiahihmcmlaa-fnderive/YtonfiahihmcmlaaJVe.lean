import Derived.Test.YtonfiahihmcmlaaJVc
import Derived.Test.YtonfiahihmcmlaaJWspans
import Derived.Test.YtonfiahihmcmlaaJTbl
import Derived.Deep.RegionHeld3
/- The walk of l04Begins. -/
namespace Go.Proofs.Ytonfiahihmcmlaa
open Go.RowKit

theorem makeBoolsX (n : Nat) (hn : n ≤ 20) (W : World) : (Instr.makeSlice 129 (.int .i64 ((n : Int) * 13)) (.int .i64 ((n : Int) * 13))).run Try.prog W = .ok (.slice (some ⟨W.heap.size, 0, none⟩) (n * 13) (n * 13)) (W.alloc (.cells (cellsB (fun _ => false) (n * 13)) 4)) := by
  have := makeBools (n * 13) (by omega) W
  rw [cellsB_made] at this
  rw [show ((n * 13 : Nat) : Int) = (n : Int) * 13 by omega] at this
  exact this
/-- the list at work -/
structure BW (gb : Nat) (w3 : World) (rs : List RuleD) (u : List ByteArray) (Bg : Nat → Bool) (wr : World) : Prop where
  row : Row wr gb 4 (cellsB Bg ((hsOf rs).length * 13))
  sound : BSound rs u Bg
  low : Below gb w3 wr
section
variable {gb : Nat} {w3 wr w' : World} {rs : List RuleD} {u : List ByteArray} {Bg : Nat → Bool}
theorem BW.below (h : BW gb w3 rs u Bg wr) (k : Below wr.heap.size wr w') : BW gb w3 rs u Bg w' :=
  ⟨h.row.below k h.row.lt, h.sound, h.low.trans (k.mono (Nat.le_of_lt h.row.lt))⟩
theorem BW.set (h : BW gb w3 rs u Bg wr) {i f : Nat} (hf : f ≤ u.length) (h12 : u.length ≤ 12) (hd : ∀ h : i < (hsOf rs).length, Beg (· ∈ frs rs) u u.length (hsOf rs)[i] f) : BW gb w3 rs u (setB Bg (13 * i + f)) (wr.setCell ⟨gb, 13 * i + f, none⟩ (.bool true)) := by
  refine ⟨?_, h.sound.set hf h12 hd, h.low.setCell (Nat.le_refl _) _⟩
  have := h.row.put (13 * i + f) (.bool true)
  rw [cellsB_put] at this
  exact this
end
def MadeB (w : World) (rs : List RuleD) (u : List ByteArray) (e : Ending) (w' : World) : Prop := ∃ g, e = .returned (.slice (some ⟨g, 0, none⟩) ((hsOf rs).length * 13) ((hsOf rs).length * 13)) ∧ g < w'.heap.size ∧ w'.cell? ⟨g, 0, none⟩ = some (.bool (yesB (Beg (· ∈ frs rs) u u.length (ruleAt rs 0).head 0))) ∧ Below w.heap.size w w'

set_option maxRecDepth 100000 in
set_option maxHeartbeats 16000000 in
theorem specBegins_any (rs : List RuleD) (t : List ByteArray) (v tv : Value) (lo hi lo2 hi2 : Nat) (w : World) (h : Rules w lo hi v rs) (hh : hi ≤ w.heap.size) (h2 : Strs w lo2 hi2 tv t) (hh2 : hi2 ≤ w.heap.size) (hg : gramB rs = true) (ht : textB t = true) :
    Calls Try.prog 96 #[.agg #[v], tv] w (MadeB w rs t) := by
  have R := Rt.of hg
  have h12 := ((textB_iff t).1 ht).1
  have HTK := Lib.hid ((textB_iff t).1 ht).2
  have hpos := R.one
  have h20 := R.few
  have hhl := R.hs_len
  have hmk := makeBoolsX (hsOf rs).length hhl
  have HRT := Lib.hid R
  have HQ := Lib.hid hg
  have HT := Lib.hid ht
  have HV := Lib.hid h
  have HW := Lib.hid h2
  obtain ⟨A, c, rfl, hlc, hc, -⟩ := h
  obtain ⟨B, d, rfl, hld, hd, -, -⟩ := h2
  unfold maxLen at hc hd
  have hb := al1 w (.cells #[.slice A rs.length c] 25)
  have R0 := Row.made w 25 #[.slice A rs.length c]
  have HB := Lib.hid hb
  have HR0 := Lib.hid R0
  have hsz : (w.alloc (.cells #[.slice A rs.length c] 25)).heap.size = w.heap.size + 1 := by simp
  have HSZ := Lib.hid hsz
  have hhpos : 0 < (hsOf rs).length := List.length_pos_of_mem (hs_all (rs := rs) (i := 0) (by omega))
  clear hb R0 hsz R hg ht
  go_enter Try.func96, Try.ntmps96
  go_wp2_with fail
  refine (specFill_any rs t _ _ lo hi lo2 hi2 _ (HV.out.below HB.out hh) (by rw [HSZ.out]; omega) (HW.out.below HB.out hh2) (by rw [HSZ.out]; omega) HQ.out HT.out).mono ?_
  rintro _ w1 ⟨p, Ah, ch, G, cG, hi3, R, T, rfl, htab, hS, hC, -, -, b1⟩
  have B1 := HB.out.trans (b1.mono (by rw [HSZ.out]; omega))
  have r1 := HR0.out.below b1 HR0.out.lt
  have q1 := r1.cell 0
  simp at q1
  have l1 := r1.lt
  have HTAB := Lib.hid htab
  have HS := Lib.hid hS
  have HC := Lib.hid hC
  have HB1 := Lib.hid B1
  have HR1 := Lib.hid r1
  have z1 := B1.size
  have lp1 := htab.box.lt
  clear htab hS hC b1 B1 r1
  go_wp2_with fail
  refine (specFix_any rs _ true lo hi _ (HV.out.below HB1.out hh) (by omega) HQ.out).mono ?_
  rintro _ w2 ⟨u2, g2, rfl, ho2, hg2, b2⟩
  have HG2 := Lib.hid (ho2.strs (lo := 0) (hi := w2.heap.size) fun hn => ⟨Nat.zero_le _, (hg2 hn).2⟩)
  have z2 := b2.size
  have HB2 := Lib.hid (HB1.out.trans (b2.mono z1))
  have HB12 := Lib.hid b2
  have r2 := HTAB.out.box.below b2 lp1
  have q2 := r2.cell 0
  simp at q2
  have l2 := r2.lt
  have hA := al1 w2 (.cells (cellsB (fun _ => false) ((hsOf rs).length * 13)) 4)
  have RB := Row.made w2 4 (cellsB (fun _ => false) ((hsOf rs).length * 13))
  have HA := Lib.hid hA
  have W0 : BW w2.heap.size (w2.alloc (.cells (cellsB (fun _ => false) ((hsOf rs).length * 13)) 4)) rs t (fun _ => false) (w2.alloc (.cells (cellsB (fun _ => false) ((hsOf rs).length * 13)) 4)) := ⟨RB, (fun _ _ _ _ h => by cases h), Below.refl _ _⟩
  have HW0 := Lib.hid W0
  have HR2 := Lib.hid ((HR1.out.below b2 l1).below hA (by omega))
  clear ho2 hg2 b2 r2 hA RB W0
  obtain ⟨Au, cu, eu, hlu, hcu, -⟩ := id HG2.out
  subst eu
  go_wp2
  generalize hw3 : w2.alloc (.cells (cellsB (fun _ => false) ((hsOf rs).length * 13)) 4) = w3 at *
  clear hw3
  generalize hgb : w2.heap.size = gb at *
  have HGB := Lib.hid hgb
  clear hgb
  go_loopg [8, 9, 10, 11, 12] (2 * emptyAt (fun _ => false) ((hsOf rs).length * 13) + 1) (fun gk x8 _ _ _ _ wr => ∃ (Bg : Nat → Bool) (ag : Bool), x8 = .bool ag ∧ BW gb w3 rs t Bg wr ∧ (ag = false → BDid rs t T Bg rs.length 0) ∧ 2 * emptyAt Bg ((hsOf rs).length * 13) + (if ag = true then 1 else 0) = gk)
  case atStart => exact ⟨_, true, rfl, HW0.out, (fun h => by cases h), by simp⟩
  case round =>
    obtain ⟨B0, ag, rfl, hW0, hC0, hgk⟩ := hrel
    have HX0 := Lib.hid hW0
    have HC0 := Lib.hid hC0
    have HGK := Lib.hid hgk
    clear hW0 hC0 hgk HW0
    cases ag
    · have HFIN := Lib.hid (begins_tells HX0.out.sound (HC0.out rfl) HS.out HC.out HRT.out HTK.out hhpos (f := 0) (by omega))
      go_wp2
      go_ret
      refine ⟨gb, rfl, HX0.out.row.lt, ?_, HB2.out.trans ((HA.out.mono (by have := HGB.out; omega)).trans (HX0.out.low.mono (by have := HGB.out; omega)))⟩
      rw [HX0.out.row.cell, cellsB_get (by omega)]
      congr 2
      rw [Bool.eq_iff_iff, yesB_iff, ← hs_start HRT.out hhpos]
      exact HFIN.out
    · go_wp2
      go_loopw [8, 9, 10, 11, 12] (fun x8 x9 _ _ _ wr => ∃ (i : Nat) (Bg : Nat → Bool) (ag : Bool), i ≤ rs.length ∧ x9 = .int .i64 (i : Int) ∧ x8 = .bool ag ∧ BW gb w3 rs t Bg wr ∧ FlagB ((hsOf rs).length * 13) B0 Bg ag (BDid rs t T B0 i 0)) (fun _ x _ _ _ _ => rs.length - (intOf x).toNat)
      case atStart => exact ⟨0, B0, false, by omega, rfl, rfl, HX0.out, ⟨fun _ => ⟨rfl, BDid.zero⟩, fun h => by cases h⟩⟩
      case round =>
        obtain ⟨i, B3, ag3, hi3', rfl, rfl, hW3, hF3⟩ := hrel
        rename World => x3
        have HW3 := Lib.hid hW3
        have HF3 := Lib.hid hF3
        have hl3 := hW3.low
        have lgb3 := hW3.row.lt
        have HL3 := Lib.hid hl3
        have r03 := HR2.out.below hl3 (by have := HGB.out; omega)
        have g03 := r03.cell 0
        simp at g03
        have l03 := r03.lt
        have HBX : Hid (Below w.heap.size w x3) := Lib.hid (HB2.out.trans ((HA.out.mono (by have := HGB.out; omega)).trans (hl3.mono (by have := HGB.out; omega))))
        have zx3 := HBX.out.size
        clear hW3 hF3 hl3 r03
        by_cases hlt : i < rs.length
        · obtain ⟨b, off, rfl, hbh, hlc', hcm', hhz, hch', Bb, db, hcb, hsb⟩ := (HV.out.below HBX.out hh).at hlt
          have hbx : b < x3.heap.size := by omega
          have HSB := Lib.hid hsb
          have hal := al1 x3 (.cells #[.string rs[i].head, .slice Bb rs[i].body.length db] 49)
          have RR := Row.made x3 49 #[.string rs[i].head, .slice Bb rs[i].body.length db]
          have HAL := Lib.hid hal
          have HRR := Lib.hid RR
          have HW4 := Lib.hid (HW3.out.below hal)
          have hix := hIx_lt (hs_all hlt)
          have HX := Lib.hid (hIx_at (hs_all hlt))
          have HTB4 : Hid (Below w1.heap.size w1 (x3.alloc (.cells #[.string rs[i].head, .slice Bb rs[i].body.length db] 49))) := Lib.hid ((HB12.out.trans ((HA.out.mono (by have := HGB.out; omega)).trans (HL3.out.mono (by have := HGB.out; omega)))).trans (hal.mono (by omega)))
          have hz4 : (x3.alloc (.cells #[.string rs[i].head, .slice Bb rs[i].body.length db] 49)).heap.size = x3.heap.size + 1 := by simp
          have HZ4 := Lib.hid hz4
          have HBL := Lib.hid (HRT.out.len i hlt)
          clear hsb hal RR hz4
          go_wp2_with fail
          refine (tabAt_any (hsOf rs) rs[i].head p hi3 Ah ch _ _ (HTAB.out.box.below HTB4.out lp1) (HTAB.out.heads.below HTB4.out HTAB.out.lt.2)).mono ?_
          rintro _ _ ⟨rfl, rfl⟩
          rw [atZ_in (hs_all hlt)]
          go_wp2
          generalize hx4 : x3.alloc (.cells #[.string rs[i].head, .slice Bb rs[i].body.length db] 49) = x4 at *
          clear hx4
          have hz4 := HZ4.out
          have HXZ := Lib.hid hz4
          clear HZ4 hz4
          go_loopw [8, 12] (fun x8 x12 wr => ∃ (f : Nat) (Bg : Nat → Bool) (ag : Bool), f ≤ t.length + 1 ∧ x12 = .int .i64 (f : Int) ∧ x8 = .bool ag ∧ BW gb w3 rs t Bg wr ∧ FlagB ((hsOf rs).length * 13) B0 Bg ag (BDid rs t T B0 i f) ∧ Row wr x3.heap.size 49 #[.string rs[i].head, .slice Bb rs[i].body.length db]) (fun _ x _ => t.length + 1 - (intOf x).toNat)
          case atStart => exact ⟨0, B3, ag3, by omega, rfl, rfl, HW4.out, HF3.out, HRR.out⟩
          case round =>
            obtain ⟨f, B5, ag5, hf5, rfl, rfl, hW5, hF5, hR5⟩ := hrel
            rename World => x5
            have HW5 := Lib.hid hW5
            have HF5 := Lib.hid hF5
            have HR5 := Lib.hid hR5
            have hl5 := hW5.low
            have lgb5 := hW5.row.lt
            have zg := HGB.out
            have HBX5 : Hid (Below w.heap.size w x5) := Lib.hid (HB2.out.trans ((HA.out.mono (by omega)).trans (hl5.mono (by omega))))
            have HTB5 : Hid (Below w1.heap.size w1 x5) := Lib.hid (HB12.out.trans ((HA.out.mono (by omega)).trans (hl5.mono (by omega))))
            have HGD5 : Hid (Strs x5 0 gb (.slice Au (comOf true rs).length cu) (comOf true rs)) := Lib.hid ((HG2.out.below HA.out (by omega)).below hl5 (Nat.le_refl _))
            have zx5 := HBX5.out.size
            have zt5 := HTB5.out.size
            have r5 := hR5.cell 1
            simp at r5
            have lr5 := hR5.lt
            clear zg
            by_cases hlf : f ≤ t.length
            · have i4 : (f : Int) ≤ (t.length : Int) := by omega
              have i7 : (13 * (hIx (hsOf rs) rs[i].head : Int) + (f : Int)) < (((hsOf rs).length * 13 : Nat) : Int) := by omega
              have i8 : (13 * (hIx (hsOf rs) rs[i].head : Int) + (f : Int)).toNat = 13 * hIx (hsOf rs) rs[i].head + f := by omega
              have a1 := hW5.row.cell (13 * hIx (hsOf rs) rs[i].head + f)
              rw [cellsB_get (by omega)] at a1
              have af := hW5.row.free (13 * hIx (hsOf rs) rs[i].head + f)
              cases hbq : B5 (13 * hIx (hsOf rs) rs[i].head + f)
              · rw [hbq] at a1
                have HBQ := Lib.hid hbq
                clear hW5 hF5 hR5 hl5 hbq
                have HSB5 : Hid (Strs x5 lo hi (.slice Bb rs[i].body.length db) rs[i].body) := Lib.hid (HSB.out.keep fun k _ h2 => (HBX5.out.block k (by omega)).trans (HBX.out.block k (by omega)).symm)
                go_wp2_with fail
                refine (specBody_any rs t rs[i].body (comOf true rs) T B5 R p Ah ch G cG hi3 gb _ _ _ lo hi lo2 hi2 0 gb f _ (HTAB.out.below HTB5.out) HSB5.out (by omega) (HW.out.below HBX5.out hh2) (by omega) HGD5.out HW5.out.row hlf h12 HBL.out hhl).mono ?_
                rintro _ x6 ⟨rfl, b6⟩
                have HW6 := Lib.hid (HW5.out.below b6)
                have HR6 := Lib.hid (HR5.out.below b6 lr5)
                have z6 := b6.size
                have a6 := HW6.out.row.cell (13 * hIx (hsOf rs) rs[i].head + f)
                rw [cellsB_get (by omega), HBQ.out] at a6
                have f6 := HW6.out.row.free (13 * hIx (hsOf rs) rs[i].head + f)
                have l6 := HW6.out.row.lt
                clear b6
                cases hans : (allB rs[i].body (comOf true rs) true && yesB (bodyP T rs t B5 rs[i].body f))
                · have HNF := Lib.hid (HF5.out.more (D' := BDid rs t T B0 i (f + 1)) fun e hd => hd.step fun _ hin hb => by
                    rw [← (HF5.out.no e).1] at hb
                    rw [(good_all HQ.out hlt).2 hin, yesB_t hb] at hans
                    cases hans)
                  clear hans
                  go_wp2
                  go_roundw
                  case rel => exact ⟨f + 1, B5, ag5, by omega, by go_num, rfl, HW6.out, HNF.out, HR6.out⟩
                  case measure => simp [intOf]; omega
                · have hin := (good_all HQ.out hlt).1 (by revert hans; cases allB rs[i].body (comOf true rs) true <;> simp)
                  have hbp : bodyP T rs t B5 rs[i].body f := yesB_iff.1 (by revert hans; cases yesB (bodyP T rs t B5 rs[i].body f) <;> simp)
                  have HN := Lib.hid (HW6.out.set (i := hIx (hsOf rs) rs[i].head) (f := f) hlf h12 fun hq => by
                    rw [HX.out]
                    exact HW6.out.sound.body HS.out HTK.out hlt hin hbp)
                  have HNF := Lib.hid (HF5.out.set (D' := BDid rs t T B0 i (f + 1)) (q := 13 * hIx (hsOf rs) rs[i].head + f) (by omega) HBQ.out)
                  have HNR := Lib.hid (HR6.out.away (p := ⟨gb, 13 * hIx (hsOf rs) rs[i].head + f, none⟩) (HR6.out.apart HW6.out.row (by decide)) (.bool true))
                  clear hans hin hbp
                  go_wp2
                  go_roundw
                  case rel => exact ⟨f + 1, _, true, by omega, by go_num, rfl, HN.out, HNF.out, HNR.out⟩
                  case measure => simp [intOf]; omega
              · rw [hbq] at a1
                have HNF := Lib.hid (hF5.more (D' := BDid rs t T B0 i (f + 1)) fun e hd => hd.step fun _ _ _ => by rw [← (hF5.no e).1]; exact hbq)
                clear hW5 hF5 hR5 hl5 hbq
                go_wp2
                go_roundw
                case rel => exact ⟨f + 1, B5, ag5, by omega, by go_num, rfl, HW5.out, HNF.out, HR5.out⟩
                case measure => simp [intOf]; omega
            · have i4 : ¬ (f : Int) ≤ (t.length : Int) := by omega
              have HNF := Lib.hid (hF5.more (D' := BDid rs t T B0 (i + 1) 0) fun e hd => by rw [show f = t.length + 1 by omega] at hd; exact hd.rule)
              clear hW5 hF5 hR5 hl5
              go_wp2
              go_roundw
              case rel => exact ⟨i + 1, B5, ag5, by omega, by go_num, rfl, HW5.out, HNF.out⟩
              case measure => simp [intOf]; omega
        · have HNF : Hid (FlagB ((hsOf rs).length * 13) B0 B3 ag3 (BDid rs t T B0 rs.length 0)) := Lib.hid (HF3.out.more fun e hd => by rw [show i = rs.length by omega] at hd; exact hd)
          clear HF3
          go_wp2
          go_roundg (2 * emptyAt B3 ((hsOf rs).length * 13) + (if ag3 = true then 1 else 0))
          case measure =>
            have := HGK.out
            cases ag3
            · have e := (HNF.out.no rfl).1
              rw [e]
              simp at *
              omega
            · have e := HNF.out.yes rfl
              simp at *
              omega
          case rel => exact ⟨B3, ag3, rfl, HW3.out, fun e => by rw [(HNF.out.no e).1]; exact (HNF.out.no e).2, rfl⟩
end Go.Proofs.Ytonfiahihmcmlaa

/- The model's Viable. -/
namespace Go.Proofs.Ytonfiahihmcmlaa
open Go.RowKit

open Classical in
noncomputable def downB (p : Nat → Prop) : Nat → Int
  | 0 => -1
  | n + 1 => if p n then (n : Int) else downB p n
theorem lastB_down (p : Nat → Prop) (n : Nat) : lastB p n = downB p (n + 1) := by
  induction n with
  | zero => unfold lastB downB downB; rfl
  | succ n ih => unfold lastB downB; rw [ih]
theorem downB_t {p : Nat → Prop} {n : Nat} (h : p n) : downB p (n + 1) = n := by unfold downB; rw [if_pos h]
theorem downB_f {p : Nat → Prop} {n : Nat} (h : ¬ p n) : downB p (n + 1) = downB p n := by rw [downB, if_neg h]
theorem textB_take {t : List ByteArray} (h : textB t = true) (n : Nat) : textB (t.take n) = true := by
  obtain ⟨h1, h2⟩ := (textB_iff t).1 h
  exact (textB_iff _).2 ⟨by rw [List.length_take]; omega, fun s hs => h2 s (List.mem_of_mem_take hs)⟩
theorem begP_take {rs : List RuleD} {t : List ByteArray} {n : Nat} (hn : n ≤ t.length) : Beg (· ∈ frs rs) (t.take n) (t.take n).length (ruleAt rs 0).head 0 ↔ BegP rs t n := by
  rw [List.length_take, Nat.min_eq_left hn]
  exact ⟨fun h => h.uncut, fun h => h.cut⟩

set_option maxRecDepth 100000 in
set_option maxHeartbeats 4000000 in
theorem specViable_any (rs : List RuleD) (t : List ByteArray) (v tv : Value) (lo hi lo2 hi2 : Nat) (w : World) (h : Rules w lo hi v rs) (hh : hi ≤ w.heap.size) (h2 : Strs w lo2 hi2 tv t) (hh2 : hi2 ≤ w.heap.size) :
    Calls Try.prog 37 #[.agg #[v], tv] w fun e w' => e = .returned (.int .i64 (viaZ rs t)) ∧ Below w.heap.size w w' := by
  have HV := Lib.hid h
  have HW := Lib.hid h2
  obtain ⟨A, c, rfl, -⟩ := h
  obtain ⟨B, d, rfl, hld, hd, -⟩ := h2
  unfold maxLen at hd
  have hb := al1 w (.cells #[.slice A rs.length c] 25)
  have R0 := Row.made w 25 #[.slice A rs.length c]
  have HB := Lib.hid hb
  have HR0 := Lib.hid R0
  have hsz : (w.alloc (.cells #[.slice A rs.length c] 25)).heap.size = w.heap.size + 1 := by simp
  have HSZ := Lib.hid hsz
  clear hb R0 hsz
  cases hq : gramB rs
  · have HE := Lib.hid (viaZ_no (rs := rs) (t := t) (by rw [hq]; rfl))
    have HQ := Lib.hid hq
    clear hq
    go_enter Try.func37, Try.ntmps37
    go_wp2_with fail
    refine (specGramRight_any rs _ lo hi _ (HV.out.below HB.out hh) (by rw [HSZ.out]; omega)).mono ?_
    rintro _ w1 ⟨rfl, b1⟩
    rw [HQ.out]
    go_wp2
    go_ret
    rw [HE.out]
    exact ⟨rfl, HB.out.trans (b1.mono (by rw [HSZ.out]; omega))⟩
  · cases ht : textB t
    · have HE := Lib.hid (viaZ_no (rs := rs) (t := t) (by rw [ht, Bool.and_false]))
      have HQ := Lib.hid hq
      have HT := Lib.hid ht
      clear hq ht
      go_enter Try.func37, Try.ntmps37
      go_wp2_with fail
      refine (specGramRight_any rs _ lo hi _ (HV.out.below HB.out hh) (by rw [HSZ.out]; omega)).mono ?_
      rintro _ w1 ⟨rfl, b1⟩
      rw [HQ.out]
      have B1 := HB.out.trans (b1.mono (by rw [HSZ.out]; omega))
      have HB1 := Lib.hid B1
      have z1 := B1.size
      clear B1 b1
      go_wp2_with fail
      refine (specTextB_any t _ lo2 hi2 _ (HW.out.below HB1.out hh2) (by omega)).mono ?_
      rintro _ w2 ⟨rfl, b2⟩
      rw [HT.out]
      go_wp2
      go_ret
      rw [HE.out]
      exact ⟨rfl, HB1.out.trans (b2.mono (by omega))⟩
    · have HE := Lib.hid ((viaZ_yes hq ht).trans (lastB_down _ _))
      have HQ := Lib.hid hq
      have HT := Lib.hid ht
      have h12 := ((textB_iff t).1 ht).1
      have hhpos : 0 < (hsOf rs).length := List.length_pos_of_mem (hs_all (rs := rs) (i := 0) (Rt.of hq).one)
      have hhl := (Rt.of hq).hs_len
      clear hq ht
      go_enter Try.func37, Try.ntmps37
      go_wp2_with fail
      refine (specGramRight_any rs _ lo hi _ (HV.out.below HB.out hh) (by rw [HSZ.out]; omega)).mono ?_
      rintro _ w1 ⟨rfl, b1⟩
      rw [HQ.out]
      have B1 := HB.out.trans (b1.mono (by rw [HSZ.out]; omega))
      have r1 := HR0.out.below b1 HR0.out.lt
      have HB1 := Lib.hid B1
      have HR1 := Lib.hid r1
      have z1 := B1.size
      clear B1 b1 r1
      go_wp2_with fail
      refine (specTextB_any t _ lo2 hi2 _ (HW.out.below HB1.out hh2) (by omega)).mono ?_
      rintro _ w2 ⟨rfl, b2⟩
      rw [HT.out]
      have B2 := HB1.out.trans (b2.mono (by omega))
      have r2 := HR1.out.below b2 HR1.out.lt
      have HB2 := Lib.hid B2
      have HR2 := Lib.hid r2
      have l2 := r2.lt
      have z2 := B2.size
      clear B2 b2 r2
      go_wp2
      go_loopw [5] (fun x wr => ∃ m : Nat, m ≤ t.length + 1 ∧ x = .int .i64 ((m : Int) - 1) ∧ downB (BegP rs t) (t.length + 1) = downB (BegP rs t) m ∧ Below w2.heap.size w2 wr) (fun x _ => (intOf x + 1).toNat)
      case atStart => exact ⟨t.length + 1, Nat.le_refl _, by go_num, rfl, Below.refl _ _⟩
      case round =>
        obtain ⟨m, hm, rfl, hdn, hbw⟩ := hrel
        rename World => wr
        have HDN := Lib.hid hdn
        have HBW := Lib.hid hbw
        have zw := hbw.size
        clear hdn
        cases m with
        | zero =>
          clear hbw
          go_wp2
          go_ret
          rw [HE.out, HDN.out]
          exact ⟨rfl, HB2.out.trans (HBW.out.mono z2)⟩
        | succ n =>
          rw [show ((n + 1 : Nat) : Int) - 1 = (n : Int) by omega]
          have rw' := HR2.out.below hbw l2
          have cg := rw'.cell 0
          simp at cg
          have lg := rw'.lt
          have i1 : (0 : Int) ≤ (n : Int) := by omega
          have i2 : (n : Int) ≤ (t.length : Int) := by omega
          have i3 : (n : Int) ≤ (d : Int) := by omega
          have i4 : (0 : Int) < (((hsOf rs).length * 13 : Nat) : Int) := by omega
          have i5 : (0 : Int) < ((hsOf rs).length : Int) * 13 := by omega
          have HBX := Lib.hid (HB2.out.trans (hbw.mono z2))
          have zx := HBX.out.size
          have HBD : Hid (Below w.heap.size w wr.drew) := Lib.hid HBX.out.drew
          have HTAKE := Lib.hid ((HW.out.below HBD.out hh2).take (j := n) (by omega))
          have HRUD := Lib.hid (HV.out.below HBD.out hh)
          have HY : Hid (yesB (Beg (· ∈ frs rs) (t.take n) (t.take n).length (ruleAt rs 0).head 0) = yesB (BegP rs t n)) := Lib.hid (by rw [Bool.eq_iff_iff, yesB_iff, yesB_iff]; exact begP_take (by omega))
          clear hbw rw'
          go_wp2
          go_region_with (go_at_call 96; refine (specBegins_any rs (t.take n) _ _ lo hi lo2 hi2 wr.drew HRUD.out (by show hi ≤ wr.heap.size; omega) HTAKE.out (by show hi2 ≤ wr.heap.size; omega) HQ.out (textB_take HT.out n)).mono ?_; rintro e w6 ⟨g6, rfl, l6, c6, b6⟩; rw [HY.out] at c6)
          have b6' : Below wr.heap.size wr w6 := ⟨b6.os, b6.tape, b6.output, b6.size, b6.block⟩
          have HB6 := Lib.hid (HBW.out.trans (b6'.mono zw))
          have HBE := Lib.hid (HBX.out.trans (b6'.mono zx))
          clear b6 b6' cg HTAKE HRUD c6
          by_cases hp : BegP rs t n
          · have HF := Lib.hid (downB_t hp)
            rw [yesB_t hp]
            clear hp
            go_wp2
            go_ret
            rw [HE.out, HDN.out, HF.out]
            exact ⟨rfl, HBE.out⟩
          · have HF := Lib.hid (downB_f hp)
            rw [yesB_f hp]
            clear hp
            go_wp2
            go_roundw
            case rel => exact ⟨n, by omega, by first | rfl | go_num, HDN.out.trans HF.out, HB6.out⟩
            case measure => simp [intOf]
end Go.Proofs.Ytonfiahihmcmlaa
