/- The walk of the law FnSets. -/
import Derived.Test.YtcgmnpfeiiomgaaJSetN
import Derived.Test.YtcgmnpfeiiomgaaJLwI
import Derived.Test.YtcgmnpfeiiomgaaJVb
import Derived.Test.YtcgmnpfeiiomgaaJSp1
import Derived.Test.YtcgmnpfeiiomgaaJLeftP
import Derived.Test.YtcgmnpfeiiomgaaJLeftS
import Derived.Test.YtcgmnpfeiiomgaaJCycT
import Derived.Test.YtcgmnpfeiiomgaaJUndI
import Derived.Test.YtcgmnpfeiiomgaaJAft
import Derived.Test.YtcgmnpfeiiomgaaJWder
import Derived.Test.YtcgmnpfeiiomgaaJWspan
import Derived.Test.YtcgmnpfeiiomgaaJRightb
import Derived.Deep.RegionHeld3
import Derived.Deep.RegionLaw
import Derived.Deep.QuietTactic
import Derived.BigQuiet
namespace Go.Proofs.Ytcgmnpfeiiomgaa
open Go.RowKit

theorem Below.nextS {w0 wk w' : World} (h : Below w0.heap.size w0 wk) (b : Below wk.heap.size wk w') : Below w0.heap.size w0 w' := h.trans (b.mono h.size)
theorem IntsAt.at {w : World} {lo hi : Nat} {A : Option Addr} {c : Nat} {l : List Int} (h : IntsAt w lo hi (.slice A l.length c) l) {j : Nat} (hj : j < l.length) : ∃ b off, A = some ⟨b, off, none⟩ ∧ b < hi ∧ l.length ≤ c ∧ c ≤ maxLen ∧ w.cell? ⟨b, off + j, none⟩ = some (.int .i64 l[j]) := by
  obtain ⟨A', c', e, h1, h2, h3⟩ := h
  injection e with e1 _ e2
  subst e1 e2
  obtain ⟨b, off, rfl, _, h5, h6⟩ := h3 (by omega)
  exact ⟨b, off, rfl, h5, h1, h2, h6 j hj⟩
theorem useful_at {rs : List RuleD} {j : Nat} (h : j < (usefulOf rs).length) : ∃ i, i ∈ useOf rs ∧ (usefulOf rs)[j] = (i : Int) := by
  have h' : j < (useOf rs).length := by unfold usefulOf at h; simpa using h
  exact ⟨(useOf rs)[j], List.getElem_mem h', by simp [usefulOf]⟩
theorem strs_nil (w : World) (A : Option Addr) : Strs w 0 0 (.slice A 0 0) [] := ⟨A, 0, rfl, Nat.le_refl _, by unfold maxLen; omega, by simp, fun h => by simp at h⟩
namespace fnSets
abbrev IsRow := @Dr.IsRow

set_option linter.unusedSimpArgs false in
set_option maxRecDepth 100000 in
set_option maxHeartbeats 40000000 in
theorem walk (a0 : Option Addr) (len0 cap0 : Nat) (z0 : List Int) (a1 : Option Addr) (len1 cap1 : Nat) (z1 : List Int) (w : World) (h0 : IsRow .u8 w a0 len0 cap0 z0) (h1 : IsRow .u8 w a1 len1 cap1 z1) :
    Calls Try.prog 4 #[.slice a0 len0 cap0, .slice a1 len1 cap1] w fun e w' => e = .returned (.bool true) ∧ Below w.heap.size w w' := by
  have hb0 := Dr.IsRow.bytes h0
  have HB1 := Lib.hid (Dr.IsRow.bytes h1)
  clear h0 h1
  by_cases hl0 : (1048576 : Int) < len0
  · go_enter Try.func4, Try.ntmps4
    go_wp2
    go_ret
    exact ⟨rfl, Below.refl _ _⟩
  by_cases hl1 : (1048576 : Int) < len1
  · go_enter Try.func4, Try.ntmps4
    go_wp2
    go_ret
    exact ⟨rfl, Below.refl _ _⟩
  go_enter Try.func4, Try.ntmps4
  go_wp2_with fail
  refine (Dr.drawUseful_any w a0 len0 cap0 hb0 (by omega)).mono ?_
  rintro e w1 ⟨v, rs, rfl, R1, b1⟩
  have A1 := al1 w1 (.cells #[v] 25)
  have RG := Row.made w1 25 #[v]
  have HV := Lib.hid (R1.below A1 (Nat.le_refl _))
  have B1 := Below.nextS b1 A1
  obtain ⟨Av, cv, rfl, -⟩ := R1
  have lG := RG.lt
  have lv : w1.heap.size ≤ (w1.alloc (.cells #[.slice Av rs.length cv] 25)).heap.size := by simp
  clear hb0 b1 A1
  go_wp2_with fail
  generalize w1.alloc (.cells #[.slice Av rs.length cv] 25) = wg at RG HV B1 lG lv ⊢
  have cG := RG.cell 0
  simp at cG
  have BB : Below wg.heap.size wg wg.drew := (Below.refl _ _).drew
  go_region_held3 (fun w' => w'.cell? ⟨w1.heap.size, 0, none⟩ = some (.slice Av rs.length cv))
    (first | go_keep | (rw [BB.cell lG]; assumption))
    (first
      | (go_at_call 30; refine (implNullable_any rs _ _ _ _ (HV.out.below BB lv) (Nat.le_trans lv BB.size)).mono ?_; rintro e wa ⟨un, gn, rfl, Sn, Gn, bn⟩; have TN := Sn.strs Gn; have BB := Below.nextS BB bn)
      | (go_at_call 31; refine (implProductive_any rs _ _ _ _ (HV.out.below BB lv) (Nat.le_trans lv BB.size)).mono ?_; rintro e wb ⟨up, gp, rfl, Sp, Gp, bp⟩; have TP := Sp.strs Gp; have TN := TN.below bp (Nat.le_refl _); have BB := Below.nextS BB bp)
      | (go_at_call 32; refine (implReachable_any rs _ _ _ _ (HV.out.below BB lv) (Nat.le_trans lv BB.size)).mono ?_; rintro e wc ⟨ur, gr, rfl, Sr, Gr, br⟩; have TR := Sr.strs Gr; have TN := TN.below br bp.size; have TP := TP.below br (Nat.le_refl _); have BB := Below.nextS BB br)
      | (go_at_call 33; refine (implUseful_any rs _ _ _ _ (HV.out.below BB lv) (Nat.le_trans lv BB.size)).mono ?_; rintro e wd ⟨uu, gu, rfl, Su, Gu, bu⟩; have TU := Su.strs Gu; have TN := TN.below bu (Nat.le_trans bp.size br.size); have TP := TP.below bu br.size; have TR := TR.below bu (Nat.le_refl _); have BB := Below.nextS BB bu))
  have HBD := Lib.hid (Below.nextS B1 BB)
  have cG := (BB.cell (p := ⟨w1.heap.size, 0, none⟩) lG).trans cG
  have lGd : w1.heap.size < wd.heap.size := Nat.lt_of_lt_of_le lG BB.size
  have HVD := Lib.hid (HV.out.below BB lv)
  have HTN := Lib.hid TN
  have HTP := Lib.hid TP
  have HTR := Lib.hid TR
  have HTU := Lib.hid TU
  have y1 := bn.size
  have y2 := bp.size
  have y3 := br.size
  have y4 := bu.size
  obtain ⟨An, cn, rfl, hn1, hn2, -, -⟩ := TN
  obtain ⟨Ap, cp, rfl, hp1, hp2, -, -⟩ := TP
  obtain ⟨Ar, cr, rfl, hr1, hr2, -, -⟩ := TR
  obtain ⟨Au, cu, rfl, hu1, hu2, -⟩ := TU
  unfold maxLen at hn2 hp2 hr2 hu2
  have zg : wg.drew.heap.size = wg.heap.size := rfl
  clear Sn Sp Sr Su Gn Gp Gr Gu bn bp br bu BB B1 HV RG
  go_wp2_with fail
  refine (Dr.drawLeftOf_any wd a1 len1 cap1 (HB1.out.later HBD.out) (by omega)).mono ?_
  rintro e w2 ⟨v2, rh, hd, rfl, hhd, R2, b2⟩
  have A2 := al1 w2 (.cells #[v2] 25)
  have RH := Row.made w2 25 #[v2]
  have HVH := Lib.hid (R2.below A2 (Nat.le_refl _))
  have HBE := Lib.hid (Below.nextS b2 A2)
  obtain ⟨A9, c9, rfl, -⟩ := R2
  have lH := RH.lt
  have z2 := b2.size
  clear b2 A2
  go_wp2_with fail
  have z22 : w2.heap.size ≤ (w2.alloc (.cells #[.slice A9 rh.length c9] 25)).heap.size := by simp
  generalize w2.alloc (.cells #[.slice A9 rh.length c9] 25) = we at RH HVH HBE lH z22 ⊢
  refine (implLeftOf_any rh _ hd _ _ _ HVH.out (by omega)).mono ?_
  rintro e wl ⟨ul, gl, rfl, Sl, Gl, bl⟩
  have TL := Sl.strs Gl
  have HTL := Lib.hid TL
  obtain ⟨Al, cl, rfl, hl1', hl2', -, -⟩ := TL
  unfold maxLen at hl2'
  have RHl := RH.below bl lH
  have HEL := Lib.hid (Below.nextS HBE.out bl)
  have HBL := Lib.hid (Below.nextS HBD.out HEL.out)
  have cGl := (HEL.out.cell (p := ⟨w1.heap.size, 0, none⟩) lGd).trans cG
  have cHl := RHl.cell 0
  simp at cHl
  have lHl := RHl.lt
  have zl := bl.size
  have lGl : w1.heap.size < wl.heap.size := by omega
  have HVL := Lib.hid (HVD.out.below HEL.out (by omega))
  have HVHL := Lib.hid (HVH.out.below bl (by omega))
  have HTNL := Lib.hid (HTN.out.below HEL.out (by omega))
  have HTPL := Lib.hid (HTP.out.below HEL.out (by omega))
  have HTRL := Lib.hid (HTR.out.below HEL.out (by omega))
  have HTUL := Lib.hid (HTU.out.below HEL.out (by omega))
  have lvl : w1.heap.size ≤ wl.heap.size := by omega
  have lvh : w2.heap.size ≤ wl.heap.size := by omega
  have lwa : wa.heap.size ≤ wl.heap.size := by omega
  have lwb : wb.heap.size ≤ wl.heap.size := by omega
  have lwc : wc.heap.size ≤ wl.heap.size := by omega
  have lwd : wd.heap.size ≤ wl.heap.size := by omega
  clear Sl Gl bl RH RHl HVH HVD HTN HTP HTR HTU HBE HEL HBD
  have hhm : hd.size ≤ maxLen := by unfold maxLen; omega
  have HES := Lib.hid (fun l : List ByteArray => eqSs_t (rfl : l = l))
  have HEI := Lib.hid (fun l : List Int => eqIs_t (rfl : l = l))
  have dU : ((undefOf rs).toList == (undefOf rs).toList) = true := by simp
  have dC : ((cycOf rs).toList == (cycOf rs).toList) = true := by simp
  have BB : Below wl.heap.size wl wl.drew := (Below.refl _ _).drew
  go_wp2_with fail
  go_region_held3 (fun w' => w'.cell? ⟨w1.heap.size, 0, none⟩ = some (.slice Av rs.length cv) ∧ w'.cell? ⟨w2.heap.size, 0, none⟩ = some (.slice A9 rh.length c9))
    (first | go_keep | (refine ⟨?_, ?_⟩ <;> (rw [BB.cell (by first | exact lGl | exact lHl)]; assumption)))
    (first
      | (go_at_call 36; refine (specNullable_any rs _ _ _ _ (HVL.out.below BB lvl) (Nat.le_trans lvl BB.size)).mono ?_; rintro e x1 ⟨u1, g1, rfl, S1, G1, b1⟩; have T1 := S1.strs G1; have BB := Below.nextS BB b1)
      | (go_at_call 18; refine (lwTexts_any _ u1 (comOf false rs) (comOf false rs) _ _ _ _ _ (HTNL.out.below BB lwa) T1).mono ?_; rintro e x2 ⟨rfl, n1, rfl⟩; rw [HES.out]; have BB : Below wl.heap.size wl (x1.drewN n1) := ⟨BB.os, BB.tape, BB.output, BB.size, BB.block⟩; clear T1)
      | (go_at_call 37; refine (specProductive_any rs _ _ _ _ (HVL.out.below BB lvl) (Nat.le_trans lvl BB.size)).mono ?_; rintro e x3 ⟨u2, g2, rfl, S2, G2, b2⟩; have T2 := S2.strs G2; have BB := Below.nextS BB b2)
      | (go_at_call 18; refine (lwTexts_any _ u2 (comOf true rs) (comOf true rs) _ _ _ _ _ (HTPL.out.below BB lwb) T2).mono ?_; rintro e x4 ⟨rfl, n2, rfl⟩; rw [HES.out]; have BB : Below wl.heap.size wl (x3.drewN n2) := ⟨BB.os, BB.tape, BB.output, BB.size, BB.block⟩; clear T2)
      | (go_at_call 38; refine (specReachable_any rs _ _ _ _ (HVL.out.below BB lvl) (Nat.le_trans lvl BB.size)).mono ?_; rintro e x5 ⟨u3, g3, rfl, S3, G3, b3⟩; have T3 := S3.strs G3; have BB := Below.nextS BB b3)
      | (go_at_call 18; refine (lwTexts_any _ u3 (reachOf rs) (reachOf rs) _ _ _ _ _ (HTRL.out.below BB lwc) T3).mono ?_; rintro e x6 ⟨rfl, n3, rfl⟩; rw [HES.out]; have BB : Below wl.heap.size wl (x5.drewN n3) := ⟨BB.os, BB.tape, BB.output, BB.size, BB.block⟩; clear T3)
      | (go_at_call 40; refine (specUseful_any rs _ _ _ _ (HVL.out.below BB lvl) (Nat.le_trans lvl BB.size)).mono ?_; rintro e x7 ⟨u4, g4, rfl, S4, G4, b4⟩; have T4 := S4.strs G4; have BB := Below.nextS BB b4)
      | (go_at_call 39; refine (lwNums_any _ u4 (usefulOf rs) (usefulOf rs) _ _ _ _ _ (HTUL.out.below BB lwd) T4).mono ?_; rintro e x8 ⟨rfl, n4, rfl⟩; rw [HEI.out]; have BB : Below wl.heap.size wl (x7.drewN n4) := ⟨BB.os, BB.tape, BB.output, BB.size, BB.block⟩; clear T4)
      | (go_at_call 41; refine (implUndefined_any rs _ _ _ _ (HVL.out.below BB lvl) (Nat.le_trans lvl BB.size)).mono ?_; rintro e x9 ⟨rfl, b5⟩; have BB := Below.nextS BB b5)
      | (go_at_call 42; refine (specUndefined_any rs _ _ _ _ (HVL.out.below BB lvl) (Nat.le_trans lvl BB.size)).mono ?_; rintro e y9 ⟨rfl, b6⟩; have BB := Below.nextS BB b6)
      | (go_at_call 43; refine (implCycle_any rs _ _ _ _ (HVL.out.below BB lvl) (Nat.le_trans lvl BB.size)).mono ?_; rintro e x10 ⟨rfl, b7⟩; have BB := Below.nextS BB b7)
      | (go_at_call 44; refine (specCycle_any rs _ _ _ _ (HVL.out.below BB lvl) (Nat.le_trans lvl BB.size)).mono ?_; rintro e y10 ⟨rfl, b8⟩; have BB := Below.nextS BB b8)
      | (go_at_call 45; refine (specLeftOf_any rh _ hd hhm _ _ _ (HVHL.out.below BB lvh) (Nat.le_trans lvh BB.size)).mono ?_; rintro e x11 ⟨u5, g5, rfl, S5, G5, b9⟩; have T5 := S5.strs G5; have BB := Below.nextS BB b9)
      | (go_at_call 18; refine (lwTexts_any _ u5 (leftOf rh hd) (leftOf rh hd) _ _ _ _ _ (HTL.out.below BB (Nat.le_refl _)) T5).mono ?_; rintro e x12 ⟨rfl, n5, rfl⟩; rw [HES.out]; have BB : Below wl.heap.size wl (x11.drewN n5) := ⟨BB.os, BB.tape, BB.output, BB.size, BB.block⟩; clear T5))
  have HBZ := Lib.hid (Below.nextS HBL.out BB)
  have cGz := (BB.cell (p := ⟨w1.heap.size, 0, none⟩) lGl).trans cGl
  have cHz := (BB.cell (p := ⟨w2.heap.size, 0, none⟩) lHl).trans cHl
  have HVz := Lib.hid (HVL.out.below BB lvl)
  have HVHz := Lib.hid (HVHL.out.below BB lvh)
  have HNz := Lib.hid (HTNL.out.below BB lwa)
  have HPz := Lib.hid (HTPL.out.below BB lwb)
  have HRz := Lib.hid (HTRL.out.below BB lwc)
  have HUz := Lib.hid (HTUL.out.below BB lwd)
  have HLz := Lib.hid (HTL.out.below BB (Nat.le_refl _))
  have zz := BB.size
  clear HVL HVHL HTNL HTPL HTRL HTUL HTL HBL cGl cHl S1 G1 S2 G2 S3 G3 S4 G4 S5 G5 b1 b2 b3 b4 b5 b6 b7 b8 b9 dU dC HES HEI
  go_wp2
  generalize x11.drewN n5 = wz at HBZ cGz cHz HVz HVHz HNz HPz HRz HUz HLz zz ⊢
  clear BB
  have lwz1 : w1.heap.size < wz.heap.size := by omega
  have lwz2 : w2.heap.size < wz.heap.size := by omega
  have lwza : wa.heap.size ≤ wz.heap.size := by omega
  have lwzb : wb.heap.size ≤ wz.heap.size := by omega
  have lwzc : wc.heap.size ≤ wz.heap.size := by omega
  have lwzd : wd.heap.size ≤ wz.heap.size := by omega
  have lwzl : wl.heap.size ≤ wz.heap.size := by omega
  clear lG lv lGd lH lHl lGl lvl lvh lwa lwb lwc lwd zz z2 z22 zl y1 y2 y3 y4 zg
  go_loop [13] (fun x => ∃ k : Nat, k ≤ (comOf false rs).length ∧ x = .int .i64 (k : Int)) (fun x => (comOf false rs).length - (intOf x).toNat)
  case atStart => exact ⟨0, by omega, rfl⟩
  case round =>
    obtain ⟨k, hk, rfl⟩ := hrel
    by_cases hlt : k < (comOf false rs).length
    · as_aux_lemma =>
        obtain ⟨b, off, rfl, hbh, _, _, hck⟩ := HNz.out.at hlt
        have HM : Hid (inB (comOf true rs) (comOf false rs)[k] = true) := Lib.hid ((inB_iff _ _).2 (null_prod (List.getElem_mem hlt)))
        go_wp2_with fail
        refine (lwIn_any (comOf true rs) _ _ _ _ _ HPz.out).mono ?_
        rintro e w' ⟨rfl, rfl⟩
        rw [HM.out]
        go_wp2
        go_round
        case rel => exact ⟨k + 1, by omega, by go_num⟩
        case measure => simp [intOf]; omega
    · go_wp2
      go_loopw [14] (fun x wr => ∃ j : Nat, j ≤ (usefulOf rs).length ∧ x = .int .i64 (j : Int) ∧ Below wz.heap.size wz wr) (fun x _ => (usefulOf rs).length - (intOf x).toNat)
      case atStart => exact ⟨0, by omega, rfl, Below.refl _ _⟩
      case round =>
        obtain ⟨j, hj, rfl, hbw⟩ := hrel
        have hsw := hbw.size
        by_cases hjt : j < (usefulOf rs).length
        · as_aux_lemma =>
            obtain ⟨i, hi, hx⟩ := useful_at hjt
            obtain ⟨hg, hil, t1, t2, t3⟩ := use_tells hi
            have hUr := HUz.out.below hbw lwzd
            obtain ⟨bu, offu, rfl, hbu, _, _, hcu⟩ := hUr.at hjt
            rw [hx] at hcu
            have hVr := HVz.out.below hbw (Nat.le_of_lt lwz1)
            obtain ⟨br, offr, rfl, hbr, hcv1, hcv2, hhm, hr0, Bb, db, hr1, hbs⟩ := hVr.at hil
            have cGr := (hbw.cell (p := ⟨w1.heap.size, 0, none⟩) lwz1).trans cGz
            have M1 : Hid (inB (comOf true rs) rs[i].head = true) := Lib.hid ((inB_iff _ _).2 t1)
            have M2 : Hid (inB (reachOf rs) rs[i].head = true) := Lib.hid ((inB_iff _ _).2 t2)
            have T3 := Lib.hid t3
            have HBS := Lib.hid hbs
            have i1 : (i : Int) < (rs.length : Int) := by omega
            have i0 : (0 : Int) ≤ (i : Int) := by omega
            have j1 : (j : Int) < ((usefulOf rs).length : Int) := by omega
            have l1 : br < wr.heap.size := by omega
            have l2 : bu < wr.heap.size := by omega
            have l3 : w1.heap.size < wr.heap.size := by omega
            unfold maxLen at hcv2
            clear hUr hVr hbs t1 t2 t3 hi hg hx
            go_wp2
            go_region
            have bA : Below wz.heap.size wz (wr.alloc (.cells #[.string rs[i].head, .slice Bb rs[i].body.length db] 47)).drew := (hbw.alloc hsw _).drew
            have bX : Below wr.heap.size wr (wr.alloc (.cells #[.string rs[i].head, .slice Bb rs[i].body.length db] 47)).drew := (al1 _ _).drew
            have RX : Row (wr.alloc (.cells #[.string rs[i].head, .slice Bb rs[i].body.length db] 47)).drew wr.heap.size 47 #[.string rs[i].head, .slice Bb rs[i].body.length db] := Row.made wr _ _
            go_wp2_with fail
            generalize (wr.alloc (.cells #[.string rs[i].head, .slice Bb rs[i].body.length db] 47)).drew = wx at bA bX RX ⊢
            have HBX := Lib.hid (HBS.out.below bX (by omega))
            have x0 := RX.cell 0
            have x1 := RX.cell 1
            simp at x0 x1
            have lx := RX.lt
            refine (lwIn_any (comOf true rs) _ _ _ _ _ (HPz.out.below bA lwzb)).mono ?_
            rintro e w' ⟨rfl, rfl⟩
            rw [M1.out]
            go_wp2_with fail
            refine (lwIn_any (reachOf rs) _ _ _ _ _ (HRz.out.below bA lwzc)).mono ?_
            rintro e w' ⟨rfl, rfl⟩
            rw [M2.out]
            clear hcu hr0 hr1 cGr bX RX
            go_wp2
            go_loop [16] (fun x => ∃ q : Nat, q ≤ rs[i].body.length ∧ x = .int .i64 (q : Int)) (fun x => rs[i].body.length - (intOf x).toNat)
            case atStart => exact ⟨0, by omega, rfl⟩
            case round =>
              obtain ⟨q, hq, rfl⟩ := hrel
              by_cases hqt : q < rs[i].body.length
              · have hsz : rs[i].body[q].size ≤ maxLen := by
                  obtain ⟨_, _, _, _, _, hz, _⟩ := HBX.out
                  exact hz _ (List.getElem_mem hqt)
                obtain ⟨bb, offb, rfl, hbb, hd1, hd2, hcb⟩ := HBX.out.at hqt
                unfold maxLen at hd2
                have q1 : (q : Int) < (rs[i].body.length : Int) := by omega
                cases hh : headB rs[i].body[q]
                · have HH := Lib.hid hh
                  clear hh
                  go_wp2_with fail
                  refine (specIsHead_any _ _ hsz).mono ?_
                  rintro e w' ⟨rfl, rfl⟩
                  rw [HH.out]
                  go_wp2
                  go_round
                  case rel => exact ⟨q + 1, by omega, by go_num⟩
                  case measure => simp [intOf]; omega
                · have HH := Lib.hid hh
                  have M3 : Hid (inB (comOf true rs) rs[i].body[q] = true) := Lib.hid ((inB_iff _ _).2 (T3.out _ (List.getElem_mem hqt) hh))
                  clear hh
                  go_wp2_with fail
                  refine (specIsHead_any _ _ hsz).mono ?_
                  rintro e w' ⟨rfl, rfl⟩
                  rw [HH.out]
                  go_wp2_with fail
                  refine (lwIn_any (comOf true rs) _ _ _ _ _ (HPz.out.below bA lwzb)).mono ?_
                  rintro e w' ⟨rfl, rfl⟩
                  rw [M3.out]
                  go_wp2
                  go_round
                  case rel => exact ⟨q + 1, by omega, by go_num⟩
                  case measure => simp [intOf]; omega
              · go_wp2
                go_roundw
                case rel => exact ⟨j + 1, by omega, by go_num, bA⟩
                case measure => simp [intOf]; omega
        · go_wp2
          go_loopw [17] (fun x wv => ∃ j : Nat, j ≤ (leftOf rh hd).length ∧ x = .int .i64 (j : Int) ∧ Below wz.heap.size wz wv) (fun x _ => (leftOf rh hd).length - (intOf x).toNat)
          case atStart => exact ⟨0, by omega, rfl, hbw⟩
          case round =>
            clear hjt hj hsw hbw
            obtain ⟨y, hy, rfl, hbw⟩ := hrel
            have hsw := hbw.size
            by_cases hyt : y < (leftOf rh hd).length
            · as_aux_lemma =>
                have hLr := HLz.out.below hbw lwzl
                obtain ⟨bl, offl, rfl, hbl, hcl1, hcl2, hcl⟩ := hLr.at hyt
                have cHv := (hbw.cell (p := ⟨w2.heap.size, 0, none⟩) lwz2).trans cHz
                have y1 : (y : Int) < ((leftOf rh hd).length : Int) := by omega
                have y0 : (0 : Int) ≤ (y : Int) := by omega
                have l1 : bl < wr.heap.size := by omega
                have l2 : w2.heap.size < wr.heap.size := by omega
                unfold maxLen at hcl2
                have HYM := Lib.hid (List.getElem_mem hyt)
                have BB : Below wz.heap.size wz wr.drew := hbw.drew
                clear hLr
                go_wp2
                go_region_held3 (fun w' => w'.cell? ⟨w2.heap.size, 0, none⟩ = some (.slice A9 rh.length c9) ∧ w'.cell? ⟨bl, offl + y, none⟩ = some (.string (leftOf rh hd)[y]))
                  (first | go_keep | (refine ⟨?_, ?_⟩ <;> (rw [bx.cell (by first | exact l1 | exact l2)]; assumption)))
                  (first
                    | (go_at_call 35; refine (implLeftOf_any rh _ (leftOf rh hd)[y] _ _ _ (HVHz.out.below BB (Nat.le_of_lt lwz2)) (Nat.le_trans (Nat.le_of_lt lwz2) BB.size)).mono ?_; rintro e wq ⟨ux, gx, rfl, Sx, Gx, bx⟩))
                have TX := Sx.strs Gx
                have HTX := Lib.hid TX
                obtain ⟨Ax, cx, rfl, hx1, hx2, -, -⟩ := TX
                unfold maxLen at hx2
                have bQ : Below wz.heap.size wz wq := BB.trans (bx.mono (by show _ ≤ wr.heap.size; omega))
                clear Sx Gx bx BB
                go_wp2
                go_loop [19] (fun x => ∃ q : Nat, q ≤ (leftOf rh (leftOf rh hd)[y]).length ∧ x = .int .i64 (q : Int)) (fun x => (leftOf rh (leftOf rh hd)[y]).length - (intOf x).toNat)
                case atStart => exact ⟨0, by omega, rfl⟩
                case round =>
                  obtain ⟨q, hq, rfl⟩ := hrel
                  by_cases hqt : q < (leftOf rh (leftOf rh hd)[y]).length
                  · obtain ⟨bq, offq, rfl, hbq, hq1, hq2, hcq⟩ := HTX.out.at hqt
                    unfold maxLen at hq2
                    have M4 : Hid (inB (leftOf rh hd) (leftOf rh (leftOf rh hd)[y])[q] = true) := Lib.hid ((inB_iff _ _).2 (left_join HYM.out (List.getElem_mem hqt)))
                    go_wp2_with fail
                    refine (lwIn_any (leftOf rh hd) _ _ _ _ _ (HLz.out.below bQ lwzl)).mono ?_
                    rintro e w' ⟨rfl, rfl⟩
                    rw [M4.out]
                    go_wp2
                    go_round
                    case rel => exact ⟨q + 1, by omega, by go_num⟩
                    case measure => simp [intOf]; omega
                  · go_wp2
                    go_roundw
                    case rel => exact ⟨y + 1, by omega, by go_num, bQ⟩
                    case measure => simp [intOf]; omega
            · have cGv := (hbw.cell (p := ⟨w1.heap.size, 0, none⟩) lwz1).trans cGz
              go_wp2_with fail
              refine (implCycle_any rs _ _ _ _ (HVz.out.below hbw (Nat.le_of_lt lwz1)) (by omega)).mono ?_
              rintro e wc8 ⟨rfl, bc⟩
              have hb8 : Below wz.heap.size wz wc8 := hbw.trans (bc.mono hsw)
              have z8 := hb8.size
              have cG8 := (hb8.cell (p := ⟨w1.heap.size, 0, none⟩) lwz1).trans cGz
              have HV8 := Lib.hid (HVz.out.below hb8 (Nat.le_of_lt lwz1))
              have HN8 := Lib.hid (HNz.out.below hb8 lwza)
              have HP8 := Lib.hid (HPz.out.below hb8 lwzb)
              have HB8 := Lib.hid (Below.nextS HBZ.out hb8)
              have m1 : w1.heap.size < wc8.heap.size := by omega
              have m1' : w1.heap.size ≤ wc8.heap.size := by omega
              have ma : wa.heap.size ≤ wc8.heap.size := by omega
              have mb : wb.heap.size ≤ wc8.heap.size := by omega
              clear hbw bc cGv cGz hsw hyt hy hb8 z8 HVz HNz HPz HRz HUz HLz HVHz HBZ cHz lwz1 lwz2 lwza lwzb lwzc lwzd lwzl hlt hk
              have BB : Below wc8.heap.size wc8 wc8.drew := (Below.refl _ _).drew
              cases hg : gramB rs
              · have HG := Lib.hid hg
                have hc := cyc_f hg
                have dc : ((cycOf rs).toList == []) = true := eq_lit hc
                clear hg hc
                go_wp2
                as_aux_lemma =>
                  refine wp_region_held_drew (S := fun w' => w'.cell? ⟨w1.heap.size, 0, none⟩ = some (.slice Av rs.length cv)) (by kernel_rfl) ((BB.cell (p := ⟨w1.heap.size, 0, none⟩) m1).trans cG8) (fun hHeld => ?_)
                  refine wpAnyH_take (i := 0) (v := ?_) rfl (by kernel_rfl) (by kernel_rfl) (by kernel_rfl) (fun _ _ _ h => h) (Or.inl ⟨by rfl, ?_⟩) (by assumption) ?_
                  rotate_left
                  · intro w' hSw
                    try dsimp only at hSw
                    go_simp
                    try with_reducible rfl
                  simp only [Act.put, List.setIfInBounds_toArray, List.set_cons_zero, List.set_cons_succ, List.getElem_toArray, List.getElem_cons_zero, List.getElem_cons_succ]
                  refine wpAnyH_take (i := 1) (v := ?_) rfl (by kernel_rfl) (by kernel_rfl) (by kernel_rfl) (fun _ _ _ h => h) (Or.inl ⟨by rfl, ?_⟩) (by assumption) ?_
                  rotate_left
                  · intro w' hSw
                    try dsimp only at hSw
                    go_simp
                    try with_reducible rfl
                  simp only [Act.put, List.setIfInBounds_toArray, List.set_cons_zero, List.set_cons_succ, List.getElem_toArray, List.getElem_cons_zero, List.getElem_cons_succ]
                  refine wpAnyH_take (i := 2) (v := ?_) rfl (by kernel_rfl) (by kernel_rfl) (by kernel_rfl) (fun _ _ _ h => h) (Or.inl ⟨by rfl, ?_⟩) (by assumption) ?_
                  rotate_left
                  · intro w' hSw
                    try dsimp only at hSw
                    go_simp
                    try with_reducible rfl
                  simp only [Act.put, List.setIfInBounds_toArray, List.set_cons_zero, List.set_cons_succ, List.getElem_toArray, List.getElem_cons_zero, List.getElem_cons_succ]
                  refine wpAnyH_take (i := 3) (v := undef) rfl (by kernel_rfl) (by kernel_rfl) (by kernel_rfl) (fun _ _ _ h => h) (Or.inr ⟨by rfl, rfl⟩) (by assumption) ?_
                  simp only [Act.put, List.setIfInBounds_toArray, List.set_cons_zero, List.set_cons_succ, List.getElem_toArray, List.getElem_cons_zero, List.getElem_cons_succ]
                  refine wpAnyH_take (i := 4) (v := undef) rfl (by kernel_rfl) (by kernel_rfl) (by kernel_rfl) (fun _ _ _ h => h) (Or.inr ⟨by rfl, rfl⟩) (by assumption) ?_
                  simp only [Act.put, List.setIfInBounds_toArray, List.set_cons_zero, List.set_cons_succ, List.getElem_toArray, List.getElem_cons_zero, List.getElem_cons_succ]
                  refine wpAnyH_take (i := 5) (v := undef) rfl (by kernel_rfl) (by kernel_rfl) (by kernel_rfl) (fun _ _ _ h => h) (Or.inr ⟨by rfl, rfl⟩) (by assumption) ?_
                  simp only [Act.put, List.setIfInBounds_toArray, List.set_cons_zero, List.set_cons_succ, List.getElem_toArray, List.getElem_cons_zero, List.getElem_cons_succ]
                  refine wpAnyH_take (i := 6) (v := undef) rfl (by kernel_rfl) (by kernel_rfl) (by kernel_rfl) (fun _ _ _ h => h) (Or.inr ⟨by rfl, rfl⟩) (by assumption) ?_
                  simp only [Act.put, List.setIfInBounds_toArray, List.set_cons_zero, List.set_cons_succ, List.getElem_toArray, List.getElem_cons_zero, List.getElem_cons_succ]
                  refine wpAnyH_take (i := 7) (v := undef) rfl (by kernel_rfl) (by kernel_rfl) (by kernel_rfl) (fun _ _ _ h => h) (Or.inr ⟨by rfl, rfl⟩) (by assumption) ?_
                  simp only [Act.put, List.setIfInBounds_toArray, List.set_cons_zero, List.set_cons_succ, List.getElem_toArray, List.getElem_cons_zero, List.getElem_cons_succ]
                  refine wpAnyH_take (i := 8) (v := ?_) rfl (by kernel_rfl) (by kernel_rfl) (by kernel_rfl) (fun _ _ _ h => h) (Or.inl ⟨by rfl, ?_⟩) (by assumption) ?_
                  rotate_left
                  · intro w' hSw
                    try dsimp only at hSw
                    go_simp
                    try with_reducible rfl
                  simp only [Act.put, List.setIfInBounds_toArray, List.set_cons_zero, List.set_cons_succ, List.getElem_toArray, List.getElem_cons_zero, List.getElem_cons_succ]
                  refine wpAnyH_take (i := 9) (v := ?_) rfl (by kernel_rfl) (by kernel_rfl) (by kernel_rfl) (fun _ _ _ h => h) (Or.inl ⟨by rfl, ?_⟩) (by assumption) ?_
                  rotate_left
                  · intro w' hSw
                    try dsimp only at hSw
                    go_simp
                    try with_reducible rfl
                  simp only [Act.put, List.setIfInBounds_toArray, List.set_cons_zero, List.set_cons_succ, List.getElem_toArray, List.getElem_cons_zero, List.getElem_cons_succ]
                  refine wpAnyH_take (i := 10) (v := ?_) rfl (by kernel_rfl) (by kernel_rfl) (by kernel_rfl) (fun _ _ _ h => h) (Or.inl ⟨by rfl, ?_⟩) (by assumption) ?_
                  rotate_left
                  · intro w' hSw
                    try dsimp only at hSw
                    go_simp
                    try with_reducible rfl
                  simp only [Act.put, List.setIfInBounds_toArray, List.set_cons_zero, List.set_cons_succ, List.getElem_toArray, List.getElem_cons_zero, List.getElem_cons_succ]
                  refine wpAnyH_ready (rs := [11]) (by kernel_rfl) (by simp) ?_
                  refine AllReadyH.cons rfl (fun K hK => ?_) AllReadyH.nil
                  go_simp
                  go_at_call 24
                  refine (specGramRight_any rs _ _ _ _ (HV8.out.below BB m1') (Nat.le_trans m1' BB.size)).mono ?_
                  rintro e wf ⟨rfl, bf⟩
                  rw [HG.out]
                  have BB := Below.nextS BB bf
                  go_wp2_with fail
                  refine hK.out _ _ ((BB.cell (p := ⟨w1.heap.size, 0, none⟩) m1).trans cG8) (fun hHeld => ?_)
                  clear hK K
                  try simp only [Act.put, List.setIfInBounds_toArray, List.set_cons_zero, List.set_cons_succ, List.getElem_toArray, List.getElem_cons_zero, List.getElem_cons_succ]
                  refine wpAnyH_take (i := 12) (v := ?_) rfl (by kernel_rfl) (by kernel_rfl) (by kernel_rfl) (fun _ _ _ h => h) (Or.inl ⟨by rfl, ?_⟩) (by assumption) ?_
                  rotate_left
                  · intro w' hSw
                    try dsimp only at hSw
                    go_simp
                    try with_reducible rfl
                  simp only [Act.put, List.setIfInBounds_toArray, List.set_cons_zero, List.set_cons_succ, List.getElem_toArray, List.getElem_cons_zero, List.getElem_cons_succ]
                  refine wpAnyH_take (i := 13) (v := ?_) rfl (by kernel_rfl) (by kernel_rfl) (by kernel_rfl) (fun _ _ _ h => h) (Or.inl ⟨by rfl, ?_⟩) (by assumption) ?_
                  rotate_left
                  · intro w' hSw
                    try dsimp only at hSw
                    go_simp
                    try with_reducible rfl
                  simp only [Act.put, List.setIfInBounds_toArray, List.set_cons_zero, List.set_cons_succ, List.getElem_toArray, List.getElem_cons_zero, List.getElem_cons_succ]
                  refine wpAnyH_take (i := 14) (v := undef) rfl (by kernel_rfl) (by kernel_rfl) (by kernel_rfl) (fun _ _ _ h => h) (Or.inr ⟨by rfl, rfl⟩) (by assumption) ?_
                  simp only [Act.put, List.setIfInBounds_toArray, List.set_cons_zero, List.set_cons_succ, List.getElem_toArray, List.getElem_cons_zero, List.getElem_cons_succ]
                  refine wpAnyH_take (i := 15) (v := undef) rfl (by kernel_rfl) (by kernel_rfl) (by kernel_rfl) (fun _ _ _ h => h) (Or.inr ⟨by rfl, rfl⟩) (by assumption) ?_
                  simp only [Act.put, List.setIfInBounds_toArray, List.set_cons_zero, List.set_cons_succ, List.getElem_toArray, List.getElem_cons_zero, List.getElem_cons_succ]
                  refine wpAnyH_take (i := 16) (v := undef) rfl (by kernel_rfl) (by kernel_rfl) (by kernel_rfl) (fun _ _ _ h => h) (Or.inr ⟨by rfl, rfl⟩) (by assumption) ?_
                  simp only [Act.put, List.setIfInBounds_toArray, List.set_cons_zero, List.set_cons_succ, List.getElem_toArray, List.getElem_cons_zero, List.getElem_cons_succ]
                  refine wpAnyH_take (i := 17) (v := undef) rfl (by kernel_rfl) (by kernel_rfl) (by kernel_rfl) (fun _ _ _ h => h) (Or.inr ⟨by rfl, rfl⟩) (by assumption) ?_
                  simp only [Act.put, List.setIfInBounds_toArray, List.set_cons_zero, List.set_cons_succ, List.getElem_toArray, List.getElem_cons_zero, List.getElem_cons_succ]
                  refine wpAnyH_take (i := 18) (v := undef) rfl (by kernel_rfl) (by kernel_rfl) (by kernel_rfl) (fun _ _ _ h => h) (Or.inr ⟨by rfl, rfl⟩) (by assumption) ?_
                  simp only [Act.put, List.setIfInBounds_toArray, List.set_cons_zero, List.set_cons_succ, List.getElem_toArray, List.getElem_cons_zero, List.getElem_cons_succ]
                  refine wpAnyH_take (i := 19) (v := undef) rfl (by kernel_rfl) (by kernel_rfl) (by kernel_rfl) (fun _ _ _ h => h) (Or.inr ⟨by rfl, rfl⟩) (by assumption) ?_
                  simp only [Act.put, List.setIfInBounds_toArray, List.set_cons_zero, List.set_cons_succ, List.getElem_toArray, List.getElem_cons_zero, List.getElem_cons_succ]
                  refine wpAnyH_take (i := 20) (v := undef) rfl (by kernel_rfl) (by kernel_rfl) (by kernel_rfl) (fun _ _ _ h => h) (Or.inr ⟨by rfl, rfl⟩) (by assumption) ?_
                  simp only [Act.put, List.setIfInBounds_toArray, List.set_cons_zero, List.set_cons_succ, List.getElem_toArray, List.getElem_cons_zero, List.getElem_cons_succ]
                  refine wpAnyH_take (i := 21) (v := undef) rfl (by kernel_rfl) (by kernel_rfl) (by kernel_rfl) (fun _ _ _ h => h) (Or.inr ⟨by rfl, rfl⟩) (by assumption) ?_
                  simp only [Act.put, List.setIfInBounds_toArray, List.set_cons_zero, List.set_cons_succ, List.getElem_toArray, List.getElem_cons_zero, List.getElem_cons_succ]
                  refine wpAnyH_take (i := 22) (v := undef) rfl (by kernel_rfl) (by kernel_rfl) (by kernel_rfl) (fun _ _ _ h => h) (Or.inr ⟨by rfl, rfl⟩) (by assumption) ?_
                  simp only [Act.put, List.setIfInBounds_toArray, List.set_cons_zero, List.set_cons_succ, List.getElem_toArray, List.getElem_cons_zero, List.getElem_cons_succ]
                  refine wpAnyH_take (i := 23) (v := undef) rfl (by kernel_rfl) (by kernel_rfl) (by kernel_rfl) (fun _ _ _ h => h) (Or.inr ⟨by rfl, rfl⟩) (by assumption) ?_
                  simp only [Act.put, List.setIfInBounds_toArray, List.set_cons_zero, List.set_cons_succ, List.getElem_toArray, List.getElem_cons_zero, List.getElem_cons_succ]
                  refine wpAnyH_take (i := 24) (v := undef) rfl (by kernel_rfl) (by kernel_rfl) (by kernel_rfl) (fun _ _ _ h => h) (Or.inr ⟨by rfl, rfl⟩) (by assumption) ?_
                  simp only [Act.put, List.setIfInBounds_toArray, List.set_cons_zero, List.set_cons_succ, List.getElem_toArray, List.getElem_cons_zero, List.getElem_cons_succ]
                  refine wpAnyH_take (i := 25) (v := undef) rfl (by kernel_rfl) (by kernel_rfl) (by kernel_rfl) (fun _ _ _ h => h) (Or.inr ⟨by rfl, rfl⟩) (by assumption) ?_
                  simp only [Act.put, List.setIfInBounds_toArray, List.set_cons_zero, List.set_cons_succ, List.getElem_toArray, List.getElem_cons_zero, List.getElem_cons_succ]
                  refine wpAnyH_take (i := 26) (v := undef) rfl (by kernel_rfl) (by kernel_rfl) (by kernel_rfl) (fun _ _ _ h => h) (Or.inr ⟨by rfl, rfl⟩) (by assumption) ?_
                  simp only [Act.put, List.setIfInBounds_toArray, List.set_cons_zero, List.set_cons_succ, List.getElem_toArray, List.getElem_cons_zero, List.getElem_cons_succ]
                  refine wpAnyH_take (i := 27) (v := undef) rfl (by kernel_rfl) (by kernel_rfl) (by kernel_rfl) (fun _ _ _ h => h) (Or.inr ⟨by rfl, rfl⟩) (by assumption) ?_
                  simp only [Act.put, List.setIfInBounds_toArray, List.set_cons_zero, List.set_cons_succ, List.getElem_toArray, List.getElem_cons_zero, List.getElem_cons_succ]
                  refine wpAnyH_take (i := 28) (v := undef) rfl (by kernel_rfl) (by kernel_rfl) (by kernel_rfl) (fun _ _ _ h => h) (Or.inr ⟨by rfl, rfl⟩) (by assumption) ?_
                  simp only [Act.put, List.setIfInBounds_toArray, List.set_cons_zero, List.set_cons_succ, List.getElem_toArray, List.getElem_cons_zero, List.getElem_cons_succ]
                  refine wpAnyH_take (i := 29) (v := undef) rfl (by kernel_rfl) (by kernel_rfl) (by kernel_rfl) (fun _ _ _ h => h) (Or.inr ⟨by rfl, rfl⟩) (by assumption) ?_
                  simp only [Act.put, List.setIfInBounds_toArray, List.set_cons_zero, List.set_cons_succ, List.getElem_toArray, List.getElem_cons_zero, List.getElem_cons_succ]
                  refine wpAnyH_take (i := 30) (v := undef) rfl (by kernel_rfl) (by kernel_rfl) (by kernel_rfl) (fun _ _ _ h => h) (Or.inr ⟨by rfl, rfl⟩) (by assumption) ?_
                  simp only [Act.put, List.setIfInBounds_toArray, List.set_cons_zero, List.set_cons_succ, List.getElem_toArray, List.getElem_cons_zero, List.getElem_cons_succ]
                  refine wpAnyH_take (i := 31) (v := undef) rfl (by kernel_rfl) (by kernel_rfl) (by kernel_rfl) (fun _ _ _ h => h) (Or.inr ⟨by rfl, rfl⟩) (by assumption) ?_
                  simp only [Act.put, List.setIfInBounds_toArray, List.set_cons_zero, List.set_cons_succ, List.getElem_toArray, List.getElem_cons_zero, List.getElem_cons_succ]
                  refine wpAnyH_take (i := 32) (v := undef) rfl (by kernel_rfl) (by kernel_rfl) (by kernel_rfl) (fun _ _ _ h => h) (Or.inr ⟨by rfl, rfl⟩) (by assumption) ?_
                  simp only [Act.put, List.setIfInBounds_toArray, List.set_cons_zero, List.set_cons_succ, List.getElem_toArray, List.getElem_cons_zero, List.getElem_cons_succ]
                  refine wpAnyH_take (i := 33) (v := undef) rfl (by kernel_rfl) (by kernel_rfl) (by kernel_rfl) (fun _ _ _ h => h) (Or.inr ⟨by rfl, rfl⟩) (by assumption) ?_
                  simp only [Act.put, List.setIfInBounds_toArray, List.set_cons_zero, List.set_cons_succ, List.getElem_toArray, List.getElem_cons_zero, List.getElem_cons_succ]
                  refine wpAnyH_take (i := 34) (v := undef) rfl (by kernel_rfl) (by kernel_rfl) (by kernel_rfl) (fun _ _ _ h => h) (Or.inr ⟨by rfl, rfl⟩) (by assumption) ?_
                  simp only [Act.put, List.setIfInBounds_toArray, List.set_cons_zero, List.set_cons_succ, List.getElem_toArray, List.getElem_cons_zero, List.getElem_cons_succ]
                  refine wpAnyH_take (i := 35) (v := undef) rfl (by kernel_rfl) (by kernel_rfl) (by kernel_rfl) (fun _ _ _ h => h) (Or.inr ⟨by rfl, rfl⟩) (by assumption) ?_
                  simp only [Act.put, List.setIfInBounds_toArray, List.set_cons_zero, List.set_cons_succ, List.getElem_toArray, List.getElem_cons_zero, List.getElem_cons_succ]
                  refine wpAnyH_take (i := 36) (v := undef) rfl (by kernel_rfl) (by kernel_rfl) (by kernel_rfl) (fun _ _ _ h => h) (Or.inr ⟨by rfl, rfl⟩) (by assumption) ?_
                  simp only [Act.put, List.setIfInBounds_toArray, List.set_cons_zero, List.set_cons_succ, List.getElem_toArray, List.getElem_cons_zero, List.getElem_cons_succ]
                  refine wpAnyH_take (i := 37) (v := undef) rfl (by kernel_rfl) (by kernel_rfl) (by kernel_rfl) (fun _ _ _ h => h) (Or.inr ⟨by rfl, rfl⟩) (by assumption) ?_
                  simp only [Act.put, List.setIfInBounds_toArray, List.set_cons_zero, List.set_cons_succ, List.getElem_toArray, List.getElem_cons_zero, List.getElem_cons_succ]
                  refine wpAnyH_take (i := 38) (v := undef) rfl (by kernel_rfl) (by kernel_rfl) (by kernel_rfl) (fun _ _ _ h => h) (Or.inr ⟨by rfl, rfl⟩) (by assumption) ?_
                  simp only [Act.put, List.setIfInBounds_toArray, List.set_cons_zero, List.set_cons_succ, List.getElem_toArray, List.getElem_cons_zero, List.getElem_cons_succ]
                  refine wpAnyH_take (i := 39) (v := ?_) rfl (by kernel_rfl) (by kernel_rfl) (by kernel_rfl) (fun _ _ _ h => h) (Or.inl ⟨by rfl, ?_⟩) (by assumption) ?_
                  rotate_left
                  · intro w' hSw
                    try dsimp only at hSw
                    go_simp
                    try with_reducible rfl
                  simp only [Act.put, List.setIfInBounds_toArray, List.set_cons_zero, List.set_cons_succ, List.getElem_toArray, List.getElem_cons_zero, List.getElem_cons_succ]
                  refine wpAnyH_take (i := 40) (v := ?_) rfl (by kernel_rfl) (by kernel_rfl) (by kernel_rfl) (fun _ _ _ h => h) (Or.inl ⟨by rfl, ?_⟩) (by assumption) ?_
                  rotate_left
                  · intro w' hSw
                    try dsimp only at hSw
                    go_simp
                    try with_reducible rfl
                  simp only [Act.put, List.setIfInBounds_toArray, List.set_cons_zero, List.set_cons_succ, List.getElem_toArray, List.getElem_cons_zero, List.getElem_cons_succ]
                  refine wpAnyH_take (i := 41) (v := ?_) rfl (by kernel_rfl) (by kernel_rfl) (by kernel_rfl) (fun _ _ _ h => h) (Or.inl ⟨by rfl, ?_⟩) (by assumption) ?_
                  rotate_left
                  · intro w' hSw
                    try dsimp only at hSw
                    go_simp
                    try with_reducible rfl
                  simp only [Act.put, List.setIfInBounds_toArray, List.set_cons_zero, List.set_cons_succ, List.getElem_toArray, List.getElem_cons_zero, List.getElem_cons_succ]
                  refine wpAnyH_done (by kernel_rfl) ?_ _
                  go_wp2
                  go_ret
                  exact ⟨rfl, HB8.out.trans (BB.mono HB8.out.size)⟩
              · have HG := Lib.hid hg
                have R := Rt.of hg
                have h0 : 0 < rs.length := R.one
                have HS0 := Lib.hid (start_null hg h0)
                have HS1 := Lib.hid (start_prod hg h0)
                obtain ⟨br, offr, rfl, hbr, hcv1, hcv2, hhm, hr0, -⟩ := HV8.out.at h0
                simp only [Nat.zero_mul, Nat.add_zero] at hr0
                unfold maxLen at hcv2
                have lb : br < wc8.heap.size := by omega
                have i0 : (0 : Int) < (rs.length : Int) := by omega
                clear R hbr hhm
                by_cases hc : cycOf rs = ByteArray.empty
                · have dc : ((cycOf rs).toList == []) = true := eq_lit hc
                  clear hg hc
                  go_wp2
                  as_aux_lemma =>
                    refine wp_region_held_drew (S := fun w' => w'.cell? ⟨w1.heap.size, 0, none⟩ = some (.slice (some ⟨br, offr, none⟩) rs.length cv) ∧ w'.cell? ⟨br, offr, none⟩ = some (.string rs[0].head)) (by kernel_rfl) ⟨(BB.cell (p := ⟨w1.heap.size, 0, none⟩) m1).trans cG8, (BB.cell (p := ⟨br, offr, none⟩) lb).trans hr0⟩ (fun hHeld => ?_)
                    refine wpAnyH_take (i := 0) (v := ?_) rfl (by kernel_rfl) (by kernel_rfl) (by kernel_rfl) (fun _ _ _ h => h) (Or.inl ⟨by rfl, ?_⟩) (by assumption) ?_
                    rotate_left
                    · intro w' hSw
                      try dsimp only at hSw
                      go_simp
                      try with_reducible rfl
                    simp only [Act.put, List.setIfInBounds_toArray, List.set_cons_zero, List.set_cons_succ, List.getElem_toArray, List.getElem_cons_zero, List.getElem_cons_succ]
                    refine wpAnyH_take (i := 1) (v := ?_) rfl (by kernel_rfl) (by kernel_rfl) (by kernel_rfl) (fun _ _ _ h => h) (Or.inl ⟨by rfl, ?_⟩) (by assumption) ?_
                    rotate_left
                    · intro w' hSw
                      try dsimp only at hSw
                      go_simp
                      try with_reducible rfl
                    simp only [Act.put, List.setIfInBounds_toArray, List.set_cons_zero, List.set_cons_succ, List.getElem_toArray, List.getElem_cons_zero, List.getElem_cons_succ]
                    refine wpAnyH_take (i := 2) (v := ?_) rfl (by kernel_rfl) (by kernel_rfl) (by kernel_rfl) (fun _ _ _ h => h) (Or.inl ⟨by rfl, ?_⟩) (by assumption) ?_
                    rotate_left
                    · intro w' hSw
                      try dsimp only at hSw
                      go_simp
                      try with_reducible rfl
                    simp only [Act.put, List.setIfInBounds_toArray, List.set_cons_zero, List.set_cons_succ, List.getElem_toArray, List.getElem_cons_zero, List.getElem_cons_succ]
                    refine wpAnyH_take (i := 3) (v := undef) rfl (by kernel_rfl) (by kernel_rfl) (by kernel_rfl) (fun _ _ _ h => h) (Or.inr ⟨by rfl, rfl⟩) (by assumption) ?_
                    simp only [Act.put, List.setIfInBounds_toArray, List.set_cons_zero, List.set_cons_succ, List.getElem_toArray, List.getElem_cons_zero, List.getElem_cons_succ]
                    refine wpAnyH_take (i := 4) (v := undef) rfl (by kernel_rfl) (by kernel_rfl) (by kernel_rfl) (fun _ _ _ h => h) (Or.inr ⟨by rfl, rfl⟩) (by assumption) ?_
                    simp only [Act.put, List.setIfInBounds_toArray, List.set_cons_zero, List.set_cons_succ, List.getElem_toArray, List.getElem_cons_zero, List.getElem_cons_succ]
                    refine wpAnyH_take (i := 5) (v := undef) rfl (by kernel_rfl) (by kernel_rfl) (by kernel_rfl) (fun _ _ _ h => h) (Or.inr ⟨by rfl, rfl⟩) (by assumption) ?_
                    simp only [Act.put, List.setIfInBounds_toArray, List.set_cons_zero, List.set_cons_succ, List.getElem_toArray, List.getElem_cons_zero, List.getElem_cons_succ]
                    refine wpAnyH_take (i := 6) (v := undef) rfl (by kernel_rfl) (by kernel_rfl) (by kernel_rfl) (fun _ _ _ h => h) (Or.inr ⟨by rfl, rfl⟩) (by assumption) ?_
                    simp only [Act.put, List.setIfInBounds_toArray, List.set_cons_zero, List.set_cons_succ, List.getElem_toArray, List.getElem_cons_zero, List.getElem_cons_succ]
                    refine wpAnyH_take (i := 7) (v := undef) rfl (by kernel_rfl) (by kernel_rfl) (by kernel_rfl) (fun _ _ _ h => h) (Or.inr ⟨by rfl, rfl⟩) (by assumption) ?_
                    simp only [Act.put, List.setIfInBounds_toArray, List.set_cons_zero, List.set_cons_succ, List.getElem_toArray, List.getElem_cons_zero, List.getElem_cons_succ]
                    refine wpAnyH_take (i := 8) (v := ?_) rfl (by kernel_rfl) (by kernel_rfl) (by kernel_rfl) (fun _ _ _ h => h) (Or.inl ⟨by rfl, ?_⟩) (by assumption) ?_
                    rotate_left
                    · intro w' hSw
                      try dsimp only at hSw
                      go_simp
                      try with_reducible rfl
                    simp only [Act.put, List.setIfInBounds_toArray, List.set_cons_zero, List.set_cons_succ, List.getElem_toArray, List.getElem_cons_zero, List.getElem_cons_succ]
                    refine wpAnyH_take (i := 9) (v := ?_) rfl (by kernel_rfl) (by kernel_rfl) (by kernel_rfl) (fun _ _ _ h => h) (Or.inl ⟨by rfl, ?_⟩) (by assumption) ?_
                    rotate_left
                    · intro w' hSw
                      try dsimp only at hSw
                      go_simp
                      try with_reducible rfl
                    simp only [Act.put, List.setIfInBounds_toArray, List.set_cons_zero, List.set_cons_succ, List.getElem_toArray, List.getElem_cons_zero, List.getElem_cons_succ]
                    refine wpAnyH_take (i := 10) (v := ?_) rfl (by kernel_rfl) (by kernel_rfl) (by kernel_rfl) (fun _ _ _ h => h) (Or.inl ⟨by rfl, ?_⟩) (by assumption) ?_
                    rotate_left
                    · intro w' hSw
                      try dsimp only at hSw
                      go_simp
                      try with_reducible rfl
                    simp only [Act.put, List.setIfInBounds_toArray, List.set_cons_zero, List.set_cons_succ, List.getElem_toArray, List.getElem_cons_zero, List.getElem_cons_succ]
                    refine wpAnyH_ready (rs := [11]) (by kernel_rfl) (by simp) ?_
                    refine AllReadyH.cons rfl (fun K hK => ?_) AllReadyH.nil
                    go_simp
                    go_at_call 24
                    refine (specGramRight_any rs _ _ _ _ (HV8.out.below BB m1') (Nat.le_trans m1' BB.size)).mono ?_
                    rintro e wf ⟨rfl, bf⟩
                    rw [HG.out]
                    have BB := Below.nextS BB bf
                    go_wp2_with fail
                    refine hK.out _ _ ⟨(BB.cell (p := ⟨w1.heap.size, 0, none⟩) m1).trans cG8, (BB.cell (p := ⟨br, offr, none⟩) lb).trans hr0⟩ (fun hHeld => ?_)
                    clear hK K
                    try simp only [Act.put, List.setIfInBounds_toArray, List.set_cons_zero, List.set_cons_succ, List.getElem_toArray, List.getElem_cons_zero, List.getElem_cons_succ]
                    refine wpAnyH_take (i := 12) (v := ?_) rfl (by kernel_rfl) (by kernel_rfl) (by kernel_rfl) (fun _ _ _ h => h) (Or.inl ⟨by rfl, ?_⟩) (by assumption) ?_
                    rotate_left
                    · intro w' hSw
                      try dsimp only at hSw
                      go_simp
                      try with_reducible rfl
                    simp only [Act.put, List.setIfInBounds_toArray, List.set_cons_zero, List.set_cons_succ, List.getElem_toArray, List.getElem_cons_zero, List.getElem_cons_succ]
                    refine wpAnyH_take (i := 13) (v := ?_) rfl (by kernel_rfl) (by kernel_rfl) (by kernel_rfl) (fun _ _ _ h => h) (Or.inl ⟨by rfl, ?_⟩) (by assumption) ?_
                    rotate_left
                    · intro w' hSw
                      try dsimp only at hSw
                      go_simp
                      try with_reducible rfl
                    simp only [Act.put, List.setIfInBounds_toArray, List.set_cons_zero, List.set_cons_succ, List.getElem_toArray, List.getElem_cons_zero, List.getElem_cons_succ]
                    refine wpAnyH_take (i := 14) (v := ?_) rfl (by kernel_rfl) (by kernel_rfl) (by kernel_rfl) (fun _ _ _ h => h) (Or.inl ⟨by rfl, ?_⟩) (by assumption) ?_
                    rotate_left
                    · intro w' hSw
                      try dsimp only at hSw
                      go_simp
                      try with_reducible rfl
                    simp only [Act.put, List.setIfInBounds_toArray, List.set_cons_zero, List.set_cons_succ, List.getElem_toArray, List.getElem_cons_zero, List.getElem_cons_succ]
                    refine wpAnyH_take (i := 15) (v := ?_) rfl (by kernel_rfl) (by kernel_rfl) (by kernel_rfl) (fun _ _ _ h => h) (Or.inl ⟨by rfl, ?_⟩) (by assumption) ?_
                    rotate_left
                    · intro w' hSw
                      try dsimp only at hSw
                      go_simp
                      try with_reducible rfl
                    simp only [Act.put, List.setIfInBounds_toArray, List.set_cons_zero, List.set_cons_succ, List.getElem_toArray, List.getElem_cons_zero, List.getElem_cons_succ]
                    refine wpAnyH_take (i := 16) (v := ?_) rfl (by kernel_rfl) (by kernel_rfl) (by kernel_rfl) (fun _ _ _ h => h) (Or.inl ⟨by rfl, ?_⟩) (by assumption) ?_
                    rotate_left
                    · intro w' hSw
                      try dsimp only at hSw
                      go_simp
                      try with_reducible rfl
                    simp only [Act.put, List.setIfInBounds_toArray, List.set_cons_zero, List.set_cons_succ, List.getElem_toArray, List.getElem_cons_zero, List.getElem_cons_succ]
                    refine wpAnyH_take (i := 17) (v := ?_) rfl (by kernel_rfl) (by kernel_rfl) (by kernel_rfl) (fun _ _ _ h => h) (Or.inl ⟨by rfl, ?_⟩) (by assumption) ?_
                    rotate_left
                    · intro w' hSw
                      try dsimp only at hSw
                      go_simp
                      try with_reducible rfl
                    simp only [Act.put, List.setIfInBounds_toArray, List.set_cons_zero, List.set_cons_succ, List.getElem_toArray, List.getElem_cons_zero, List.getElem_cons_succ]
                    refine wpAnyH_take (i := 18) (v := ?_) rfl (by kernel_rfl) (by kernel_rfl) (by kernel_rfl) (fun _ _ _ h => h) (Or.inl ⟨by rfl, ?_⟩) (by assumption) ?_
                    rotate_left
                    · intro w' hSw
                      try dsimp only at hSw
                      go_simp
                      try with_reducible rfl
                    simp only [Act.put, List.setIfInBounds_toArray, List.set_cons_zero, List.set_cons_succ, List.getElem_toArray, List.getElem_cons_zero, List.getElem_cons_succ]
                    refine wpAnyH_take (i := 19) (v := ?_) rfl (by kernel_rfl) (by kernel_rfl) (by kernel_rfl) (fun _ _ _ h => h) (Or.inl ⟨by rfl, ?_⟩) (by assumption) ?_
                    rotate_left
                    · intro w' hSw
                      try dsimp only at hSw
                      go_simp
                      try with_reducible rfl
                    simp only [Act.put, List.setIfInBounds_toArray, List.set_cons_zero, List.set_cons_succ, List.getElem_toArray, List.getElem_cons_zero, List.getElem_cons_succ]
                    refine wpAnyH_take (i := 21) (v := ?_) rfl (by kernel_rfl) (by kernel_rfl) (by kernel_rfl) (fun _ _ _ h => h) (Or.inl ⟨by rfl, ?_⟩) (by assumption) ?_
                    rotate_left
                    · intro w' hSw
                      try dsimp only at hSw
                      go_simp
                      try with_reducible rfl
                    simp only [Act.put, List.setIfInBounds_toArray, List.set_cons_zero, List.set_cons_succ, List.getElem_toArray, List.getElem_cons_zero, List.getElem_cons_succ]
                    refine wpAnyH_ready (rs := [20, 22]) (by kernel_rfl) (by simp) ?_
                    refine AllReadyH.cons rfl (fun K hK => ?_) (AllReadyH.cons rfl (fun K hK => ?_) AllReadyH.nil)
                    · as_aux_lemma =>
                        go_simp
                        go_at_call 46
                        refine (lwIn_any (comOf false rs) _ _ _ _ _ (HN8.out.below BB ma)).mono ?_
                        rintro e w' ⟨rfl, rfl⟩
                        rw [HS0.out]
                        go_wp2_with fail
                        refine hK.out _ _ ⟨(BB.cell (p := ⟨w1.heap.size, 0, none⟩) m1).trans cG8, (BB.cell (p := ⟨br, offr, none⟩) lb).trans hr0⟩ (fun hHeld => ?_)
                        clear hK K
                        try simp only [Act.put, List.setIfInBounds_toArray, List.set_cons_zero, List.set_cons_succ, List.getElem_toArray, List.getElem_cons_zero, List.getElem_cons_succ]
                        refine wpAnyH_ready (rs := [22]) (by kernel_rfl) (by simp) ?_
                        refine AllReadyH.cons rfl (fun K hK => ?_) AllReadyH.nil
                        go_simp
                        have BB := Below.nextS BB (al1 _ (.cells #[] 9))
                        refine hK.out _ _ ⟨(BB.cell (p := ⟨w1.heap.size, 0, none⟩) m1).trans cG8, (BB.cell (p := ⟨br, offr, none⟩) lb).trans hr0⟩ (fun hHeld => ?_)
                        clear hK K
                        try simp only [Act.put, List.setIfInBounds_toArray, List.set_cons_zero, List.set_cons_succ, List.getElem_toArray, List.getElem_cons_zero, List.getElem_cons_succ]
                        refine wpAnyH_ready (rs := [23]) (by kernel_rfl) (by simp) ?_
                        refine AllReadyH.cons rfl (fun K hK => ?_) AllReadyH.nil
                        go_simp
                        go_at_call 47
                        refine (implDerives_any rs [] _ _ _ _ 0 0 _ (HV8.out.below BB m1') (Nat.le_trans m1' BB.size) (strs_nil _ _) (Nat.zero_le _)).mono ?_
                        rintro e wd1 ⟨rfl, bd1⟩
                        have BB := Below.nextS BB bd1
                        go_wp2_with fail
                        refine hK.out _ _ ⟨(BB.cell (p := ⟨w1.heap.size, 0, none⟩) m1).trans cG8, (BB.cell (p := ⟨br, offr, none⟩) lb).trans hr0⟩ (fun hHeld => ?_)
                        clear hK K
                        try simp only [Act.put, List.setIfInBounds_toArray, List.set_cons_zero, List.set_cons_succ, List.getElem_toArray, List.getElem_cons_zero, List.getElem_cons_succ]
                        refine wpAnyH_take (i := 24) (v := ?_) rfl (by kernel_rfl) (by kernel_rfl) (by kernel_rfl) (fun _ _ _ h => h) (Or.inl ⟨by rfl, ?_⟩) (by assumption) ?_
                        rotate_left
                        · intro w' hSw
                          try dsimp only at hSw
                          go_simp
                          try with_reducible rfl
                        simp only [Act.put, List.setIfInBounds_toArray, List.set_cons_zero, List.set_cons_succ, List.getElem_toArray, List.getElem_cons_zero, List.getElem_cons_succ]
                        refine wpAnyH_take (i := 25) (v := ?_) rfl (by kernel_rfl) (by kernel_rfl) (by kernel_rfl) (fun _ _ _ h => h) (Or.inl ⟨by rfl, ?_⟩) (by assumption) ?_
                        rotate_left
                        · intro w' hSw
                          try dsimp only at hSw
                          go_simp
                          try with_reducible rfl
                        simp only [Act.put, List.setIfInBounds_toArray, List.set_cons_zero, List.set_cons_succ, List.getElem_toArray, List.getElem_cons_zero, List.getElem_cons_succ]
                        refine wpAnyH_take (i := 26) (v := ?_) rfl (by kernel_rfl) (by kernel_rfl) (by kernel_rfl) (fun _ _ _ h => h) (Or.inl ⟨by rfl, ?_⟩) (by assumption) ?_
                        rotate_left
                        · intro w' hSw
                          try dsimp only at hSw
                          go_simp
                          try with_reducible rfl
                        simp only [Act.put, List.setIfInBounds_toArray, List.set_cons_zero, List.set_cons_succ, List.getElem_toArray, List.getElem_cons_zero, List.getElem_cons_succ]
                        refine wpAnyH_take (i := 27) (v := ?_) rfl (by kernel_rfl) (by kernel_rfl) (by kernel_rfl) (fun _ _ _ h => h) (Or.inl ⟨by rfl, ?_⟩) (by assumption) ?_
                        rotate_left
                        · intro w' hSw
                          try dsimp only at hSw
                          go_simp
                          try with_reducible rfl
                        simp only [Act.put, List.setIfInBounds_toArray, List.set_cons_zero, List.set_cons_succ, List.getElem_toArray, List.getElem_cons_zero, List.getElem_cons_succ]
                        refine wpAnyH_take (i := 28) (v := ?_) rfl (by kernel_rfl) (by kernel_rfl) (by kernel_rfl) (fun _ _ _ h => h) (Or.inl ⟨by rfl, ?_⟩) (by assumption) ?_
                        rotate_left
                        · intro w' hSw
                          try dsimp only at hSw
                          go_simp
                          try with_reducible rfl
                        simp only [Act.put, List.setIfInBounds_toArray, List.set_cons_zero, List.set_cons_succ, List.getElem_toArray, List.getElem_cons_zero, List.getElem_cons_succ]
                        refine wpAnyH_take (i := 29) (v := ?_) rfl (by kernel_rfl) (by kernel_rfl) (by kernel_rfl) (fun _ _ _ h => h) (Or.inl ⟨by rfl, ?_⟩) (by assumption) ?_
                        rotate_left
                        · intro w' hSw
                          try dsimp only at hSw
                          go_simp
                          try with_reducible rfl
                        simp only [Act.put, List.setIfInBounds_toArray, List.set_cons_zero, List.set_cons_succ, List.getElem_toArray, List.getElem_cons_zero, List.getElem_cons_succ]
                        refine wpAnyH_take (i := 30) (v := ?_) rfl (by kernel_rfl) (by kernel_rfl) (by kernel_rfl) (fun _ _ _ h => h) (Or.inl ⟨by rfl, ?_⟩) (by assumption) ?_
                        rotate_left
                        · intro w' hSw
                          try dsimp only at hSw
                          go_simp
                          try with_reducible rfl
                        simp only [Act.put, List.setIfInBounds_toArray, List.set_cons_zero, List.set_cons_succ, List.getElem_toArray, List.getElem_cons_zero, List.getElem_cons_succ]
                        refine wpAnyH_take (i := 31) (v := ?_) rfl (by kernel_rfl) (by kernel_rfl) (by kernel_rfl) (fun _ _ _ h => h) (Or.inl ⟨by rfl, ?_⟩) (by assumption) ?_
                        rotate_left
                        · intro w' hSw
                          try dsimp only at hSw
                          go_simp
                          try with_reducible rfl
                        simp only [Act.put, List.setIfInBounds_toArray, List.set_cons_zero, List.set_cons_succ, List.getElem_toArray, List.getElem_cons_zero, List.getElem_cons_succ]
                        refine wpAnyH_take (i := 33) (v := ?_) rfl (by kernel_rfl) (by kernel_rfl) (by kernel_rfl) (fun _ _ _ h => h) (Or.inl ⟨by rfl, ?_⟩) (by assumption) ?_
                        rotate_left
                        · intro w' hSw
                          try dsimp only at hSw
                          go_simp
                          try with_reducible rfl
                        simp only [Act.put, List.setIfInBounds_toArray, List.set_cons_zero, List.set_cons_succ, List.getElem_toArray, List.getElem_cons_zero, List.getElem_cons_succ]
                        refine wpAnyH_ready (rs := [32, 34]) (by kernel_rfl) (by simp) ?_
                        refine AllReadyH.cons rfl (fun K hK => ?_) (AllReadyH.cons rfl (fun K hK => ?_) AllReadyH.nil)
                        · as_aux_lemma =>
                            go_simp
                            go_at_call 46
                            refine (lwIn_any (comOf true rs) _ _ _ _ _ (HP8.out.below BB mb)).mono ?_
                            rintro e w' ⟨rfl, rfl⟩
                            rw [HS1.out]
                            go_wp2_with fail
                            refine hK.out _ _ ⟨(BB.cell (p := ⟨w1.heap.size, 0, none⟩) m1).trans cG8, (BB.cell (p := ⟨br, offr, none⟩) lb).trans hr0⟩ (fun hHeld => ?_)
                            clear hK K
                            try simp only [Act.put, List.setIfInBounds_toArray, List.set_cons_zero, List.set_cons_succ, List.getElem_toArray, List.getElem_cons_zero, List.getElem_cons_succ]
                            refine wpAnyH_ready (rs := [34]) (by kernel_rfl) (by simp) ?_
                            refine AllReadyH.cons rfl (fun K hK => ?_) AllReadyH.nil
                            go_simp
                            have BB := Below.nextS BB (al1 _ (.cells #[] 9))
                            refine hK.out _ _ ⟨(BB.cell (p := ⟨w1.heap.size, 0, none⟩) m1).trans cG8, (BB.cell (p := ⟨br, offr, none⟩) lb).trans hr0⟩ (fun hHeld => ?_)
                            clear hK K
                            try simp only [Act.put, List.setIfInBounds_toArray, List.set_cons_zero, List.set_cons_succ, List.getElem_toArray, List.getElem_cons_zero, List.getElem_cons_succ]
                            refine wpAnyH_ready (rs := [35]) (by kernel_rfl) (by simp) ?_
                            refine AllReadyH.cons rfl (fun K hK => ?_) AllReadyH.nil
                            go_simp
                            go_at_call 48
                            refine (implViable_any rs [] _ _ _ _ 0 0 _ (HV8.out.below BB m1') (Nat.le_trans m1' BB.size) (strs_nil _ _) (Nat.zero_le _)).mono ?_
                            rintro e wv1 ⟨rfl, bv1⟩
                            have BB := Below.nextS BB bv1
                            go_wp2_with fail
                            refine hK.out _ _ ⟨(BB.cell (p := ⟨w1.heap.size, 0, none⟩) m1).trans cG8, (BB.cell (p := ⟨br, offr, none⟩) lb).trans hr0⟩ (fun hHeld => ?_)
                            clear hK K
                            try simp only [Act.put, List.setIfInBounds_toArray, List.set_cons_zero, List.set_cons_succ, List.getElem_toArray, List.getElem_cons_zero, List.getElem_cons_succ]
                            refine wpAnyH_take (i := 36) (v := ?_) rfl (by kernel_rfl) (by kernel_rfl) (by kernel_rfl) (fun _ _ _ h => h) (Or.inl ⟨by rfl, ?_⟩) (by assumption) ?_
                            rotate_left
                            · intro w' hSw
                              try dsimp only at hSw
                              go_simp
                              try with_reducible rfl
                            simp only [Act.put, List.setIfInBounds_toArray, List.set_cons_zero, List.set_cons_succ, List.getElem_toArray, List.getElem_cons_zero, List.getElem_cons_succ]
                            refine wpAnyH_take (i := 37) (v := ?_) rfl (by kernel_rfl) (by kernel_rfl) (by kernel_rfl) (fun _ _ _ h => h) (Or.inl ⟨by rfl, ?_⟩) (by assumption) ?_
                            rotate_left
                            · intro w' hSw
                              try dsimp only at hSw
                              go_simp
                              try with_reducible rfl
                            simp only [Act.put, List.setIfInBounds_toArray, List.set_cons_zero, List.set_cons_succ, List.getElem_toArray, List.getElem_cons_zero, List.getElem_cons_succ]
                            refine wpAnyH_take (i := 38) (v := ?_) rfl (by kernel_rfl) (by kernel_rfl) (by kernel_rfl) (fun _ _ _ h => h) (Or.inl ⟨by rfl, ?_⟩) (by assumption) ?_
                            rotate_left
                            · intro w' hSw
                              try dsimp only at hSw
                              go_simp
                              try with_reducible rfl
                            simp only [Act.put, List.setIfInBounds_toArray, List.set_cons_zero, List.set_cons_succ, List.getElem_toArray, List.getElem_cons_zero, List.getElem_cons_succ]
                            refine wpAnyH_take (i := 39) (v := ?_) rfl (by kernel_rfl) (by kernel_rfl) (by kernel_rfl) (fun _ _ _ h => h) (Or.inl ⟨by rfl, ?_⟩) (by assumption) ?_
                            rotate_left
                            · intro w' hSw
                              try dsimp only at hSw
                              go_simp
                              try with_reducible rfl
                            simp only [Act.put, List.setIfInBounds_toArray, List.set_cons_zero, List.set_cons_succ, List.getElem_toArray, List.getElem_cons_zero, List.getElem_cons_succ]
                            refine wpAnyH_take (i := 40) (v := ?_) rfl (by kernel_rfl) (by kernel_rfl) (by kernel_rfl) (fun _ _ _ h => h) (Or.inl ⟨by rfl, ?_⟩) (by assumption) ?_
                            rotate_left
                            · intro w' hSw
                              try dsimp only at hSw
                              go_simp
                              try with_reducible rfl
                            simp only [Act.put, List.setIfInBounds_toArray, List.set_cons_zero, List.set_cons_succ, List.getElem_toArray, List.getElem_cons_zero, List.getElem_cons_succ]
                            refine wpAnyH_take (i := 41) (v := ?_) rfl (by kernel_rfl) (by kernel_rfl) (by kernel_rfl) (fun _ _ _ h => h) (Or.inl ⟨by rfl, ?_⟩) (by assumption) ?_
                            rotate_left
                            · intro w' hSw
                              try dsimp only at hSw
                              go_simp
                              try with_reducible rfl
                            simp only [Act.put, List.setIfInBounds_toArray, List.set_cons_zero, List.set_cons_succ, List.getElem_toArray, List.getElem_cons_zero, List.getElem_cons_succ]
                            refine wpAnyH_done (by kernel_rfl) ?_ _
                            go_wp2
                            go_ret
                            exact ⟨rfl, HB8.out.trans (BB.mono HB8.out.size)⟩
                        · as_aux_lemma =>
                            go_simp
                            have BB := Below.nextS BB (al1 _ (.cells #[] 9))
                            refine hK.out _ _ ⟨(BB.cell (p := ⟨w1.heap.size, 0, none⟩) m1).trans cG8, (BB.cell (p := ⟨br, offr, none⟩) lb).trans hr0⟩ (fun hHeld => ?_)
                            clear hK K
                            try simp only [Act.put, List.setIfInBounds_toArray, List.set_cons_zero, List.set_cons_succ, List.getElem_toArray, List.getElem_cons_zero, List.getElem_cons_succ]
                            refine wpAnyH_ready (rs := [32]) (by kernel_rfl) (by simp) ?_
                            refine AllReadyH.cons rfl (fun K hK => ?_) AllReadyH.nil
                            go_simp
                            go_at_call 46
                            refine (lwIn_any (comOf true rs) _ _ _ _ _ (HP8.out.below BB mb)).mono ?_
                            rintro e w' ⟨rfl, rfl⟩
                            rw [HS1.out]
                            go_wp2_with fail
                            refine hK.out _ _ ⟨(BB.cell (p := ⟨w1.heap.size, 0, none⟩) m1).trans cG8, (BB.cell (p := ⟨br, offr, none⟩) lb).trans hr0⟩ (fun hHeld => ?_)
                            clear hK K
                            try simp only [Act.put, List.setIfInBounds_toArray, List.set_cons_zero, List.set_cons_succ, List.getElem_toArray, List.getElem_cons_zero, List.getElem_cons_succ]
                            refine wpAnyH_ready (rs := [35]) (by kernel_rfl) (by simp) ?_
                            refine AllReadyH.cons rfl (fun K hK => ?_) AllReadyH.nil
                            go_simp
                            go_at_call 48
                            refine (implViable_any rs [] _ _ _ _ 0 0 _ (HV8.out.below BB m1') (Nat.le_trans m1' BB.size) (strs_nil _ _) (Nat.zero_le _)).mono ?_
                            rintro e wv1 ⟨rfl, bv1⟩
                            have BB := Below.nextS BB bv1
                            go_wp2_with fail
                            refine hK.out _ _ ⟨(BB.cell (p := ⟨w1.heap.size, 0, none⟩) m1).trans cG8, (BB.cell (p := ⟨br, offr, none⟩) lb).trans hr0⟩ (fun hHeld => ?_)
                            clear hK K
                            try simp only [Act.put, List.setIfInBounds_toArray, List.set_cons_zero, List.set_cons_succ, List.getElem_toArray, List.getElem_cons_zero, List.getElem_cons_succ]
                            refine wpAnyH_take (i := 36) (v := ?_) rfl (by kernel_rfl) (by kernel_rfl) (by kernel_rfl) (fun _ _ _ h => h) (Or.inl ⟨by rfl, ?_⟩) (by assumption) ?_
                            rotate_left
                            · intro w' hSw
                              try dsimp only at hSw
                              go_simp
                              try with_reducible rfl
                            simp only [Act.put, List.setIfInBounds_toArray, List.set_cons_zero, List.set_cons_succ, List.getElem_toArray, List.getElem_cons_zero, List.getElem_cons_succ]
                            refine wpAnyH_take (i := 37) (v := ?_) rfl (by kernel_rfl) (by kernel_rfl) (by kernel_rfl) (fun _ _ _ h => h) (Or.inl ⟨by rfl, ?_⟩) (by assumption) ?_
                            rotate_left
                            · intro w' hSw
                              try dsimp only at hSw
                              go_simp
                              try with_reducible rfl
                            simp only [Act.put, List.setIfInBounds_toArray, List.set_cons_zero, List.set_cons_succ, List.getElem_toArray, List.getElem_cons_zero, List.getElem_cons_succ]
                            refine wpAnyH_take (i := 38) (v := ?_) rfl (by kernel_rfl) (by kernel_rfl) (by kernel_rfl) (fun _ _ _ h => h) (Or.inl ⟨by rfl, ?_⟩) (by assumption) ?_
                            rotate_left
                            · intro w' hSw
                              try dsimp only at hSw
                              go_simp
                              try with_reducible rfl
                            simp only [Act.put, List.setIfInBounds_toArray, List.set_cons_zero, List.set_cons_succ, List.getElem_toArray, List.getElem_cons_zero, List.getElem_cons_succ]
                            refine wpAnyH_take (i := 39) (v := ?_) rfl (by kernel_rfl) (by kernel_rfl) (by kernel_rfl) (fun _ _ _ h => h) (Or.inl ⟨by rfl, ?_⟩) (by assumption) ?_
                            rotate_left
                            · intro w' hSw
                              try dsimp only at hSw
                              go_simp
                              try with_reducible rfl
                            simp only [Act.put, List.setIfInBounds_toArray, List.set_cons_zero, List.set_cons_succ, List.getElem_toArray, List.getElem_cons_zero, List.getElem_cons_succ]
                            refine wpAnyH_take (i := 40) (v := ?_) rfl (by kernel_rfl) (by kernel_rfl) (by kernel_rfl) (fun _ _ _ h => h) (Or.inl ⟨by rfl, ?_⟩) (by assumption) ?_
                            rotate_left
                            · intro w' hSw
                              try dsimp only at hSw
                              go_simp
                              try with_reducible rfl
                            simp only [Act.put, List.setIfInBounds_toArray, List.set_cons_zero, List.set_cons_succ, List.getElem_toArray, List.getElem_cons_zero, List.getElem_cons_succ]
                            refine wpAnyH_take (i := 41) (v := ?_) rfl (by kernel_rfl) (by kernel_rfl) (by kernel_rfl) (fun _ _ _ h => h) (Or.inl ⟨by rfl, ?_⟩) (by assumption) ?_
                            rotate_left
                            · intro w' hSw
                              try dsimp only at hSw
                              go_simp
                              try with_reducible rfl
                            simp only [Act.put, List.setIfInBounds_toArray, List.set_cons_zero, List.set_cons_succ, List.getElem_toArray, List.getElem_cons_zero, List.getElem_cons_succ]
                            refine wpAnyH_done (by kernel_rfl) ?_ _
                            go_wp2
                            go_ret
                            exact ⟨rfl, HB8.out.trans (BB.mono HB8.out.size)⟩
                    · as_aux_lemma =>
                        go_simp
                        have BB := Below.nextS BB (al1 _ (.cells #[] 9))
                        refine hK.out _ _ ⟨(BB.cell (p := ⟨w1.heap.size, 0, none⟩) m1).trans cG8, (BB.cell (p := ⟨br, offr, none⟩) lb).trans hr0⟩ (fun hHeld => ?_)
                        clear hK K
                        try simp only [Act.put, List.setIfInBounds_toArray, List.set_cons_zero, List.set_cons_succ, List.getElem_toArray, List.getElem_cons_zero, List.getElem_cons_succ]
                        refine wpAnyH_ready (rs := [20]) (by kernel_rfl) (by simp) ?_
                        refine AllReadyH.cons rfl (fun K hK => ?_) AllReadyH.nil
                        go_simp
                        go_at_call 46
                        refine (lwIn_any (comOf false rs) _ _ _ _ _ (HN8.out.below BB ma)).mono ?_
                        rintro e w' ⟨rfl, rfl⟩
                        rw [HS0.out]
                        go_wp2_with fail
                        refine hK.out _ _ ⟨(BB.cell (p := ⟨w1.heap.size, 0, none⟩) m1).trans cG8, (BB.cell (p := ⟨br, offr, none⟩) lb).trans hr0⟩ (fun hHeld => ?_)
                        clear hK K
                        try simp only [Act.put, List.setIfInBounds_toArray, List.set_cons_zero, List.set_cons_succ, List.getElem_toArray, List.getElem_cons_zero, List.getElem_cons_succ]
                        refine wpAnyH_ready (rs := [23]) (by kernel_rfl) (by simp) ?_
                        refine AllReadyH.cons rfl (fun K hK => ?_) AllReadyH.nil
                        go_simp
                        go_at_call 47
                        refine (implDerives_any rs [] _ _ _ _ 0 0 _ (HV8.out.below BB m1') (Nat.le_trans m1' BB.size) (strs_nil _ _) (Nat.zero_le _)).mono ?_
                        rintro e wd1 ⟨rfl, bd1⟩
                        have BB := Below.nextS BB bd1
                        go_wp2_with fail
                        refine hK.out _ _ ⟨(BB.cell (p := ⟨w1.heap.size, 0, none⟩) m1).trans cG8, (BB.cell (p := ⟨br, offr, none⟩) lb).trans hr0⟩ (fun hHeld => ?_)
                        clear hK K
                        try simp only [Act.put, List.setIfInBounds_toArray, List.set_cons_zero, List.set_cons_succ, List.getElem_toArray, List.getElem_cons_zero, List.getElem_cons_succ]
                        refine wpAnyH_take (i := 24) (v := ?_) rfl (by kernel_rfl) (by kernel_rfl) (by kernel_rfl) (fun _ _ _ h => h) (Or.inl ⟨by rfl, ?_⟩) (by assumption) ?_
                        rotate_left
                        · intro w' hSw
                          try dsimp only at hSw
                          go_simp
                          try with_reducible rfl
                        simp only [Act.put, List.setIfInBounds_toArray, List.set_cons_zero, List.set_cons_succ, List.getElem_toArray, List.getElem_cons_zero, List.getElem_cons_succ]
                        refine wpAnyH_take (i := 25) (v := ?_) rfl (by kernel_rfl) (by kernel_rfl) (by kernel_rfl) (fun _ _ _ h => h) (Or.inl ⟨by rfl, ?_⟩) (by assumption) ?_
                        rotate_left
                        · intro w' hSw
                          try dsimp only at hSw
                          go_simp
                          try with_reducible rfl
                        simp only [Act.put, List.setIfInBounds_toArray, List.set_cons_zero, List.set_cons_succ, List.getElem_toArray, List.getElem_cons_zero, List.getElem_cons_succ]
                        refine wpAnyH_take (i := 26) (v := ?_) rfl (by kernel_rfl) (by kernel_rfl) (by kernel_rfl) (fun _ _ _ h => h) (Or.inl ⟨by rfl, ?_⟩) (by assumption) ?_
                        rotate_left
                        · intro w' hSw
                          try dsimp only at hSw
                          go_simp
                          try with_reducible rfl
                        simp only [Act.put, List.setIfInBounds_toArray, List.set_cons_zero, List.set_cons_succ, List.getElem_toArray, List.getElem_cons_zero, List.getElem_cons_succ]
                        refine wpAnyH_take (i := 27) (v := ?_) rfl (by kernel_rfl) (by kernel_rfl) (by kernel_rfl) (fun _ _ _ h => h) (Or.inl ⟨by rfl, ?_⟩) (by assumption) ?_
                        rotate_left
                        · intro w' hSw
                          try dsimp only at hSw
                          go_simp
                          try with_reducible rfl
                        simp only [Act.put, List.setIfInBounds_toArray, List.set_cons_zero, List.set_cons_succ, List.getElem_toArray, List.getElem_cons_zero, List.getElem_cons_succ]
                        refine wpAnyH_take (i := 28) (v := ?_) rfl (by kernel_rfl) (by kernel_rfl) (by kernel_rfl) (fun _ _ _ h => h) (Or.inl ⟨by rfl, ?_⟩) (by assumption) ?_
                        rotate_left
                        · intro w' hSw
                          try dsimp only at hSw
                          go_simp
                          try with_reducible rfl
                        simp only [Act.put, List.setIfInBounds_toArray, List.set_cons_zero, List.set_cons_succ, List.getElem_toArray, List.getElem_cons_zero, List.getElem_cons_succ]
                        refine wpAnyH_take (i := 29) (v := ?_) rfl (by kernel_rfl) (by kernel_rfl) (by kernel_rfl) (fun _ _ _ h => h) (Or.inl ⟨by rfl, ?_⟩) (by assumption) ?_
                        rotate_left
                        · intro w' hSw
                          try dsimp only at hSw
                          go_simp
                          try with_reducible rfl
                        simp only [Act.put, List.setIfInBounds_toArray, List.set_cons_zero, List.set_cons_succ, List.getElem_toArray, List.getElem_cons_zero, List.getElem_cons_succ]
                        refine wpAnyH_take (i := 30) (v := ?_) rfl (by kernel_rfl) (by kernel_rfl) (by kernel_rfl) (fun _ _ _ h => h) (Or.inl ⟨by rfl, ?_⟩) (by assumption) ?_
                        rotate_left
                        · intro w' hSw
                          try dsimp only at hSw
                          go_simp
                          try with_reducible rfl
                        simp only [Act.put, List.setIfInBounds_toArray, List.set_cons_zero, List.set_cons_succ, List.getElem_toArray, List.getElem_cons_zero, List.getElem_cons_succ]
                        refine wpAnyH_take (i := 31) (v := ?_) rfl (by kernel_rfl) (by kernel_rfl) (by kernel_rfl) (fun _ _ _ h => h) (Or.inl ⟨by rfl, ?_⟩) (by assumption) ?_
                        rotate_left
                        · intro w' hSw
                          try dsimp only at hSw
                          go_simp
                          try with_reducible rfl
                        simp only [Act.put, List.setIfInBounds_toArray, List.set_cons_zero, List.set_cons_succ, List.getElem_toArray, List.getElem_cons_zero, List.getElem_cons_succ]
                        refine wpAnyH_take (i := 33) (v := ?_) rfl (by kernel_rfl) (by kernel_rfl) (by kernel_rfl) (fun _ _ _ h => h) (Or.inl ⟨by rfl, ?_⟩) (by assumption) ?_
                        rotate_left
                        · intro w' hSw
                          try dsimp only at hSw
                          go_simp
                          try with_reducible rfl
                        simp only [Act.put, List.setIfInBounds_toArray, List.set_cons_zero, List.set_cons_succ, List.getElem_toArray, List.getElem_cons_zero, List.getElem_cons_succ]
                        refine wpAnyH_ready (rs := [32, 34]) (by kernel_rfl) (by simp) ?_
                        refine AllReadyH.cons rfl (fun K hK => ?_) (AllReadyH.cons rfl (fun K hK => ?_) AllReadyH.nil)
                        · as_aux_lemma =>
                            go_simp
                            go_at_call 46
                            refine (lwIn_any (comOf true rs) _ _ _ _ _ (HP8.out.below BB mb)).mono ?_
                            rintro e w' ⟨rfl, rfl⟩
                            rw [HS1.out]
                            go_wp2_with fail
                            refine hK.out _ _ ⟨(BB.cell (p := ⟨w1.heap.size, 0, none⟩) m1).trans cG8, (BB.cell (p := ⟨br, offr, none⟩) lb).trans hr0⟩ (fun hHeld => ?_)
                            clear hK K
                            try simp only [Act.put, List.setIfInBounds_toArray, List.set_cons_zero, List.set_cons_succ, List.getElem_toArray, List.getElem_cons_zero, List.getElem_cons_succ]
                            refine wpAnyH_ready (rs := [34]) (by kernel_rfl) (by simp) ?_
                            refine AllReadyH.cons rfl (fun K hK => ?_) AllReadyH.nil
                            go_simp
                            have BB := Below.nextS BB (al1 _ (.cells #[] 9))
                            refine hK.out _ _ ⟨(BB.cell (p := ⟨w1.heap.size, 0, none⟩) m1).trans cG8, (BB.cell (p := ⟨br, offr, none⟩) lb).trans hr0⟩ (fun hHeld => ?_)
                            clear hK K
                            try simp only [Act.put, List.setIfInBounds_toArray, List.set_cons_zero, List.set_cons_succ, List.getElem_toArray, List.getElem_cons_zero, List.getElem_cons_succ]
                            refine wpAnyH_ready (rs := [35]) (by kernel_rfl) (by simp) ?_
                            refine AllReadyH.cons rfl (fun K hK => ?_) AllReadyH.nil
                            go_simp
                            go_at_call 48
                            refine (implViable_any rs [] _ _ _ _ 0 0 _ (HV8.out.below BB m1') (Nat.le_trans m1' BB.size) (strs_nil _ _) (Nat.zero_le _)).mono ?_
                            rintro e wv1 ⟨rfl, bv1⟩
                            have BB := Below.nextS BB bv1
                            go_wp2_with fail
                            refine hK.out _ _ ⟨(BB.cell (p := ⟨w1.heap.size, 0, none⟩) m1).trans cG8, (BB.cell (p := ⟨br, offr, none⟩) lb).trans hr0⟩ (fun hHeld => ?_)
                            clear hK K
                            try simp only [Act.put, List.setIfInBounds_toArray, List.set_cons_zero, List.set_cons_succ, List.getElem_toArray, List.getElem_cons_zero, List.getElem_cons_succ]
                            refine wpAnyH_take (i := 36) (v := ?_) rfl (by kernel_rfl) (by kernel_rfl) (by kernel_rfl) (fun _ _ _ h => h) (Or.inl ⟨by rfl, ?_⟩) (by assumption) ?_
                            rotate_left
                            · intro w' hSw
                              try dsimp only at hSw
                              go_simp
                              try with_reducible rfl
                            simp only [Act.put, List.setIfInBounds_toArray, List.set_cons_zero, List.set_cons_succ, List.getElem_toArray, List.getElem_cons_zero, List.getElem_cons_succ]
                            refine wpAnyH_take (i := 37) (v := ?_) rfl (by kernel_rfl) (by kernel_rfl) (by kernel_rfl) (fun _ _ _ h => h) (Or.inl ⟨by rfl, ?_⟩) (by assumption) ?_
                            rotate_left
                            · intro w' hSw
                              try dsimp only at hSw
                              go_simp
                              try with_reducible rfl
                            simp only [Act.put, List.setIfInBounds_toArray, List.set_cons_zero, List.set_cons_succ, List.getElem_toArray, List.getElem_cons_zero, List.getElem_cons_succ]
                            refine wpAnyH_take (i := 38) (v := ?_) rfl (by kernel_rfl) (by kernel_rfl) (by kernel_rfl) (fun _ _ _ h => h) (Or.inl ⟨by rfl, ?_⟩) (by assumption) ?_
                            rotate_left
                            · intro w' hSw
                              try dsimp only at hSw
                              go_simp
                              try with_reducible rfl
                            simp only [Act.put, List.setIfInBounds_toArray, List.set_cons_zero, List.set_cons_succ, List.getElem_toArray, List.getElem_cons_zero, List.getElem_cons_succ]
                            refine wpAnyH_take (i := 39) (v := ?_) rfl (by kernel_rfl) (by kernel_rfl) (by kernel_rfl) (fun _ _ _ h => h) (Or.inl ⟨by rfl, ?_⟩) (by assumption) ?_
                            rotate_left
                            · intro w' hSw
                              try dsimp only at hSw
                              go_simp
                              try with_reducible rfl
                            simp only [Act.put, List.setIfInBounds_toArray, List.set_cons_zero, List.set_cons_succ, List.getElem_toArray, List.getElem_cons_zero, List.getElem_cons_succ]
                            refine wpAnyH_take (i := 40) (v := ?_) rfl (by kernel_rfl) (by kernel_rfl) (by kernel_rfl) (fun _ _ _ h => h) (Or.inl ⟨by rfl, ?_⟩) (by assumption) ?_
                            rotate_left
                            · intro w' hSw
                              try dsimp only at hSw
                              go_simp
                              try with_reducible rfl
                            simp only [Act.put, List.setIfInBounds_toArray, List.set_cons_zero, List.set_cons_succ, List.getElem_toArray, List.getElem_cons_zero, List.getElem_cons_succ]
                            refine wpAnyH_take (i := 41) (v := ?_) rfl (by kernel_rfl) (by kernel_rfl) (by kernel_rfl) (fun _ _ _ h => h) (Or.inl ⟨by rfl, ?_⟩) (by assumption) ?_
                            rotate_left
                            · intro w' hSw
                              try dsimp only at hSw
                              go_simp
                              try with_reducible rfl
                            simp only [Act.put, List.setIfInBounds_toArray, List.set_cons_zero, List.set_cons_succ, List.getElem_toArray, List.getElem_cons_zero, List.getElem_cons_succ]
                            refine wpAnyH_done (by kernel_rfl) ?_ _
                            go_wp2
                            go_ret
                            exact ⟨rfl, HB8.out.trans (BB.mono HB8.out.size)⟩
                        · as_aux_lemma =>
                            go_simp
                            have BB := Below.nextS BB (al1 _ (.cells #[] 9))
                            refine hK.out _ _ ⟨(BB.cell (p := ⟨w1.heap.size, 0, none⟩) m1).trans cG8, (BB.cell (p := ⟨br, offr, none⟩) lb).trans hr0⟩ (fun hHeld => ?_)
                            clear hK K
                            try simp only [Act.put, List.setIfInBounds_toArray, List.set_cons_zero, List.set_cons_succ, List.getElem_toArray, List.getElem_cons_zero, List.getElem_cons_succ]
                            refine wpAnyH_ready (rs := [32]) (by kernel_rfl) (by simp) ?_
                            refine AllReadyH.cons rfl (fun K hK => ?_) AllReadyH.nil
                            go_simp
                            go_at_call 46
                            refine (lwIn_any (comOf true rs) _ _ _ _ _ (HP8.out.below BB mb)).mono ?_
                            rintro e w' ⟨rfl, rfl⟩
                            rw [HS1.out]
                            go_wp2_with fail
                            refine hK.out _ _ ⟨(BB.cell (p := ⟨w1.heap.size, 0, none⟩) m1).trans cG8, (BB.cell (p := ⟨br, offr, none⟩) lb).trans hr0⟩ (fun hHeld => ?_)
                            clear hK K
                            try simp only [Act.put, List.setIfInBounds_toArray, List.set_cons_zero, List.set_cons_succ, List.getElem_toArray, List.getElem_cons_zero, List.getElem_cons_succ]
                            refine wpAnyH_ready (rs := [35]) (by kernel_rfl) (by simp) ?_
                            refine AllReadyH.cons rfl (fun K hK => ?_) AllReadyH.nil
                            go_simp
                            go_at_call 48
                            refine (implViable_any rs [] _ _ _ _ 0 0 _ (HV8.out.below BB m1') (Nat.le_trans m1' BB.size) (strs_nil _ _) (Nat.zero_le _)).mono ?_
                            rintro e wv1 ⟨rfl, bv1⟩
                            have BB := Below.nextS BB bv1
                            go_wp2_with fail
                            refine hK.out _ _ ⟨(BB.cell (p := ⟨w1.heap.size, 0, none⟩) m1).trans cG8, (BB.cell (p := ⟨br, offr, none⟩) lb).trans hr0⟩ (fun hHeld => ?_)
                            clear hK K
                            try simp only [Act.put, List.setIfInBounds_toArray, List.set_cons_zero, List.set_cons_succ, List.getElem_toArray, List.getElem_cons_zero, List.getElem_cons_succ]
                            refine wpAnyH_take (i := 36) (v := ?_) rfl (by kernel_rfl) (by kernel_rfl) (by kernel_rfl) (fun _ _ _ h => h) (Or.inl ⟨by rfl, ?_⟩) (by assumption) ?_
                            rotate_left
                            · intro w' hSw
                              try dsimp only at hSw
                              go_simp
                              try with_reducible rfl
                            simp only [Act.put, List.setIfInBounds_toArray, List.set_cons_zero, List.set_cons_succ, List.getElem_toArray, List.getElem_cons_zero, List.getElem_cons_succ]
                            refine wpAnyH_take (i := 37) (v := ?_) rfl (by kernel_rfl) (by kernel_rfl) (by kernel_rfl) (fun _ _ _ h => h) (Or.inl ⟨by rfl, ?_⟩) (by assumption) ?_
                            rotate_left
                            · intro w' hSw
                              try dsimp only at hSw
                              go_simp
                              try with_reducible rfl
                            simp only [Act.put, List.setIfInBounds_toArray, List.set_cons_zero, List.set_cons_succ, List.getElem_toArray, List.getElem_cons_zero, List.getElem_cons_succ]
                            refine wpAnyH_take (i := 38) (v := ?_) rfl (by kernel_rfl) (by kernel_rfl) (by kernel_rfl) (fun _ _ _ h => h) (Or.inl ⟨by rfl, ?_⟩) (by assumption) ?_
                            rotate_left
                            · intro w' hSw
                              try dsimp only at hSw
                              go_simp
                              try with_reducible rfl
                            simp only [Act.put, List.setIfInBounds_toArray, List.set_cons_zero, List.set_cons_succ, List.getElem_toArray, List.getElem_cons_zero, List.getElem_cons_succ]
                            refine wpAnyH_take (i := 39) (v := ?_) rfl (by kernel_rfl) (by kernel_rfl) (by kernel_rfl) (fun _ _ _ h => h) (Or.inl ⟨by rfl, ?_⟩) (by assumption) ?_
                            rotate_left
                            · intro w' hSw
                              try dsimp only at hSw
                              go_simp
                              try with_reducible rfl
                            simp only [Act.put, List.setIfInBounds_toArray, List.set_cons_zero, List.set_cons_succ, List.getElem_toArray, List.getElem_cons_zero, List.getElem_cons_succ]
                            refine wpAnyH_take (i := 40) (v := ?_) rfl (by kernel_rfl) (by kernel_rfl) (by kernel_rfl) (fun _ _ _ h => h) (Or.inl ⟨by rfl, ?_⟩) (by assumption) ?_
                            rotate_left
                            · intro w' hSw
                              try dsimp only at hSw
                              go_simp
                              try with_reducible rfl
                            simp only [Act.put, List.setIfInBounds_toArray, List.set_cons_zero, List.set_cons_succ, List.getElem_toArray, List.getElem_cons_zero, List.getElem_cons_succ]
                            refine wpAnyH_take (i := 41) (v := ?_) rfl (by kernel_rfl) (by kernel_rfl) (by kernel_rfl) (fun _ _ _ h => h) (Or.inl ⟨by rfl, ?_⟩) (by assumption) ?_
                            rotate_left
                            · intro w' hSw
                              try dsimp only at hSw
                              go_simp
                              try with_reducible rfl
                            simp only [Act.put, List.setIfInBounds_toArray, List.set_cons_zero, List.set_cons_succ, List.getElem_toArray, List.getElem_cons_zero, List.getElem_cons_succ]
                            refine wpAnyH_done (by kernel_rfl) ?_ _
                            go_wp2
                            go_ret
                            exact ⟨rfl, HB8.out.trans (BB.mono HB8.out.size)⟩
                · have dc : ((cycOf rs).toList == []) = false := neq_lit (l := []) hc
                  have MC : Hid (inB (leftOf rs (cycOf rs)) (cycOf rs) = true) := Lib.hid ((inB_iff _ _).2 (cyc_left hc))
                  clear hg hc
                  go_wp2
                  as_aux_lemma =>
                    refine wp_region_held_drew (S := fun w' => w'.cell? ⟨w1.heap.size, 0, none⟩ = some (.slice (some ⟨br, offr, none⟩) rs.length cv) ∧ w'.cell? ⟨br, offr, none⟩ = some (.string rs[0].head)) (by kernel_rfl) ⟨(BB.cell (p := ⟨w1.heap.size, 0, none⟩) m1).trans cG8, (BB.cell (p := ⟨br, offr, none⟩) lb).trans hr0⟩ (fun hHeld => ?_)
                    refine wpAnyH_take (i := 0) (v := ?_) rfl (by kernel_rfl) (by kernel_rfl) (by kernel_rfl) (fun _ _ _ h => h) (Or.inl ⟨by rfl, ?_⟩) (by assumption) ?_
                    rotate_left
                    · intro w' hSw
                      try dsimp only at hSw
                      go_simp
                      try with_reducible rfl
                    simp only [Act.put, List.setIfInBounds_toArray, List.set_cons_zero, List.set_cons_succ, List.getElem_toArray, List.getElem_cons_zero, List.getElem_cons_succ]
                    refine wpAnyH_take (i := 1) (v := ?_) rfl (by kernel_rfl) (by kernel_rfl) (by kernel_rfl) (fun _ _ _ h => h) (Or.inl ⟨by rfl, ?_⟩) (by assumption) ?_
                    rotate_left
                    · intro w' hSw
                      try dsimp only at hSw
                      go_simp
                      try with_reducible rfl
                    simp only [Act.put, List.setIfInBounds_toArray, List.set_cons_zero, List.set_cons_succ, List.getElem_toArray, List.getElem_cons_zero, List.getElem_cons_succ]
                    refine wpAnyH_take (i := 2) (v := ?_) rfl (by kernel_rfl) (by kernel_rfl) (by kernel_rfl) (fun _ _ _ h => h) (Or.inl ⟨by rfl, ?_⟩) (by assumption) ?_
                    rotate_left
                    · intro w' hSw
                      try dsimp only at hSw
                      go_simp
                      try with_reducible rfl
                    simp only [Act.put, List.setIfInBounds_toArray, List.set_cons_zero, List.set_cons_succ, List.getElem_toArray, List.getElem_cons_zero, List.getElem_cons_succ]
                    refine wpAnyH_take (i := 3) (v := ?_) rfl (by kernel_rfl) (by kernel_rfl) (by kernel_rfl) (fun _ _ _ h => h) (Or.inl ⟨by rfl, ?_⟩) (by assumption) ?_
                    rotate_left
                    · intro w' hSw
                      try dsimp only at hSw
                      go_simp
                      try with_reducible rfl
                    simp only [Act.put, List.setIfInBounds_toArray, List.set_cons_zero, List.set_cons_succ, List.getElem_toArray, List.getElem_cons_zero, List.getElem_cons_succ]
                    refine wpAnyH_take (i := 4) (v := ?_) rfl (by kernel_rfl) (by kernel_rfl) (by kernel_rfl) (fun _ _ _ h => h) (Or.inl ⟨by rfl, ?_⟩) (by assumption) ?_
                    rotate_left
                    · intro w' hSw
                      try dsimp only at hSw
                      go_simp
                      try with_reducible rfl
                    simp only [Act.put, List.setIfInBounds_toArray, List.set_cons_zero, List.set_cons_succ, List.getElem_toArray, List.getElem_cons_zero, List.getElem_cons_succ]
                    refine wpAnyH_take (i := 6) (v := ?_) rfl (by kernel_rfl) (by kernel_rfl) (by kernel_rfl) (fun _ _ _ h => h) (Or.inl ⟨by rfl, ?_⟩) (by assumption) ?_
                    rotate_left
                    · intro w' hSw
                      try dsimp only at hSw
                      go_simp
                      try with_reducible rfl
                    simp only [Act.put, List.setIfInBounds_toArray, List.set_cons_zero, List.set_cons_succ, List.getElem_toArray, List.getElem_cons_zero, List.getElem_cons_succ]
                    refine wpAnyH_ready (rs := [5]) (by kernel_rfl) (by simp) ?_
                    refine AllReadyH.cons rfl (fun K hK => ?_) AllReadyH.nil
                    go_simp
                    go_at_call 35
                    refine (implLeftOf_any rs _ (cycOf rs) _ _ _ (HV8.out.below BB m1') (Nat.le_trans m1' BB.size)).mono ?_
                    rintro e wl1 ⟨ul, gl, rfl, Sl, Gl, bl⟩
                    have TLL := Sl.strs Gl
                    have BB := Below.nextS BB bl
                    go_wp2_with fail
                    refine hK.out _ _ ⟨(BB.cell (p := ⟨w1.heap.size, 0, none⟩) m1).trans cG8, (BB.cell (p := ⟨br, offr, none⟩) lb).trans hr0⟩ (fun hHeld => ?_)
                    clear hK K
                    try simp only [Act.put, List.setIfInBounds_toArray, List.set_cons_zero, List.set_cons_succ, List.getElem_toArray, List.getElem_cons_zero, List.getElem_cons_succ]
                    refine wpAnyH_ready (rs := [7]) (by kernel_rfl) (by simp) ?_
                    refine AllReadyH.cons rfl (fun K hK => ?_) AllReadyH.nil
                    go_simp
                    go_at_call 46
                    refine (lwIn_any (leftOf rs (cycOf rs)) _ _ _ _ _ TLL).mono ?_
                    rintro e w' ⟨rfl, rfl⟩
                    rw [MC.out]
                    go_wp2_with fail
                    refine hK.out _ _ ⟨(BB.cell (p := ⟨w1.heap.size, 0, none⟩) m1).trans cG8, (BB.cell (p := ⟨br, offr, none⟩) lb).trans hr0⟩ (fun hHeld => ?_)
                    clear hK K
                    try simp only [Act.put, List.setIfInBounds_toArray, List.set_cons_zero, List.set_cons_succ, List.getElem_toArray, List.getElem_cons_zero, List.getElem_cons_succ]
                    refine wpAnyH_take (i := 8) (v := ?_) rfl (by kernel_rfl) (by kernel_rfl) (by kernel_rfl) (fun _ _ _ h => h) (Or.inl ⟨by rfl, ?_⟩) (by assumption) ?_
                    rotate_left
                    · intro w' hSw
                      try dsimp only at hSw
                      go_simp
                      try with_reducible rfl
                    simp only [Act.put, List.setIfInBounds_toArray, List.set_cons_zero, List.set_cons_succ, List.getElem_toArray, List.getElem_cons_zero, List.getElem_cons_succ]
                    refine wpAnyH_take (i := 9) (v := ?_) rfl (by kernel_rfl) (by kernel_rfl) (by kernel_rfl) (fun _ _ _ h => h) (Or.inl ⟨by rfl, ?_⟩) (by assumption) ?_
                    rotate_left
                    · intro w' hSw
                      try dsimp only at hSw
                      go_simp
                      try with_reducible rfl
                    simp only [Act.put, List.setIfInBounds_toArray, List.set_cons_zero, List.set_cons_succ, List.getElem_toArray, List.getElem_cons_zero, List.getElem_cons_succ]
                    refine wpAnyH_take (i := 10) (v := ?_) rfl (by kernel_rfl) (by kernel_rfl) (by kernel_rfl) (fun _ _ _ h => h) (Or.inl ⟨by rfl, ?_⟩) (by assumption) ?_
                    rotate_left
                    · intro w' hSw
                      try dsimp only at hSw
                      go_simp
                      try with_reducible rfl
                    simp only [Act.put, List.setIfInBounds_toArray, List.set_cons_zero, List.set_cons_succ, List.getElem_toArray, List.getElem_cons_zero, List.getElem_cons_succ]
                    refine wpAnyH_ready (rs := [11]) (by kernel_rfl) (by simp) ?_
                    refine AllReadyH.cons rfl (fun K hK => ?_) AllReadyH.nil
                    go_simp
                    go_at_call 24
                    refine (specGramRight_any rs _ _ _ _ (HV8.out.below BB m1') (Nat.le_trans m1' BB.size)).mono ?_
                    rintro e wf ⟨rfl, bf⟩
                    rw [HG.out]
                    have BB := Below.nextS BB bf
                    go_wp2_with fail
                    refine hK.out _ _ ⟨(BB.cell (p := ⟨w1.heap.size, 0, none⟩) m1).trans cG8, (BB.cell (p := ⟨br, offr, none⟩) lb).trans hr0⟩ (fun hHeld => ?_)
                    clear hK K
                    try simp only [Act.put, List.setIfInBounds_toArray, List.set_cons_zero, List.set_cons_succ, List.getElem_toArray, List.getElem_cons_zero, List.getElem_cons_succ]
                    refine wpAnyH_take (i := 12) (v := ?_) rfl (by kernel_rfl) (by kernel_rfl) (by kernel_rfl) (fun _ _ _ h => h) (Or.inl ⟨by rfl, ?_⟩) (by assumption) ?_
                    rotate_left
                    · intro w' hSw
                      try dsimp only at hSw
                      go_simp
                      try with_reducible rfl
                    simp only [Act.put, List.setIfInBounds_toArray, List.set_cons_zero, List.set_cons_succ, List.getElem_toArray, List.getElem_cons_zero, List.getElem_cons_succ]
                    refine wpAnyH_take (i := 13) (v := ?_) rfl (by kernel_rfl) (by kernel_rfl) (by kernel_rfl) (fun _ _ _ h => h) (Or.inl ⟨by rfl, ?_⟩) (by assumption) ?_
                    rotate_left
                    · intro w' hSw
                      try dsimp only at hSw
                      go_simp
                      try with_reducible rfl
                    simp only [Act.put, List.setIfInBounds_toArray, List.set_cons_zero, List.set_cons_succ, List.getElem_toArray, List.getElem_cons_zero, List.getElem_cons_succ]
                    refine wpAnyH_take (i := 14) (v := ?_) rfl (by kernel_rfl) (by kernel_rfl) (by kernel_rfl) (fun _ _ _ h => h) (Or.inl ⟨by rfl, ?_⟩) (by assumption) ?_
                    rotate_left
                    · intro w' hSw
                      try dsimp only at hSw
                      go_simp
                      try with_reducible rfl
                    simp only [Act.put, List.setIfInBounds_toArray, List.set_cons_zero, List.set_cons_succ, List.getElem_toArray, List.getElem_cons_zero, List.getElem_cons_succ]
                    refine wpAnyH_take (i := 15) (v := ?_) rfl (by kernel_rfl) (by kernel_rfl) (by kernel_rfl) (fun _ _ _ h => h) (Or.inl ⟨by rfl, ?_⟩) (by assumption) ?_
                    rotate_left
                    · intro w' hSw
                      try dsimp only at hSw
                      go_simp
                      try with_reducible rfl
                    simp only [Act.put, List.setIfInBounds_toArray, List.set_cons_zero, List.set_cons_succ, List.getElem_toArray, List.getElem_cons_zero, List.getElem_cons_succ]
                    refine wpAnyH_take (i := 16) (v := ?_) rfl (by kernel_rfl) (by kernel_rfl) (by kernel_rfl) (fun _ _ _ h => h) (Or.inl ⟨by rfl, ?_⟩) (by assumption) ?_
                    rotate_left
                    · intro w' hSw
                      try dsimp only at hSw
                      go_simp
                      try with_reducible rfl
                    simp only [Act.put, List.setIfInBounds_toArray, List.set_cons_zero, List.set_cons_succ, List.getElem_toArray, List.getElem_cons_zero, List.getElem_cons_succ]
                    refine wpAnyH_take (i := 17) (v := ?_) rfl (by kernel_rfl) (by kernel_rfl) (by kernel_rfl) (fun _ _ _ h => h) (Or.inl ⟨by rfl, ?_⟩) (by assumption) ?_
                    rotate_left
                    · intro w' hSw
                      try dsimp only at hSw
                      go_simp
                      try with_reducible rfl
                    simp only [Act.put, List.setIfInBounds_toArray, List.set_cons_zero, List.set_cons_succ, List.getElem_toArray, List.getElem_cons_zero, List.getElem_cons_succ]
                    refine wpAnyH_take (i := 18) (v := ?_) rfl (by kernel_rfl) (by kernel_rfl) (by kernel_rfl) (fun _ _ _ h => h) (Or.inl ⟨by rfl, ?_⟩) (by assumption) ?_
                    rotate_left
                    · intro w' hSw
                      try dsimp only at hSw
                      go_simp
                      try with_reducible rfl
                    simp only [Act.put, List.setIfInBounds_toArray, List.set_cons_zero, List.set_cons_succ, List.getElem_toArray, List.getElem_cons_zero, List.getElem_cons_succ]
                    refine wpAnyH_take (i := 19) (v := ?_) rfl (by kernel_rfl) (by kernel_rfl) (by kernel_rfl) (fun _ _ _ h => h) (Or.inl ⟨by rfl, ?_⟩) (by assumption) ?_
                    rotate_left
                    · intro w' hSw
                      try dsimp only at hSw
                      go_simp
                      try with_reducible rfl
                    simp only [Act.put, List.setIfInBounds_toArray, List.set_cons_zero, List.set_cons_succ, List.getElem_toArray, List.getElem_cons_zero, List.getElem_cons_succ]
                    refine wpAnyH_take (i := 21) (v := ?_) rfl (by kernel_rfl) (by kernel_rfl) (by kernel_rfl) (fun _ _ _ h => h) (Or.inl ⟨by rfl, ?_⟩) (by assumption) ?_
                    rotate_left
                    · intro w' hSw
                      try dsimp only at hSw
                      go_simp
                      try with_reducible rfl
                    simp only [Act.put, List.setIfInBounds_toArray, List.set_cons_zero, List.set_cons_succ, List.getElem_toArray, List.getElem_cons_zero, List.getElem_cons_succ]
                    refine wpAnyH_ready (rs := [20, 22]) (by kernel_rfl) (by simp) ?_
                    refine AllReadyH.cons rfl (fun K hK => ?_) (AllReadyH.cons rfl (fun K hK => ?_) AllReadyH.nil)
                    · as_aux_lemma =>
                        go_simp
                        go_at_call 46
                        refine (lwIn_any (comOf false rs) _ _ _ _ _ (HN8.out.below BB ma)).mono ?_
                        rintro e w' ⟨rfl, rfl⟩
                        rw [HS0.out]
                        go_wp2_with fail
                        refine hK.out _ _ ⟨(BB.cell (p := ⟨w1.heap.size, 0, none⟩) m1).trans cG8, (BB.cell (p := ⟨br, offr, none⟩) lb).trans hr0⟩ (fun hHeld => ?_)
                        clear hK K
                        try simp only [Act.put, List.setIfInBounds_toArray, List.set_cons_zero, List.set_cons_succ, List.getElem_toArray, List.getElem_cons_zero, List.getElem_cons_succ]
                        refine wpAnyH_ready (rs := [22]) (by kernel_rfl) (by simp) ?_
                        refine AllReadyH.cons rfl (fun K hK => ?_) AllReadyH.nil
                        go_simp
                        have BB := Below.nextS BB (al1 _ (.cells #[] 9))
                        refine hK.out _ _ ⟨(BB.cell (p := ⟨w1.heap.size, 0, none⟩) m1).trans cG8, (BB.cell (p := ⟨br, offr, none⟩) lb).trans hr0⟩ (fun hHeld => ?_)
                        clear hK K
                        try simp only [Act.put, List.setIfInBounds_toArray, List.set_cons_zero, List.set_cons_succ, List.getElem_toArray, List.getElem_cons_zero, List.getElem_cons_succ]
                        refine wpAnyH_ready (rs := [23]) (by kernel_rfl) (by simp) ?_
                        refine AllReadyH.cons rfl (fun K hK => ?_) AllReadyH.nil
                        go_simp
                        go_at_call 47
                        refine (implDerives_any rs [] _ _ _ _ 0 0 _ (HV8.out.below BB m1') (Nat.le_trans m1' BB.size) (strs_nil _ _) (Nat.zero_le _)).mono ?_
                        rintro e wd1 ⟨rfl, bd1⟩
                        have BB := Below.nextS BB bd1
                        go_wp2_with fail
                        refine hK.out _ _ ⟨(BB.cell (p := ⟨w1.heap.size, 0, none⟩) m1).trans cG8, (BB.cell (p := ⟨br, offr, none⟩) lb).trans hr0⟩ (fun hHeld => ?_)
                        clear hK K
                        try simp only [Act.put, List.setIfInBounds_toArray, List.set_cons_zero, List.set_cons_succ, List.getElem_toArray, List.getElem_cons_zero, List.getElem_cons_succ]
                        refine wpAnyH_take (i := 24) (v := ?_) rfl (by kernel_rfl) (by kernel_rfl) (by kernel_rfl) (fun _ _ _ h => h) (Or.inl ⟨by rfl, ?_⟩) (by assumption) ?_
                        rotate_left
                        · intro w' hSw
                          try dsimp only at hSw
                          go_simp
                          try with_reducible rfl
                        simp only [Act.put, List.setIfInBounds_toArray, List.set_cons_zero, List.set_cons_succ, List.getElem_toArray, List.getElem_cons_zero, List.getElem_cons_succ]
                        refine wpAnyH_take (i := 25) (v := ?_) rfl (by kernel_rfl) (by kernel_rfl) (by kernel_rfl) (fun _ _ _ h => h) (Or.inl ⟨by rfl, ?_⟩) (by assumption) ?_
                        rotate_left
                        · intro w' hSw
                          try dsimp only at hSw
                          go_simp
                          try with_reducible rfl
                        simp only [Act.put, List.setIfInBounds_toArray, List.set_cons_zero, List.set_cons_succ, List.getElem_toArray, List.getElem_cons_zero, List.getElem_cons_succ]
                        refine wpAnyH_take (i := 26) (v := ?_) rfl (by kernel_rfl) (by kernel_rfl) (by kernel_rfl) (fun _ _ _ h => h) (Or.inl ⟨by rfl, ?_⟩) (by assumption) ?_
                        rotate_left
                        · intro w' hSw
                          try dsimp only at hSw
                          go_simp
                          try with_reducible rfl
                        simp only [Act.put, List.setIfInBounds_toArray, List.set_cons_zero, List.set_cons_succ, List.getElem_toArray, List.getElem_cons_zero, List.getElem_cons_succ]
                        refine wpAnyH_take (i := 27) (v := ?_) rfl (by kernel_rfl) (by kernel_rfl) (by kernel_rfl) (fun _ _ _ h => h) (Or.inl ⟨by rfl, ?_⟩) (by assumption) ?_
                        rotate_left
                        · intro w' hSw
                          try dsimp only at hSw
                          go_simp
                          try with_reducible rfl
                        simp only [Act.put, List.setIfInBounds_toArray, List.set_cons_zero, List.set_cons_succ, List.getElem_toArray, List.getElem_cons_zero, List.getElem_cons_succ]
                        refine wpAnyH_take (i := 28) (v := ?_) rfl (by kernel_rfl) (by kernel_rfl) (by kernel_rfl) (fun _ _ _ h => h) (Or.inl ⟨by rfl, ?_⟩) (by assumption) ?_
                        rotate_left
                        · intro w' hSw
                          try dsimp only at hSw
                          go_simp
                          try with_reducible rfl
                        simp only [Act.put, List.setIfInBounds_toArray, List.set_cons_zero, List.set_cons_succ, List.getElem_toArray, List.getElem_cons_zero, List.getElem_cons_succ]
                        refine wpAnyH_take (i := 29) (v := ?_) rfl (by kernel_rfl) (by kernel_rfl) (by kernel_rfl) (fun _ _ _ h => h) (Or.inl ⟨by rfl, ?_⟩) (by assumption) ?_
                        rotate_left
                        · intro w' hSw
                          try dsimp only at hSw
                          go_simp
                          try with_reducible rfl
                        simp only [Act.put, List.setIfInBounds_toArray, List.set_cons_zero, List.set_cons_succ, List.getElem_toArray, List.getElem_cons_zero, List.getElem_cons_succ]
                        refine wpAnyH_take (i := 30) (v := ?_) rfl (by kernel_rfl) (by kernel_rfl) (by kernel_rfl) (fun _ _ _ h => h) (Or.inl ⟨by rfl, ?_⟩) (by assumption) ?_
                        rotate_left
                        · intro w' hSw
                          try dsimp only at hSw
                          go_simp
                          try with_reducible rfl
                        simp only [Act.put, List.setIfInBounds_toArray, List.set_cons_zero, List.set_cons_succ, List.getElem_toArray, List.getElem_cons_zero, List.getElem_cons_succ]
                        refine wpAnyH_take (i := 31) (v := ?_) rfl (by kernel_rfl) (by kernel_rfl) (by kernel_rfl) (fun _ _ _ h => h) (Or.inl ⟨by rfl, ?_⟩) (by assumption) ?_
                        rotate_left
                        · intro w' hSw
                          try dsimp only at hSw
                          go_simp
                          try with_reducible rfl
                        simp only [Act.put, List.setIfInBounds_toArray, List.set_cons_zero, List.set_cons_succ, List.getElem_toArray, List.getElem_cons_zero, List.getElem_cons_succ]
                        refine wpAnyH_take (i := 33) (v := ?_) rfl (by kernel_rfl) (by kernel_rfl) (by kernel_rfl) (fun _ _ _ h => h) (Or.inl ⟨by rfl, ?_⟩) (by assumption) ?_
                        rotate_left
                        · intro w' hSw
                          try dsimp only at hSw
                          go_simp
                          try with_reducible rfl
                        simp only [Act.put, List.setIfInBounds_toArray, List.set_cons_zero, List.set_cons_succ, List.getElem_toArray, List.getElem_cons_zero, List.getElem_cons_succ]
                        refine wpAnyH_ready (rs := [32, 34]) (by kernel_rfl) (by simp) ?_
                        refine AllReadyH.cons rfl (fun K hK => ?_) (AllReadyH.cons rfl (fun K hK => ?_) AllReadyH.nil)
                        · as_aux_lemma =>
                            go_simp
                            go_at_call 46
                            refine (lwIn_any (comOf true rs) _ _ _ _ _ (HP8.out.below BB mb)).mono ?_
                            rintro e w' ⟨rfl, rfl⟩
                            rw [HS1.out]
                            go_wp2_with fail
                            refine hK.out _ _ ⟨(BB.cell (p := ⟨w1.heap.size, 0, none⟩) m1).trans cG8, (BB.cell (p := ⟨br, offr, none⟩) lb).trans hr0⟩ (fun hHeld => ?_)
                            clear hK K
                            try simp only [Act.put, List.setIfInBounds_toArray, List.set_cons_zero, List.set_cons_succ, List.getElem_toArray, List.getElem_cons_zero, List.getElem_cons_succ]
                            refine wpAnyH_ready (rs := [34]) (by kernel_rfl) (by simp) ?_
                            refine AllReadyH.cons rfl (fun K hK => ?_) AllReadyH.nil
                            go_simp
                            have BB := Below.nextS BB (al1 _ (.cells #[] 9))
                            refine hK.out _ _ ⟨(BB.cell (p := ⟨w1.heap.size, 0, none⟩) m1).trans cG8, (BB.cell (p := ⟨br, offr, none⟩) lb).trans hr0⟩ (fun hHeld => ?_)
                            clear hK K
                            try simp only [Act.put, List.setIfInBounds_toArray, List.set_cons_zero, List.set_cons_succ, List.getElem_toArray, List.getElem_cons_zero, List.getElem_cons_succ]
                            refine wpAnyH_ready (rs := [35]) (by kernel_rfl) (by simp) ?_
                            refine AllReadyH.cons rfl (fun K hK => ?_) AllReadyH.nil
                            go_simp
                            go_at_call 48
                            refine (implViable_any rs [] _ _ _ _ 0 0 _ (HV8.out.below BB m1') (Nat.le_trans m1' BB.size) (strs_nil _ _) (Nat.zero_le _)).mono ?_
                            rintro e wv1 ⟨rfl, bv1⟩
                            have BB := Below.nextS BB bv1
                            go_wp2_with fail
                            refine hK.out _ _ ⟨(BB.cell (p := ⟨w1.heap.size, 0, none⟩) m1).trans cG8, (BB.cell (p := ⟨br, offr, none⟩) lb).trans hr0⟩ (fun hHeld => ?_)
                            clear hK K
                            try simp only [Act.put, List.setIfInBounds_toArray, List.set_cons_zero, List.set_cons_succ, List.getElem_toArray, List.getElem_cons_zero, List.getElem_cons_succ]
                            refine wpAnyH_take (i := 36) (v := ?_) rfl (by kernel_rfl) (by kernel_rfl) (by kernel_rfl) (fun _ _ _ h => h) (Or.inl ⟨by rfl, ?_⟩) (by assumption) ?_
                            rotate_left
                            · intro w' hSw
                              try dsimp only at hSw
                              go_simp
                              try with_reducible rfl
                            simp only [Act.put, List.setIfInBounds_toArray, List.set_cons_zero, List.set_cons_succ, List.getElem_toArray, List.getElem_cons_zero, List.getElem_cons_succ]
                            refine wpAnyH_take (i := 37) (v := ?_) rfl (by kernel_rfl) (by kernel_rfl) (by kernel_rfl) (fun _ _ _ h => h) (Or.inl ⟨by rfl, ?_⟩) (by assumption) ?_
                            rotate_left
                            · intro w' hSw
                              try dsimp only at hSw
                              go_simp
                              try with_reducible rfl
                            simp only [Act.put, List.setIfInBounds_toArray, List.set_cons_zero, List.set_cons_succ, List.getElem_toArray, List.getElem_cons_zero, List.getElem_cons_succ]
                            refine wpAnyH_take (i := 38) (v := ?_) rfl (by kernel_rfl) (by kernel_rfl) (by kernel_rfl) (fun _ _ _ h => h) (Or.inl ⟨by rfl, ?_⟩) (by assumption) ?_
                            rotate_left
                            · intro w' hSw
                              try dsimp only at hSw
                              go_simp
                              try with_reducible rfl
                            simp only [Act.put, List.setIfInBounds_toArray, List.set_cons_zero, List.set_cons_succ, List.getElem_toArray, List.getElem_cons_zero, List.getElem_cons_succ]
                            refine wpAnyH_take (i := 39) (v := ?_) rfl (by kernel_rfl) (by kernel_rfl) (by kernel_rfl) (fun _ _ _ h => h) (Or.inl ⟨by rfl, ?_⟩) (by assumption) ?_
                            rotate_left
                            · intro w' hSw
                              try dsimp only at hSw
                              go_simp
                              try with_reducible rfl
                            simp only [Act.put, List.setIfInBounds_toArray, List.set_cons_zero, List.set_cons_succ, List.getElem_toArray, List.getElem_cons_zero, List.getElem_cons_succ]
                            refine wpAnyH_take (i := 40) (v := ?_) rfl (by kernel_rfl) (by kernel_rfl) (by kernel_rfl) (fun _ _ _ h => h) (Or.inl ⟨by rfl, ?_⟩) (by assumption) ?_
                            rotate_left
                            · intro w' hSw
                              try dsimp only at hSw
                              go_simp
                              try with_reducible rfl
                            simp only [Act.put, List.setIfInBounds_toArray, List.set_cons_zero, List.set_cons_succ, List.getElem_toArray, List.getElem_cons_zero, List.getElem_cons_succ]
                            refine wpAnyH_take (i := 41) (v := ?_) rfl (by kernel_rfl) (by kernel_rfl) (by kernel_rfl) (fun _ _ _ h => h) (Or.inl ⟨by rfl, ?_⟩) (by assumption) ?_
                            rotate_left
                            · intro w' hSw
                              try dsimp only at hSw
                              go_simp
                              try with_reducible rfl
                            simp only [Act.put, List.setIfInBounds_toArray, List.set_cons_zero, List.set_cons_succ, List.getElem_toArray, List.getElem_cons_zero, List.getElem_cons_succ]
                            refine wpAnyH_done (by kernel_rfl) ?_ _
                            go_wp2
                            go_ret
                            exact ⟨rfl, HB8.out.trans (BB.mono HB8.out.size)⟩
                        · as_aux_lemma =>
                            go_simp
                            have BB := Below.nextS BB (al1 _ (.cells #[] 9))
                            refine hK.out _ _ ⟨(BB.cell (p := ⟨w1.heap.size, 0, none⟩) m1).trans cG8, (BB.cell (p := ⟨br, offr, none⟩) lb).trans hr0⟩ (fun hHeld => ?_)
                            clear hK K
                            try simp only [Act.put, List.setIfInBounds_toArray, List.set_cons_zero, List.set_cons_succ, List.getElem_toArray, List.getElem_cons_zero, List.getElem_cons_succ]
                            refine wpAnyH_ready (rs := [32]) (by kernel_rfl) (by simp) ?_
                            refine AllReadyH.cons rfl (fun K hK => ?_) AllReadyH.nil
                            go_simp
                            go_at_call 46
                            refine (lwIn_any (comOf true rs) _ _ _ _ _ (HP8.out.below BB mb)).mono ?_
                            rintro e w' ⟨rfl, rfl⟩
                            rw [HS1.out]
                            go_wp2_with fail
                            refine hK.out _ _ ⟨(BB.cell (p := ⟨w1.heap.size, 0, none⟩) m1).trans cG8, (BB.cell (p := ⟨br, offr, none⟩) lb).trans hr0⟩ (fun hHeld => ?_)
                            clear hK K
                            try simp only [Act.put, List.setIfInBounds_toArray, List.set_cons_zero, List.set_cons_succ, List.getElem_toArray, List.getElem_cons_zero, List.getElem_cons_succ]
                            refine wpAnyH_ready (rs := [35]) (by kernel_rfl) (by simp) ?_
                            refine AllReadyH.cons rfl (fun K hK => ?_) AllReadyH.nil
                            go_simp
                            go_at_call 48
                            refine (implViable_any rs [] _ _ _ _ 0 0 _ (HV8.out.below BB m1') (Nat.le_trans m1' BB.size) (strs_nil _ _) (Nat.zero_le _)).mono ?_
                            rintro e wv1 ⟨rfl, bv1⟩
                            have BB := Below.nextS BB bv1
                            go_wp2_with fail
                            refine hK.out _ _ ⟨(BB.cell (p := ⟨w1.heap.size, 0, none⟩) m1).trans cG8, (BB.cell (p := ⟨br, offr, none⟩) lb).trans hr0⟩ (fun hHeld => ?_)
                            clear hK K
                            try simp only [Act.put, List.setIfInBounds_toArray, List.set_cons_zero, List.set_cons_succ, List.getElem_toArray, List.getElem_cons_zero, List.getElem_cons_succ]
                            refine wpAnyH_take (i := 36) (v := ?_) rfl (by kernel_rfl) (by kernel_rfl) (by kernel_rfl) (fun _ _ _ h => h) (Or.inl ⟨by rfl, ?_⟩) (by assumption) ?_
                            rotate_left
                            · intro w' hSw
                              try dsimp only at hSw
                              go_simp
                              try with_reducible rfl
                            simp only [Act.put, List.setIfInBounds_toArray, List.set_cons_zero, List.set_cons_succ, List.getElem_toArray, List.getElem_cons_zero, List.getElem_cons_succ]
                            refine wpAnyH_take (i := 37) (v := ?_) rfl (by kernel_rfl) (by kernel_rfl) (by kernel_rfl) (fun _ _ _ h => h) (Or.inl ⟨by rfl, ?_⟩) (by assumption) ?_
                            rotate_left
                            · intro w' hSw
                              try dsimp only at hSw
                              go_simp
                              try with_reducible rfl
                            simp only [Act.put, List.setIfInBounds_toArray, List.set_cons_zero, List.set_cons_succ, List.getElem_toArray, List.getElem_cons_zero, List.getElem_cons_succ]
                            refine wpAnyH_take (i := 38) (v := ?_) rfl (by kernel_rfl) (by kernel_rfl) (by kernel_rfl) (fun _ _ _ h => h) (Or.inl ⟨by rfl, ?_⟩) (by assumption) ?_
                            rotate_left
                            · intro w' hSw
                              try dsimp only at hSw
                              go_simp
                              try with_reducible rfl
                            simp only [Act.put, List.setIfInBounds_toArray, List.set_cons_zero, List.set_cons_succ, List.getElem_toArray, List.getElem_cons_zero, List.getElem_cons_succ]
                            refine wpAnyH_take (i := 39) (v := ?_) rfl (by kernel_rfl) (by kernel_rfl) (by kernel_rfl) (fun _ _ _ h => h) (Or.inl ⟨by rfl, ?_⟩) (by assumption) ?_
                            rotate_left
                            · intro w' hSw
                              try dsimp only at hSw
                              go_simp
                              try with_reducible rfl
                            simp only [Act.put, List.setIfInBounds_toArray, List.set_cons_zero, List.set_cons_succ, List.getElem_toArray, List.getElem_cons_zero, List.getElem_cons_succ]
                            refine wpAnyH_take (i := 40) (v := ?_) rfl (by kernel_rfl) (by kernel_rfl) (by kernel_rfl) (fun _ _ _ h => h) (Or.inl ⟨by rfl, ?_⟩) (by assumption) ?_
                            rotate_left
                            · intro w' hSw
                              try dsimp only at hSw
                              go_simp
                              try with_reducible rfl
                            simp only [Act.put, List.setIfInBounds_toArray, List.set_cons_zero, List.set_cons_succ, List.getElem_toArray, List.getElem_cons_zero, List.getElem_cons_succ]
                            refine wpAnyH_take (i := 41) (v := ?_) rfl (by kernel_rfl) (by kernel_rfl) (by kernel_rfl) (fun _ _ _ h => h) (Or.inl ⟨by rfl, ?_⟩) (by assumption) ?_
                            rotate_left
                            · intro w' hSw
                              try dsimp only at hSw
                              go_simp
                              try with_reducible rfl
                            simp only [Act.put, List.setIfInBounds_toArray, List.set_cons_zero, List.set_cons_succ, List.getElem_toArray, List.getElem_cons_zero, List.getElem_cons_succ]
                            refine wpAnyH_done (by kernel_rfl) ?_ _
                            go_wp2
                            go_ret
                            exact ⟨rfl, HB8.out.trans (BB.mono HB8.out.size)⟩
                    · as_aux_lemma =>
                        go_simp
                        have BB := Below.nextS BB (al1 _ (.cells #[] 9))
                        refine hK.out _ _ ⟨(BB.cell (p := ⟨w1.heap.size, 0, none⟩) m1).trans cG8, (BB.cell (p := ⟨br, offr, none⟩) lb).trans hr0⟩ (fun hHeld => ?_)
                        clear hK K
                        try simp only [Act.put, List.setIfInBounds_toArray, List.set_cons_zero, List.set_cons_succ, List.getElem_toArray, List.getElem_cons_zero, List.getElem_cons_succ]
                        refine wpAnyH_ready (rs := [20]) (by kernel_rfl) (by simp) ?_
                        refine AllReadyH.cons rfl (fun K hK => ?_) AllReadyH.nil
                        go_simp
                        go_at_call 46
                        refine (lwIn_any (comOf false rs) _ _ _ _ _ (HN8.out.below BB ma)).mono ?_
                        rintro e w' ⟨rfl, rfl⟩
                        rw [HS0.out]
                        go_wp2_with fail
                        refine hK.out _ _ ⟨(BB.cell (p := ⟨w1.heap.size, 0, none⟩) m1).trans cG8, (BB.cell (p := ⟨br, offr, none⟩) lb).trans hr0⟩ (fun hHeld => ?_)
                        clear hK K
                        try simp only [Act.put, List.setIfInBounds_toArray, List.set_cons_zero, List.set_cons_succ, List.getElem_toArray, List.getElem_cons_zero, List.getElem_cons_succ]
                        refine wpAnyH_ready (rs := [23]) (by kernel_rfl) (by simp) ?_
                        refine AllReadyH.cons rfl (fun K hK => ?_) AllReadyH.nil
                        go_simp
                        go_at_call 47
                        refine (implDerives_any rs [] _ _ _ _ 0 0 _ (HV8.out.below BB m1') (Nat.le_trans m1' BB.size) (strs_nil _ _) (Nat.zero_le _)).mono ?_
                        rintro e wd1 ⟨rfl, bd1⟩
                        have BB := Below.nextS BB bd1
                        go_wp2_with fail
                        refine hK.out _ _ ⟨(BB.cell (p := ⟨w1.heap.size, 0, none⟩) m1).trans cG8, (BB.cell (p := ⟨br, offr, none⟩) lb).trans hr0⟩ (fun hHeld => ?_)
                        clear hK K
                        try simp only [Act.put, List.setIfInBounds_toArray, List.set_cons_zero, List.set_cons_succ, List.getElem_toArray, List.getElem_cons_zero, List.getElem_cons_succ]
                        refine wpAnyH_take (i := 24) (v := ?_) rfl (by kernel_rfl) (by kernel_rfl) (by kernel_rfl) (fun _ _ _ h => h) (Or.inl ⟨by rfl, ?_⟩) (by assumption) ?_
                        rotate_left
                        · intro w' hSw
                          try dsimp only at hSw
                          go_simp
                          try with_reducible rfl
                        simp only [Act.put, List.setIfInBounds_toArray, List.set_cons_zero, List.set_cons_succ, List.getElem_toArray, List.getElem_cons_zero, List.getElem_cons_succ]
                        refine wpAnyH_take (i := 25) (v := ?_) rfl (by kernel_rfl) (by kernel_rfl) (by kernel_rfl) (fun _ _ _ h => h) (Or.inl ⟨by rfl, ?_⟩) (by assumption) ?_
                        rotate_left
                        · intro w' hSw
                          try dsimp only at hSw
                          go_simp
                          try with_reducible rfl
                        simp only [Act.put, List.setIfInBounds_toArray, List.set_cons_zero, List.set_cons_succ, List.getElem_toArray, List.getElem_cons_zero, List.getElem_cons_succ]
                        refine wpAnyH_take (i := 26) (v := ?_) rfl (by kernel_rfl) (by kernel_rfl) (by kernel_rfl) (fun _ _ _ h => h) (Or.inl ⟨by rfl, ?_⟩) (by assumption) ?_
                        rotate_left
                        · intro w' hSw
                          try dsimp only at hSw
                          go_simp
                          try with_reducible rfl
                        simp only [Act.put, List.setIfInBounds_toArray, List.set_cons_zero, List.set_cons_succ, List.getElem_toArray, List.getElem_cons_zero, List.getElem_cons_succ]
                        refine wpAnyH_take (i := 27) (v := ?_) rfl (by kernel_rfl) (by kernel_rfl) (by kernel_rfl) (fun _ _ _ h => h) (Or.inl ⟨by rfl, ?_⟩) (by assumption) ?_
                        rotate_left
                        · intro w' hSw
                          try dsimp only at hSw
                          go_simp
                          try with_reducible rfl
                        simp only [Act.put, List.setIfInBounds_toArray, List.set_cons_zero, List.set_cons_succ, List.getElem_toArray, List.getElem_cons_zero, List.getElem_cons_succ]
                        refine wpAnyH_take (i := 28) (v := ?_) rfl (by kernel_rfl) (by kernel_rfl) (by kernel_rfl) (fun _ _ _ h => h) (Or.inl ⟨by rfl, ?_⟩) (by assumption) ?_
                        rotate_left
                        · intro w' hSw
                          try dsimp only at hSw
                          go_simp
                          try with_reducible rfl
                        simp only [Act.put, List.setIfInBounds_toArray, List.set_cons_zero, List.set_cons_succ, List.getElem_toArray, List.getElem_cons_zero, List.getElem_cons_succ]
                        refine wpAnyH_take (i := 29) (v := ?_) rfl (by kernel_rfl) (by kernel_rfl) (by kernel_rfl) (fun _ _ _ h => h) (Or.inl ⟨by rfl, ?_⟩) (by assumption) ?_
                        rotate_left
                        · intro w' hSw
                          try dsimp only at hSw
                          go_simp
                          try with_reducible rfl
                        simp only [Act.put, List.setIfInBounds_toArray, List.set_cons_zero, List.set_cons_succ, List.getElem_toArray, List.getElem_cons_zero, List.getElem_cons_succ]
                        refine wpAnyH_take (i := 30) (v := ?_) rfl (by kernel_rfl) (by kernel_rfl) (by kernel_rfl) (fun _ _ _ h => h) (Or.inl ⟨by rfl, ?_⟩) (by assumption) ?_
                        rotate_left
                        · intro w' hSw
                          try dsimp only at hSw
                          go_simp
                          try with_reducible rfl
                        simp only [Act.put, List.setIfInBounds_toArray, List.set_cons_zero, List.set_cons_succ, List.getElem_toArray, List.getElem_cons_zero, List.getElem_cons_succ]
                        refine wpAnyH_take (i := 31) (v := ?_) rfl (by kernel_rfl) (by kernel_rfl) (by kernel_rfl) (fun _ _ _ h => h) (Or.inl ⟨by rfl, ?_⟩) (by assumption) ?_
                        rotate_left
                        · intro w' hSw
                          try dsimp only at hSw
                          go_simp
                          try with_reducible rfl
                        simp only [Act.put, List.setIfInBounds_toArray, List.set_cons_zero, List.set_cons_succ, List.getElem_toArray, List.getElem_cons_zero, List.getElem_cons_succ]
                        refine wpAnyH_take (i := 33) (v := ?_) rfl (by kernel_rfl) (by kernel_rfl) (by kernel_rfl) (fun _ _ _ h => h) (Or.inl ⟨by rfl, ?_⟩) (by assumption) ?_
                        rotate_left
                        · intro w' hSw
                          try dsimp only at hSw
                          go_simp
                          try with_reducible rfl
                        simp only [Act.put, List.setIfInBounds_toArray, List.set_cons_zero, List.set_cons_succ, List.getElem_toArray, List.getElem_cons_zero, List.getElem_cons_succ]
                        refine wpAnyH_ready (rs := [32, 34]) (by kernel_rfl) (by simp) ?_
                        refine AllReadyH.cons rfl (fun K hK => ?_) (AllReadyH.cons rfl (fun K hK => ?_) AllReadyH.nil)
                        · as_aux_lemma =>
                            go_simp
                            go_at_call 46
                            refine (lwIn_any (comOf true rs) _ _ _ _ _ (HP8.out.below BB mb)).mono ?_
                            rintro e w' ⟨rfl, rfl⟩
                            rw [HS1.out]
                            go_wp2_with fail
                            refine hK.out _ _ ⟨(BB.cell (p := ⟨w1.heap.size, 0, none⟩) m1).trans cG8, (BB.cell (p := ⟨br, offr, none⟩) lb).trans hr0⟩ (fun hHeld => ?_)
                            clear hK K
                            try simp only [Act.put, List.setIfInBounds_toArray, List.set_cons_zero, List.set_cons_succ, List.getElem_toArray, List.getElem_cons_zero, List.getElem_cons_succ]
                            refine wpAnyH_ready (rs := [34]) (by kernel_rfl) (by simp) ?_
                            refine AllReadyH.cons rfl (fun K hK => ?_) AllReadyH.nil
                            go_simp
                            have BB := Below.nextS BB (al1 _ (.cells #[] 9))
                            refine hK.out _ _ ⟨(BB.cell (p := ⟨w1.heap.size, 0, none⟩) m1).trans cG8, (BB.cell (p := ⟨br, offr, none⟩) lb).trans hr0⟩ (fun hHeld => ?_)
                            clear hK K
                            try simp only [Act.put, List.setIfInBounds_toArray, List.set_cons_zero, List.set_cons_succ, List.getElem_toArray, List.getElem_cons_zero, List.getElem_cons_succ]
                            refine wpAnyH_ready (rs := [35]) (by kernel_rfl) (by simp) ?_
                            refine AllReadyH.cons rfl (fun K hK => ?_) AllReadyH.nil
                            go_simp
                            go_at_call 48
                            refine (implViable_any rs [] _ _ _ _ 0 0 _ (HV8.out.below BB m1') (Nat.le_trans m1' BB.size) (strs_nil _ _) (Nat.zero_le _)).mono ?_
                            rintro e wv1 ⟨rfl, bv1⟩
                            have BB := Below.nextS BB bv1
                            go_wp2_with fail
                            refine hK.out _ _ ⟨(BB.cell (p := ⟨w1.heap.size, 0, none⟩) m1).trans cG8, (BB.cell (p := ⟨br, offr, none⟩) lb).trans hr0⟩ (fun hHeld => ?_)
                            clear hK K
                            try simp only [Act.put, List.setIfInBounds_toArray, List.set_cons_zero, List.set_cons_succ, List.getElem_toArray, List.getElem_cons_zero, List.getElem_cons_succ]
                            refine wpAnyH_take (i := 36) (v := ?_) rfl (by kernel_rfl) (by kernel_rfl) (by kernel_rfl) (fun _ _ _ h => h) (Or.inl ⟨by rfl, ?_⟩) (by assumption) ?_
                            rotate_left
                            · intro w' hSw
                              try dsimp only at hSw
                              go_simp
                              try with_reducible rfl
                            simp only [Act.put, List.setIfInBounds_toArray, List.set_cons_zero, List.set_cons_succ, List.getElem_toArray, List.getElem_cons_zero, List.getElem_cons_succ]
                            refine wpAnyH_take (i := 37) (v := ?_) rfl (by kernel_rfl) (by kernel_rfl) (by kernel_rfl) (fun _ _ _ h => h) (Or.inl ⟨by rfl, ?_⟩) (by assumption) ?_
                            rotate_left
                            · intro w' hSw
                              try dsimp only at hSw
                              go_simp
                              try with_reducible rfl
                            simp only [Act.put, List.setIfInBounds_toArray, List.set_cons_zero, List.set_cons_succ, List.getElem_toArray, List.getElem_cons_zero, List.getElem_cons_succ]
                            refine wpAnyH_take (i := 38) (v := ?_) rfl (by kernel_rfl) (by kernel_rfl) (by kernel_rfl) (fun _ _ _ h => h) (Or.inl ⟨by rfl, ?_⟩) (by assumption) ?_
                            rotate_left
                            · intro w' hSw
                              try dsimp only at hSw
                              go_simp
                              try with_reducible rfl
                            simp only [Act.put, List.setIfInBounds_toArray, List.set_cons_zero, List.set_cons_succ, List.getElem_toArray, List.getElem_cons_zero, List.getElem_cons_succ]
                            refine wpAnyH_take (i := 39) (v := ?_) rfl (by kernel_rfl) (by kernel_rfl) (by kernel_rfl) (fun _ _ _ h => h) (Or.inl ⟨by rfl, ?_⟩) (by assumption) ?_
                            rotate_left
                            · intro w' hSw
                              try dsimp only at hSw
                              go_simp
                              try with_reducible rfl
                            simp only [Act.put, List.setIfInBounds_toArray, List.set_cons_zero, List.set_cons_succ, List.getElem_toArray, List.getElem_cons_zero, List.getElem_cons_succ]
                            refine wpAnyH_take (i := 40) (v := ?_) rfl (by kernel_rfl) (by kernel_rfl) (by kernel_rfl) (fun _ _ _ h => h) (Or.inl ⟨by rfl, ?_⟩) (by assumption) ?_
                            rotate_left
                            · intro w' hSw
                              try dsimp only at hSw
                              go_simp
                              try with_reducible rfl
                            simp only [Act.put, List.setIfInBounds_toArray, List.set_cons_zero, List.set_cons_succ, List.getElem_toArray, List.getElem_cons_zero, List.getElem_cons_succ]
                            refine wpAnyH_take (i := 41) (v := ?_) rfl (by kernel_rfl) (by kernel_rfl) (by kernel_rfl) (fun _ _ _ h => h) (Or.inl ⟨by rfl, ?_⟩) (by assumption) ?_
                            rotate_left
                            · intro w' hSw
                              try dsimp only at hSw
                              go_simp
                              try with_reducible rfl
                            simp only [Act.put, List.setIfInBounds_toArray, List.set_cons_zero, List.set_cons_succ, List.getElem_toArray, List.getElem_cons_zero, List.getElem_cons_succ]
                            refine wpAnyH_done (by kernel_rfl) ?_ _
                            go_wp2
                            go_ret
                            exact ⟨rfl, HB8.out.trans (BB.mono HB8.out.size)⟩
                        · as_aux_lemma =>
                            go_simp
                            have BB := Below.nextS BB (al1 _ (.cells #[] 9))
                            refine hK.out _ _ ⟨(BB.cell (p := ⟨w1.heap.size, 0, none⟩) m1).trans cG8, (BB.cell (p := ⟨br, offr, none⟩) lb).trans hr0⟩ (fun hHeld => ?_)
                            clear hK K
                            try simp only [Act.put, List.setIfInBounds_toArray, List.set_cons_zero, List.set_cons_succ, List.getElem_toArray, List.getElem_cons_zero, List.getElem_cons_succ]
                            refine wpAnyH_ready (rs := [32]) (by kernel_rfl) (by simp) ?_
                            refine AllReadyH.cons rfl (fun K hK => ?_) AllReadyH.nil
                            go_simp
                            go_at_call 46
                            refine (lwIn_any (comOf true rs) _ _ _ _ _ (HP8.out.below BB mb)).mono ?_
                            rintro e w' ⟨rfl, rfl⟩
                            rw [HS1.out]
                            go_wp2_with fail
                            refine hK.out _ _ ⟨(BB.cell (p := ⟨w1.heap.size, 0, none⟩) m1).trans cG8, (BB.cell (p := ⟨br, offr, none⟩) lb).trans hr0⟩ (fun hHeld => ?_)
                            clear hK K
                            try simp only [Act.put, List.setIfInBounds_toArray, List.set_cons_zero, List.set_cons_succ, List.getElem_toArray, List.getElem_cons_zero, List.getElem_cons_succ]
                            refine wpAnyH_ready (rs := [35]) (by kernel_rfl) (by simp) ?_
                            refine AllReadyH.cons rfl (fun K hK => ?_) AllReadyH.nil
                            go_simp
                            go_at_call 48
                            refine (implViable_any rs [] _ _ _ _ 0 0 _ (HV8.out.below BB m1') (Nat.le_trans m1' BB.size) (strs_nil _ _) (Nat.zero_le _)).mono ?_
                            rintro e wv1 ⟨rfl, bv1⟩
                            have BB := Below.nextS BB bv1
                            go_wp2_with fail
                            refine hK.out _ _ ⟨(BB.cell (p := ⟨w1.heap.size, 0, none⟩) m1).trans cG8, (BB.cell (p := ⟨br, offr, none⟩) lb).trans hr0⟩ (fun hHeld => ?_)
                            clear hK K
                            try simp only [Act.put, List.setIfInBounds_toArray, List.set_cons_zero, List.set_cons_succ, List.getElem_toArray, List.getElem_cons_zero, List.getElem_cons_succ]
                            refine wpAnyH_take (i := 36) (v := ?_) rfl (by kernel_rfl) (by kernel_rfl) (by kernel_rfl) (fun _ _ _ h => h) (Or.inl ⟨by rfl, ?_⟩) (by assumption) ?_
                            rotate_left
                            · intro w' hSw
                              try dsimp only at hSw
                              go_simp
                              try with_reducible rfl
                            simp only [Act.put, List.setIfInBounds_toArray, List.set_cons_zero, List.set_cons_succ, List.getElem_toArray, List.getElem_cons_zero, List.getElem_cons_succ]
                            refine wpAnyH_take (i := 37) (v := ?_) rfl (by kernel_rfl) (by kernel_rfl) (by kernel_rfl) (fun _ _ _ h => h) (Or.inl ⟨by rfl, ?_⟩) (by assumption) ?_
                            rotate_left
                            · intro w' hSw
                              try dsimp only at hSw
                              go_simp
                              try with_reducible rfl
                            simp only [Act.put, List.setIfInBounds_toArray, List.set_cons_zero, List.set_cons_succ, List.getElem_toArray, List.getElem_cons_zero, List.getElem_cons_succ]
                            refine wpAnyH_take (i := 38) (v := ?_) rfl (by kernel_rfl) (by kernel_rfl) (by kernel_rfl) (fun _ _ _ h => h) (Or.inl ⟨by rfl, ?_⟩) (by assumption) ?_
                            rotate_left
                            · intro w' hSw
                              try dsimp only at hSw
                              go_simp
                              try with_reducible rfl
                            simp only [Act.put, List.setIfInBounds_toArray, List.set_cons_zero, List.set_cons_succ, List.getElem_toArray, List.getElem_cons_zero, List.getElem_cons_succ]
                            refine wpAnyH_take (i := 39) (v := ?_) rfl (by kernel_rfl) (by kernel_rfl) (by kernel_rfl) (fun _ _ _ h => h) (Or.inl ⟨by rfl, ?_⟩) (by assumption) ?_
                            rotate_left
                            · intro w' hSw
                              try dsimp only at hSw
                              go_simp
                              try with_reducible rfl
                            simp only [Act.put, List.setIfInBounds_toArray, List.set_cons_zero, List.set_cons_succ, List.getElem_toArray, List.getElem_cons_zero, List.getElem_cons_succ]
                            refine wpAnyH_take (i := 40) (v := ?_) rfl (by kernel_rfl) (by kernel_rfl) (by kernel_rfl) (fun _ _ _ h => h) (Or.inl ⟨by rfl, ?_⟩) (by assumption) ?_
                            rotate_left
                            · intro w' hSw
                              try dsimp only at hSw
                              go_simp
                              try with_reducible rfl
                            simp only [Act.put, List.setIfInBounds_toArray, List.set_cons_zero, List.set_cons_succ, List.getElem_toArray, List.getElem_cons_zero, List.getElem_cons_succ]
                            refine wpAnyH_take (i := 41) (v := ?_) rfl (by kernel_rfl) (by kernel_rfl) (by kernel_rfl) (fun _ _ _ h => h) (Or.inl ⟨by rfl, ?_⟩) (by assumption) ?_
                            rotate_left
                            · intro w' hSw
                              try dsimp only at hSw
                              go_simp
                              try with_reducible rfl
                            simp only [Act.put, List.setIfInBounds_toArray, List.set_cons_zero, List.set_cons_succ, List.getElem_toArray, List.getElem_cons_zero, List.getElem_cons_succ]
                            refine wpAnyH_done (by kernel_rfl) ?_ _
                            go_wp2
                            go_ret
                            exact ⟨rfl, HB8.out.trans (BB.mono HB8.out.size)⟩
end fnSets
end Go.Proofs.Ytcgmnpfeiiomgaa
