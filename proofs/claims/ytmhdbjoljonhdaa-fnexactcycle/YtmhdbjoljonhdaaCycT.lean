/- The walks of the model's l03Cycle and Cycle. -/
import Derived.Test.YtmhdbjoljonhdaaCycS
import Derived.Test.YtmhdbjoljonhdaaUseS
import Derived.Test.YtmhdbjoljonhdaaCycI
namespace Go.Proofs.Ytmhdbjoljonhdaa
open Go.RowKit

set_option maxRecDepth 100000 in
set_option maxHeartbeats 4000000 in
open Classical in
theorem specL03Cycle_any (rs : List RuleD) (v : Value) (lo hi : Nat) (w : World) (h : Rules w lo hi v rs) (hh : hi ≤ w.heap.size) (hq : gramB rs = true) :
    Calls Try.prog 70 #[.agg #[v]] w fun e w' => e = .returned (.string (cycOf rs)) ∧ Below w.heap.size w w' := by
  have HV := Lib.hid h
  have HQ := Lib.hid hq
  have RT := Lib.hid (Rt.of hq)
  have hl20 := RT.out.few
  have hhl := RT.out.hs_len
  obtain ⟨A, c, rfl, -⟩ := h
  have hb := al1 w (.cells #[.slice A rs.length c] 25)
  have R0 := Row.made w 25 #[.slice A rs.length c]
  have hsz : (w.alloc (.cells #[.slice A rs.length c] 25)).heap.size = w.heap.size + 1 := by simp
  have HUE : Hid (usefulOf rs = (useIx rs).map fun (i : Nat) => (i : Int)) := Lib.hid (by unfold usefulOf; rw [useOf_t hq])
  have hul := useIx_len (rs := rs)
  clear hq
  go_enter Try.func70, Try.ntmps70
  go_wp2
  generalize w.alloc (.cells #[.slice A rs.length c] 25) = wA at *
  have c0 := R0.cell 0
  simp at c0
  have hlA := R0.lt
  have HSZ := Lib.hid hsz
  have HR0 := Lib.hid R0
  have BB : Below wA.heap.size wA wA.drew := (Below.refl _ _).drew
  have HVA := Lib.hid (HV.out.below hb hh)
  have HB0 := Lib.hid hb
  have hw1 : w.heap.size ≤ wA.heap.size := Nat.le_of_lt hlA
  clear hsz R0 hb
  go_region_held3 (fun w' => w'.cell? ⟨w.heap.size, 0, none⟩ = some (.slice A rs.length c))
    (first | go_keep | (rw [BB.cell hlA]; assumption))
    (first
      | (go_at_call 66; refine (specHeadsOf_any rs _ lo hi _ (HVA.out.below BB (Nat.le_trans hh hw1)) (Nat.le_trans (Nat.le_trans hh hw1) BB.size) (by omega)).mono ?_; rintro e w1 ⟨u1, g1, rfl, ho1, hg1, b1⟩; change OwnS w1 g1 u1 (hsOf rs) at ho1; have HO1 := Lib.hid (ho1.strs (lo := 0) (hi := w1.heap.size) (fun hn => by have := hg1 hn; omega)); have BB := Below.nxt2 BB b1)
      | (go_at_call 64; refine (specL03Useful_any rs _ lo hi _ (HVA.out.below BB (Nat.le_trans hh hw1)) (Nat.le_trans (Nat.le_trans hh hw1) BB.size) HQ.out).mono ?_; rintro e w2 ⟨u2, g2, rfl, ho2, hg2, b2⟩; have HO2 := Lib.hid (ho2.strs (lo := 0) (hi := w2.heap.size) (fun hn => by have := hg2 hn; omega)); have HO3 := Lib.hid (HO1.out.below b2 (Nat.le_refl _)); have zz2 := b2.size; have BB := Below.nxt2 BB b2))
  have HB2 := Lib.hid (HB0.out.trans (BB.mono hw1))
  have hb2s := HB2.out.size
  have R2 := HR0.out.below BB hlA
  have HR2 := Lib.hid R2
  have hl2 := R2.lt
  obtain ⟨Ah, ch, rfl, -⟩ := ho1
  obtain ⟨Au, cu, rfl, -⟩ := ho2
  have HI2 : Hid (IntsAt w2 0 w2.heap.size (.slice Au (usefulOf rs).length cu) ((useIx rs).map fun (i : Nat) => (i : Int))) := Lib.hid (by have := HO2.out; rwa [← HUE.out])
  obtain ⟨A', c', e', hlc, hcm, hsz', hcell⟩ := HO3.out
  injection e' with e1 _ e2
  subst e1 e2
  unfold maxLen at hcm
  have HC := Lib.hid hcell
  clear hcell hsz' hg1 hg2 b1 b2 BB R2
  go_wp2
  go_loopw [5] (fun i wr => ∃ j : Nat, j ≤ (hsOf rs).length ∧ i = .int .i64 (j : Int) ∧ (∀ q (hq : q < (hsOf rs).length), q < j → ¬ Cyc rs (hsOf rs)[q]) ∧ Below w2.heap.size w2 wr) (fun i _ => (hsOf rs).length - (intOf i).toNat)
  case atStart => exact ⟨0, by omega, rfl, fun _ _ h => by omega, Below.refl _ _⟩
  case round =>
    obtain ⟨j, hj, rfl, hall, hbw⟩ := hrel
    have hsw := hbw.size
    have HALL := Lib.hid hall
    clear hall
    by_cases hlt : j < (hsOf rs).length
    · obtain ⟨b, off, rfl, _, hbh, hcc⟩ := HC.out (by omega)
      have hck := (hbw.cell (p := ⟨b, off + j, none⟩) (by show b < _; omega)).trans (hcc j hlt)
      have cg := (HR2.out.below hbw hl2).cell 0
      simp at cg
      have hbW := HB2.out.trans (hbw.mono hb2s)
      have q1 : (j : Int) < ((hsOf rs).length : Int) := by omega
      have q2 : b < wr.heap.size := by omega
      have q3 : w.heap.size < wr.heap.size := by omega
      have HBW := Lib.hid hbw
      have HBB := Lib.hid hbW
      have hcy : decide (AftC rs (useIx rs) (hsOf rs)[j] (hsOf rs)[j]) = decide (Cyc rs (hsOf rs)[j]) := rfl
      have HCY := Lib.hid hcy
      have hhead := RT.out.hs_head (List.getElem_mem hlt)
      clear hcc hbw hbW hcy
      go_wp2
      go_region_held3 (fun w' => w'.cell? ⟨w.heap.size, 0, none⟩ = some (.slice A rs.length c) ∧ w'.cell? ⟨b, off + j, none⟩ = some (.string (hsOf rs)[j]))
        (first | go_keep | (refine ⟨?_, ?_⟩ <;> (rw [b5.cell (by first | exact q3 | exact q2)]; assumption)))
        (first
          | (go_at_call 107; refine (specComes_any rs _ _ (useIx rs) (hsOf rs)[j] hhead lo hi 0 w2.heap.size wr.drew ((HV.out.below HBB.out hh).below (Below.refl wr.heap.size wr).drew (by omega)) (by show hi ≤ wr.heap.size; omega) HQ.out ((HI2.out.below HBW.out (Nat.le_refl _)).below (Below.refl wr.heap.size wr).drew hsw) (by show w2.heap.size ≤ wr.heap.size; omega) useIx_lt (by omega)).mono ?_; rintro e w5 ⟨rfl, b5⟩; rw [HCY.out]))
      have b5' : Below wr.heap.size wr w5 := ⟨b5.os, b5.tape, b5.output, b5.size, b5.block⟩
      have hB5 := HBW.out.trans (b5'.mono hsw)
      have HB5 := Lib.hid hB5
      have hck5 := (b5'.cell (p := ⟨b, off + j, none⟩) q2).trans hck
      have z5 := b5'.size
      have q25 : b < w5.heap.size := by omega
      clear b5 b5' hck cg hB5
      cases hx : decide (Cyc rs (hsOf rs)[j])
      · have HN := Lib.hid (of_decide_eq_false hx)
        clear hx
        go_wp2
        go_roundw
        case rel => exact ⟨j + 1, by omega, by go_num, fun q hq hqj => by
          by_cases e : q = j
          · subst e; exact HN.out
          · exact HALL.out q hq (by omega), HB5.out⟩
        case measure => simp [intOf]; omega
      · have HY := Lib.hid (of_decide_eq_true hx)
        clear hx
        go_wp2
        go_ret
        exact ⟨ret_strC (cyc_hit HQ.out hlt HALL.out HY.out).symm, HB2.out.trans (HB5.out.mono hb2s)⟩
    · go_wp2
      go_ret
      exact ⟨ret_strC (cyc_none fun q hq => HALL.out q hq (by omega)).symm, HB2.out.trans (hbw.mono hb2s)⟩

set_option maxHeartbeats 1000000 in
theorem specCycle_any (rs : List RuleD) (v : Value) (lo hi : Nat) (w : World) (h : Rules w lo hi v rs) (hh : hi ≤ w.heap.size) :
    Calls Try.prog 26 #[.agg #[v]] w fun e w' => e = .returned (.string (cycOf rs)) ∧ Below w.heap.size w w' := by
  have HV := Lib.hid h
  obtain ⟨A, c, rfl, -⟩ := h
  have hb := al1 w (.cells #[.slice A rs.length c] 25)
  have R0 := Row.made w 25 #[.slice A rs.length c]
  cases hq : gramB rs
  · have HE := Lib.hid (cyc_f hq)
    have HQ := Lib.hid hq
    clear hq
    go_enter Try.func26, Try.ntmps26
    go_wp2_with fail
    refine (specGramRight_any rs _ lo hi _ (HV.out.below hb hh) (by simp; omega)).mono ?_
    rintro e w1 ⟨rfl, b1⟩
    rw [HQ.out]
    go_wp2
    go_ret
    exact ⟨ret_strC HE.out.symm, hb.trans (b1.mono (by simp))⟩
  · have HQ := Lib.hid hq
    clear hq
    go_enter Try.func26, Try.ntmps26
    go_wp2_with fail
    refine (specGramRight_any rs _ lo hi _ (HV.out.below hb hh) (by simp; omega)).mono ?_
    rintro e w1 ⟨rfl, b1⟩
    rw [HQ.out]
    have c1 := (R0.below b1 (by simp)).cell 0
    simp at c1
    have hb1 := hb.trans (b1.mono (by simp))
    have z1 := hb1.size
    go_wp2_with fail
    refine (specL03Cycle_any rs _ lo hi _ (HV.out.below hb1 hh) (by omega) HQ.out).mono ?_
    rintro e w2 ⟨rfl, b2⟩
    go_wp2
    go_ret
    exact ⟨rfl, hb1.trans (b2.mono z1)⟩
end Go.Proofs.Ytmhdbjoljonhdaa
