/- The walk of the law FnExactUseful. -/
import Derived.Test.YtmhdbjoljonhdaaUseI
import Derived.Test.YtmhdbjoljonhdaaUseS
import Derived.Test.YtmhdbjoljonhdaaSz
import Derived.Test.YtmhdbjoljonhdaaToc
import Derived.Test.YtmhdbjoljonhdaaEq
import Derived.Test.YtmhdbjoljonhdaaMarkOne
import Derived.Test.YtmhdbjoljonhdaaInts
import Derived.Deep.RegionHeld3
namespace Go.Proofs.Ytmhdbjoljonhdaa.fnExactUseful
open Go.RowKit
set_option maxRecDepth 100000 in
set_option maxHeartbeats 4000000 in
theorem walk (v : Value) (rs : List RuleD) (w : World) (h : Rules w 0 w.heap.size v rs) :
    Calls Try.prog 5 #[.agg #[v]] w fun e w' => e = .returned (.bool true) ∧ Below w.heap.size w w' := by
  have hb0 := al1 w (.cells #[v] 52)
  by_cases hbig : (1048576 : Int) < bulkR rs
  · have HS := Lib.hid (szOut_neg hbig)
    go_enter Try.func5, Try.ntmps5
    go_wp2_with fail
    refine (szGram_any v rs 0 w.heap.size _ _ (h.below hb0 (Nat.le_refl _)) (by simp) (by omega) (by omega)).mono ?_
    rintro e w1 ⟨rfl, hb1⟩
    rw [HS.out]
    go_wp2
    go_ret
    exact ⟨rfl, hb0.trans (hb1.mono (by simp))⟩
  have HS := Lib.hid (szOut_pos hbig)
  have d0 : decide ((1048576 : Int) - (bulkR rs : Int) < 0) = false := decide_eq_false (by omega)
  have R0 := Row.made w 52 #[v]
  have HV := Lib.hid h
  have hcnt := cnt_bulk rs
  have hrl := usefulOf_len rs
  have HE := Lib.hid (eqRs_t (rfl : rs = rs))
  have HES := Lib.hid (eqIs_t (rfl : usefulOf rs = usefulOf rs))
  obtain ⟨Av, cv, rfl, -⟩ := h
  go_enter Try.func5, Try.ntmps5
  go_wp2_with fail
  refine (szGram_any _ rs 0 w.heap.size _ _ (HV.out.below hb0 (Nat.le_refl _)) (by simp) (by omega) (by omega)).mono ?_
  rintro e w1 ⟨rfl, hb1⟩
  rw [HS.out]
  have B1 : Below (w.heap.size + 1) (w.alloc (.cells #[.slice Av rs.length cv] 52)) w1 := hb1.mono (by simp)
  have z1 : w.heap.size + 1 ≤ w1.heap.size := by have := hb1.size; simpa using this
  have c1 := (R0.below B1 (by omega)).cell 0
  simp at c1
  go_wp2_with fail
  refine (toGram_any _ rs 0 w.heap.size _ ((HV.out.below hb0 (Nat.le_refl _)).below B1 (by omega)) (by omega) (by omega)).mono ?_
  rintro e w2 ⟨x2, rfl, O2, b2⟩
  have B2 := B1.trans (b2.mono z1)
  have z2 := b2.size
  go_wp2_with fail
  refine (specUseful_any rs _ _ _ _ O2.rules (Nat.le_refl _)).mono ?_
  rintro e w3 ⟨u3, g3, rfl, S3, G3, b3⟩
  have B3 := B2.trans (b3.mono (by omega))
  have z3 := b3.size
  have c3 := (R0.below B3 (by omega)).cell 0
  simp at c3
  have T3 := S3.strs G3
  clear S3 G3 O2
  go_wp2_with fail
  refine (toGram_any _ rs 0 w.heap.size _ ((HV.out.below hb0 (Nat.le_refl _)).below B3 (by omega)) (by omega) (by omega)).mono ?_
  rintro e w4 ⟨x4, rfl, O4, b4⟩
  have B4 := B3.trans (b4.mono (by omega))
  have z4 := b4.size
  have HO4 := Lib.hid O4
  obtain ⟨A4, c4, rfl, -⟩ := O4
  have ha := al1 w4 (.cells #[.slice A4 rs.length c4] 25)
  have R4 := Row.made w4 25 #[.slice A4 rs.length c4]
  have T4 := T3.below b4 (Nat.le_refl _)
  clear T3
  go_wp2_with fail
  refine (implUseful_any rs _ _ _ _ (HO4.out.rules.below ha (Nat.le_refl _)) (by simp)).mono ?_
  rintro e w5 ⟨u5, g5, rfl, S5, G5, b5⟩
  have k4 : Keeps w3.heap.size w4.heap.size w4 w5 := (Keeps.below ha (Nat.le_refl _)).trans (Keeps.below b5 (by simp))
  have B5 : Below (w.heap.size + 1) (w.alloc (.cells #[.slice Av rs.length cv] 52)) w5 := (B4.trans (ha.mono (by omega))).trans (b5.mono (by simp; omega))
  have z5 : w4.heap.size + 1 ≤ w5.heap.size := by have := b5.size; simpa using this
  have R5 := R4.below b5 (by simp)
  have c5 := (R0.below B5 (by omega)).cell 0
  have c5' := R5.cell 0
  simp at c5 c5'
  have O5 := HO4.out.keep k4
  have T5 : IntsAt w5 w2.heap.size w3.heap.size u3 (usefulOf rs) := (T4.below ha (by omega)).below b5 (by simp; omega)
  have G5' : usefulOf rs ≠ [] → w4.heap.size + 1 ≤ g5 ∧ g5 < w5.heap.size := fun hn => by have := G5 hn; simpa using this
  have V5 : Rules w5 0 w.heap.size (.slice Av rs.length cv) rs := (HV.out.below hb0 (Nat.le_refl _)).below (B := w.heap.size + 1) B5 (by omega)
  clear T4 R4 k4 G5 ha
  go_wp2_with fail
  refine (eqInt64S_any _ _ (usefulOf rs) (usefulOf rs) _ _ _ _ _ (S5.strs G5') T5).mono ?_
  rintro e w5b ⟨rfl, nq, rfl⟩
  rw [HES.out]
  have V5d : Rules (w5.drewN nq).drew 0 w.heap.size (.slice Av rs.length cv) rs := V5
  have X5d : Rules (w5.drewN nq).drew w3.heap.size w4.heap.size (.slice A4 rs.length c4) rs := O5.rules
  have z5d : (w5.drewN nq).drew.heap.size = w5.heap.size := rfl
  have HZ5 := Lib.hid z5d
  clear z5d
  go_wp2_with fail
  go_region_held3 (fun w' => w'.cell? ⟨w4.heap.size, 0, none⟩ = some (.slice A4 rs.length c4) ∧ w'.cell? ⟨w.heap.size, 0, none⟩ = some (.slice Av rs.length cv))
    (first | go_keep | (refine ⟨?_, ?_⟩ <;> (rw [b6.cell (by rw [HZ5.out]; simp; omega)]; assumption)) | (refine ⟨?_, ?_⟩ <;> (rw [b7.cell (by simp; omega), b6.cell (by rw [HZ5.out]; simp; omega)]; assumption)))
    (first
      | (go_at_call 40; refine (toGram_any _ rs 0 w.heap.size (w5.drewN nq).drew V5d (by rw [HZ5.out]; omega) (by omega)).mono ?_; rintro e w6 ⟨x6, rfl, O6, b6⟩; have z6 : w5.heap.size ≤ w6.heap.size := b6.size)
      | (go_at_call 42; refine (eqGram_any _ _ rs rs w3.heap.size w4.heap.size w5.heap.size w6.heap.size _ (X5d.below b6 (by rw [HZ5.out]; omega)) O6.rules (by omega) (Nat.le_refl _)).mono ?_; rintro e w7 ⟨rfl, b7⟩; rw [HE.out]))
  have b67 : Below w5.heap.size w5 w7 := Below.trans ⟨b6.os, b6.tape, b6.output, b6.size, b6.block⟩ (b7.mono z6)
  have z7 : w5.heap.size ≤ w7.heap.size := b67.size
  have B7 := B5.trans (b67.mono (by omega))
  have S7 : OwnI w7 g5 u5 (usefulOf rs) := S5.keep fun hn => b67.block _ (G5' hn).2
  have T7 := T5.below b67 (by omega)
  have O7 := O5.keep (Keeps.below b67 (by omega))
  have c7 := (R0.below B7 (by omega)).cell 0
  have c7' := (R5.below b67 (by omega)).cell 0
  simp at c7 c7'
  clear b6 b7 O6 X5d V5d S5 T5 O5 V5 R5
  go_wp2_with fail
  refine (markGram_one _ rs w3.heap.size w4.heap.size _ O7 (by omega) (by omega)).mono ?_
  rintro e w8 ⟨K8, rfl, hK8, -, m8⟩
  have B8 := B7.trans ((m8.below (by omega)).mono (by omega))
  have z8 := m8.size
  have S8 : OwnI w8 g5 u5 (usefulOf rs) := S7.keep fun hn => m8.block _ (by have := G5' hn; omega) (by have := G5' hn; omega)
  have T8 : IntsAt w8 w2.heap.size w3.heap.size u3 (usefulOf rs) := T7.keep (Keeps.mid m8 (by omega) (by omega))
  have d8 : decide (K8 < 0) = false := decide_eq_false (by omega)
  clear S7 T7 O7
  go_wp2_with fail
  refine (eqInt64S_any _ _ (usefulOf rs) (usefulOf rs) _ _ _ _ _ (S8.strs G5') T8).mono ?_
  rintro e w8b ⟨rfl, n8, rfl⟩
  rw [HES.out]
  obtain ⟨g', S8', hg1, hg2⟩ := OwnI.pick (w := w8.drewN n8) S8
  have HG1 := Lib.hid hg1
  have HG2 := Lib.hid hg2
  clear hg1 hg2 S8
  go_wp2_with fail
  refine (markInt64S_one _ (usefulOf rs) g' _ S8' (by omega)).mono ?_
  rintro e w9 ⟨K9, rfl, hK9, hK9', S9, m9⟩
  have HK9 := Lib.hid hK9'
  clear hK9' S8'
  have z9 : w8.heap.size ≤ w9.heap.size := m9.size
  have hm9 : Mid w4.heap.size w5.heap.size w8 w9 := midI_pick (w := w8) (g := g') (ss := usefulOf rs) (fun hn => by rw [HG1.out hn]; have := G5' hn; omega) (fun hn => HG2.out hn) ⟨m9.os, m9.tape, m9.output, m9.size, m9.block⟩
  have B9 := B8.trans ((hm9.below (by omega)).mono (by omega))
  have T9 : IntsAt w9 w2.heap.size w3.heap.size u3 (usefulOf rs) := T8.keep (Keeps.mid hm9 (by omega) (by omega))
  have G9 : marksI 1 (usefulOf rs).length ≠ [] → 0 ≤ g' ∧ g' < w9.heap.size := fun hn => by
    have hne : usefulOf rs ≠ [] := fun e => hn (by rw [e]; rfl)
    rw [HG1.out hne]; have := G5' hne; omega
  have U9 := S9.strs G9
  clear T8 S9 m9
  go_wp2_with fail
  refine (heldInt64S_one _ (usefulOf rs).length _ _ _ U9 (Nat.le_refl _) (by omega)).mono ?_
  rintro e w10 ⟨K10, rfl, hK10, b10⟩
  obtain rfl : K9 = K10 := HK9.out.trans hK10.symm
  have HK10 := Lib.hid hK10
  clear hK10
  have B10 := B9.trans (b10.mono (by omega))
  have z10 := b10.size
  have T10 := T9.below b10 (by omega)
  have U10 := U9.below b10 (Nat.le_refl _)
  have c10 := (R0.below B10 (by omega)).cell 0
  simp at c10
  have d10 : decide (K9 < 0) = false := decide_eq_false (by omega)
  clear T9 U9
  go_wp2_with fail
  refine (toGram_any _ rs 0 w.heap.size _ ((HV.out.below hb0 (Nat.le_refl _)).below B10 (by omega)) (by omega) (by omega)).mono ?_
  rintro e w11 ⟨x11, rfl, O11, b11⟩
  have B11 := B10.trans (b11.mono (by omega))
  have z11 := b11.size
  have T11 := T10.below b11 (by omega)
  have U11 := U10.below b11 (by omega)
  go_wp2_with fail
  refine (implUseful_any rs _ _ _ _ O11.rules (Nat.le_refl _)).mono ?_
  rintro e w12 ⟨u12, g12, rfl, S12, G12, b12⟩
  have B12 := B11.trans (b12.mono (by omega))
  have z12 := b12.size
  have T12 := T11.below b12 (by omega)
  have U12 := U11.below b12 (by omega)
  clear T10 U10 T11 U11
  go_wp2_with fail
  refine (eqInt64S_any _ _ (usefulOf rs) (usefulOf rs) _ _ _ _ _ (S12.strs G12) T12).mono ?_
  rintro e w12b ⟨rfl, n12, rfl⟩
  rw [HES.out]
  have U13 : IntsAt (w12.drewN n12) 0 w9.heap.size u5 (marksI 1 (usefulOf rs).length) := U12
  have hz13 : w9.heap.size ≤ (w12.drewN n12).heap.size := by show _ ≤ w12.heap.size; omega
  have B13 : Below w.heap.size w (w12.drewN n12) := by
    have := hb0.trans (B12.mono (by omega))
    exact ⟨this.os, this.tape, this.output, this.size, this.block⟩
  generalize w12.drewN n12 = w13 at U13 hz13 B13 ⊢
  clear T12 U12 S12
  go_wp2_with fail
  refine (heldInt64S_one _ (usefulOf rs).length _ _ _ U13 hz13 (by omega)).mono ?_
  rintro e w14 ⟨K14, rfl, hK14, b14⟩
  obtain rfl : K9 = K14 := HK10.out.trans hK14.symm
  go_wp2
  go_ret
  exact ⟨rfl, B13.trans (b14.mono B13.size)⟩
end Go.Proofs.Ytmhdbjoljonhdaa.fnExactUseful
