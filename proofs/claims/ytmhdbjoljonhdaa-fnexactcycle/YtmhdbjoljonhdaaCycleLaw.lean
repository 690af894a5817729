/- The walk of the law FnExactCycle. -/
import Derived.Test.YtmhdbjoljonhdaaCycI
import Derived.Test.YtmhdbjoljonhdaaCycT
import Derived.Test.YtmhdbjoljonhdaaSz
import Derived.Test.YtmhdbjoljonhdaaToc
import Derived.Test.YtmhdbjoljonhdaaEq
import Derived.Deep.RegionHeld3
namespace Go.Proofs.Ytmhdbjoljonhdaa.fnExactCycle
open Go.RowKit
set_option maxRecDepth 100000 in
set_option maxHeartbeats 2000000 in
theorem walk (v : Value) (rs : List RuleD) (w : World) (h : Rules w 0 w.heap.size v rs) :
    Calls Try.prog 6 #[.agg #[v]] w fun e w' => e = .returned (.bool true) ∧ Below w.heap.size w w' := by
  have hb0 := al1 w (.cells #[v] 52)
  by_cases hbig : (1048576 : Int) < bulkR rs
  · have HS := Lib.hid (szOut_neg hbig)
    go_enter Try.func6, Try.ntmps6
    go_wp2_with fail
    refine (szGram_any v rs 0 w.heap.size _ _ (h.below hb0 (Nat.le_refl _)) (by simp) (by omega) (by omega)).mono ?_
    rintro e w1 ⟨rfl, hb1⟩
    rw [HS.out]
    go_wp2
    go_ret
    exact ⟨rfl, hb0.trans (hb1.mono (by simp))⟩
  have HS := Lib.hid (szOut_pos hbig)
  have d0 : decide ((1048576 : Int) - (bulkR rs : Int) < 0) = false := decide_eq_false (by omega)
  have R0 := Row.made w 52 #[v]
  have HV := Lib.hid h
  obtain ⟨Av, cv, rfl, -⟩ := h
  go_enter Try.func6, Try.ntmps6
  go_wp2_with fail
  refine (szGram_any _ rs 0 w.heap.size _ _ (HV.out.below hb0 (Nat.le_refl _)) (by simp) (by omega) (by omega)).mono ?_
  rintro e w1 ⟨rfl, hb1⟩
  rw [HS.out]
  have B1 : Below (w.heap.size + 1) (w.alloc (.cells #[.slice Av rs.length cv] 52)) w1 := hb1.mono (by simp)
  have z1 : w.heap.size + 1 ≤ w1.heap.size := by have := hb1.size; simpa using this
  have c1 := (R0.below B1 (by omega)).cell 0
  simp at c1
  go_wp2_with fail
  refine (toGram_any _ rs 0 w.heap.size _ ((HV.out.below hb0 (Nat.le_refl _)).below B1 (by omega)) (by omega) (by omega)).mono ?_
  rintro e w2 ⟨x2, rfl, O2, b2⟩
  have B2 := B1.trans (b2.mono z1)
  have z2 := b2.size
  go_wp2_with fail
  refine (specCycle_any rs _ _ _ _ O2.rules (Nat.le_refl _)).mono ?_
  rintro e w3 ⟨rfl, b3⟩
  have B3 := B2.trans (b3.mono (by omega))
  have z3 := b3.size
  have c3 := (R0.below B3 (by omega)).cell 0
  simp at c3
  go_wp2_with fail
  refine (toGram_any _ rs 0 w.heap.size _ ((HV.out.below hb0 (Nat.le_refl _)).below B3 (by omega)) (by omega) (by omega)).mono ?_
  rintro e w4 ⟨x4, rfl, O4, b4⟩
  have B4 := B3.trans (b4.mono (by omega))
  have z4 := b4.size
  have HO4 := Lib.hid O4
  obtain ⟨A4, c4, rfl, -⟩ := O4
  have ha := al1 w4 (.cells #[.slice A4 rs.length c4] 25)
  have R4 := Row.made w4 25 #[.slice A4 rs.length c4]
  go_wp2_with fail
  refine (implCycle_any rs _ _ _ _ (HO4.out.rules.below ha (Nat.le_refl _)) (by simp)).mono ?_
  rintro e w5 ⟨rfl, b5⟩
  have k4 : Keeps w3.heap.size w4.heap.size w4 w5 := (Keeps.below ha (Nat.le_refl _)).trans (Keeps.below b5 (by simp))
  have B5 : Below (w.heap.size + 1) (w.alloc (.cells #[.slice Av rs.length cv] 52)) w5 := (B4.trans (ha.mono (by omega))).trans (b5.mono (by simp; omega))
  have z5 : w4.heap.size + 1 ≤ w5.heap.size := by have := b5.size; simpa using this
  have c5 := (R0.below B5 (by omega)).cell 0
  have c4' := (R4.below b5 (by simp)).cell 0
  simp at c5 c4'
  have O5 := HO4.out.keep k4
  have V5' : Rules w5 0 w.heap.size (.slice Av rs.length cv) rs := (HV.out.below hb0 (Nat.le_refl _)).below (B := w.heap.size + 1) B5 (by omega)
  have V5 : Rules w5.drew 0 w.heap.size (.slice Av rs.length cv) rs := V5'
  have X5 : Rules w5.drew w3.heap.size w4.heap.size (.slice A4 rs.length c4) rs := O5.rules
  have HE := Lib.hid (eqRs_t (rfl : rs = rs))
  go_wp2_with fail
  go_region_held3 (fun w' => w'.cell? ⟨w4.heap.size, 0, none⟩ = some (.slice A4 rs.length c4) ∧ w'.cell? ⟨w.heap.size, 0, none⟩ = some (.slice Av rs.length cv))
    (first | go_keep | (refine ⟨?_, ?_⟩ <;> (rw [b6.cell (by simp; omega)]; assumption)) | (refine ⟨?_, ?_⟩ <;> (rw [b7.cell (by simp; omega), b6.cell (by simp; omega)]; assumption)))
    (first
      | (go_at_call 40; refine (toGram_any _ rs 0 w.heap.size w5.drew V5 (by simp; omega) (by omega)).mono ?_; rintro e w6 ⟨x6, rfl, O6, b6⟩; have z6 : w5.heap.size ≤ w6.heap.size := b6.size)
      | (go_at_call 42; refine (eqGram_any _ _ rs rs w3.heap.size w4.heap.size w5.heap.size w6.heap.size _ (X5.below b6 (by simp; omega)) O6.rules (by omega) (Nat.le_refl _)).mono ?_; rintro e w7 ⟨rfl, b7⟩; rw [HE.out]))
  go_wp2
  go_ret
  exact ⟨rfl, (hb0.trans (B5.mono (by omega))).trans (((Below.refl _ _).drew.trans (b6.mono (by simp; omega))).trans (b7.mono (by omega)))⟩
end Go.Proofs.Ytmhdbjoljonhdaa.fnExactCycle
