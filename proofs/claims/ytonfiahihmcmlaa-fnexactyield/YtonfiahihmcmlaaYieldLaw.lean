/- The walk of the law FnExactYield. -/
import Derived.Test.YtonfiahihmcmlaaIyy
import Derived.Test.YtonfiahihmcmlaaSyy
import Derived.Test.YtonfiahihmcmlaaMkt
import Derived.Test.YtonfiahihmcmlaaTru
import Derived.Test.YtonfiahihmcmlaaTrq
import Derived.Test.YtonfiahihmcmlaaSz
import Derived.Test.YtonfiahihmcmlaaEq
import Derived.Test.YtonfiahihmcmlaaHeld
import Derived.Deep.RegionHeld3
namespace Go.Proofs.Ytonfiahihmcmlaa.fnExactYield
open Go.RowKit
theorem ownS_pick {w : World} {g : Nat} {v : Value} {ss : List ByteArray} (h : OwnS w g v ss) : ∃ g', OwnS w g' v ss ∧ (ss ≠ [] → g' = g) ∧ (ss = [] → w.heap.size ≤ g') := by
  by_cases e : ss = []
  · subst e
    obtain ⟨A, c, h1, h2, h3, h4, h5⟩ := h
    exact ⟨w.heap.size, ⟨A, c, h1, h2, h3, h4, fun hp => by simp at hp⟩, fun hn => absurd rfl hn, fun _ => Nat.le_refl _⟩
  · exact ⟨g, h, fun _ => rfl, fun h0 => absurd h0 e⟩

theorem mid_pick {w w' : World} {lo hi g : Nat} {ss : List ByteArray} (h1 : ss ≠ [] → lo ≤ g ∧ g < hi) (h2 : ss = [] → w.heap.size ≤ g) (m : Mid g (g + 1) w w') : Mid lo hi w w' :=
  ⟨m.os, m.tape, m.output, m.size, fun k hk hkk => m.block k hk (by
    by_cases e : ss = []
    · have := h2 e; omega
    · have := h1 e; omega)⟩

theorem markStringS_one (v : Value) (ss : List ByteArray) (g : Nat) (w : World) (h : OwnS w g v ss) (h2 : ss.length ≤ 2000000) :
    Calls Try.prog 52 #[v, .int .i64 1] w fun e w' => ∃ K : Int, e = .returned (.int .i64 K) ∧ 0 ≤ K ∧ K = ((1 + ss.length : Nat) : Int) ∧ OwnS w' g v (marks 1 ss.length) ∧ Mid g (g + 1) w w' :=
  Calls.mono (markStringS_any v ss g 1 w h (Nat.le_refl _) (by omega)) fun _ _ ⟨h1, h2⟩ => ⟨_, h1, by omega, rfl, h2⟩
theorem markTree_one (t : TreeD) (u : Value) (lo hi : Nat) (w : World) (h : Shp w lo hi u t.kids) (hh : hi ≤ w.heap.size) (hk2 : 1 + 2 * sizeTs t.kids ≤ 1000000000) :
    Calls Try.prog 51 #[trV t u, .int .i64 1] w fun e w' => ∃ K : Int, e = .returned (.int .i64 K) ∧ 0 ≤ K ∧ Mid lo hi w w' :=
  Calls.mono (markTree_any t u 1 lo hi w h hh (Nat.le_refl _) hk2) fun _ _ ⟨h1, h2⟩ => ⟨_, h1, by omega, h2⟩
set_option maxRecDepth 100000 in
set_option maxHeartbeats 4000000 in
theorem walk (t : TreeD) (v : Value) (w : World) (ht : TopOk t) (h : Kd false w 0 w.heap.size v t.kids) :
    Calls Try.prog 6 #[trV t v] w fun e w' => e = .returned (.bool true) ∧ Below w.heap.size w w' := by
  have hb0 := al1 w (.cells #[.int .i64 t.rule, .string t.tok, v] 55)
  have HV := Lib.hid h
  obtain ⟨Av, cv, Uv, rfl, -⟩ := h.parts
  have HT := Lib.hid ht
  clear h ht
  unfold trV
  by_cases hbig : (1048576 : Int) < bulkT t
  · have HS := Lib.hid (szOut_neg hbig)
    go_enter Try.func6, Try.ntmps6
    go_wp2_with fail
    refine (szTree_any t _ 0 w.heap.size _ _ HT.out (HV.out.under hb0 (Nat.le_refl _)) (by simp) (by omega) (by omega)).mono ?_
    rintro e w1 ⟨rfl, hb1⟩
    rw [HS.out]
    go_wp2
    go_ret
    exact ⟨rfl, hb0.trans (hb1.mono (by simp))⟩
  have HS := Lib.hid (szOut_pos hbig)
  have d0 : decide ((1048576 : Int) - (bulkT t : Int) < 0) = false := decide_eq_false (by omega)
  have R0 := Row.made w 55 #[.int .i64 t.rule, .string t.tok, .slice Av t.kids.length cv]
  have hst : sizeT t ≤ 2097152 := by have := sizeT_le_bulkT t; omega
  have hcnt : 1 + 2 * sizeTs t.kids ≤ 1000000000 := by have := sizeT_eq t; omega
  have hrl := yieldOf_len t
  have HES := Lib.hid (eqSs_t (rfl : yieldOf t = yieldOf t))
  go_enter Try.func6, Try.ntmps6
  go_wp2_with fail
  refine (szTree_any t _ 0 w.heap.size _ _ HT.out (HV.out.under hb0 (Nat.le_refl _)) (by simp) (by omega) (by omega)).mono ?_
  rintro e w1 ⟨rfl, hb1⟩
  rw [HS.out]
  have B1 : Below (w.heap.size + 1) (w.alloc (.cells #[.int .i64 t.rule, .string t.tok, .slice Av t.kids.length cv] 55)) w1 := hb1.mono (by simp)
  have z1 : w.heap.size + 1 ≤ w1.heap.size := by have := hb1.size; simpa using this
  have Q1 := R0.below B1 (by omega)
  have c10 := Q1.cell 0
  have c11 := Q1.cell 1
  have c12 := Q1.cell 2
  simp at c10 c11 c12
  clear Q1
  go_wp2_with fail
  refine (toTree_any t _ 0 w.heap.size _ ((HV.out.under hb0 (Nat.le_refl _)).under B1 (by omega)) (by omega) (by omega)).mono ?_
  rintro e w2 ⟨x2, rfl, O2, b2⟩
  have B2 := B1.trans (b2.mono z1)
  have z2 := b2.size
  go_wp2_with fail
  refine (specYield_any t _ _ _ _ HT.out O2.1 (Nat.le_refl _) hst).mono ?_
  rintro e w3 ⟨u3, g3, rfl, S3, G3, b3⟩
  have B3 := B2.trans (b3.mono (by omega))
  have z3 := b3.size
  have Q3 := R0.below B3 (by omega)
  have c30 := Q3.cell 0
  have c31 := Q3.cell 1
  have c32 := Q3.cell 2
  simp at c30 c31 c32
  clear Q3
  have T3 := S3.strs G3
  clear S3 G3 O2
  go_wp2_with fail
  refine (toTree_any t _ 0 w.heap.size _ ((HV.out.under hb0 (Nat.le_refl _)).under B3 (by omega)) (by omega) (by omega)).mono ?_
  rintro e w4 ⟨x4, rfl, O4, b4⟩
  have B4 := B3.trans (b4.mono (by omega))
  have z4 := b4.size
  have HO4 := Lib.hid O4
  obtain ⟨A4, c4, U4, rfl, -⟩ := O4.1.parts
  have ha := al1 w4 (.cells #[.int .i64 t.rule, .string t.tok, .slice A4 t.kids.length c4] 62)
  have R4 := Row.made w4 62 #[.int .i64 t.rule, .string t.tok, .slice A4 t.kids.length c4]
  clear O4
  unfold trV
  have T4 := T3.below b4 (Nat.le_refl _)
  clear T3
  go_wp2_with fail
  refine (implYield_any t _ _ _ _ HT.out (HO4.out.1.under ha (Nat.le_refl _)) (by simp) (by omega)).mono ?_
  rintro e w5 ⟨u5, g5, rfl, S5, G5, b5⟩
  have k4 : Keeps w3.heap.size w4.heap.size w4 w5 := (Keeps.below ha (Nat.le_refl _)).trans (Keeps.below b5 (by simp))
  have B5 : Below (w.heap.size + 1) (w.alloc (.cells #[.int .i64 t.rule, .string t.tok, .slice Av t.kids.length cv] 55)) w5 := (B4.trans (ha.mono (by omega))).trans (b5.mono (by simp; omega))
  have z5 : w4.heap.size + 1 ≤ w5.heap.size := by have := b5.size; simpa using this
  have R5 := R4.below b5 (by simp)
  have Q5 := R0.below B5 (by omega)
  have c50 := Q5.cell 0
  have c51 := Q5.cell 1
  have c52 := Q5.cell 2
  have c60 := R5.cell 0
  have c61 := R5.cell 1
  have c62 := R5.cell 2
  simp at c50 c51 c52 c60 c61 c62
  clear Q5
  have O5 := HO4.out.keep k4
  have T5 : Strs w5 w2.heap.size w3.heap.size u3 (yieldOf t) := (T4.below ha (by omega)).below b5 (by simp; omega)
  have G5' : yieldOf t ≠ [] → w4.heap.size + 1 ≤ g5 ∧ g5 < w5.heap.size := fun hn => by have := G5 hn; simpa using this
  have V5 : Kd false w5 0 w.heap.size (.slice Av t.kids.length cv) t.kids := (HV.out.under hb0 (Nat.le_refl _)).under (B := w.heap.size + 1) B5 (by omega)
  clear T4 R4 k4 G5 ha
  go_wp2_with fail
  refine (eqStringS_any _ _ (yieldOf t) (yieldOf t) _ _ _ _ _ (S5.strs G5') T5).mono ?_
  rintro e w5b ⟨rfl, nq, rfl⟩
  rw [HES.out]
  have V5d : Kd false (w5.drewN nq).drew 0 w.heap.size (.slice Av t.kids.length cv) t.kids := V5.keep (fun _ _ _ => rfl)
  have X5d : Kd false (w5.drewN nq).drew w3.heap.size w4.heap.size (.slice A4 t.kids.length c4) t.kids := O5.1.loose.keep (fun _ _ _ => rfl)
  have z5d : (w5.drewN nq).drew.heap.size = w5.heap.size := rfl
  have HZ5 := Lib.hid z5d
  clear z5d
  go_wp2_with fail
  go_region_held3 (fun w' => (w'.cell? ⟨w4.heap.size, 0, none⟩ = some (.int .i64 t.rule) ∧ w'.cell? ⟨w4.heap.size, 1, none⟩ = some (.string t.tok) ∧ w'.cell? ⟨w4.heap.size, 2, none⟩ = some (.slice A4 t.kids.length c4)) ∧ w'.cell? ⟨w.heap.size, 0, none⟩ = some (.int .i64 t.rule) ∧ w'.cell? ⟨w.heap.size, 1, none⟩ = some (.string t.tok) ∧ w'.cell? ⟨w.heap.size, 2, none⟩ = some (.slice Av t.kids.length cv))
    (first | go_keep | (refine ⟨⟨?_, ?_, ?_⟩, ?_, ?_, ?_⟩ <;> (rw [b6.cell (by rw [HZ5.out]; simp <;> omega)]; assumption)) | (refine ⟨⟨?_, ?_, ?_⟩, ?_, ?_, ?_⟩ <;> (rw [b7.cell (by simp <;> omega), b6.cell (by rw [HZ5.out]; simp <;> omega)]; assumption)))
    (first
      | (go_at_call 44; refine (toTree_any t _ 0 w.heap.size (w5.drewN nq).drew V5d (by rw [HZ5.out]; omega) (by omega)).mono ?_; rintro e w6 ⟨x6, rfl, O6, b6⟩; have z6 : w5.heap.size ≤ w6.heap.size := b6.size; unfold trV)
      | (go_at_call 47; refine (eqTree_any t false _ _ w3.heap.size w4.heap.size w5.heap.size w6.heap.size _ (X5d.under b6 (by rw [HZ5.out]; omega)) O6.1.loose (by omega) (Nat.le_refl _)).mono ?_; rintro e w7 ⟨rfl, b7⟩))
  have b67 : Below w5.heap.size w5 w7 := Below.trans ⟨b6.os, b6.tape, b6.output, b6.size, b6.block⟩ (b7.mono z6)
  have z7 : w5.heap.size ≤ w7.heap.size := b67.size
  have B7 := B5.trans (b67.mono (by omega))
  have S7 : OwnS w7 g5 u5 (yieldOf t) := S5.keep fun hn => b67.block _ (G5' hn).2
  have T7 := T5.below b67 (by omega)
  have O7 := O5.keep (Keeps.below b67 (by omega))
  have Q7 := R5.below b67 (by omega)
  have c70 := Q7.cell 0
  have c71 := Q7.cell 1
  have c72 := Q7.cell 2
  simp at c70 c71 c72
  clear Q7
  clear b6 b7 O6 X5d V5d S5 T5 O5 V5 R5
  go_wp2_with fail
  refine (markTree_one t _ w3.heap.size w4.heap.size w7 O7.2 (by omega) hcnt).mono ?_
  rintro e w8 ⟨K8, rfl, hK8, m8⟩
  have B8 := B7.trans ((m8.below (by omega)).mono (by omega))
  have z8 := m8.size
  have S8 : OwnS w8 g5 u5 (yieldOf t) := S7.keep fun hn => m8.block _ (by have := G5' hn; omega) (by have := G5' hn; omega)
  have T8 : Strs w8 w2.heap.size w3.heap.size u3 (yieldOf t) := T7.keep (Keeps.mid m8 (by omega) (by omega))
  have d8 : decide (K8 < 0) = false := decide_eq_false (by omega)
  clear S7 T7 O7
  go_wp2_with fail
  refine (eqStringS_any _ _ (yieldOf t) (yieldOf t) _ _ _ _ _ (S8.strs G5') T8).mono ?_
  rintro e w8b ⟨rfl, n8, rfl⟩
  rw [HES.out]
  obtain ⟨g', S8', hg1, hg2⟩ := ownS_pick (w := w8.drewN n8) S8
  have HG1 := Lib.hid hg1
  have HG2 := Lib.hid hg2
  clear hg1 hg2 S8
  go_wp2_with fail
  refine (markStringS_one _ (yieldOf t) g' _ S8' (by omega)).mono ?_
  rintro e w9 ⟨K9, rfl, hK9, hK9', S9, m9⟩
  have HK9 := Lib.hid hK9'
  clear hK9' S8'
  have z9 : w8.heap.size ≤ w9.heap.size := m9.size
  have hm9 : Mid w4.heap.size w5.heap.size w8 w9 := mid_pick (w := w8) (g := g') (ss := yieldOf t) (fun hn => by rw [HG1.out hn]; have := G5' hn; omega) (fun hn => HG2.out hn) ⟨m9.os, m9.tape, m9.output, m9.size, m9.block⟩
  have B9 := B8.trans ((hm9.below (by omega)).mono (by omega))
  have T9 : Strs w9 w2.heap.size w3.heap.size u3 (yieldOf t) := T8.keep (Keeps.mid hm9 (by omega) (by omega))
  have G9 : marks 1 (yieldOf t).length ≠ [] → 0 ≤ g' ∧ g' < w9.heap.size := fun hn => by
    have hne : yieldOf t ≠ [] := fun e => hn (by rw [e]; rfl)
    rw [HG1.out hne]; have := G5' hne; omega
  have U9 := S9.strs G9
  clear T8 S9 m9
  go_wp2_with fail
  refine (heldStringS_one _ (yieldOf t).length _ _ _ U9 (Nat.le_refl _) (by omega)).mono ?_
  rintro e w10 ⟨K10, rfl, hK10, b10⟩
  obtain rfl : K9 = K10 := HK9.out.trans hK10.symm
  have HK10 := Lib.hid hK10
  clear hK10
  have B10 := B9.trans (b10.mono (by omega))
  have z10 := b10.size
  have T10 := T9.below b10 (by omega)
  have U10 := U9.below b10 (Nat.le_refl _)
  have Q10 := R0.below B10 (by omega)
  have c100 := Q10.cell 0
  have c101 := Q10.cell 1
  have c102 := Q10.cell 2
  simp at c100 c101 c102
  clear Q10
  have d10 : decide (K9 < 0) = false := decide_eq_false (by omega)
  clear T9 U9
  go_wp2_with fail
  refine (toTree_any t _ 0 w.heap.size _ ((HV.out.under hb0 (Nat.le_refl _)).under B10 (by omega)) (by omega) (by omega)).mono ?_
  rintro e w11 ⟨x11, rfl, O11, b11⟩
  have B11 := B10.trans (b11.mono (by omega))
  have z11 := b11.size
  have T11 := T10.below b11 (by omega)
  have U11 := U10.below b11 (by omega)
  go_wp2_with fail
  refine (implYield_any t _ _ _ _ HT.out O11.1 (Nat.le_refl _) (by omega)).mono ?_
  rintro e w12 ⟨u12, g12, rfl, S12, G12, b12⟩
  have B12 := B11.trans (b12.mono (by omega))
  have z12 := b12.size
  have T12 := T11.below b12 (by omega)
  have U12 := U11.below b12 (by omega)
  clear T10 U10 T11 U11
  go_wp2_with fail
  refine (eqStringS_any _ _ (yieldOf t) (yieldOf t) _ _ _ _ _ (S12.strs G12) T12).mono ?_
  rintro e w12b ⟨rfl, n12, rfl⟩
  rw [HES.out]
  have U13 : Strs (w12.drewN n12) 0 w9.heap.size u5 (marks 1 (yieldOf t).length) := U12
  have hz13 : w9.heap.size ≤ (w12.drewN n12).heap.size := by show _ ≤ w12.heap.size; omega
  have B13 : Below w.heap.size w (w12.drewN n12) := by
    have := hb0.trans (B12.mono (by omega))
    exact ⟨this.os, this.tape, this.output, this.size, this.block⟩
  generalize w12.drewN n12 = w13 at U13 hz13 B13 ⊢
  clear T12 U12 S12
  go_wp2_with fail
  refine (heldStringS_one _ (yieldOf t).length _ _ _ U13 hz13 (by omega)).mono ?_
  rintro e w14 ⟨K14, rfl, hK14, b14⟩
  obtain rfl : K9 = K14 := HK10.out.trans hK14.symm
  go_wp2
  go_ret
  exact ⟨rfl, B13.trans (b14.mono B13.size)⟩
end Go.Proofs.Ytonfiahihmcmlaa.fnExactYield
