import Derived.Test.YtbaofldcdcllfaaJGvt
import Derived.Test.YtbaofldcdcllfaaJMarkOne
import Derived.Test.YtbaofldcdcllfaaJTmz
import Derived.Test.YtbaofldcdcllfaaToc
import Derived.Test.YtbaofldcdcllfaaEq
import Derived.Deep.RegionHeld3
import Derived.Test.YtbaofldcdcllfaaJOwns
import Derived.ProofKit
import Derived.OpenShut
import Derived.ShutString
import Derived.ChangeOld
import Derived.Deep.Strs
import Derived.Deep.SlicePairs
import Derived.Deep.Fields
/- The walk of the law FnExactGiven. -/
namespace Go.Proofs.Ytbaofldcdcllfaa.fnExactGiven
open Go.RowKit
set_option maxRecDepth 100000 in
set_option maxHeartbeats 4000000 in
theorem walk (v : Value) (rs : List RuleD) (w : World) (h : Rules w 0 w.heap.size v rs) :
    Calls Try.prog 4 #[.agg #[v]] w fun e w' => e = .returned (.bool true) ∧ Below w.heap.size w w' := by
  have hb0 := al1 w (.cells #[v] 35)
  by_cases hbig : (1048576 : Int) < bulkR rs
  · have HS := Lib.hid (szOut_neg hbig)
    go_enter Try.func4, Try.ntmps4
    go_wp2_with fail
    refine (szGram_any v rs 0 w.heap.size _ _ (h.below hb0 (Nat.le_refl _)) (by simp) (by omega) (by omega)).mono ?_
    rintro e w1 ⟨rfl, hb1⟩
    rw [HS.out]
    go_wp2
    go_ret
    exact ⟨rfl, hb0.trans (hb1.mono (by simp))⟩
  have HS := Lib.hid (szOut_pos hbig)
  have d0 : decide ((1048576 : Int) - (bulkR rs : Int) < 0) = false := decide_eq_false (by omega)
  have R0 := Row.made w 35 #[v]
  have HV := Lib.hid h
  have hcnt := cnt_bulk rs
  have hgb := given_bulk rs
  have HE := Lib.hid (eqRs_t (rfl : rs = rs))
  obtain ⟨Av, cv, rfl, -⟩ := h
  go_enter Try.func4, Try.ntmps4
  go_wp2_with fail
  refine (szGram_any _ rs 0 w.heap.size _ _ (HV.out.below hb0 (Nat.le_refl _)) (by simp) (by omega) (by omega)).mono ?_
  rintro e w1 ⟨rfl, hb1⟩
  rw [HS.out]
  have B1 : Below (w.heap.size + 1) (w.alloc (.cells #[.slice Av rs.length cv] 35)) w1 := hb1.mono (by simp)
  have z1 : w.heap.size + 1 ≤ w1.heap.size := by have := hb1.size; simpa using this
  have c1 := (R0.below B1 (by omega)).cell 0
  simp at c1
  go_wp2_with fail
  refine (toGram_any _ rs 0 w.heap.size _ ((HV.out.below hb0 (Nat.le_refl _)).below B1 (by omega)) (by omega) (by omega)).mono ?_
  rintro e w2 ⟨x2, rfl, O2, b2⟩
  have B2 := B1.trans (b2.mono z1)
  have z2 := b2.size
  go_wp2_with fail
  refine (specGiven_any _ rs _ _ _ O2.rules (Nat.le_refl _)).mono ?_
  rintro e w3 ⟨u3, rfl, S3, b3⟩
  have B3 := B2.trans (b3.mono (by omega))
  have z3 := b3.size
  have c3 := (R0.below B3 (by omega)).cell 0
  simp at c3
  have T3 := Lib.hid S3.loose
  obtain ⟨A3, c33, rfl, -⟩ := S3
  clear O2
  go_wp2_with fail
  refine (toGram_any _ rs 0 w.heap.size _ ((HV.out.below hb0 (Nat.le_refl _)).below B3 (by omega)) (by omega) (by omega)).mono ?_
  rintro e w4 ⟨x4, rfl, O4, b4⟩
  have B4 := B3.trans (b4.mono (by omega))
  have z4 := b4.size
  have HO4 := Lib.hid O4
  obtain ⟨A4, c4, rfl, -⟩ := O4
  have ha := al1 w4 (.cells #[.slice A4 rs.length c4] 41)
  have R4 := Row.made w4 41 #[.slice A4 rs.length c4]
  have T4 := Lib.hid (T3.out.under b4 (Nat.le_refl _))
  clear T3
  go_wp2_with fail
  refine (implGiven_any _ rs _ _ _ (HO4.out.rules.below ha (Nat.le_refl _)) (by simp)).mono ?_
  rintro e w5 ⟨u5, xs5, p5, rfl, hx5, S5, G5, H5, b5⟩
  have k4 : Keeps w3.heap.size w4.heap.size w4 w5 := (Keeps.below ha (Nat.le_refl _)).trans (Keeps.below b5 (by simp))
  have B5 : Below (w.heap.size + 1) (w.alloc (.cells #[.slice Av rs.length cv] 35)) w5 := (B4.trans (ha.mono (by omega))).trans (b5.mono (by simp; omega))
  have z5 : w4.heap.size + 1 ≤ w5.heap.size := by have := b5.size; simpa using this
  have R5 := R4.below b5 (by simp)
  have c5 := (R0.below B5 (by omega)).cell 0
  have c5' := R5.cell 0
  simp at c5 c5'
  have O5 := HO4.out.keep k4
  have T5 : Hid (DM false w5 0 w3.heap.size (.slice A3 (givenOf rs).length c33) (givenOf rs)) := Lib.hid ((T4.out.under ha (by omega)).under b5 (by simp; omega))
  have G5' : w4.heap.size + 1 ≤ p5 := by simpa using G5
  have D5 : Hid (DM false w5 p5 w5.heap.size u5 (givenOf rs)) := Lib.hid (by have := S5.dm.loose; rw [hx5] at this; exact this)
  have HX5 := Lib.hid hx5
  have HS5 := Lib.hid S5
  obtain ⟨A5, c55, rfl⟩ := growD_form S5
  have V5 : Rules w5 0 w.heap.size (.slice Av rs.length cv) rs := (HV.out.below hb0 (Nat.le_refl _)).below (B := w.heap.size + 1) B5 (by omega)
  clear T4 R4 k4 G5 ha S5 hx5
  go_wp2_with fail
  refine (eqMadeS_any (givenOf rs) false _ _ _ _ _ _ _ D5.out T5.out (Nat.le_refl _) (by omega)).mono ?_
  rintro e w5b ⟨rfl, b5b⟩
  have z5b : w5.heap.size ≤ w5b.heap.size := b5b.size
  have c5b := (b5b.cell (p := ⟨w.heap.size, 0, none⟩) (by show w.heap.size < _; omega)).trans c5
  have c5b' := (b5b.cell (p := ⟨w4.heap.size, 0, none⟩) (by show w4.heap.size < _; omega)).trans c5'
  have V5c : Rules w5b 0 w.heap.size (.slice Av rs.length cv) rs := V5.below b5b (by omega)
  have V5d : Rules w5b.drew 0 w.heap.size (.slice Av rs.length cv) rs := V5c
  have X5c : Rules w5b w3.heap.size w4.heap.size (.slice A4 rs.length c4) rs := O5.rules.below b5b (by omega)
  have X5d : Rules w5b.drew w3.heap.size w4.heap.size (.slice A4 rs.length c4) rs := X5c
  have z5d : w5b.drew.heap.size = w5b.heap.size := rfl
  have HZ5 := Lib.hid z5d
  have HB5B := Lib.hid b5b
  clear z5d b5b c5 c5' V5c X5c
  go_wp2_with fail
  go_region_held3 (fun w' => w'.cell? ⟨w4.heap.size, 0, none⟩ = some (.slice A4 rs.length c4) ∧ w'.cell? ⟨w.heap.size, 0, none⟩ = some (.slice Av rs.length cv))
    (first | go_keep | (refine ⟨?_, ?_⟩ <;> (rw [b6.cell (by rw [HZ5.out]; simp; omega)]; assumption)) | (refine ⟨?_, ?_⟩ <;> (rw [b7.cell (by simp; omega), b6.cell (by rw [HZ5.out]; simp; omega)]; assumption)))
    (first
      | (go_at_call 14; refine (toGram_any _ rs 0 w.heap.size w5b.drew V5d (by rw [HZ5.out]; omega) (by omega)).mono ?_; rintro e w6 ⟨x6, rfl, O6, b6⟩; have z6 : w5b.heap.size ≤ w6.heap.size := b6.size)
      | (go_at_call 17; refine (eqGram_any _ _ rs rs w3.heap.size w4.heap.size w5b.heap.size w6.heap.size _ (X5d.below b6 (by rw [HZ5.out]; omega)) O6.rules (by omega) (Nat.le_refl _)).mono ?_; rintro e w7 ⟨rfl, b7⟩; rw [HE.out]))
  have b67 : Below w5.heap.size w5 w7 := HB5B.out.trans (Below.mono (Below.trans (B := w5b.heap.size) (b := w6) (⟨b6.os, b6.tape, b6.output, b6.size, b6.block⟩ : Below w5b.heap.size w5b w6) (b7.mono z6)) z5b)
  have z7 : w5.heap.size ≤ w7.heap.size := b67.size
  have B7 := B5.trans (b67.mono (by omega))
  have S7 := Lib.hid (HS5.out.below b67)
  have T7 := Lib.hid (T5.out.under b67 (by omega))
  have O7 := O5.keep (Keeps.below b67 (by omega))
  have c7 := (R0.below B7 (by omega)).cell 0
  have c7' := (R5.below b67 (by omega)).cell 0
  simp at c7 c7'
  clear b6 b7 O6 X5d V5d T5 O5 V5 R5 HS5 D5 HB5B
  go_wp2_with fail
  refine (markGram_one _ rs w3.heap.size w4.heap.size _ O7 (by omega) (by omega)).mono ?_
  rintro e w8 ⟨K8, rfl, hK8, -, m8⟩
  have B8 := B7.trans ((m8.below (by omega)).mono (by omega))
  have z8 := m8.size
  have S8 := Lib.hid (S7.out.move z8 (fun q hq => m8.block q (S7.out.row.lt q hq).2 (.inr (by have := (S7.out.row.lt q hq).1; omega))) fun y hy p p1 p2 => m8.block p (by have := (S7.out.each y hy).ord; omega) (.inr (by have := (S7.out.each y hy).ord; omega)))
  have T8 : Hid (DM false w8 0 w3.heap.size (.slice A3 (givenOf rs).length c33) (givenOf rs)) := Lib.hid (T7.out.keep fun p _ p2 => m8.block p (by omega) (.inl (by omega)))
  have D8 : Hid (DM false w8 p5 w8.heap.size (.slice A5 xs5.length c55) (givenOf rs)) := Lib.hid (by have := S8.out.dm.loose; rw [HX5.out] at this; exact this)
  have d8 : decide (K8 < 0) = false := decide_eq_false (by omega)
  clear S7 T7 O7
  go_wp2_with fail
  refine (eqMadeS_any (givenOf rs) false _ _ _ _ _ _ _ D8.out T8.out (Nat.le_refl _) (by omega)).mono ?_
  rintro e w8b ⟨rfl, b8b⟩
  have z8b : w8.heap.size ≤ w8b.heap.size := b8b.size
  have S8B := Lib.hid (S8.out.below b8b)
  have T8B := Lib.hid (T8.out.under b8b (by omega))
  have B8B := B8.trans (b8b.mono (by omega))
  clear S8 T8 D8 b8b
  go_wp2_with fail
  refine (markMadeS_one _ xs5 p5 (givenOf rs) _ S8B.out HX5.out (by omega)).mono ?_
  rintro e w9 ⟨K9, rfl, hK9', hK9, ⟨ys, S9, hys⟩, m9⟩
  have HK9 := Lib.hid hK9'
  have z9 : w8b.heap.size ≤ w9.heap.size := m9.size
  have B9 := B8B.trans ((m9.below (by omega)).mono (by omega))
  have T9 : Hid (DM false w9 0 w3.heap.size (.slice A3 (givenOf rs).length c33) (givenOf rs)) := Lib.hid (T8B.out.keep fun p _ p2 => m9.block p (by omega) (.inl (by omega)))
  have U9 : Hid (DM false w9 p5 w9.heap.size (.slice A5 xs5.length c55) (marksD 1 (givenOf rs))) := Lib.hid (by have := S9.dm.loose; rw [hys] at this; exact this)
  clear hK9' S8B T8B S9 hys m9
  go_wp2_with fail
  refine (heldMadeS_one _ (givenOf rs) _ _ _ U9.out (Nat.le_refl _) (by omega)).mono ?_
  rintro e w10 ⟨K10, rfl, hK10, b10⟩
  obtain rfl : K9 = K10 := HK9.out.trans hK10.symm
  have HK10 := Lib.hid hK10
  clear hK10
  have B10 := B9.trans (b10.mono (by omega))
  have z10 := b10.size
  have T10 := Lib.hid (T9.out.under b10 (by omega))
  have U10 := Lib.hid (U9.out.under b10 (Nat.le_refl _))
  have c10 := (R0.below B10 (by omega)).cell 0
  simp at c10
  have d10 : decide (K9 < 0) = false := decide_eq_false (by omega)
  clear T9 U9
  go_wp2_with fail
  refine (toGram_any _ rs 0 w.heap.size _ ((HV.out.below hb0 (Nat.le_refl _)).below B10 (by omega)) (by omega) (by omega)).mono ?_
  rintro e w11 ⟨x11, rfl, O11, b11⟩
  have B11 := B10.trans (b11.mono (by omega))
  have z11 := b11.size
  have T11 := Lib.hid (T10.out.under b11 (by omega))
  have U11 := Lib.hid (U10.out.under b11 (by omega))
  go_wp2_with fail
  refine (implGiven_any _ rs _ _ _ O11.rules (Nat.le_refl _)).mono ?_
  rintro e w12 ⟨u12, xs12, p12, rfl, hx12, S12, G12, H12, b12⟩
  have B12 := B11.trans (b12.mono (by omega))
  have z12 := b12.size
  have T12 := Lib.hid (T11.out.under b12 (by omega))
  have U12 := Lib.hid (U11.out.under b12 (by omega))
  have D12 : Hid (DM false w12 p12 w12.heap.size u12 (givenOf rs)) := Lib.hid (by have := S12.dm.loose; rw [hx12] at this; exact this)
  obtain ⟨A12, c122, rfl⟩ := growD_form S12
  clear T10 U10 T11 U11 S12 hx12
  go_wp2_with fail
  refine (eqMadeS_any (givenOf rs) false _ _ _ _ _ _ _ D12.out T12.out (Nat.le_refl _) (by omega)).mono ?_
  rintro e w13 ⟨rfl, b13⟩
  have z13 : w12.heap.size ≤ w13.heap.size := b13.size
  have U13 := Lib.hid (U12.out.under b13 (by omega))
  have B13 : Below w.heap.size w w13 := hb0.trans ((B12.trans (b13.mono (by omega))).mono (by omega))
  clear T12 U12 D12 b13
  go_wp2_with fail
  refine (heldMadeS_one _ (givenOf rs) _ _ _ U13.out (by omega) (by omega)).mono ?_
  rintro e w14 ⟨K14, rfl, hK14, b14⟩
  obtain rfl : K9 = K14 := HK10.out.trans hK14.symm
  go_wp2
  go_ret
  exact ⟨rfl, B13.trans (b14.mono B13.size)⟩
end Go.Proofs.Ytbaofldcdcllfaa.fnExactGiven

/- A grammar that came in, opened: what the law's row reads of it, as lists. -/
namespace Go.Proofs.Ytbaofldcdcllfaa
open Go.ChangeShapes Go.WideShapes Go.ChangeAt Go.RowKit Go.Deep

theorem lt_of_cell {w : World} {q : Addr} {v : Value} (h : w.cell? q = some v) : q.block < w.heap.size := by
  rcases Nat.lt_or_ge q.block w.heap.size with hlt | hge
  · exact hlt
  · unfold World.cell? at h
    rw [Array.getElem?_eq_none hge] at h
    simp at h
theorem add_at {b off i : Nat} : (⟨b, off, none⟩ : Addr).add i = ⟨b, off + i, none⟩ := by unfold Addr.add; split <;> simp_all
/-- an address at which something stands has no spot -/
theorem plain_addr {w : World} {a : Addr} {v : Value} (h : w.cell? (a.add 0) = some v) : ∃ b off, a = ⟨b, off, none⟩ ∧ b < w.heap.size := by
  obtain ⟨b, off, spot⟩ := a
  have hs : spot = none := by simpa [Addr.add] using World.cell?_spot h
  subst hs
  exact ⟨b, off, rfl, by simpa [Addr.add] using lt_of_cell h⟩

section
variable {H : Type} {enc : TypeId × Value → H} {w : World}
theorem open_Strs {fuel : Nat} {v : Value} {x : DataW H × List MemPlace} (h : DataW.trod enc Try.prog w 0 (fun _ => true) true fuel 66 [v] = some x) : ∃ ss, Strs w 0 w.heap.size v ss := by
  rcases open_strs Try.underlying66 Try.underlying9 (by kernel_rfl) h with ⟨hcs, _⟩ | ⟨a, len, cap, m, Sx, hcs, _, hl, hm, hmm, _, hc⟩
  · simp only [List.cons.injEq, and_true] at hcs
    subst hcs
    exact ⟨[], none, 0, rfl, Nat.le_refl _, by unfold maxLen; omega, by simp, fun h => by simp at h⟩
  · simp only [List.cons.injEq, and_true] at hcs
    subst hcs
    simp only [if_true] at hmm
    subst hmm
    refine ⟨(List.range len).map Sx, some a, m, by simp, by simpa using hl, hm, ?_, fun hp => ?_⟩
    · intro s hs
      obtain ⟨i, hi, rfl⟩ := List.mem_map.1 hs
      exact (hc i (by have := List.mem_range.1 hi; omega)).2
    · simp only [List.length_map, List.length_range] at hp
      obtain ⟨b, off, rfl, hb⟩ := plain_addr (hc 0 (by omega)).1
      refine ⟨b, off, rfl, Nat.zero_le _, hb, fun i hi => ?_⟩
      simp only [List.length_map, List.length_range] at hi
      have := (hc i (by omega)).1
      rw [add_at] at this
      simpa using this

theorem open_Rules {fuel : Nat} {v : Value} {x : DataW H × List MemPlace} (h : DataW.trod enc Try.prog w 0 (fun _ => true) true fuel 33 [v] = some x) : ∃ rs, Rules w 0 w.heap.size v rs := by
  rcases open_slice_pairs Try.underlying33 Try.underlying100 (by kernel_rfl) rfl rfl (by kernel_rfl) (by kernel_rfl) h with ⟨hcs, _⟩ | ⟨a, len, cap, m, n, V0, V1, D0, D1, P0, P1, hcs, _, hl, hm, hmm, _, hc⟩
  · simp only [List.cons.injEq, and_true] at hcs
    subst hcs
    exact ⟨[], none, 0, rfl, Nat.le_refl _, by unfold maxLen; omega, fun h => by simp at h⟩
  · simp only [List.cons.injEq, and_true] at hcs
    subst hcs
    simp only [if_true] at hmm
    subst hmm
    have each : ∀ i, i < len → ∃ r : RuleD, V0 i = .string r.head ∧ r.head.size ≤ maxLen ∧ Strs w 0 w.heap.size (V1 i) r.body := fun i hi => by
      obtain ⟨_, _, t0, t1⟩ := hc i (by omega)
      obtain ⟨s, e1, _, e2⟩ := DataW.trod_string Try.underlying9 t0
      obtain ⟨ss, hs⟩ := open_Strs t1
      exact ⟨⟨s, ss⟩, by simpa using e1, e2, hs⟩
    haveI : Inhabited RuleD := ⟨⟨ByteArray.empty, []⟩⟩
    obtain ⟨R, hR⟩ := choose_lt each
    refine ⟨(List.range len).map R, some a, m, by simp, by simpa using hl, hm, fun hp => ?_⟩
    simp only [List.length_map, List.length_range] at hp
    obtain ⟨b, off, rfl, hb⟩ := plain_addr (by have := (hc 0 (by omega)).1; simpa using this)
    refine ⟨b, off, rfl, Nat.zero_le _, hb, fun i hi => ?_⟩
    simp only [List.length_map, List.length_range] at hi
    obtain ⟨a1, a2, _, _⟩ := hc i (by omega)
    obtain ⟨r1, r2, r3⟩ := hR i hi
    rw [add_at] at a1 a2
    simp only [List.getElem_map, List.getElem_range]
    exact ⟨r2, by rw [a1, r1], V1 i, by rw [← a2]; rfl, r3⟩

set_option maxRecDepth 100000 in
theorem open_Gram {base : Nat} {v : Value} {d : DataW H} {p : List MemPlace} (hv : Value.okWide Try.prog w .any base 35 v) (h : DataW.Trod enc Try.prog w 0 (fun _ => true) true 35 v d p) :
    ∃ u rs, v = .agg #[u] ∧ Rules w 0 w.heap.size u rs := by
  obtain ⟨cs, rfl, hsz⟩ := okWide_struct Try.underlying35 hv
  obtain ⟨l⟩ := cs
  have hC : Try.prog.cellsOf 35 = 1 := by kernel_rfl
  match l, hsz.trans hC with
  | [u], _ =>
    obtain ⟨fuel, hf⟩ := h
    obtain ⟨xs, n, _, hx, _, hlen, hg⟩ := DataW.trod_struct Try.underlying35 hf
    match xs, hlen with
    | [y], _ =>
      have h0 := hg 0 _ rfl
      have hu : DataW.trod enc Try.prog w 0 (fun _ => true) true n 33 [u] = some y := by
        have hk : Try.prog.cellsOf 33 = 1 := by kernel_rfl
        simpa [Value.cells, hk] using h0
      obtain ⟨rs, hr⟩ := open_Rules hu
      exact ⟨u, rs, rfl, hr⟩
end
end Go.Proofs.Ytbaofldcdcllfaa
