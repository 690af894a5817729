/- The walk of the law FnExactSays. -/
import Derived.Test.YtonfiahihmcmlaaIsa
import Derived.Test.YtonfiahihmcmlaaSsc
import Derived.Test.YtonfiahihmcmlaaSz
import Derived.Test.YtonfiahihmcmlaaToc
import Derived.Test.YtonfiahihmcmlaaEq
import Derived.Test.YtonfiahihmcmlaaTru
import Derived.Test.YtonfiahihmcmlaaTrq
import Derived.Deep.RegionHeld3
namespace Go.Proofs.Ytonfiahihmcmlaa.fnExactSays
open Go.RowKit
theorem drew_below {B : Nat} {w w' : World} (h : Below B w.drew w') : Below B w w' := ⟨h.os, h.tape, h.output, h.size, h.block⟩

set_option maxRecDepth 100000 in
set_option maxHeartbeats 4000000 in
theorem walk (v : Value) (rs : List RuleD) (tv : Value) (ws : List ByteArray) (t : TreeD) (u : Value) (w : World) (h : Rules w 0 w.heap.size v rs) (h2 : Strs w 0 w.heap.size tv ws) (ht : TopOk t) (hk : Kd false w 0 w.heap.size u t.kids) :
    Calls Try.prog 7 #[.agg #[v], tv, trV t u] w fun e w' => e = .returned (.bool true) ∧ Below w.heap.size w w' := by
  have hb0 := al2 w (.cells #[v] 52) (.cells #[.int .i64 t.rule, .string t.tok, u] 55)
  have HB0 := Lib.hid hb0
  have RG := (Row.made w 52 #[v]).alloc (.cells #[.int .i64 t.rule, .string t.tok, u] 55)
  have RT := Row.made (w.alloc (.cells #[v] 52)) 55 #[.int .i64 t.rule, .string t.tok, u]
  have hsz : (w.alloc (.cells #[v] 52)).heap.size = w.heap.size + 1 := by simp
  rw [hsz] at RT
  have hsz2 : ((w.alloc (.cells #[v] 52)).alloc (.cells #[.int .i64 t.rule, .string t.tok, u] 55)).heap.size = w.heap.size + 1 + 1 := by simp
  have HX : Hid (∀ wX : World, Below (w.heap.size + 2) ((w.alloc (.cells #[v] 52)).alloc (.cells #[.int .i64 t.rule, .string t.tok, u] 55)) wX →
      wX.cell? ⟨w.heap.size, 0, none⟩ = some v ∧ wX.cell? ⟨w.heap.size + 1, 0, none⟩ = some (.int .i64 t.rule) ∧ wX.cell? ⟨w.heap.size + 1, 1, none⟩ = some (.string t.tok) ∧ wX.cell? ⟨w.heap.size + 1, 2, none⟩ = some u ∧
      Rules wX 0 w.heap.size v rs ∧ Kd false wX 0 w.heap.size u t.kids ∧ Strs wX 0 w.heap.size tv ws ∧ w.heap.size + 2 ≤ wX.heap.size ∧ Below w.heap.size w wX) := Lib.hid (fun wX hX => by
    have r1 := RG.below hX (by omega)
    have r2 := RT.below hX (by omega)
    have hz := hX.size
    exact ⟨(r1.cell 0).trans rfl, (r2.cell 0).trans rfl, (r2.cell 1).trans rfl, (r2.cell 2).trans rfl, (h.below hb0 (Nat.le_refl _)).below hX (by omega), (hk.under hb0 (Nat.le_refl _)).under hX (by omega), (h2.below hb0 (Nat.le_refl _)).below hX (by omega), by omega, hb0.trans (hX.mono (by omega))⟩)
  have HT := Lib.hid ht
  obtain ⟨Av, cv, rfl, -⟩ := h
  obtain ⟨A, c, U, rfl, -⟩ := hk.parts
  have HES := Lib.hid (eqSs_t (rfl : ws = ws))
  clear hk ht hsz RG RT hb0 h2
  unfold trV
  by_cases hbig : (1048576 : Int) < bulkR rs
  · have HS := Lib.hid (szOut_neg hbig)
    go_enter Try.func7, Try.ntmps7
    go_wp2_with fail
    generalize (w.alloc (.cells #[.slice Av rs.length cv] 52)).alloc (.cells #[.int .i64 t.rule, .string t.tok, .slice A t.kids.length c] 55) = w0 at HX HB0 hsz2 ⊢
    obtain ⟨c0, c1, c2, c3, VG, VT, VS, z0, B0⟩ := HX.out w0 (Below.refl _ _)
    refine (szGram_any _ rs 0 w.heap.size _ w0 VG (by omega) (by omega) (by omega)).mono ?_
    rintro e w1 ⟨rfl, b1⟩
    rw [HS.out]
    go_wp2
    go_ret
    exact ⟨rfl, B0.trans (b1.mono (by omega))⟩
  have HS := Lib.hid (szOut_pos hbig)
  have d0 : decide ((1048576 : Int) - (bulkR rs : Int) < 0) = false := decide_eq_false (by omega)
  go_enter Try.func7, Try.ntmps7
  go_wp2_with fail
  generalize (w.alloc (.cells #[.slice Av rs.length cv] 52)).alloc (.cells #[.int .i64 t.rule, .string t.tok, .slice A t.kids.length c] 55) = w0 at HX HB0 hsz2 ⊢
  obtain ⟨c0, c1, c2, c3, VG, VT, VS, z0, B0⟩ := HX.out w0 (Below.refl _ _)
  refine (szGram_any _ rs 0 w.heap.size _ w0 VG (by omega) (by omega) (by omega)).mono ?_
  rintro e w1 ⟨rfl, b1⟩
  rw [HS.out]
  have B1 : Below (w.heap.size + 2) w0 w1 := b1.mono (by omega)
  clear c0 c1 c2 c3 VG VT VS B0
  obtain ⟨c0, c1, c2, c3, VG, VT, VS, z1, B1w⟩ := HX.out w1 B1
  by_cases hbs : (1048576 : Int) - (bulkR rs : Int) < bulkS ws
  · have HS1 := Lib.hid (szOut_neg hbs)
    go_wp2_with fail
    refine (szStringS_any _ ws 0 w.heap.size _ w1 VS (by omega) (by omega)).mono ?_
    rintro e _ ⟨rfl, rfl⟩
    rw [HS1.out]
    go_wp2
    go_ret
    exact ⟨rfl, B1w⟩
  have HS1 := Lib.hid (szOut_pos hbs)
  have ds : decide ((1048576 : Int) - (bulkR rs : Int) - (bulkS ws : Int) < 0) = false := decide_eq_false (by omega)
  have htl : ws.length ≤ 1048576 := by
    have : ws.length ≤ bulkS ws := by unfold bulkS; omega
    omega
  have HTL := Lib.hid htl
  clear htl
  go_wp2_with fail
  refine (szStringS_any _ ws 0 w.heap.size _ w1 VS (by omega) (by omega)).mono ?_
  rintro e _ ⟨rfl, rfl⟩
  rw [HS1.out]
  by_cases hbig2 : (1048576 : Int) - (bulkR rs : Int) - (bulkS ws : Int) < bulkT t
  · have HS2 := Lib.hid (szOut_neg hbig2)
    go_wp2_with fail
    refine (szTree_any t _ 0 w.heap.size _ w1 HT.out VT (by omega) (by omega) (by omega)).mono ?_
    rintro e w2 ⟨rfl, b2⟩
    rw [HS2.out]
    go_wp2
    go_ret
    exact ⟨rfl, B1w.trans (b2.mono (by omega))⟩
  have HS2 := Lib.hid (szOut_pos hbig2)
  have d1 : decide ((1048576 : Int) - (bulkR rs : Int) - (bulkS ws : Int) - (bulkT t : Int) < 0) = false := decide_eq_false (by omega)
  have hst : bulkT t ≤ 1048576 := by omega
  go_wp2_with fail
  refine (szTree_any t _ 0 w.heap.size _ w1 HT.out VT (by omega) (by omega) (by omega)).mono ?_
  rintro e w2 ⟨rfl, b2⟩
  rw [HS2.out]
  have B2 : Below (w.heap.size + 2) w0 w2 := B1.trans (b2.mono (by omega))
  clear c0 c1 c2 c3 VG VT VS B1w B1 b1 b2 z1
  obtain ⟨c0, c1, c2, c3, VG, VT, VS, z2, B2w⟩ := HX.out w2 B2
  have VGd : Rules w2.drew 0 w.heap.size (.slice Av rs.length cv) rs := VG
  have VTd : Kd false w2.drew 0 w.heap.size (.slice A t.kids.length c) t.kids := VT.drewN 1
  have VSd : Strs w2.drew 0 w.heap.size tv ws := VS.drewN 1
  clear VG VT VS
  go_wp2_with fail
  go_region_held3 (fun w' => (w'.cell? ⟨w.heap.size, 0, none⟩ = some (.slice Av rs.length cv) ∧ w'.cell? ⟨w.heap.size + 1, 0, none⟩ = some (.int .i64 t.rule)) ∧ w'.cell? ⟨w.heap.size + 1, 1, none⟩ = some (.string t.tok) ∧ w'.cell? ⟨w.heap.size + 1, 2, none⟩ = some (.slice A t.kids.length c))
    (first | go_keep | (refine ⟨⟨?_, ?_⟩, ?_, ?_⟩ <;> (rw [b3.cell (by simp <;> omega)]; assumption)) | (refine ⟨⟨?_, ?_⟩, ?_, ?_⟩ <;> (rw [bs.cell (by simp <;> omega), b3.cell (by simp <;> omega)]; assumption)) | (refine ⟨⟨?_, ?_⟩, ?_, ?_⟩ <;> (rw [b4.cell (by simp <;> omega), bs.cell (by simp <;> omega), b3.cell (by simp <;> omega)]; assumption)) | (refine ⟨⟨?_, ?_⟩, ?_, ?_⟩ <;> (rw [b5.cell (by simp <;> omega), b4.cell (by simp <;> omega), bs.cell (by simp <;> omega), b3.cell (by simp <;> omega)]; assumption)))
    (first
      | (go_at_call 43; refine (toGram_any _ rs 0 w.heap.size w2.drew VGd (by show w.heap.size ≤ w2.heap.size; omega) (by omega)).mono ?_; rintro e w3 ⟨x3, rfl, O3, b3⟩; have z3 : w2.heap.size ≤ w3.heap.size := b3.size)
      | (go_at_call 56; refine (toStringS_any _ ws 0 w.heap.size w3 (VSd.below b3 (by show w.heap.size ≤ w2.heap.size; omega)) (by omega) HTL.out).mono ?_; rintro e wS ⟨xs, rfl, OS, yS, bs⟩; have zs := bs.size)
      | (go_at_call 44; refine (toTree_any t _ 0 w.heap.size wS ((VTd.under b3 (by show w.heap.size ≤ w2.heap.size; omega)).under bs (by omega)) (by omega) (by omega)).mono ?_; rintro e w4 ⟨x4, rfl, O4, b4⟩; have z4 := b4.size)
      | (go_at_call 55; refine (specSays_any rs ws t _ _ _ wS.heap.size w4.heap.size w2.heap.size w3.heap.size w3.heap.size wS.heap.size w4 ((O3.rules.below bs (Nat.le_refl _)).below b4 (by omega)) ((OS.strs (lo := w3.heap.size) (hi := wS.heap.size) (fun _ => ⟨Nat.le_refl _, yS⟩)).below b4 (Nat.le_refl _)) HT.out O4.1 (Nat.le_refl _) (by omega) (by omega) hst).mono ?_; rintro e w5 ⟨rfl, b5⟩; have z5 := b5.size))
  have b3' := drew_below b3
  have B5 : Below (w.heap.size + 2) w0 w5 := (((B2.trans (b3'.mono (by simp <;> omega))).trans (bs.mono (by omega))).trans (b4.mono (by omega))).trans (b5.mono (by omega))
  clear c0 c1 c2 c3 O3 O4 OS b3 bs b4 b5 b3' VGd VTd VSd B2 B2w
  obtain ⟨c0, c1, c2, c3, VG, VT, VS, y5, B5w⟩ := HX.out w5 B5
  go_wp2_with fail
  refine (toGram_any _ rs 0 w.heap.size w5 VG (by omega) (by omega)).mono ?_
  rintro e w6 ⟨x6, rfl, O6, b6⟩
  have z6 := b6.size
  have HO6 := Lib.hid O6
  obtain ⟨A6, c6, rfl, -⟩ := O6
  have ha := al1 w6 (.cells #[.slice A6 rs.length c6] 25)
  have R6 := Row.made w6 25 #[.slice A6 rs.length c6]
  have B6 : Below (w.heap.size + 2) w0 (w6.alloc (.cells #[.slice A6 rs.length c6] 25)) := (B5.trans (b6.mono (by omega))).trans (ha.mono (by omega))
  have hsz6 : (w6.alloc (.cells #[.slice A6 rs.length c6] 25)).heap.size = w6.heap.size + 1 := by simp
  have HG6 := Lib.hid (HO6.out.rules.below ha (Nat.le_refl _))
  clear c0 c1 c2 c3 VG VT VS b6 ha HO6
  obtain ⟨c0, c1, c2, c3, VG, VT, VS, y6, B6w⟩ := HX.out _ B6
  go_wp2_with fail
  generalize w6.alloc (.cells #[.slice A6 rs.length c6] 25) = w7 at R6 B6 hsz6 HG6 c0 c1 c2 c3 VG VT VS y6 B6w ⊢
  refine (toStringS_any _ ws 0 w.heap.size w7 VS (by omega) HTL.out).mono ?_
  rintro e wT ⟨xt, rfl, OT, yT, bT⟩
  have zT := bT.size
  have BT : Below (w.heap.size + 2) w0 wT := B6.trans (bT.mono (by omega))
  have R6T := R6.below bT (by omega)
  have HG6T := Lib.hid (HG6.out.below bT (by omega))
  have HST := Lib.hid (OT.strs (lo := w7.heap.size) (hi := wT.heap.size) (fun _ => ⟨Nat.le_refl _, yT⟩))
  clear c0 c1 c2 c3 VG VT VS R6 HG6 bT OT B6 B6w
  obtain ⟨c0, c1, c2, c3, VG, VT, VS, yT2, BTw⟩ := HX.out _ BT
  go_wp2_with fail
  refine (toTree_any t _ 0 w.heap.size wT VT (by omega) (by omega)).mono ?_
  rintro e w8 ⟨x8, rfl, O8, b8⟩
  have z8 := b8.size
  have HO8 := Lib.hid O8
  obtain ⟨A8, c8, U8, rfl, -⟩ := O8.1.parts
  have ha := al1 w8 (.cells #[.int .i64 t.rule, .string t.tok, .slice A8 t.kids.length c8] 62)
  have R8 := Row.made w8 62 #[.int .i64 t.rule, .string t.tok, .slice A8 t.kids.length c8]
  have B8 : Below (w.heap.size + 2) w0 (w8.alloc (.cells #[.int .i64 t.rule, .string t.tok, .slice A8 t.kids.length c8] 62)) := (BT.trans (b8.mono (by omega))).trans (ha.mono (by omega))
  have hsz8 : (w8.alloc (.cells #[.int .i64 t.rule, .string t.tok, .slice A8 t.kids.length c8] 62)).heap.size = w8.heap.size + 1 := by simp
  have R68 := R6T.below b8 (by omega)
  have e0 := R68.cell 0
  simp at e0
  have h68 : w6.heap.size < w8.heap.size := by omega
  have R6' := R68.alloc (.cells #[.int .i64 t.rule, .string t.tok, .slice A8 t.kids.length c8] 62)
  have HG8 := Lib.hid ((HG6T.out.below b8 (by omega)).below ha (by omega))
  have HS8 := Lib.hid ((HST.out.below b8 (by omega)).below ha (by omega))
  have HT8 := Lib.hid (HO8.out.1.under ha (Nat.le_refl _))
  clear c0 c1 c2 c3 VG VT VS O8 b8 ha HO8 R6T BT BTw HG6T HST R68
  unfold trV
  go_wp2_with fail
  generalize w8.alloc (.cells #[.int .i64 t.rule, .string t.tok, .slice A8 t.kids.length c8] 62) = w9 at R8 R6' B8 hsz8 HG8 HS8 HT8 ⊢
  refine (implSays_any rs ws t _ _ _ wT.heap.size w8.heap.size w5.heap.size w6.heap.size w7.heap.size wT.heap.size w9 HG8.out HS8.out HT.out HT8.out (by omega) (by omega) (by omega) hst).mono ?_
  rintro e w10 ⟨rfl, b10⟩
  have z10 := b10.size
  have B10 : Below (w.heap.size + 2) w0 w10 := B8.trans (b10.mono (by omega))
  have R6'' := R6'.below b10 (by omega)
  have R8' := R8.below b10 (by omega)
  have HG10 := Lib.hid (HG8.out.below b10 (by omega))
  have HS10 := Lib.hid (HS8.out.below b10 (by omega))
  have HT10 := Lib.hid (HT8.out.under b10 (by omega))
  have e0' := R6''.cell 0
  have e1' := R8'.cell 0
  have e2' := R8'.cell 1
  have e3' := R8'.cell 2
  simp at e0' e1' e2' e3'
  clear e0 R6' R8 HG8 HS8 HT8 b10 B8
  obtain ⟨c0, c1, c2, c3, VG, VT, VS, y10, B10w⟩ := HX.out w10 B10
  have VGd : Rules w10.drew 0 w.heap.size (.slice Av rs.length cv) rs := VG
  have XGd : Rules w10.drew w5.heap.size w6.heap.size (.slice A6 rs.length c6) rs := HG10.out
  have HE := Lib.hid (eqRs_t (rfl : rs = rs))
  clear VG VT VS
  generalize saysB rs ws t = ans at *
  go_wp2_with fail
  go_region_held3 (fun w' => w'.cell? ⟨w6.heap.size, 0, none⟩ = some (.slice A6 rs.length c6) ∧ w'.cell? ⟨w.heap.size, 0, none⟩ = some (.slice Av rs.length cv))
    (first | go_keep | (refine ⟨?_, ?_⟩ <;> (rw [b11.cell (by simp <;> omega)]; assumption)) | (refine ⟨?_, ?_⟩ <;> (rw [b12.cell (by simp <;> omega), b11.cell (by simp <;> omega)]; assumption)))
    (first
      | (go_at_call 43; refine (toGram_any _ rs 0 w.heap.size w10.drew VGd (by show w.heap.size ≤ w10.heap.size; omega) (by omega)).mono ?_; rintro e w11 ⟨x11, rfl, O11, b11⟩; have z11 : w10.heap.size ≤ w11.heap.size := b11.size)
      | (go_at_call 46; refine (eqGram_any _ _ rs rs w5.heap.size w6.heap.size w10.heap.size w11.heap.size _ (XGd.below b11 (by show w6.heap.size ≤ w10.heap.size; omega)) O11.rules (by omega) (Nat.le_refl _)).mono ?_; rintro e w12 ⟨rfl, b12⟩; rw [HE.out]; have z12 := b12.size))
  have b11' := drew_below b11
  have b1012 := b11'.trans (b12.mono (by simp <;> omega))
  have B12 : Below (w.heap.size + 2) w0 w12 := B10.trans (b1012.mono (by simp <;> omega))
  have R8'' := R8'.below b1012 (by simp <;> omega)
  have HS12 := Lib.hid (HS10.out.below b1012 (by simp <;> omega))
  have HT12 := Lib.hid (HT10.out.under b1012 (by simp <;> omega))
  clear e0' e1' e2' e3' c0 c1 c2 c3 VGd XGd b11 b12 O11 b11' b1012 R6'' R8' B10w B10
  obtain ⟨c0, c1, c2, c3, VG, VT, VS, y12, B12w⟩ := HX.out w12 B12
  go_wp2_with fail
  refine (toStringS_any _ ws 0 w.heap.size w12 VS (by omega) HTL.out).mono ?_
  rintro e wU ⟨xu, rfl, OU, yU, bU⟩
  have zU := bU.size
  have SU := HS12.out.below bU (by omega)
  have SV := OU.strs (lo := w12.heap.size) (hi := wU.heap.size) (fun _ => ⟨Nat.le_refl _, yU⟩)
  clear OU
  go_wp2_with fail
  refine (eqStringS_any _ _ ws ws _ _ _ _ _ SU SV).mono ?_
  rintro e wQ ⟨rfl, nq, hq⟩
  rw [HES.out]
  have bQ : Below wU.heap.size wU wQ := by rw [hq]; exact ⟨rfl, rfl, rfl, Nat.le_refl _, fun _ _ => rfl⟩
  have zQ := bQ.size
  have bW := bU.trans (bQ.mono (by omega))
  have BQ : Below (w.heap.size + 2) w0 wQ := B12.trans (bW.mono (by omega))
  have R8q := R8''.below bW (by omega)
  have HTQ := Lib.hid (HT12.out.under bW (by omega))
  clear hq SU SV bU bQ bW R8'' HT12 HS12 c0 c1 c2 c3 VG VT VS y12 B12w B12
  obtain ⟨c0, c1, c2, c3, VG, VT, VS, yq, BQw⟩ := HX.out wQ BQ
  have e1 := R8q.cell 0
  have e2 := R8q.cell 1
  have e3 := R8q.cell 2
  simp at e1 e2 e3
  have VTd : Kd false wQ.drew 0 w.heap.size (.slice A t.kids.length c) t.kids := VT.drewN 1
  have XTd : Kd false wQ.drew wT.heap.size w8.heap.size (.slice A8 t.kids.length c8) t.kids := HTQ.out.loose.drewN 1
  clear VG VT VS R8q
  go_wp2_with fail
  go_region_held3 (fun w' => (w'.cell? ⟨w8.heap.size, 0, none⟩ = some (.int .i64 t.rule) ∧ w'.cell? ⟨w8.heap.size, 1, none⟩ = some (.string t.tok) ∧ w'.cell? ⟨w8.heap.size, 2, none⟩ = some (.slice A8 t.kids.length c8)) ∧ w'.cell? ⟨w.heap.size + 1, 0, none⟩ = some (.int .i64 t.rule) ∧ w'.cell? ⟨w.heap.size + 1, 1, none⟩ = some (.string t.tok) ∧ w'.cell? ⟨w.heap.size + 1, 2, none⟩ = some (.slice A t.kids.length c))
    (first | go_keep | (refine ⟨⟨?_, ?_, ?_⟩, ?_, ?_, ?_⟩ <;> (rw [b13.cell (by simp <;> omega)]; assumption)) | (refine ⟨⟨?_, ?_, ?_⟩, ?_, ?_, ?_⟩ <;> (rw [b14.cell (by simp <;> omega), b13.cell (by simp <;> omega)]; assumption)))
    (first
      | (go_at_call 44; refine (toTree_any t _ 0 w.heap.size wQ.drew VTd (by show w.heap.size ≤ wQ.heap.size; omega) (by omega)).mono ?_; rintro e w13 ⟨x13, rfl, O13, b13⟩; have z13 : wQ.heap.size ≤ w13.heap.size := b13.size; unfold trV)
      | (go_at_call 47; refine (eqTree_any t false _ _ wT.heap.size w8.heap.size wQ.heap.size w13.heap.size _ (XTd.under b13 (by show w8.heap.size ≤ wQ.heap.size; omega)) O13.1.loose (by omega) (Nat.le_refl _)).mono ?_; rintro e w14 ⟨rfl, b14⟩))
  go_wp2
  go_ret
  exact ⟨rfl, BQw.trans (((drew_below b13).mono (by simp <;> omega)).trans (b14.mono (by omega)))⟩
end Go.Proofs.Ytonfiahihmcmlaa.fnExactSays
