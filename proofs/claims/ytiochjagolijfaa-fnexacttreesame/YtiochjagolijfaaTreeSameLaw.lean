/- The walk of the law FnExactTreeSame. -/
import Derived.Test.YtiochjagolijfaaJTst
import Derived.Test.YtiochjagolijfaaJTrt
import Derived.Test.YtiochjagolijfaaJTrq
import Derived.Deep.RegionHeld3
namespace Go.Proofs.Ytiochjagolijfaa.fnExactTreeSame
open Go.RowKit

set_option maxRecDepth 100000 in
set_option maxHeartbeats 4000000 in
theorem walk (s : TreeD) (v : Value) (t : TreeD) (u : Value) (w : World) (hs : TopOk s) (hv : Kd false w 0 w.heap.size v s.kids) (ht : TopOk t) (hk : Kd false w 0 w.heap.size u t.kids) :
    Calls Try.prog 6 #[trV s v, trV t u] w fun e w' => e = .returned (.bool true) ∧ Below w.heap.size w w' := by
  have hb0 := al2 w (.cells #[.int .i64 s.rule, .string s.tok, v] 54) (.cells #[.int .i64 t.rule, .string t.tok, u] 54)
  have HB0 := Lib.hid hb0
  have RG := (Row.made w 54 #[.int .i64 s.rule, .string s.tok, v]).alloc (.cells #[.int .i64 t.rule, .string t.tok, u] 54)
  have RT := Row.made (w.alloc (.cells #[.int .i64 s.rule, .string s.tok, v] 54)) 54 #[.int .i64 t.rule, .string t.tok, u]
  have hsz : (w.alloc (.cells #[.int .i64 s.rule, .string s.tok, v] 54)).heap.size = w.heap.size + 1 := by simp
  rw [hsz] at RT
  have hsz2 : ((w.alloc (.cells #[.int .i64 s.rule, .string s.tok, v] 54)).alloc (.cells #[.int .i64 t.rule, .string t.tok, u] 54)).heap.size = w.heap.size + 1 + 1 := by simp
  have HX : Hid (∀ wX : World, Below (w.heap.size + 2) ((w.alloc (.cells #[.int .i64 s.rule, .string s.tok, v] 54)).alloc (.cells #[.int .i64 t.rule, .string t.tok, u] 54)) wX →
      (wX.cell? ⟨w.heap.size, 0, none⟩ = some (.int .i64 s.rule) ∧ wX.cell? ⟨w.heap.size, 1, none⟩ = some (.string s.tok) ∧ wX.cell? ⟨w.heap.size, 2, none⟩ = some v) ∧ (wX.cell? ⟨w.heap.size + 1, 0, none⟩ = some (.int .i64 t.rule) ∧ wX.cell? ⟨w.heap.size + 1, 1, none⟩ = some (.string t.tok) ∧ wX.cell? ⟨w.heap.size + 1, 2, none⟩ = some u) ∧
      Kd false wX 0 w.heap.size v s.kids ∧ Kd false wX 0 w.heap.size u t.kids ∧ w.heap.size + 2 ≤ wX.heap.size ∧ Below w.heap.size w wX) := Lib.hid (fun wX hX => by
    have r1 := RG.below hX (by omega)
    have r2 := RT.below hX (by omega)
    have hz := hX.size
    exact ⟨⟨(r1.cell 0).trans rfl, (r1.cell 1).trans rfl, (r1.cell 2).trans rfl⟩, ⟨(r2.cell 0).trans rfl, (r2.cell 1).trans rfl, (r2.cell 2).trans rfl⟩, (hv.under hb0 (Nat.le_refl _)).under hX (by omega), (hk.under hb0 (Nat.le_refl _)).under hX (by omega), by omega, hb0.trans (hX.mono (by omega))⟩)
  have HT := Lib.hid ht
  have HS0 := Lib.hid hs
  obtain ⟨Av, cv, Uv, rfl, -⟩ := hv.parts
  obtain ⟨A, c, U, rfl, -⟩ := hk.parts
  clear hk ht hv hs hsz RG RT hb0
  unfold trV
  by_cases hbig : (1048576 : Int) < bulkT s
  · have HS := Lib.hid (szOut_neg hbig)
    go_enter Try.func6, Try.ntmps6
    go_wp2_with fail
    generalize (w.alloc (.cells #[.int .i64 s.rule, .string s.tok, .slice Av s.kids.length cv] 54)).alloc (.cells #[.int .i64 t.rule, .string t.tok, .slice A t.kids.length c] 54) = w0 at HX HB0 hsz2 ⊢
    obtain ⟨c0, c1, VG, VT, z0, B0⟩ := HX.out w0 (Below.refl _ _)
    refine (szTree_any s _ 0 w.heap.size _ w0 HS0.out VG (by omega) (by omega) (by omega)).mono ?_
    rintro e w1 ⟨rfl, b1⟩
    rw [HS.out]
    go_wp2
    go_ret
    exact ⟨rfl, B0.trans (b1.mono (by omega))⟩
  have HS := Lib.hid (szOut_pos hbig)
  have d0 : decide ((1048576 : Int) - (bulkT s : Int) < 0) = false := decide_eq_false (by omega)
  go_enter Try.func6, Try.ntmps6
  go_wp2_with fail
  generalize (w.alloc (.cells #[.int .i64 s.rule, .string s.tok, .slice Av s.kids.length cv] 54)).alloc (.cells #[.int .i64 t.rule, .string t.tok, .slice A t.kids.length c] 54) = w0 at HX HB0 hsz2 ⊢
  obtain ⟨c0, c1, VG, VT, z0, B0⟩ := HX.out w0 (Below.refl _ _)
  refine (szTree_any s _ 0 w.heap.size _ w0 HS0.out VG (by omega) (by omega) (by omega)).mono ?_
  rintro e w1 ⟨rfl, b1⟩
  rw [HS.out]
  have B1 : Below (w.heap.size + 2) w0 w1 := b1.mono (by omega)
  clear c0 c1 VG VT B0
  obtain ⟨⟨c0, c1, c2⟩, ⟨c3, c4, c5⟩, VG, VT, z1, B1w⟩ := HX.out w1 B1
  by_cases hbig2 : (1048576 : Int) - (bulkT s : Int) < bulkT t
  · have HS2 := Lib.hid (szOut_neg hbig2)
    go_wp2_with fail
    refine (szTree_any t _ 0 w.heap.size _ w1 HT.out VT (by omega) (by omega) (by omega)).mono ?_
    rintro e w2 ⟨rfl, b2⟩
    rw [HS2.out]
    go_wp2
    go_ret
    exact ⟨rfl, B1w.trans (b2.mono (by omega))⟩
  have HS2 := Lib.hid (szOut_pos hbig2)
  have d1 : decide ((1048576 : Int) - (bulkT s : Int) - (bulkT t : Int) < 0) = false := decide_eq_false (by omega)
  have hst : sizeT s ≤ 2097152 := by have := sizeT_le_bulkT s; omega
  go_wp2_with fail
  refine (szTree_any t _ 0 w.heap.size _ w1 HT.out VT (by omega) (by omega) (by omega)).mono ?_
  rintro e w2 ⟨rfl, b2⟩
  rw [HS2.out]
  have B2 : Below (w.heap.size + 2) w0 w2 := B1.trans (b2.mono (by omega))
  clear c0 c1 c2 c3 c4 c5 VG VT B1w B1 b1 b2 z1
  obtain ⟨⟨c0, c1, c2⟩, ⟨c3, c4, c5⟩, VG, VT, z2, B2w⟩ := HX.out w2 B2
  have VGd : Kd false w2.drew 0 w.heap.size (.slice Av s.kids.length cv) s.kids := VG.drewN 1
  have VTd : Kd false w2.drew 0 w.heap.size (.slice A t.kids.length c) t.kids := VT.drewN 1
  clear VG VT
  go_wp2_with fail
  go_region_held3 (fun w' => (w'.cell? ⟨w.heap.size, 0, none⟩ = some (.int .i64 s.rule) ∧ w'.cell? ⟨w.heap.size, 1, none⟩ = some (.string s.tok) ∧ w'.cell? ⟨w.heap.size, 2, none⟩ = some (.slice Av s.kids.length cv)) ∧ w'.cell? ⟨w.heap.size + 1, 0, none⟩ = some (.int .i64 t.rule) ∧ w'.cell? ⟨w.heap.size + 1, 1, none⟩ = some (.string t.tok) ∧ w'.cell? ⟨w.heap.size + 1, 2, none⟩ = some (.slice A t.kids.length c))
    (first | go_keep | (refine ⟨⟨?_, ?_, ?_⟩, ?_, ?_, ?_⟩ <;> (rw [b3.cell (by simp <;> omega)]; assumption)) | (refine ⟨⟨?_, ?_, ?_⟩, ?_, ?_, ?_⟩ <;> (rw [b4.cell (by simp <;> omega), b3.cell (by simp <;> omega)]; assumption)) | (refine ⟨⟨?_, ?_, ?_⟩, ?_, ?_, ?_⟩ <;> (rw [b5.cell (by simp <;> omega), b4.cell (by simp <;> omega), b3.cell (by simp <;> omega)]; assumption)))
    (first
      | (go_at_call 23; refine (toTree_any s _ 0 w.heap.size w2.drew VGd (by show w.heap.size ≤ w2.heap.size; omega) (by omega)).mono ?_; rintro e w3 ⟨x3, rfl, O3, b3⟩; have z3 : w2.heap.size ≤ w3.heap.size := b3.size; clear VGd)
      | (go_at_call 23; refine (toTree_any t _ 0 w.heap.size w3 (VTd.under b3 (by show w.heap.size ≤ w2.heap.size; omega)) (by omega) (by omega)).mono ?_; rintro e w4 ⟨x4, rfl, O4, b4⟩; have z4 := b4.size)
      | (go_at_call 22; refine (specTreeSame_any s t true _ _ w2.heap.size w3.heap.size w3.heap.size w4.heap.size w4 (O3.1.under b4 (Nat.le_refl _)) O4.1 (by omega) (Nat.le_refl _)).mono ?_; rintro e w5 ⟨r5, rfl, hr5, b5⟩; have z5 := b5.size))
  have b3' := drB' b3
  have B5 : Below (w.heap.size + 2) w0 w5 := ((B2.trans (b3'.mono (by simp <;> omega))).trans (b4.mono (by omega))).trans (b5.mono (by omega))
  have HR5 := Lib.hid hr5
  clear c0 c1 c2 c3 c4 c5 O3 O4 b3 b4 b5 b3' VTd B2 B2w hr5
  obtain ⟨⟨c0, c1, c2⟩, ⟨c3, c4, c5⟩, VG, VT, y5, B5w⟩ := HX.out w5 B5
  go_wp2_with fail
  refine (toTree_any s _ 0 w.heap.size w5 VG (by omega) (by omega)).mono ?_
  rintro e w6 ⟨x6, rfl, O6, b6⟩
  have z6 := b6.size
  have HO6 := Lib.hid O6
  obtain ⟨A6, c6, U6, rfl, -⟩ := O6.1.parts
  have ha := al1 w6 (.cells #[.int .i64 s.rule, .string s.tok, .slice A6 s.kids.length c6] 59)
  have R6 := Row.made w6 59 #[.int .i64 s.rule, .string s.tok, .slice A6 s.kids.length c6]
  have B6 : Below (w.heap.size + 2) w0 (w6.alloc (.cells #[.int .i64 s.rule, .string s.tok, .slice A6 s.kids.length c6] 59)) := (B5.trans (b6.mono (by omega))).trans (ha.mono (by omega))
  have hsz6 : (w6.alloc (.cells #[.int .i64 s.rule, .string s.tok, .slice A6 s.kids.length c6] 59)).heap.size = w6.heap.size + 1 := by simp
  have HG6 := Lib.hid (HO6.out.1.under ha (Nat.le_refl _))
  clear c0 c1 c2 c3 c4 c5 VG VT b6 ha HO6 O6
  obtain ⟨⟨c0, c1, c2⟩, ⟨c3, c4, c5⟩, VG, VT, y6, B6w⟩ := HX.out _ B6
  unfold trV
  go_wp2_with fail
  generalize w6.alloc (.cells #[.int .i64 s.rule, .string s.tok, .slice A6 s.kids.length c6] 59) = w7 at R6 B6 hsz6 HG6 c0 c1 c2 c3 c4 c5 VG VT y6 B6w ⊢
  refine (toTree_any t _ 0 w.heap.size w7 VT (by omega) (by omega)).mono ?_
  rintro e w8 ⟨x8, rfl, O8, b8⟩
  have z8 := b8.size
  have HO8 := Lib.hid O8
  obtain ⟨A8, c8, U8, rfl, -⟩ := O8.1.parts
  have ha := al1 w8 (.cells #[.int .i64 t.rule, .string t.tok, .slice A8 t.kids.length c8] 59)
  have R8 := Row.made w8 59 #[.int .i64 t.rule, .string t.tok, .slice A8 t.kids.length c8]
  have B8 : Below (w.heap.size + 2) w0 (w8.alloc (.cells #[.int .i64 t.rule, .string t.tok, .slice A8 t.kids.length c8] 59)) := (B6.trans (b8.mono (by omega))).trans (ha.mono (by omega))
  have hsz8 : (w8.alloc (.cells #[.int .i64 t.rule, .string t.tok, .slice A8 t.kids.length c8] 59)).heap.size = w8.heap.size + 1 := by simp
  have R68 := R6.below b8 (by omega)
  have e0 := R68.cell 0
  have e1 := R68.cell 1
  have e2 := R68.cell 2
  simp at e0 e1 e2
  have h68 : w6.heap.size < w8.heap.size := by omega
  have R6' := R68.alloc (.cells #[.int .i64 t.rule, .string t.tok, .slice A8 t.kids.length c8] 59)
  have HG8 := Lib.hid ((HG6.out.under b8 (by omega)).under ha (by omega))
  have HT8 := Lib.hid (HO8.out.1.under ha (Nat.le_refl _))
  clear c0 c1 c2 c3 c4 c5 VG VT O8 b8 ha HO8 R6 B6 B6w HG6 R68
  unfold trV
  go_wp2_with fail
  generalize w8.alloc (.cells #[.int .i64 t.rule, .string t.tok, .slice A8 t.kids.length c8] 59) = w9 at R8 R6' B8 hsz8 HG8 HT8 ⊢
  refine (implTreeSame_any s t _ _ 0 w8.heap.size w9 HS0.out HT.out (HG8.out.more (Nat.zero_le _) (by omega)) (HT8.out.more (Nat.zero_le _) (Nat.le_refl _)) (by omega) hst).mono ?_
  rintro e w10 ⟨r10, rfl, hr10, b10⟩
  have z10 := b10.size
  have hrr : r10 = r5 := by rw [Bool.eq_iff_iff, hr10, HR5.out]
  subst hrr
  have B10 : Below (w.heap.size + 2) w0 w10 := B8.trans (b10.mono (by omega))
  have R6'' := R6'.below b10 (by omega)
  have R8' := R8.below b10 (by omega)
  have HG10 := Lib.hid (HG8.out.under b10 (by omega))
  have HT10 := Lib.hid (HT8.out.under b10 (by omega))
  have e0' := R6''.cell 0
  have e1' := R6''.cell 1
  have e2' := R6''.cell 2
  simp at e0' e1' e2'
  clear e0 e1 e2 R6' R8 HG8 HT8 b10 B8 hr10
  obtain ⟨⟨c0, c1, c2⟩, ⟨c3, c4, c5⟩, VG, VT, y10, B10w⟩ := HX.out w10 B10
  have VGd : Kd false w10.drew 0 w.heap.size (.slice Av s.kids.length cv) s.kids := VG.drewN 1
  have XGd : Kd false w10.drew w5.heap.size w6.heap.size (.slice A6 s.kids.length c6) s.kids := HG10.out.loose.drewN 1
  clear VG VT
  go_wp2_with fail
  go_region_held3 (fun w' => (w'.cell? ⟨w6.heap.size, 0, none⟩ = some (.int .i64 s.rule) ∧ w'.cell? ⟨w6.heap.size, 1, none⟩ = some (.string s.tok) ∧ w'.cell? ⟨w6.heap.size, 2, none⟩ = some (.slice A6 s.kids.length c6)) ∧ w'.cell? ⟨w.heap.size, 0, none⟩ = some (.int .i64 s.rule) ∧ w'.cell? ⟨w.heap.size, 1, none⟩ = some (.string s.tok) ∧ w'.cell? ⟨w.heap.size, 2, none⟩ = some (.slice Av s.kids.length cv))
    (first | go_keep | (refine ⟨⟨?_, ?_, ?_⟩, ?_, ?_, ?_⟩ <;> (rw [b11.cell (by simp <;> omega)]; assumption)) | (refine ⟨⟨?_, ?_, ?_⟩, ?_, ?_, ?_⟩ <;> (rw [b12.cell (by simp <;> omega), b11.cell (by simp <;> omega)]; assumption)))
    (first
      | (go_at_call 23; refine (toTree_any s _ 0 w.heap.size w10.drew VGd (by show w.heap.size ≤ w10.heap.size; omega) (by omega)).mono ?_; rintro e w11 ⟨x11, rfl, O11, b11⟩; have z11 : w10.heap.size ≤ w11.heap.size := b11.size; unfold trV)
      | (go_at_call 25; refine (eqTree_any s false _ _ w5.heap.size w6.heap.size w10.heap.size w11.heap.size _ (XGd.under b11 (by show w6.heap.size ≤ w10.heap.size; omega)) O11.1.loose (by omega) (Nat.le_refl _)).mono ?_; rintro e w12 ⟨rfl, b12⟩; have z12 := b12.size))
  have b11' := drB' b11
  have b1012 := b11'.trans (b12.mono (by simp <;> omega))
  have B12 : Below (w.heap.size + 2) w0 w12 := B10.trans (b1012.mono (by simp <;> omega))
  have R8'' := R8'.below b1012 (by simp <;> omega)
  have HT12 := Lib.hid (HT10.out.under b1012 (by simp <;> omega))
  clear e0' e1' e2' c0 c1 c2 c3 c4 c5 VGd XGd b11 b12 O11 b11' b1012 R6'' R8' B10w B10
  obtain ⟨⟨c0, c1, c2⟩, ⟨c3, c4, c5⟩, VG, VT, y12, B12w⟩ := HX.out w12 B12
  have e1 := R8''.cell 0
  have e2 := R8''.cell 1
  have e3 := R8''.cell 2
  simp at e1 e2 e3
  have VTd : Kd false w12.drew 0 w.heap.size (.slice A t.kids.length c) t.kids := VT.drewN 1
  have XTd : Kd false w12.drew w7.heap.size w8.heap.size (.slice A8 t.kids.length c8) t.kids := HT12.out.loose.drewN 1
  clear VG VT R8''
  go_wp2_with fail
  go_region_held3 (fun w' => (w'.cell? ⟨w8.heap.size, 0, none⟩ = some (.int .i64 t.rule) ∧ w'.cell? ⟨w8.heap.size, 1, none⟩ = some (.string t.tok) ∧ w'.cell? ⟨w8.heap.size, 2, none⟩ = some (.slice A8 t.kids.length c8)) ∧ w'.cell? ⟨w.heap.size + 1, 0, none⟩ = some (.int .i64 t.rule) ∧ w'.cell? ⟨w.heap.size + 1, 1, none⟩ = some (.string t.tok) ∧ w'.cell? ⟨w.heap.size + 1, 2, none⟩ = some (.slice A t.kids.length c))
    (first | go_keep | (refine ⟨⟨?_, ?_, ?_⟩, ?_, ?_, ?_⟩ <;> (rw [b13.cell (by simp <;> omega)]; assumption)) | (refine ⟨⟨?_, ?_, ?_⟩, ?_, ?_, ?_⟩ <;> (rw [b14.cell (by simp <;> omega), b13.cell (by simp <;> omega)]; assumption)))
    (first
      | (go_at_call 23; refine (toTree_any t _ 0 w.heap.size w12.drew VTd (by show w.heap.size ≤ w12.heap.size; omega) (by omega)).mono ?_; rintro e w13 ⟨x13, rfl, O13, b13⟩; have z13 : w12.heap.size ≤ w13.heap.size := b13.size; unfold trV)
      | (go_at_call 25; refine (eqTree_any t false _ _ w7.heap.size w8.heap.size w12.heap.size w13.heap.size _ (XTd.under b13 (by show w8.heap.size ≤ w12.heap.size; omega)) O13.1.loose (by omega) (Nat.le_refl _)).mono ?_; rintro e w14 ⟨rfl, b14⟩))
  go_wp2
  go_ret
  exact ⟨rfl, B12w.trans (((drB' b13).mono (by simp <;> omega)).trans (b14.mono (by omega)))⟩
end Go.Proofs.Ytiochjagolijfaa.fnExactTreeSame
