/- The walk of the law FnTree. -/
import Derived.Test.YtokdhgocgicdnaaGreatDoorJDcp
import Derived.Test.YtokdhgocgicdnaaGreatDoorJSad
import Derived.Test.YtokdhgocgicdnaaGreatDoorJSeq
import Derived.Test.YtokdhgocgicdnaaGreatDoorJIsa
import Derived.Test.YtokdhgocgicdnaaGreatDoorJWri
import Derived.Test.YtokdhgocgicdnaaGreatDoorJUff
import Derived.Test.YtokdhgocgicdnaaGreatDoorJIyh
import Derived.Test.YtokdhgocgicdnaaGreatDoorUft
import Derived.Test.YtokdhgocgicdnaaGreatDoorJSts
import Derived.Deep.RegionHeld3
import Derived.Deep.RegionLaw
import Derived.Deep.CutRange
namespace Go.Proofs.YtokdhgocgicdnaaGreatDoor.fnTree
open Go.RowKit
abbrev IsRow := @Dr.IsRow
theorem nextB {w0 wk w' : World} (h : Below w0.heap.size w0 wk) (b : Below wk.heap.size wk w') : Below w0.heap.size w0 w' := h.trans (b.mono h.size)
theorem same_b (a b : TreeD) : ∃ s : Bool, s = true ↔ a = b := by
  by_cases h : a = b
  · exact ⟨true, by simp [h]⟩
  · exact ⟨false, by simp [h]⟩
theorem row3 {w : World} {g : Nat} {a b c : Value} (h : Row w g 29 #[a, b, c]) : w.cell? ⟨g, 0, none⟩ = some a ∧ w.cell? ⟨g, 1, none⟩ = some b ∧ w.cell? ⟨g, 2, none⟩ = some c :=
  ⟨by simpa using h.cell 0, by simpa using h.cell 1, by simpa using h.cell 2⟩

set_option linter.unusedSimpArgs false in
set_option maxRecDepth 100000 in
set_option maxHeartbeats 40000000 in
theorem walk (a0 : Option Addr) (len0 cap0 : Nat) (z0 : List Int) (a1 : Option Addr) (len1 cap1 : Nat) (z1 : List Int) (w : World) (h0 : IsRow .u8 w a0 len0 cap0 z0) (h1 : IsRow .u8 w a1 len1 cap1 z1) (htn : Tens w.heap.size w) :
    Calls Tryz.prog 3 #[.slice a0 len0 cap0, .slice a1 len1 cap1] w fun e w' => e = .returned (.bool true) ∧ Below w.heap.size w w' := by
  have hb0 := Dr.IsRow.bytes h0
  have HB1 := Lib.hid (Dr.IsRow.bytes h1)
  have HTN := Lib.hid htn
  clear h0 h1 htn
  by_cases hl0 : (1048576 : Int) < len0
  · go_enter Tryz.func3, Tryz.ntmps3
    go_wp2
    go_ret
    exact ⟨rfl, Below.refl _ _⟩
  by_cases hl1 : (1048576 : Int) < len1
  · go_enter Tryz.func3, Tryz.ntmps3
    go_wp2
    go_ret
    exact ⟨rfl, Below.refl _ _⟩
  go_enter Tryz.func3, Tryz.ntmps3
  go_wp2_with fail
  refine (Dr.drawSays_any w a0 len0 cap0 hb0 (by omega)).mono ?_
  rintro e w1 ⟨v, rs, tv, ts, t, u, rfl, R1, S1, ht, hbt, K1, b1⟩
  have A1 := al2 w1 (.cells #[v] 25) (.cells #[.int .i64 t.rule, .string t.tok, u] 29)
  have RB1 := (Row.made w1 25 #[v]).alloc (.cells #[.int .i64 t.rule, .string t.tok, u] 29)
  have RT1 : Row ((w1.alloc (.cells #[v] 25)).alloc (.cells #[.int .i64 t.rule, .string t.tok, u] 29)) (w1.heap.size + 1) 29 #[.int .i64 t.rule, .string t.tok, u] := by
    have := Row.made (w1.alloc (.cells #[v] 25)) 29 #[.int .i64 t.rule, .string t.tok, u]
    simpa using this
  have HR1 := Lib.hid (R1.below A1 (Nat.le_refl _))
  have HS1 := Lib.hid (S1.below A1 (Nat.le_refl _))
  have HK1 := Lib.hid (K1.under A1 (Nat.le_refl _))
  have HBG := Lib.hid (nextB b1 A1)
  have HRB1 := Lib.hid RB1
  have HRT1 := Lib.hid RT1
  have HT := Lib.hid ht
  have HBT := Lib.hid hbt
  obtain ⟨Av, cv, rfl, -⟩ := R1
  obtain ⟨At, ct, rfl, -⟩ := S1
  obtain ⟨Au, cu, Uu, rfl, -⟩ := K1.parts
  have zg : w1.heap.size ≤ ((w1.alloc (.cells #[.slice Av rs.length cv] 25)).alloc (.cells #[.int .i64 t.rule, .string t.tok, .slice Au t.kids.length cu] 29)).heap.size := A1.size
  clear hb0 b1 A1 RB1 RT1 K1 ht hbt
  unfold trV
  go_wp2_with fail
  generalize (w1.alloc (.cells #[.slice Av rs.length cv] 25)).alloc (.cells #[.int .i64 t.rule, .string t.tok, .slice Au t.kids.length cu] 29) = wg at HR1 HS1 HK1 HBG HRB1 HRT1 zg ⊢
  refine (implSays_any rs ts t (.slice Av rs.length cv) (.slice At ts.length ct) (.slice Au t.kids.length cu) _ _ _ _ _ _ wg HR1.out HS1.out HT.out HK1.out zg zg zg (by have := HBT.out; omega)).mono ?_
  rintro e wa ⟨rfl, ba⟩
  have HSB := Lib.hid (rfl : saysB rs ts t = saysB rs ts t)
  generalize hsb : saysB rs ts t = sb at HSB ⊢
  have HSBE := Lib.hid hsb
  clear hsb HSB
  have HBA := Lib.hid ba
  clear ba
  go_wp2_with fail
  refine (Dr.drawTreeRight_any wa a1 len1 cap1 (HB1.out.later (nextB HBG.out HBA.out)) (by omega)).mono ?_
  rintro e w2 ⟨v2, rs2, t2, u2, rfl, R2, ht2, hbt2, K2, b2⟩
  have A2 := al2 w2 (.cells #[v2] 25) (.cells #[.int .i64 t2.rule, .string t2.tok, u2] 29)
  have RB2 := (Row.made w2 25 #[v2]).alloc (.cells #[.int .i64 t2.rule, .string t2.tok, u2] 29)
  have RT2 : Row ((w2.alloc (.cells #[v2] 25)).alloc (.cells #[.int .i64 t2.rule, .string t2.tok, u2] 29)) (w2.heap.size + 1) 29 #[.int .i64 t2.rule, .string t2.tok, u2] := by
    have := Row.made (w2.alloc (.cells #[v2] 25)) 29 #[.int .i64 t2.rule, .string t2.tok, u2]
    simpa using this
  have HR2 := Lib.hid (R2.below A2 (Nat.le_refl _))
  have HK2 := Lib.hid (K2.under A2 (Nat.le_refl _))
  have HBH := Lib.hid (nextB (nextB HBA.out b2) A2)
  have HRB2 := Lib.hid RB2
  have HRT2 := Lib.hid RT2
  have HT2 := Lib.hid ht2
  have HBT2 := Lib.hid hbt2
  obtain ⟨Av2, cv2, rfl, -⟩ := R2
  obtain ⟨Au2, cu2, Uu2, rfl, -⟩ := K2.parts
  have zh : w2.heap.size ≤ ((w2.alloc (.cells #[.slice Av2 rs2.length cv2] 25)).alloc (.cells #[.int .i64 t2.rule, .string t2.tok, .slice Au2 t2.kids.length cu2] 29)).heap.size := A2.size
  clear b2 A2 RB2 RT2 K2 ht2 hbt2 HBA
  unfold trV
  go_wp2_with fail
  generalize (w2.alloc (.cells #[.slice Av2 rs2.length cv2] 25)).alloc (.cells #[.int .i64 t2.rule, .string t2.tok, .slice Au2 t2.kids.length cu2] 29) = wh at HR2 HK2 HBH HRB2 HRT2 zh ⊢
  refine (implYield_any t2 (.slice Au2 t2.kids.length cu2) _ _ wh HT2.out HK2.out zh (by have := HBT2.out; omega)).mono ?_
  rintro e wy ⟨uy, gy, rfl, oy, gyb, by9⟩
  have YS := oy.strs gyb
  have HY := Lib.hid YS
  obtain ⟨Ay, cy, rfl, hyc1, hyc2, -⟩ := YS
  unfold maxLen at hyc2
  have HBY := Lib.hid by9
  have hyl := yieldOf_len t2
  clear oy gyb by9
  go_wp2_with fail
  refine (Dr.drawTreeSame_any wy a1 len1 cap1 (HB1.out.later (nextB (nextB HBG.out HBH.out) HBY.out)) (by omega)).mono ?_
  rintro e w3 ⟨ta, ua, tb, ub, rfl, hta, htb, hba, hbb, Ka, Kb, b3⟩
  have A3 := al2 w3 (.cells #[.int .i64 ta.rule, .string ta.tok, ua] 29) (.cells #[.int .i64 tb.rule, .string tb.tok, ub] 29)
  have RA3 := (Row.made w3 29 #[.int .i64 ta.rule, .string ta.tok, ua]).alloc (.cells #[.int .i64 tb.rule, .string tb.tok, ub] 29)
  have RB3 : Row ((w3.alloc (.cells #[.int .i64 ta.rule, .string ta.tok, ua] 29)).alloc (.cells #[.int .i64 tb.rule, .string tb.tok, ub] 29)) (w3.heap.size + 1) 29 #[.int .i64 tb.rule, .string tb.tok, ub] := by
    have := Row.made (w3.alloc (.cells #[.int .i64 ta.rule, .string ta.tok, ua] 29)) 29 #[.int .i64 tb.rule, .string tb.tok, ub]
    simpa using this
  have HKA := Lib.hid (Ka.under A3 (Nat.le_refl _))
  have HKB := Lib.hid (Kb.under A3 (Nat.le_refl _))
  have BLy := nextB b3 A3
  have HRA3 := Lib.hid RA3
  have HRB3 := Lib.hid RB3
  have HTA := Lib.hid hta
  have HTB := Lib.hid htb
  have HBA := Lib.hid hba
  have HBB := Lib.hid hbb
  obtain ⟨Aa, ca, Uua, rfl, -⟩ := Ka.parts
  obtain ⟨Ab, cb, Uub, rfl, -⟩ := Kb.parts
  have z3l : w3.heap.size ≤ ((w3.alloc (.cells #[.int .i64 ta.rule, .string ta.tok, .slice Aa ta.kids.length ca] 29)).alloc (.cells #[.int .i64 tb.rule, .string tb.tok, .slice Ab tb.kids.length cb] 29)).heap.size := A3.size
  have HBLy := Lib.hid BLy
  clear b3 A3 RA3 RB3 Ka Kb hta htb hba hbb BLy
  unfold trV
  go_upto_region 8 with fail
  generalize (w3.alloc (.cells #[.int .i64 ta.rule, .string ta.tok, .slice Aa ta.kids.length ca] 29)).alloc (.cells #[.int .i64 tb.rule, .string tb.tok, .slice Ab tb.kids.length cb] 29) = wl at HKA HKB HBLy HRA3 HRB3 z3l ⊢
  have BLy := HBLy.out
  have BLh := nextB HBY.out BLy
  have BLg := nextB HBH.out BLh
  have HBLh := Lib.hid BLh
  have HBL := Lib.hid (nextB HBG.out BLg)
  have l1 : w1.heap.size ≤ wl.heap.size := Nat.le_trans zg BLg.size
  have l2 : w2.heap.size ≤ wl.heap.size := Nat.le_trans zh BLh.size
  have ly : wy.heap.size ≤ wl.heap.size := BLy.size
  have HRl := Lib.hid (HR1.out.below BLg zg)
  have HSl := Lib.hid (HS1.out.below BLg zg)
  have HKl := Lib.hid (HK1.out.under BLg zg)
  have HR2l := Lib.hid (HR2.out.below BLh zh)
  have HK2l := Lib.hid (HK2.out.under BLh zh)
  have HYl := Lib.hid (HY.out.below BLy (Nat.le_refl _))
  have q5 := HRB1.out.below BLg HRB1.out.lt
  have q7 := HRT1.out.below BLg HRT1.out.lt
  have q9 := HRB2.out.below BLh HRB2.out.lt
  have q10 := HRT2.out.below BLh HRT2.out.lt
  have m5 := q5.lt
  have m7 := q7.lt
  have m9 := q9.lt
  have m10 := q10.lt
  have m12 := HRA3.out.lt
  have m13 := HRB3.out.lt
  have c5 : wl.cell? ⟨w1.heap.size, 0, none⟩ = some (.slice Av rs.length cv) := by simpa using q5.cell 0
  have c9 : wl.cell? ⟨w2.heap.size, 0, none⟩ = some (.slice Av2 rs2.length cv2) := by simpa using q9.cell 0
  obtain ⟨c70, c71, c72⟩ := row3 q7
  obtain ⟨c100, c101, c102⟩ := row3 q10
  obtain ⟨c120, c121, c122⟩ := row3 HRA3.out
  obtain ⟨c130, c131, c132⟩ := row3 HRB3.out
  clear BLy BLh BLg q5 q7 q9 q10 HR1 HS1 HK1 HR2 HK2 HY HBY HBH HBG HRB1 HRT1 HRB2 HRT2 HRA3 HRB3 HB1 zg zh HBLy
  obtain ⟨sm, hsm⟩ := same_b ta tb
  have HSM := Lib.hid hsm
  clear hsm
  generalize hrb : rightB rs2 t2 = rb
  have HRBE := Lib.hid hrb
  clear hrb
  have YSM : Hid (∀ x ∈ yieldOf t2, x.size ≤ maxLen) := Lib.hid (by obtain ⟨_, _, _, _, _, hz, _⟩ := HYl.out; exact hz)
  have HYE := Lib.hid (eqSs_t (rfl : yieldOf t2 = yieldOf t2))
  have ds : (sb != sb) = false := by simp
  have dr : (rb != rb) = false := by simp
  have dm : (sm != sm) = false := by simp
  have dz : (((sizeT t2 : Nat) : Int) != ((sizeT t2 : Nat) : Int)) = false := by simp
  have dt : ((Go.Proofs.YtokdhgocgicdnaaGreatDoor.tb (treeT t2)).toList != (Go.Proofs.YtokdhgocgicdnaaGreatDoor.tb (treeT t2)).toList) = false := by simp
  have BB : Below wl.heap.size wl wl.drew := (Below.refl _ _).drew
  go_cut [88] from 44 to 88 (fun s88 wx => s88 = .bool false ∧ Below wl.heap.size wl wx)
  case first =>
    go_region_held3 (fun w' => w'.cell? ⟨w1.heap.size, 0, none⟩ = some (.slice Av rs.length cv) ∧ w'.cell? ⟨w1.heap.size + 1, 0, none⟩ = some (.int .i64 t.rule) ∧ w'.cell? ⟨w1.heap.size + 1, 1, none⟩ = some (.string t.tok) ∧ w'.cell? ⟨w1.heap.size + 1, 2, none⟩ = some (.slice Au t.kids.length cu) ∧ w'.cell? ⟨w2.heap.size, 0, none⟩ = some (.slice Av2 rs2.length cv2) ∧ w'.cell? ⟨w2.heap.size + 1, 0, none⟩ = some (.int .i64 t2.rule) ∧ w'.cell? ⟨w2.heap.size + 1, 1, none⟩ = some (.string t2.tok) ∧ w'.cell? ⟨w2.heap.size + 1, 2, none⟩ = some (.slice Au2 t2.kids.length cu2) ∧ w'.cell? ⟨w3.heap.size, 0, none⟩ = some (.int .i64 ta.rule) ∧ w'.cell? ⟨w3.heap.size, 1, none⟩ = some (.string ta.tok) ∧ w'.cell? ⟨w3.heap.size, 2, none⟩ = some (.slice Aa ta.kids.length ca) ∧ w'.cell? ⟨w3.heap.size + 1, 0, none⟩ = some (.int .i64 tb.rule) ∧ w'.cell? ⟨w3.heap.size + 1, 1, none⟩ = some (.string tb.tok) ∧ w'.cell? ⟨w3.heap.size + 1, 2, none⟩ = some (.slice Ab tb.kids.length cb))
      (first | exact ⟨(BB.cell (p := ⟨w1.heap.size, 0, none⟩) m5).trans c5, (BB.cell (p := ⟨w1.heap.size + 1, 0, none⟩) m7).trans c70, (BB.cell (p := ⟨w1.heap.size + 1, 1, none⟩) m7).trans c71, (BB.cell (p := ⟨w1.heap.size + 1, 2, none⟩) m7).trans c72, (BB.cell (p := ⟨w2.heap.size, 0, none⟩) m9).trans c9, (BB.cell (p := ⟨w2.heap.size + 1, 0, none⟩) m10).trans c100, (BB.cell (p := ⟨w2.heap.size + 1, 1, none⟩) m10).trans c101, (BB.cell (p := ⟨w2.heap.size + 1, 2, none⟩) m10).trans c102, (BB.cell (p := ⟨w3.heap.size, 0, none⟩) m12).trans c120, (BB.cell (p := ⟨w3.heap.size, 1, none⟩) m12).trans c121, (BB.cell (p := ⟨w3.heap.size, 2, none⟩) m12).trans c122, (BB.cell (p := ⟨w3.heap.size + 1, 0, none⟩) m13).trans c130, (BB.cell (p := ⟨w3.heap.size + 1, 1, none⟩) m13).trans c131, (BB.cell (p := ⟨w3.heap.size + 1, 2, none⟩) m13).trans c132⟩ | go_keep)
      (first
        | (go_at_call 9; refine (specSays_any rs ts t _ _ _ _ _ _ _ _ _ _ (HRl.out.below BB l1) (HSl.out.below BB l1) HT.out (HKl.out.under BB l1) (Nat.le_trans l1 BB.size) (Nat.le_trans l1 BB.size) (Nat.le_trans l1 BB.size) (by have := HBT.out; omega)).mono ?_; rintro e wa ⟨rfl, bn⟩; rw [HSBE.out]; have BB := nextB BB bn)
        | (go_at_call 10; refine (implTreeRight_any rs2 t2 _ _ _ _ _ _ _ (HR2l.out.below BB l2) HT2.out (HK2l.out.under BB l2) (Nat.le_trans l2 BB.size) (Nat.le_trans l2 BB.size) (by have := sizeT_le_bulkT t2; have := HBT2.out; omega)).mono ?_; rintro e wa ⟨rfl, bn⟩; rw [HRBE.out]; have BB := nextB BB bn)
        | (go_at_call 11; refine (specTreeRight_any rs2 t2 _ _ _ _ _ _ _ (HR2l.out.below BB l2) HT2.out (HK2l.out.under BB l2) (Nat.le_trans l2 BB.size) (Nat.le_trans l2 BB.size) (by have := sizeT_le_bulkT t2; have := HBT2.out; omega)).mono ?_; rintro e wa ⟨rfl, bn⟩; rw [HRBE.out]; have BB := nextB BB bn)
        | (go_at_call 13; refine (specYield_sts t2 _ _ _ _ HT2.out (HK2l.out.under BB l2) (Nat.le_trans l2 BB.size) (by have := sizeT_le_bulkT t2; have := HBT2.out; omega)).mono ?_; rintro e wa ⟨yv, rfl, sy, bn⟩; have BZ := BB; have BB := nextB BB bn; have SY := Lib.hid (sy.strs (fun x hx => YSM.out x hx)); obtain ⟨Az, dz9, rfl⟩ := sy.shape)
        | (go_at_call 12; refine (lwTexts_any _ _ (yieldOf t2) (yieldOf t2) _ _ _ _ _ (HYl.out.below BB ly) SY.out).mono ?_; rintro e wa ⟨rfl, nn, rfl⟩; rw [HYE.out]; have BB := (show Below wl.heap.size wl (World.drewN _ nn) from ⟨BB.os, BB.tape, BB.output, BB.size, BB.block⟩))
        | (go_at_call 14; refine (implTreeText_t t2 _ _ _ _ HT2.out (HK2l.out.under BB l2) (Nat.le_trans l2 BB.size) (by have := HBT2.out; omega) w.heap.size (HTN.out.on (nextB HBL.out BB)) (by have := HBL.out.size; have := BB.size; omega)).mono ?_; rintro e wa ⟨rfl, bn⟩; have BB := nextB BB bn)
        | (go_at_call 15; refine (specTreeText_t t2 _ _ _ _ HT2.out (HK2l.out.under BB l2) (Nat.le_trans l2 BB.size) (by have := HBT2.out; omega)).mono ?_; rintro e wa ⟨rfl, bn⟩; have BB := nextB BB bn)
        | (go_at_call 16; refine (implSizeOf_any t2 _ _ _ _ HT2.out (HK2l.out.under BB l2) (Nat.le_trans l2 BB.size) (by have := sizeT_le_bulkT t2; have := HBT2.out; omega)).mono ?_; rintro e wa ⟨rfl, bn⟩; have BB := nextB BB bn)
        | (go_at_call 17; refine (specSizeOf_any t2 _ _ _ _ _ (HK2l.out.under BB l2) (Nat.le_trans l2 BB.size) (by have := sizeT_le_bulkT t2; have := HBT2.out; omega)).mono ?_; rintro e wa ⟨rfl, bn⟩; have BB := nextB BB bn)
        | (go_at_call 18; refine (implTreeSame_any ta tb _ _ _ _ _ HTA.out HTB.out (HKA.out.under BB z3l) (HKB.out.under BB z3l) (Nat.le_trans z3l BB.size) (by have := sizeT_le_bulkT ta; have := HBA.out; omega)).mono ?_; rintro e wa ⟨r9, rfl, hr9, bn⟩; have BB := nextB BB bn; obtain rfl : sm = r9 := by rw [Bool.eq_iff_iff, hr9, HSM.out])
        | (go_at_call 19; refine (specTreeSame_any ta tb true _ _ _ _ _ _ _ (HKA.out.under BB z3l) (HKB.out.under BB z3l) (Nat.le_trans z3l BB.size) (Nat.le_trans z3l BB.size)).mono ?_; rintro e wa ⟨r9, rfl, hr9, bn⟩; have BB := nextB BB bn; obtain rfl : sm = r9 := by rw [Bool.eq_iff_iff, hr9, HSM.out]))
    all_goals
      go_wp2_with fail
      go_meet
      exact ⟨rfl, BB⟩
  case rest =>
    obtain ⟨rfl, BW⟩ := hcut
    have HBLc := Lib.hid (nextB HBL.out BW)
    have HRc := Lib.hid (HRl.out.below BW l1)
    have HSc := Lib.hid (HSl.out.below BW l1)
    have HR2c := Lib.hid (HR2l.out.below BW l2)
    have HK2c := Lib.hid (HK2l.out.under BW l2)
    have HYc := Lib.hid (HYl.out.below BW ly)
    have l1c := Nat.le_trans l1 BW.size
    have l2c := Nat.le_trans l2 BW.size
    have lyc := Nat.le_trans ly BW.size
    have d5 := (BW.cell (p := ⟨w1.heap.size, 0, none⟩) m5).trans c5
    have d9 := (BW.cell (p := ⟨w2.heap.size, 0, none⟩) m9).trans c9
    have d100 := (BW.cell (p := ⟨w2.heap.size + 1, 0, none⟩) m10).trans c100
    have d101 := (BW.cell (p := ⟨w2.heap.size + 1, 1, none⟩) m10).trans c101
    have d102 := (BW.cell (p := ⟨w2.heap.size + 1, 2, none⟩) m10).trans c102
    have n5 := Nat.lt_of_lt_of_le m5 BW.size
    have n9 := Nat.lt_of_lt_of_le m9 BW.size
    have n10 := Nat.lt_of_lt_of_le m10 BW.size
    clear BW HRl HSl HKl HR2l HK2l HYl HKA HKB HBL c5 c9 c70 c71 c72 c100 c101 c102 c120 c121 c122 c130 c131 c132 m5 m7 m9 m10 m12 m13 l1 l2 ly dm dt
    have hys := yieldOf_size t2
    have dlt : decide ((sizeT t2 : Int) < ((yieldOf t2).length : Int)) = false := decide_eq_false (by omega)
    have dlt2 : decide (sizeT t2 < (yieldOf t2).length) = false := decide_eq_false (by omega)
    have HYSZ := Lib.hid hys
    clear hys
    go_upto_region 10 with fail
    go_cut [107] from 89 to 107 (fun s107 wx => s107 = .bool false ∧ Below wc.heap.size wc wx)
    case first =>
      go_wp2_with fail
      refine (implSizeOf_any t2 _ _ _ _ HT2.out HK2c.out l2c (by have := sizeT_le_bulkT t2; have := HBT2.out; omega)).mono ?_
      rintro e x1 ⟨rfl, e1⟩
      have f5 := (e1.cell (p := ⟨w1.heap.size, 0, none⟩) n5).trans d5
      have HE1 := Lib.hid e1
      clear e1
      cases sb with
      | false =>
        go_wp2_with fail
        go_meet
        exact ⟨rfl, HE1.out⟩
      | true =>
        by_cases h12 : ts.length ≤ 12
        · have d12 : decide ((ts.length : Int) ≤ 12) = true := decide_eq_true (by omega)
          have hd := says_der HSBE.out h12
          have HD := Lib.hid hd
          clear hd
          go_wp2_with fail
          refine (implDerives_any rs ts _ _ _ _ _ _ _ (HRc.out.below HE1.out l1c) (Nat.le_trans l1c HE1.out.size) (HSc.out.below HE1.out l1c) (Nat.le_trans l1c HE1.out.size)).mono ?_
          rintro e x2 ⟨rfl, e2⟩
          rw [HD.out]
          have E2 := nextB HE1.out e2
          go_wp2_with fail
          go_meet
          exact ⟨rfl, E2⟩
        · have d12 : decide ((ts.length : Int) ≤ 12) = false := decide_eq_false (by omega)
          go_wp2_with fail
          go_meet
          exact ⟨rfl, HE1.out⟩
    case rest =>
      obtain ⟨rfl, BX⟩ := hcut
      rename World => wz
      have HBLz := Lib.hid (nextB HBLc.out BX)
      have HR2z := Lib.hid (HR2c.out.below BX l2c)
      have HK2z := Lib.hid (HK2c.out.under BX l2c)
      have HYz := Lib.hid (HYc.out.below BX lyc)
      have l2z := Nat.le_trans l2c BX.size
      have lyz := Nat.le_trans lyc BX.size
      have c9 := (BX.cell (p := ⟨w2.heap.size, 0, none⟩) n9).trans d9
      have c100 := (BX.cell (p := ⟨w2.heap.size + 1, 0, none⟩) n10).trans d100
      have c101 := (BX.cell (p := ⟨w2.heap.size + 1, 1, none⟩) n10).trans d101
      have c102 := (BX.cell (p := ⟨w2.heap.size + 1, 2, none⟩) n10).trans d102
      have m9 := Nat.lt_of_lt_of_le n9 BX.size
      have m10 := Nat.lt_of_lt_of_le n10 BX.size
      clear BX HRc HSc HR2c HK2c HYc HBLc d5 d9 d100 d101 d102 n5 n9 n10 l1c l2c lyc dlt dlt2
      cases rb with
      | false =>
        go_wp2_with fail
        have BB : Below wz.heap.size wz wz.drew := (Below.refl _ _).drew
        refine wp_region_held_drew (S := fun w' => w'.cell? ⟨w2.heap.size, 0, none⟩ = some (.slice Av2 rs2.length cv2) ∧ w'.cell? ⟨w2.heap.size + 1, 0, none⟩ = some (.int .i64 t2.rule) ∧ w'.cell? ⟨w2.heap.size + 1, 1, none⟩ = some (.string t2.tok) ∧ w'.cell? ⟨w2.heap.size + 1, 2, none⟩ = some (.slice Au2 t2.kids.length cu2)) (by kernel_rfl) ⟨(BB.cell (p := ⟨w2.heap.size, 0, none⟩) m9).trans c9, (BB.cell (p := ⟨w2.heap.size + 1, 0, none⟩) m10).trans c100, (BB.cell (p := ⟨w2.heap.size + 1, 1, none⟩) m10).trans c101, (BB.cell (p := ⟨w2.heap.size + 1, 2, none⟩) m10).trans c102⟩ (fun hHeld => ?_)
        refine wpAnyH_take (i := 0) (v := ?_) rfl (by kernel_rfl) (by kernel_rfl) (by kernel_rfl) (fun _ _ _ h => h) (Or.inl ⟨by rfl, ?_⟩) (by assumption) ?_
        rotate_left
        · intro w' hSw
          try dsimp only at hSw
          go_simp
          try with_reducible rfl
        simp only [Act.put, List.setIfInBounds_toArray, List.set_cons_zero, List.set_cons_succ, List.getElem_toArray, List.getElem_cons_zero, List.getElem_cons_succ]
        refine wpAnyH_take (i := 1) (v := ?_) rfl (by kernel_rfl) (by kernel_rfl) (by kernel_rfl) (fun _ _ _ h => h) (Or.inl ⟨by rfl, ?_⟩) (by assumption) ?_
        rotate_left
        · intro w' hSw
          try dsimp only at hSw
          go_simp
          try with_reducible rfl
        simp only [Act.put, List.setIfInBounds_toArray, List.set_cons_zero, List.set_cons_succ, List.getElem_toArray, List.getElem_cons_zero, List.getElem_cons_succ]
        refine wpAnyH_ready (rs := [2]) (by kernel_rfl) (by simp) ?_
        refine AllReadyH.cons rfl (fun K hK => ?_) AllReadyH.nil
        go_simp
        go_at_call 11
        refine (specTreeRight_any rs2 t2 _ _ _ _ _ _ _ (HR2z.out.below BB l2z) HT2.out (HK2z.out.under BB l2z) (Nat.le_trans l2z BB.size) (Nat.le_trans l2z BB.size) (by have := sizeT_le_bulkT t2; have := HBT2.out; omega)).mono ?_
        rintro e wf ⟨rfl, bf⟩
        rw [HRBE.out]
        have BB := nextB BB bf
        go_wp2_with fail
        refine hK.out _ _ ⟨(BB.cell (p := ⟨w2.heap.size, 0, none⟩) m9).trans c9, (BB.cell (p := ⟨w2.heap.size + 1, 0, none⟩) m10).trans c100, (BB.cell (p := ⟨w2.heap.size + 1, 1, none⟩) m10).trans c101, (BB.cell (p := ⟨w2.heap.size + 1, 2, none⟩) m10).trans c102⟩ (fun hHeld => ?_)
        clear hK K
        try simp only [Act.put, List.setIfInBounds_toArray, List.set_cons_zero, List.set_cons_succ, List.getElem_toArray, List.getElem_cons_zero, List.getElem_cons_succ]
        refine wpAnyH_take (i := 3) (v := ?_) rfl (by kernel_rfl) (by kernel_rfl) (by kernel_rfl) (fun _ _ _ h => h) (Or.inl ⟨by rfl, ?_⟩) (by assumption) ?_
        rotate_left
        · intro w' hSw
          try dsimp only at hSw
          go_simp
          try with_reducible rfl
        simp only [Act.put, List.setIfInBounds_toArray, List.set_cons_zero, List.set_cons_succ, List.getElem_toArray, List.getElem_cons_zero, List.getElem_cons_succ]
        refine wpAnyH_take (i := 4) (v := ?_) rfl (by kernel_rfl) (by kernel_rfl) (by kernel_rfl) (fun _ _ _ h => h) (Or.inl ⟨by rfl, ?_⟩) (by assumption) ?_
        rotate_left
        · intro w' hSw
          try dsimp only at hSw
          go_simp
          try with_reducible rfl
        simp only [Act.put, List.setIfInBounds_toArray, List.set_cons_zero, List.set_cons_succ, List.getElem_toArray, List.getElem_cons_zero, List.getElem_cons_succ]
        refine wpAnyH_take (i := 5) (v := undef) rfl (by kernel_rfl) (by kernel_rfl) (by kernel_rfl) (fun _ _ _ h => h) (Or.inr ⟨by rfl, rfl⟩) (by assumption) ?_
        simp only [Act.put, List.setIfInBounds_toArray, List.set_cons_zero, List.set_cons_succ, List.getElem_toArray, List.getElem_cons_zero, List.getElem_cons_succ]
        refine wpAnyH_take (i := 6) (v := undef) rfl (by kernel_rfl) (by kernel_rfl) (by kernel_rfl) (fun _ _ _ h => h) (Or.inr ⟨by rfl, rfl⟩) (by assumption) ?_
        simp only [Act.put, List.setIfInBounds_toArray, List.set_cons_zero, List.set_cons_succ, List.getElem_toArray, List.getElem_cons_zero, List.getElem_cons_succ]
        refine wpAnyH_take (i := 7) (v := undef) rfl (by kernel_rfl) (by kernel_rfl) (by kernel_rfl) (fun _ _ _ h => h) (Or.inr ⟨by rfl, rfl⟩) (by assumption) ?_
        simp only [Act.put, List.setIfInBounds_toArray, List.set_cons_zero, List.set_cons_succ, List.getElem_toArray, List.getElem_cons_zero, List.getElem_cons_succ]
        refine wpAnyH_take (i := 8) (v := ?_) rfl (by kernel_rfl) (by kernel_rfl) (by kernel_rfl) (fun _ _ _ h => h) (Or.inl ⟨by rfl, ?_⟩) (by assumption) ?_
        rotate_left
        · intro w' hSw
          try dsimp only at hSw
          go_simp
          try with_reducible rfl
        simp only [Act.put, List.setIfInBounds_toArray, List.set_cons_zero, List.set_cons_succ, List.getElem_toArray, List.getElem_cons_zero, List.getElem_cons_succ]
        refine wpAnyH_take (i := 9) (v := ?_) rfl (by kernel_rfl) (by kernel_rfl) (by kernel_rfl) (fun _ _ _ h => h) (Or.inl ⟨by rfl, ?_⟩) (by assumption) ?_
        rotate_left
        · intro w' hSw
          try dsimp only at hSw
          go_simp
          try with_reducible rfl
        simp only [Act.put, List.setIfInBounds_toArray, List.set_cons_zero, List.set_cons_succ, List.getElem_toArray, List.getElem_cons_zero, List.getElem_cons_succ]
        refine wpAnyH_take (i := 10) (v := undef) rfl (by kernel_rfl) (by kernel_rfl) (by kernel_rfl) (fun _ _ _ h => h) (Or.inr ⟨by rfl, rfl⟩) (by assumption) ?_
        simp only [Act.put, List.setIfInBounds_toArray, List.set_cons_zero, List.set_cons_succ, List.getElem_toArray, List.getElem_cons_zero, List.getElem_cons_succ]
        refine wpAnyH_take (i := 11) (v := undef) rfl (by kernel_rfl) (by kernel_rfl) (by kernel_rfl) (fun _ _ _ h => h) (Or.inr ⟨by rfl, rfl⟩) (by assumption) ?_
        simp only [Act.put, List.setIfInBounds_toArray, List.set_cons_zero, List.set_cons_succ, List.getElem_toArray, List.getElem_cons_zero, List.getElem_cons_succ]
        refine wpAnyH_take (i := 12) (v := undef) rfl (by kernel_rfl) (by kernel_rfl) (by kernel_rfl) (fun _ _ _ h => h) (Or.inr ⟨by rfl, rfl⟩) (by assumption) ?_
        simp only [Act.put, List.setIfInBounds_toArray, List.set_cons_zero, List.set_cons_succ, List.getElem_toArray, List.getElem_cons_zero, List.getElem_cons_succ]
        refine wpAnyH_take (i := 13) (v := undef) rfl (by kernel_rfl) (by kernel_rfl) (by kernel_rfl) (fun _ _ _ h => h) (Or.inr ⟨by rfl, rfl⟩) (by assumption) ?_
        simp only [Act.put, List.setIfInBounds_toArray, List.set_cons_zero, List.set_cons_succ, List.getElem_toArray, List.getElem_cons_zero, List.getElem_cons_succ]
        refine wpAnyH_take (i := 14) (v := undef) rfl (by kernel_rfl) (by kernel_rfl) (by kernel_rfl) (fun _ _ _ h => h) (Or.inr ⟨by rfl, rfl⟩) (by assumption) ?_
        simp only [Act.put, List.setIfInBounds_toArray, List.set_cons_zero, List.set_cons_succ, List.getElem_toArray, List.getElem_cons_zero, List.getElem_cons_succ]
        refine wpAnyH_take (i := 15) (v := undef) rfl (by kernel_rfl) (by kernel_rfl) (by kernel_rfl) (fun _ _ _ h => h) (Or.inr ⟨by rfl, rfl⟩) (by assumption) ?_
        simp only [Act.put, List.setIfInBounds_toArray, List.set_cons_zero, List.set_cons_succ, List.getElem_toArray, List.getElem_cons_zero, List.getElem_cons_succ]
        refine wpAnyH_take (i := 16) (v := undef) rfl (by kernel_rfl) (by kernel_rfl) (by kernel_rfl) (fun _ _ _ h => h) (Or.inr ⟨by rfl, rfl⟩) (by assumption) ?_
        simp only [Act.put, List.setIfInBounds_toArray, List.set_cons_zero, List.set_cons_succ, List.getElem_toArray, List.getElem_cons_zero, List.getElem_cons_succ]
        refine wpAnyH_take (i := 17) (v := undef) rfl (by kernel_rfl) (by kernel_rfl) (by kernel_rfl) (fun _ _ _ h => h) (Or.inr ⟨by rfl, rfl⟩) (by assumption) ?_
        simp only [Act.put, List.setIfInBounds_toArray, List.set_cons_zero, List.set_cons_succ, List.getElem_toArray, List.getElem_cons_zero, List.getElem_cons_succ]
        refine wpAnyH_take (i := 18) (v := undef) rfl (by kernel_rfl) (by kernel_rfl) (by kernel_rfl) (fun _ _ _ h => h) (Or.inr ⟨by rfl, rfl⟩) (by assumption) ?_
        simp only [Act.put, List.setIfInBounds_toArray, List.set_cons_zero, List.set_cons_succ, List.getElem_toArray, List.getElem_cons_zero, List.getElem_cons_succ]
        refine wpAnyH_take (i := 19) (v := undef) rfl (by kernel_rfl) (by kernel_rfl) (by kernel_rfl) (fun _ _ _ h => h) (Or.inr ⟨by rfl, rfl⟩) (by assumption) ?_
        simp only [Act.put, List.setIfInBounds_toArray, List.set_cons_zero, List.set_cons_succ, List.getElem_toArray, List.getElem_cons_zero, List.getElem_cons_succ]
        refine wpAnyH_take (i := 20) (v := undef) rfl (by kernel_rfl) (by kernel_rfl) (by kernel_rfl) (fun _ _ _ h => h) (Or.inr ⟨by rfl, rfl⟩) (by assumption) ?_
        simp only [Act.put, List.setIfInBounds_toArray, List.set_cons_zero, List.set_cons_succ, List.getElem_toArray, List.getElem_cons_zero, List.getElem_cons_succ]
        refine wpAnyH_take (i := 21) (v := undef) rfl (by kernel_rfl) (by kernel_rfl) (by kernel_rfl) (fun _ _ _ h => h) (Or.inr ⟨by rfl, rfl⟩) (by assumption) ?_
        simp only [Act.put, List.setIfInBounds_toArray, List.set_cons_zero, List.set_cons_succ, List.getElem_toArray, List.getElem_cons_zero, List.getElem_cons_succ]
        refine wpAnyH_take (i := 22) (v := undef) rfl (by kernel_rfl) (by kernel_rfl) (by kernel_rfl) (fun _ _ _ h => h) (Or.inr ⟨by rfl, rfl⟩) (by assumption) ?_
        simp only [Act.put, List.setIfInBounds_toArray, List.set_cons_zero, List.set_cons_succ, List.getElem_toArray, List.getElem_cons_zero, List.getElem_cons_succ]
        refine wpAnyH_take (i := 23) (v := ?_) rfl (by kernel_rfl) (by kernel_rfl) (by kernel_rfl) (fun _ _ _ h => h) (Or.inl ⟨by rfl, ?_⟩) (by assumption) ?_
        rotate_left
        · intro w' hSw
          try dsimp only at hSw
          go_simp
          try with_reducible rfl
        simp only [Act.put, List.setIfInBounds_toArray, List.set_cons_zero, List.set_cons_succ, List.getElem_toArray, List.getElem_cons_zero, List.getElem_cons_succ]
        refine wpAnyH_take (i := 24) (v := ?_) rfl (by kernel_rfl) (by kernel_rfl) (by kernel_rfl) (fun _ _ _ h => h) (Or.inl ⟨by rfl, ?_⟩) (by assumption) ?_
        rotate_left
        · intro w' hSw
          try dsimp only at hSw
          go_simp
          try with_reducible rfl
        simp only [Act.put, List.setIfInBounds_toArray, List.set_cons_zero, List.set_cons_succ, List.getElem_toArray, List.getElem_cons_zero, List.getElem_cons_succ]
        refine wpAnyH_take (i := 25) (v := undef) rfl (by kernel_rfl) (by kernel_rfl) (by kernel_rfl) (fun _ _ _ h => h) (Or.inr ⟨by rfl, rfl⟩) (by assumption) ?_
        simp only [Act.put, List.setIfInBounds_toArray, List.set_cons_zero, List.set_cons_succ, List.getElem_toArray, List.getElem_cons_zero, List.getElem_cons_succ]
        refine wpAnyH_take (i := 26) (v := undef) rfl (by kernel_rfl) (by kernel_rfl) (by kernel_rfl) (fun _ _ _ h => h) (Or.inr ⟨by rfl, rfl⟩) (by assumption) ?_
        simp only [Act.put, List.setIfInBounds_toArray, List.set_cons_zero, List.set_cons_succ, List.getElem_toArray, List.getElem_cons_zero, List.getElem_cons_succ]
        refine wpAnyH_take (i := 27) (v := undef) rfl (by kernel_rfl) (by kernel_rfl) (by kernel_rfl) (fun _ _ _ h => h) (Or.inr ⟨by rfl, rfl⟩) (by assumption) ?_
        simp only [Act.put, List.setIfInBounds_toArray, List.set_cons_zero, List.set_cons_succ, List.getElem_toArray, List.getElem_cons_zero, List.getElem_cons_succ]
        refine wpAnyH_take (i := 28) (v := undef) rfl (by kernel_rfl) (by kernel_rfl) (by kernel_rfl) (fun _ _ _ h => h) (Or.inr ⟨by rfl, rfl⟩) (by assumption) ?_
        simp only [Act.put, List.setIfInBounds_toArray, List.set_cons_zero, List.set_cons_succ, List.getElem_toArray, List.getElem_cons_zero, List.getElem_cons_succ]
        refine wpAnyH_take (i := 29) (v := ?_) rfl (by kernel_rfl) (by kernel_rfl) (by kernel_rfl) (fun _ _ _ h => h) (Or.inl ⟨by rfl, ?_⟩) (by assumption) ?_
        rotate_left
        · intro w' hSw
          try dsimp only at hSw
          go_simp
          try with_reducible rfl
        simp only [Act.put, List.setIfInBounds_toArray, List.set_cons_zero, List.set_cons_succ, List.getElem_toArray, List.getElem_cons_zero, List.getElem_cons_succ]
        refine wpAnyH_take (i := 30) (v := ?_) rfl (by kernel_rfl) (by kernel_rfl) (by kernel_rfl) (fun _ _ _ h => h) (Or.inl ⟨by rfl, ?_⟩) (by assumption) ?_
        rotate_left
        · intro w' hSw
          try dsimp only at hSw
          go_simp
          try with_reducible rfl
        simp only [Act.put, List.setIfInBounds_toArray, List.set_cons_zero, List.set_cons_succ, List.getElem_toArray, List.getElem_cons_zero, List.getElem_cons_succ]
        refine wpAnyH_done (by kernel_rfl) ?_ _
        have FIN := Lib.hid (nextB HBLz.out BB)
        go_wp2
        go_ret
        exact ⟨rfl, FIN.out⟩
      | true =>
        by_cases hneg : t2.rule < 0
        · have dneg : decide (t2.rule < 0) = true := decide_eq_true hneg
          go_wp2_with fail
          have BB : Below wz.heap.size wz wz.drew := (Below.refl _ _).drew
          refine wp_region_held_drew (S := fun w' => w'.cell? ⟨w2.heap.size, 0, none⟩ = some (.slice Av2 rs2.length cv2) ∧ w'.cell? ⟨w2.heap.size + 1, 0, none⟩ = some (.int .i64 t2.rule) ∧ w'.cell? ⟨w2.heap.size + 1, 1, none⟩ = some (.string t2.tok) ∧ w'.cell? ⟨w2.heap.size + 1, 2, none⟩ = some (.slice Au2 t2.kids.length cu2)) (by kernel_rfl) ⟨(BB.cell (p := ⟨w2.heap.size, 0, none⟩) m9).trans c9, (BB.cell (p := ⟨w2.heap.size + 1, 0, none⟩) m10).trans c100, (BB.cell (p := ⟨w2.heap.size + 1, 1, none⟩) m10).trans c101, (BB.cell (p := ⟨w2.heap.size + 1, 2, none⟩) m10).trans c102⟩ (fun hHeld => ?_)
          refine wpAnyH_take (i := 0) (v := ?_) rfl (by kernel_rfl) (by kernel_rfl) (by kernel_rfl) (fun _ _ _ h => h) (Or.inl ⟨by rfl, ?_⟩) (by assumption) ?_
          rotate_left
          · intro w' hSw
            try dsimp only at hSw
            go_simp
            try with_reducible rfl
          simp only [Act.put, List.setIfInBounds_toArray, List.set_cons_zero, List.set_cons_succ, List.getElem_toArray, List.getElem_cons_zero, List.getElem_cons_succ]
          refine wpAnyH_take (i := 1) (v := ?_) rfl (by kernel_rfl) (by kernel_rfl) (by kernel_rfl) (fun _ _ _ h => h) (Or.inl ⟨by rfl, ?_⟩) (by assumption) ?_
          rotate_left
          · intro w' hSw
            try dsimp only at hSw
            go_simp
            try with_reducible rfl
          simp only [Act.put, List.setIfInBounds_toArray, List.set_cons_zero, List.set_cons_succ, List.getElem_toArray, List.getElem_cons_zero, List.getElem_cons_succ]
          refine wpAnyH_ready (rs := [2]) (by kernel_rfl) (by simp) ?_
          refine AllReadyH.cons rfl (fun K hK => ?_) AllReadyH.nil
          go_simp
          go_at_call 11
          refine (specTreeRight_any rs2 t2 _ _ _ _ _ _ _ (HR2z.out.below BB l2z) HT2.out (HK2z.out.under BB l2z) (Nat.le_trans l2z BB.size) (Nat.le_trans l2z BB.size) (by have := sizeT_le_bulkT t2; have := HBT2.out; omega)).mono ?_
          rintro e wf ⟨rfl, bf⟩
          rw [HRBE.out]
          have BB := nextB BB bf
          go_wp2_with fail
          refine hK.out _ _ ⟨(BB.cell (p := ⟨w2.heap.size, 0, none⟩) m9).trans c9, (BB.cell (p := ⟨w2.heap.size + 1, 0, none⟩) m10).trans c100, (BB.cell (p := ⟨w2.heap.size + 1, 1, none⟩) m10).trans c101, (BB.cell (p := ⟨w2.heap.size + 1, 2, none⟩) m10).trans c102⟩ (fun hHeld => ?_)
          clear hK K
          try simp only [Act.put, List.setIfInBounds_toArray, List.set_cons_zero, List.set_cons_succ, List.getElem_toArray, List.getElem_cons_zero, List.getElem_cons_succ]
          refine wpAnyH_take (i := 3) (v := ?_) rfl (by kernel_rfl) (by kernel_rfl) (by kernel_rfl) (fun _ _ _ h => h) (Or.inl ⟨by rfl, ?_⟩) (by assumption) ?_
          rotate_left
          · intro w' hSw
            try dsimp only at hSw
            go_simp
            try with_reducible rfl
          simp only [Act.put, List.setIfInBounds_toArray, List.set_cons_zero, List.set_cons_succ, List.getElem_toArray, List.getElem_cons_zero, List.getElem_cons_succ]
          refine wpAnyH_take (i := 4) (v := ?_) rfl (by kernel_rfl) (by kernel_rfl) (by kernel_rfl) (fun _ _ _ h => h) (Or.inl ⟨by rfl, ?_⟩) (by assumption) ?_
          rotate_left
          · intro w' hSw
            try dsimp only at hSw
            go_simp
            try with_reducible rfl
          simp only [Act.put, List.setIfInBounds_toArray, List.set_cons_zero, List.set_cons_succ, List.getElem_toArray, List.getElem_cons_zero, List.getElem_cons_succ]
          refine wpAnyH_take (i := 5) (v := ?_) rfl (by kernel_rfl) (by kernel_rfl) (by kernel_rfl) (fun _ _ _ h => h) (Or.inl ⟨by rfl, ?_⟩) (by assumption) ?_
          rotate_left
          · intro w' hSw
            try dsimp only at hSw
            go_simp
            try with_reducible rfl
          simp only [Act.put, List.setIfInBounds_toArray, List.set_cons_zero, List.set_cons_succ, List.getElem_toArray, List.getElem_cons_zero, List.getElem_cons_succ]
          refine wpAnyH_take (i := 6) (v := ?_) rfl (by kernel_rfl) (by kernel_rfl) (by kernel_rfl) (fun _ _ _ h => h) (Or.inl ⟨by rfl, ?_⟩) (by assumption) ?_
          rotate_left
          · intro w' hSw
            try dsimp only at hSw
            go_simp
            try with_reducible rfl
          simp only [Act.put, List.setIfInBounds_toArray, List.set_cons_zero, List.set_cons_succ, List.getElem_toArray, List.getElem_cons_zero, List.getElem_cons_succ]
          refine wpAnyH_take (i := 7) (v := ?_) rfl (by kernel_rfl) (by kernel_rfl) (by kernel_rfl) (fun _ _ _ h => h) (Or.inl ⟨by rfl, ?_⟩) (by assumption) ?_
          rotate_left
          · intro w' hSw
            try dsimp only at hSw
            go_simp
            try with_reducible rfl
          simp only [Act.put, List.setIfInBounds_toArray, List.set_cons_zero, List.set_cons_succ, List.getElem_toArray, List.getElem_cons_zero, List.getElem_cons_succ]
          refine wpAnyH_take (i := 8) (v := ?_) rfl (by kernel_rfl) (by kernel_rfl) (by kernel_rfl) (fun _ _ _ h => h) (Or.inl ⟨by rfl, ?_⟩) (by assumption) ?_
          rotate_left
          · intro w' hSw
            try dsimp only at hSw
            go_simp
            try with_reducible rfl
          simp only [Act.put, List.setIfInBounds_toArray, List.set_cons_zero, List.set_cons_succ, List.getElem_toArray, List.getElem_cons_zero, List.getElem_cons_succ]
          refine wpAnyH_take (i := 9) (v := ?_) rfl (by kernel_rfl) (by kernel_rfl) (by kernel_rfl) (fun _ _ _ h => h) (Or.inl ⟨by rfl, ?_⟩) (by assumption) ?_
          rotate_left
          · intro w' hSw
            try dsimp only at hSw
            go_simp
            try with_reducible rfl
          simp only [Act.put, List.setIfInBounds_toArray, List.set_cons_zero, List.set_cons_succ, List.getElem_toArray, List.getElem_cons_zero, List.getElem_cons_succ]
          refine wpAnyH_take (i := 10) (v := undef) rfl (by kernel_rfl) (by kernel_rfl) (by kernel_rfl) (fun _ _ _ h => h) (Or.inr ⟨by rfl, rfl⟩) (by assumption) ?_
          simp only [Act.put, List.setIfInBounds_toArray, List.set_cons_zero, List.set_cons_succ, List.getElem_toArray, List.getElem_cons_zero, List.getElem_cons_succ]
          refine wpAnyH_take (i := 11) (v := undef) rfl (by kernel_rfl) (by kernel_rfl) (by kernel_rfl) (fun _ _ _ h => h) (Or.inr ⟨by rfl, rfl⟩) (by assumption) ?_
          simp only [Act.put, List.setIfInBounds_toArray, List.set_cons_zero, List.set_cons_succ, List.getElem_toArray, List.getElem_cons_zero, List.getElem_cons_succ]
          refine wpAnyH_take (i := 12) (v := undef) rfl (by kernel_rfl) (by kernel_rfl) (by kernel_rfl) (fun _ _ _ h => h) (Or.inr ⟨by rfl, rfl⟩) (by assumption) ?_
          simp only [Act.put, List.setIfInBounds_toArray, List.set_cons_zero, List.set_cons_succ, List.getElem_toArray, List.getElem_cons_zero, List.getElem_cons_succ]
          refine wpAnyH_take (i := 13) (v := undef) rfl (by kernel_rfl) (by kernel_rfl) (by kernel_rfl) (fun _ _ _ h => h) (Or.inr ⟨by rfl, rfl⟩) (by assumption) ?_
          simp only [Act.put, List.setIfInBounds_toArray, List.set_cons_zero, List.set_cons_succ, List.getElem_toArray, List.getElem_cons_zero, List.getElem_cons_succ]
          refine wpAnyH_take (i := 14) (v := undef) rfl (by kernel_rfl) (by kernel_rfl) (by kernel_rfl) (fun _ _ _ h => h) (Or.inr ⟨by rfl, rfl⟩) (by assumption) ?_
          simp only [Act.put, List.setIfInBounds_toArray, List.set_cons_zero, List.set_cons_succ, List.getElem_toArray, List.getElem_cons_zero, List.getElem_cons_succ]
          refine wpAnyH_take (i := 15) (v := undef) rfl (by kernel_rfl) (by kernel_rfl) (by kernel_rfl) (fun _ _ _ h => h) (Or.inr ⟨by rfl, rfl⟩) (by assumption) ?_
          simp only [Act.put, List.setIfInBounds_toArray, List.set_cons_zero, List.set_cons_succ, List.getElem_toArray, List.getElem_cons_zero, List.getElem_cons_succ]
          refine wpAnyH_take (i := 16) (v := undef) rfl (by kernel_rfl) (by kernel_rfl) (by kernel_rfl) (fun _ _ _ h => h) (Or.inr ⟨by rfl, rfl⟩) (by assumption) ?_
          simp only [Act.put, List.setIfInBounds_toArray, List.set_cons_zero, List.set_cons_succ, List.getElem_toArray, List.getElem_cons_zero, List.getElem_cons_succ]
          refine wpAnyH_take (i := 17) (v := undef) rfl (by kernel_rfl) (by kernel_rfl) (by kernel_rfl) (fun _ _ _ h => h) (Or.inr ⟨by rfl, rfl⟩) (by assumption) ?_
          simp only [Act.put, List.setIfInBounds_toArray, List.set_cons_zero, List.set_cons_succ, List.getElem_toArray, List.getElem_cons_zero, List.getElem_cons_succ]
          refine wpAnyH_take (i := 18) (v := undef) rfl (by kernel_rfl) (by kernel_rfl) (by kernel_rfl) (fun _ _ _ h => h) (Or.inr ⟨by rfl, rfl⟩) (by assumption) ?_
          simp only [Act.put, List.setIfInBounds_toArray, List.set_cons_zero, List.set_cons_succ, List.getElem_toArray, List.getElem_cons_zero, List.getElem_cons_succ]
          refine wpAnyH_take (i := 19) (v := undef) rfl (by kernel_rfl) (by kernel_rfl) (by kernel_rfl) (fun _ _ _ h => h) (Or.inr ⟨by rfl, rfl⟩) (by assumption) ?_
          simp only [Act.put, List.setIfInBounds_toArray, List.set_cons_zero, List.set_cons_succ, List.getElem_toArray, List.getElem_cons_zero, List.getElem_cons_succ]
          refine wpAnyH_take (i := 20) (v := undef) rfl (by kernel_rfl) (by kernel_rfl) (by kernel_rfl) (fun _ _ _ h => h) (Or.inr ⟨by rfl, rfl⟩) (by assumption) ?_
          simp only [Act.put, List.setIfInBounds_toArray, List.set_cons_zero, List.set_cons_succ, List.getElem_toArray, List.getElem_cons_zero, List.getElem_cons_succ]
          refine wpAnyH_take (i := 21) (v := undef) rfl (by kernel_rfl) (by kernel_rfl) (by kernel_rfl) (fun _ _ _ h => h) (Or.inr ⟨by rfl, rfl⟩) (by assumption) ?_
          simp only [Act.put, List.setIfInBounds_toArray, List.set_cons_zero, List.set_cons_succ, List.getElem_toArray, List.getElem_cons_zero, List.getElem_cons_succ]
          refine wpAnyH_take (i := 22) (v := undef) rfl (by kernel_rfl) (by kernel_rfl) (by kernel_rfl) (fun _ _ _ h => h) (Or.inr ⟨by rfl, rfl⟩) (by assumption) ?_
          simp only [Act.put, List.setIfInBounds_toArray, List.set_cons_zero, List.set_cons_succ, List.getElem_toArray, List.getElem_cons_zero, List.getElem_cons_succ]
          refine wpAnyH_take (i := 23) (v := ?_) rfl (by kernel_rfl) (by kernel_rfl) (by kernel_rfl) (fun _ _ _ h => h) (Or.inl ⟨by rfl, ?_⟩) (by assumption) ?_
          rotate_left
          · intro w' hSw
            try dsimp only at hSw
            go_simp
            try with_reducible rfl
          simp only [Act.put, List.setIfInBounds_toArray, List.set_cons_zero, List.set_cons_succ, List.getElem_toArray, List.getElem_cons_zero, List.getElem_cons_succ]
          refine wpAnyH_take (i := 24) (v := ?_) rfl (by kernel_rfl) (by kernel_rfl) (by kernel_rfl) (fun _ _ _ h => h) (Or.inl ⟨by rfl, ?_⟩) (by assumption) ?_
          rotate_left
          · intro w' hSw
            try dsimp only at hSw
            go_simp
            try with_reducible rfl
          simp only [Act.put, List.setIfInBounds_toArray, List.set_cons_zero, List.set_cons_succ, List.getElem_toArray, List.getElem_cons_zero, List.getElem_cons_succ]
          refine wpAnyH_take (i := 25) (v := undef) rfl (by kernel_rfl) (by kernel_rfl) (by kernel_rfl) (fun _ _ _ h => h) (Or.inr ⟨by rfl, rfl⟩) (by assumption) ?_
          simp only [Act.put, List.setIfInBounds_toArray, List.set_cons_zero, List.set_cons_succ, List.getElem_toArray, List.getElem_cons_zero, List.getElem_cons_succ]
          refine wpAnyH_take (i := 26) (v := undef) rfl (by kernel_rfl) (by kernel_rfl) (by kernel_rfl) (fun _ _ _ h => h) (Or.inr ⟨by rfl, rfl⟩) (by assumption) ?_
          simp only [Act.put, List.setIfInBounds_toArray, List.set_cons_zero, List.set_cons_succ, List.getElem_toArray, List.getElem_cons_zero, List.getElem_cons_succ]
          refine wpAnyH_take (i := 27) (v := undef) rfl (by kernel_rfl) (by kernel_rfl) (by kernel_rfl) (fun _ _ _ h => h) (Or.inr ⟨by rfl, rfl⟩) (by assumption) ?_
          simp only [Act.put, List.setIfInBounds_toArray, List.set_cons_zero, List.set_cons_succ, List.getElem_toArray, List.getElem_cons_zero, List.getElem_cons_succ]
          refine wpAnyH_take (i := 28) (v := undef) rfl (by kernel_rfl) (by kernel_rfl) (by kernel_rfl) (fun _ _ _ h => h) (Or.inr ⟨by rfl, rfl⟩) (by assumption) ?_
          simp only [Act.put, List.setIfInBounds_toArray, List.set_cons_zero, List.set_cons_succ, List.getElem_toArray, List.getElem_cons_zero, List.getElem_cons_succ]
          refine wpAnyH_take (i := 29) (v := ?_) rfl (by kernel_rfl) (by kernel_rfl) (by kernel_rfl) (fun _ _ _ h => h) (Or.inl ⟨by rfl, ?_⟩) (by assumption) ?_
          rotate_left
          · intro w' hSw
            try dsimp only at hSw
            go_simp
            try with_reducible rfl
          simp only [Act.put, List.setIfInBounds_toArray, List.set_cons_zero, List.set_cons_succ, List.getElem_toArray, List.getElem_cons_zero, List.getElem_cons_succ]
          refine wpAnyH_take (i := 30) (v := ?_) rfl (by kernel_rfl) (by kernel_rfl) (by kernel_rfl) (fun _ _ _ h => h) (Or.inl ⟨by rfl, ?_⟩) (by assumption) ?_
          rotate_left
          · intro w' hSw
            try dsimp only at hSw
            go_simp
            try with_reducible rfl
          simp only [Act.put, List.setIfInBounds_toArray, List.set_cons_zero, List.set_cons_succ, List.getElem_toArray, List.getElem_cons_zero, List.getElem_cons_succ]
          refine wpAnyH_done (by kernel_rfl) ?_ _
          have FIN := Lib.hid (nextB HBLz.out BB)
          go_wp2
          go_ret
          exact ⟨rfl, FIN.out⟩
        · have dneg : decide (t2.rule < 0) = false := decide_eq_false hneg
          have hnn : 0 ≤ t2.rule := by omega
          have hjl : t2.rule.toNat < rs2.length := right_rule HRBE.out hnn
          have R0 : 0 < rs2.length := by omega
          have HSY := Lib.hid (fun h => right_says HRBE.out hnn hjl R0 h)
          obtain ⟨b2, off2, rfl, hb2, hv1, hv2, -, h1c, -⟩ := HR2z.out.at hjl
          obtain ⟨b3, off3, e3, -, -, -, -, h0c, -⟩ := HR2z.out.at R0
          injection e3 with e3
          injection e3 with e31 e32
          subst e31 e32
          simp only [Nat.zero_mul, Nat.add_zero] at h0c
          unfold maxLen at hv2
          have lb2 : b2 < wz.heap.size := by omega
          have j1 : t2.rule < (rs2.length : Int) := by omega
          have j2 : (0 : Int) < (rs2.length : Int) := by omega
          by_cases hh : (rs2[t2.rule.toNat]).head = (rs2[0]).head
          · have dh : ((rs2[t2.rule.toNat]).head.toList != (rs2[0]).head.toList) = false := by rw [hh]; simp
            have HSYT := Lib.hid (HSY.out hh)
            have dhe : ((rs2[t2.rule.toNat]).head.toList == (rs2[0]).head.toList) = true := by rw [hh]; simp
            have dhd : decide ((rs2[t2.rule.toNat]).head = (rs2[0]).head) = true := decide_eq_true hh
            clear HSY
            go_wp2_with fail
            have BB : Below wz.heap.size wz wz.drew := (Below.refl _ _).drew
            refine wp_region_held_drew (S := fun w' => w'.cell? ⟨w2.heap.size, 0, none⟩ = some (.slice (some ⟨b2, off2, none⟩) rs2.length cv2) ∧ w'.cell? ⟨w2.heap.size + 1, 0, none⟩ = some (.int .i64 t2.rule) ∧ w'.cell? ⟨w2.heap.size + 1, 1, none⟩ = some (.string t2.tok) ∧ w'.cell? ⟨w2.heap.size + 1, 2, none⟩ = some (.slice Au2 t2.kids.length cu2) ∧ w'.cell? ⟨b2, off2 + t2.rule.toNat * 2, none⟩ = some (.string (rs2[t2.rule.toNat]).head) ∧ w'.cell? ⟨b2, off2, none⟩ = some (.string (rs2[0]).head)) (by kernel_rfl) ⟨(BB.cell (p := ⟨w2.heap.size, 0, none⟩) m9).trans c9, (BB.cell (p := ⟨w2.heap.size + 1, 0, none⟩) m10).trans c100, (BB.cell (p := ⟨w2.heap.size + 1, 1, none⟩) m10).trans c101, (BB.cell (p := ⟨w2.heap.size + 1, 2, none⟩) m10).trans c102, (BB.cell (p := ⟨b2, off2 + t2.rule.toNat * 2, none⟩) lb2).trans h1c, (BB.cell (p := ⟨b2, off2, none⟩) lb2).trans h0c⟩ (fun hHeld => ?_)
            refine wpAnyH_take (i := 0) (v := ?_) rfl (by kernel_rfl) (by kernel_rfl) (by kernel_rfl) (fun _ _ _ h => h) (Or.inl ⟨by rfl, ?_⟩) (by assumption) ?_
            rotate_left
            · intro w' hSw
              try dsimp only at hSw
              go_simp
              try with_reducible rfl
            simp only [Act.put, List.setIfInBounds_toArray, List.set_cons_zero, List.set_cons_succ, List.getElem_toArray, List.getElem_cons_zero, List.getElem_cons_succ]
            refine wpAnyH_take (i := 1) (v := ?_) rfl (by kernel_rfl) (by kernel_rfl) (by kernel_rfl) (fun _ _ _ h => h) (Or.inl ⟨by rfl, ?_⟩) (by assumption) ?_
            rotate_left
            · intro w' hSw
              try dsimp only at hSw
              go_simp
              try with_reducible rfl
            simp only [Act.put, List.setIfInBounds_toArray, List.set_cons_zero, List.set_cons_succ, List.getElem_toArray, List.getElem_cons_zero, List.getElem_cons_succ]
            refine wpAnyH_ready (rs := [2]) (by kernel_rfl) (by simp) ?_
            refine AllReadyH.cons rfl (fun K hK => ?_) AllReadyH.nil
            go_simp
            go_at_call 11
            refine (specTreeRight_any rs2 t2 _ _ _ _ _ _ _ (HR2z.out.below BB l2z) HT2.out (HK2z.out.under BB l2z) (Nat.le_trans l2z BB.size) (Nat.le_trans l2z BB.size) (by have := sizeT_le_bulkT t2; have := HBT2.out; omega)).mono ?_
            rintro e wf ⟨rfl, bf⟩
            rw [HRBE.out]
            have BB := nextB BB bf
            go_wp2_with fail
            refine hK.out _ _ ⟨(BB.cell (p := ⟨w2.heap.size, 0, none⟩) m9).trans c9, (BB.cell (p := ⟨w2.heap.size + 1, 0, none⟩) m10).trans c100, (BB.cell (p := ⟨w2.heap.size + 1, 1, none⟩) m10).trans c101, (BB.cell (p := ⟨w2.heap.size + 1, 2, none⟩) m10).trans c102, (BB.cell (p := ⟨b2, off2 + t2.rule.toNat * 2, none⟩) lb2).trans h1c, (BB.cell (p := ⟨b2, off2, none⟩) lb2).trans h0c⟩ (fun hHeld => ?_)
            clear hK K
            try simp only [Act.put, List.setIfInBounds_toArray, List.set_cons_zero, List.set_cons_succ, List.getElem_toArray, List.getElem_cons_zero, List.getElem_cons_succ]
            refine wpAnyH_take (i := 3) (v := ?_) rfl (by kernel_rfl) (by kernel_rfl) (by kernel_rfl) (fun _ _ _ h => h) (Or.inl ⟨by rfl, ?_⟩) (by assumption) ?_
            rotate_left
            · intro w' hSw
              try dsimp only at hSw
              go_simp
              try with_reducible rfl
            simp only [Act.put, List.setIfInBounds_toArray, List.set_cons_zero, List.set_cons_succ, List.getElem_toArray, List.getElem_cons_zero, List.getElem_cons_succ]
            refine wpAnyH_take (i := 4) (v := ?_) rfl (by kernel_rfl) (by kernel_rfl) (by kernel_rfl) (fun _ _ _ h => h) (Or.inl ⟨by rfl, ?_⟩) (by assumption) ?_
            rotate_left
            · intro w' hSw
              try dsimp only at hSw
              go_simp
              try with_reducible rfl
            simp only [Act.put, List.setIfInBounds_toArray, List.set_cons_zero, List.set_cons_succ, List.getElem_toArray, List.getElem_cons_zero, List.getElem_cons_succ]
            refine wpAnyH_take (i := 5) (v := ?_) rfl (by kernel_rfl) (by kernel_rfl) (by kernel_rfl) (fun _ _ _ h => h) (Or.inl ⟨by rfl, ?_⟩) (by assumption) ?_
            rotate_left
            · intro w' hSw
              try dsimp only at hSw
              go_simp
              try with_reducible rfl
            simp only [Act.put, List.setIfInBounds_toArray, List.set_cons_zero, List.set_cons_succ, List.getElem_toArray, List.getElem_cons_zero, List.getElem_cons_succ]
            refine wpAnyH_take (i := 6) (v := ?_) rfl (by kernel_rfl) (by kernel_rfl) (by kernel_rfl) (fun _ _ _ h => h) (Or.inl ⟨by rfl, ?_⟩) (by assumption) ?_
            rotate_left
            · intro w' hSw
              try dsimp only at hSw
              go_simp
              try with_reducible rfl
            simp only [Act.put, List.setIfInBounds_toArray, List.set_cons_zero, List.set_cons_succ, List.getElem_toArray, List.getElem_cons_zero, List.getElem_cons_succ]
            refine wpAnyH_take (i := 7) (v := ?_) rfl (by kernel_rfl) (by kernel_rfl) (by kernel_rfl) (fun _ _ _ h => h) (Or.inl ⟨by rfl, ?_⟩) (by assumption) ?_
            rotate_left
            · intro w' hSw
              try dsimp only at hSw
              go_simp
              try with_reducible rfl
            simp only [Act.put, List.setIfInBounds_toArray, List.set_cons_zero, List.set_cons_succ, List.getElem_toArray, List.getElem_cons_zero, List.getElem_cons_succ]
            refine wpAnyH_take (i := 8) (v := ?_) rfl (by kernel_rfl) (by kernel_rfl) (by kernel_rfl) (fun _ _ _ h => h) (Or.inl ⟨by rfl, ?_⟩) (by assumption) ?_
            rotate_left
            · intro w' hSw
              try dsimp only at hSw
              go_simp
              try with_reducible rfl
            simp only [Act.put, List.setIfInBounds_toArray, List.set_cons_zero, List.set_cons_succ, List.getElem_toArray, List.getElem_cons_zero, List.getElem_cons_succ]
            refine wpAnyH_take (i := 9) (v := ?_) rfl (by kernel_rfl) (by kernel_rfl) (by kernel_rfl) (fun _ _ _ h => h) (Or.inl ⟨by rfl, ?_⟩) (by assumption) ?_
            rotate_left
            · intro w' hSw
              try dsimp only at hSw
              go_simp
              try with_reducible rfl
            simp only [Act.put, List.setIfInBounds_toArray, List.set_cons_zero, List.set_cons_succ, List.getElem_toArray, List.getElem_cons_zero, List.getElem_cons_succ]
            refine wpAnyH_take (i := 10) (v := ?_) rfl (by kernel_rfl) (by kernel_rfl) (by kernel_rfl) (fun _ _ _ h => h) (Or.inl ⟨by rfl, ?_⟩) (by assumption) ?_
            rotate_left
            · intro w' hSw
              try dsimp only at hSw
              go_simp
              try with_reducible rfl
            simp only [Act.put, List.setIfInBounds_toArray, List.set_cons_zero, List.set_cons_succ, List.getElem_toArray, List.getElem_cons_zero, List.getElem_cons_succ]
            refine wpAnyH_take (i := 11) (v := ?_) rfl (by kernel_rfl) (by kernel_rfl) (by kernel_rfl) (fun _ _ _ h => h) (Or.inl ⟨by rfl, ?_⟩) (by assumption) ?_
            rotate_left
            · intro w' hSw
              try dsimp only at hSw
              go_simp
              try with_reducible rfl
            simp only [Act.put, List.setIfInBounds_toArray, List.set_cons_zero, List.set_cons_succ, List.getElem_toArray, List.getElem_cons_zero, List.getElem_cons_succ]
            refine wpAnyH_take (i := 12) (v := ?_) rfl (by kernel_rfl) (by kernel_rfl) (by kernel_rfl) (fun _ _ _ h => h) (Or.inl ⟨by rfl, ?_⟩) (by assumption) ?_
            rotate_left
            · intro w' hSw
              try dsimp only at hSw
              go_simp
              try with_reducible rfl
            simp only [Act.put, List.setIfInBounds_toArray, List.set_cons_zero, List.set_cons_succ, List.getElem_toArray, List.getElem_cons_zero, List.getElem_cons_succ]
            refine wpAnyH_take (i := 13) (v := ?_) rfl (by kernel_rfl) (by kernel_rfl) (by kernel_rfl) (fun _ _ _ h => h) (Or.inl ⟨by rfl, ?_⟩) (by assumption) ?_
            rotate_left
            · intro w' hSw
              try dsimp only at hSw
              go_simp
              try with_reducible rfl
            simp only [Act.put, List.setIfInBounds_toArray, List.set_cons_zero, List.set_cons_succ, List.getElem_toArray, List.getElem_cons_zero, List.getElem_cons_succ]
            refine wpAnyH_take (i := 14) (v := ?_) rfl (by kernel_rfl) (by kernel_rfl) (by kernel_rfl) (fun _ _ _ h => h) (Or.inl ⟨by rfl, ?_⟩) (by assumption) ?_
            rotate_left
            · intro w' hSw
              try dsimp only at hSw
              go_simp
              try with_reducible rfl
            simp only [Act.put, List.setIfInBounds_toArray, List.set_cons_zero, List.set_cons_succ, List.getElem_toArray, List.getElem_cons_zero, List.getElem_cons_succ]
            refine wpAnyH_take (i := 15) (v := ?_) rfl (by kernel_rfl) (by kernel_rfl) (by kernel_rfl) (fun _ _ _ h => h) (Or.inl ⟨by rfl, ?_⟩) (by assumption) ?_
            rotate_left
            · intro w' hSw
              try dsimp only at hSw
              go_simp
              try with_reducible rfl
            simp only [Act.put, List.setIfInBounds_toArray, List.set_cons_zero, List.set_cons_succ, List.getElem_toArray, List.getElem_cons_zero, List.getElem_cons_succ]
            refine wpAnyH_take (i := 16) (v := ?_) rfl (by kernel_rfl) (by kernel_rfl) (by kernel_rfl) (fun _ _ _ h => h) (Or.inl ⟨by rfl, ?_⟩) (by assumption) ?_
            rotate_left
            · intro w' hSw
              try dsimp only at hSw
              go_simp
              try with_reducible rfl
            simp only [Act.put, List.setIfInBounds_toArray, List.set_cons_zero, List.set_cons_succ, List.getElem_toArray, List.getElem_cons_zero, List.getElem_cons_succ]
            refine wpAnyH_take (i := 17) (v := ?_) rfl (by kernel_rfl) (by kernel_rfl) (by kernel_rfl) (fun _ _ _ h => h) (Or.inl ⟨by rfl, ?_⟩) (by assumption) ?_
            rotate_left
            · intro w' hSw
              try dsimp only at hSw
              go_simp
              try with_reducible rfl
            simp only [Act.put, List.setIfInBounds_toArray, List.set_cons_zero, List.set_cons_succ, List.getElem_toArray, List.getElem_cons_zero, List.getElem_cons_succ]
            refine wpAnyH_take (i := 18) (v := ?_) rfl (by kernel_rfl) (by kernel_rfl) (by kernel_rfl) (fun _ _ _ h => h) (Or.inl ⟨by rfl, ?_⟩) (by assumption) ?_
            rotate_left
            · intro w' hSw
              try dsimp only at hSw
              go_simp
              try with_reducible rfl
            simp only [Act.put, List.setIfInBounds_toArray, List.set_cons_zero, List.set_cons_succ, List.getElem_toArray, List.getElem_cons_zero, List.getElem_cons_succ]
            refine wpAnyH_take (i := 19) (v := ?_) rfl (by kernel_rfl) (by kernel_rfl) (by kernel_rfl) (fun _ _ _ h => h) (Or.inl ⟨by rfl, ?_⟩) (by assumption) ?_
            rotate_left
            · intro w' hSw
              try dsimp only at hSw
              go_simp
              try with_reducible rfl
            simp only [Act.put, List.setIfInBounds_toArray, List.set_cons_zero, List.set_cons_succ, List.getElem_toArray, List.getElem_cons_zero, List.getElem_cons_succ]
            refine wpAnyH_take (i := 20) (v := ?_) rfl (by kernel_rfl) (by kernel_rfl) (by kernel_rfl) (fun _ _ _ h => h) (Or.inl ⟨by rfl, ?_⟩) (by assumption) ?_
            rotate_left
            · intro w' hSw
              try dsimp only at hSw
              go_simp
              try with_reducible rfl
            simp only [Act.put, List.setIfInBounds_toArray, List.set_cons_zero, List.set_cons_succ, List.getElem_toArray, List.getElem_cons_zero, List.getElem_cons_succ]
            refine wpAnyH_take (i := 21) (v := ?_) rfl (by kernel_rfl) (by kernel_rfl) (by kernel_rfl) (fun _ _ _ h => h) (Or.inl ⟨by rfl, ?_⟩) (by assumption) ?_
            rotate_left
            · intro w' hSw
              try dsimp only at hSw
              go_simp
              try with_reducible rfl
            simp only [Act.put, List.setIfInBounds_toArray, List.set_cons_zero, List.set_cons_succ, List.getElem_toArray, List.getElem_cons_zero, List.getElem_cons_succ]
            refine wpAnyH_take (i := 22) (v := ?_) rfl (by kernel_rfl) (by kernel_rfl) (by kernel_rfl) (fun _ _ _ h => h) (Or.inl ⟨by rfl, ?_⟩) (by assumption) ?_
            rotate_left
            · intro w' hSw
              try dsimp only at hSw
              go_simp
              try with_reducible rfl
            simp only [Act.put, List.setIfInBounds_toArray, List.set_cons_zero, List.set_cons_succ, List.getElem_toArray, List.getElem_cons_zero, List.getElem_cons_succ]
            refine wpAnyH_take (i := 23) (v := ?_) rfl (by kernel_rfl) (by kernel_rfl) (by kernel_rfl) (fun _ _ _ h => h) (Or.inl ⟨by rfl, ?_⟩) (by assumption) ?_
            rotate_left
            · intro w' hSw
              try dsimp only at hSw
              go_simp
              try with_reducible rfl
            simp only [Act.put, List.setIfInBounds_toArray, List.set_cons_zero, List.set_cons_succ, List.getElem_toArray, List.getElem_cons_zero, List.getElem_cons_succ]
            refine wpAnyH_take (i := 24) (v := ?_) rfl (by kernel_rfl) (by kernel_rfl) (by kernel_rfl) (fun _ _ _ h => h) (Or.inl ⟨by rfl, ?_⟩) (by assumption) ?_
            rotate_left
            · intro w' hSw
              try dsimp only at hSw
              go_simp
              try with_reducible rfl
            simp only [Act.put, List.setIfInBounds_toArray, List.set_cons_zero, List.set_cons_succ, List.getElem_toArray, List.getElem_cons_zero, List.getElem_cons_succ]
            refine wpAnyH_take (i := 25) (v := ?_) rfl (by kernel_rfl) (by kernel_rfl) (by kernel_rfl) (fun _ _ _ h => h) (Or.inl ⟨by rfl, ?_⟩) (by assumption) ?_
            rotate_left
            · intro w' hSw
              try dsimp only at hSw
              go_simp
              try with_reducible rfl
            simp only [Act.put, List.setIfInBounds_toArray, List.set_cons_zero, List.set_cons_succ, List.getElem_toArray, List.getElem_cons_zero, List.getElem_cons_succ]
            refine wpAnyH_take (i := 26) (v := ?_) rfl (by kernel_rfl) (by kernel_rfl) (by kernel_rfl) (fun _ _ _ h => h) (Or.inl ⟨by rfl, ?_⟩) (by assumption) ?_
            rotate_left
            · intro w' hSw
              try dsimp only at hSw
              go_simp
              try with_reducible rfl
            simp only [Act.put, List.setIfInBounds_toArray, List.set_cons_zero, List.set_cons_succ, List.getElem_toArray, List.getElem_cons_zero, List.getElem_cons_succ]
            refine wpAnyH_take (i := 27) (v := ?_) rfl (by kernel_rfl) (by kernel_rfl) (by kernel_rfl) (fun _ _ _ h => h) (Or.inl ⟨by rfl, ?_⟩) (by assumption) ?_
            rotate_left
            · intro w' hSw
              try dsimp only at hSw
              go_simp
              try with_reducible rfl
            simp only [Act.put, List.setIfInBounds_toArray, List.set_cons_zero, List.set_cons_succ, List.getElem_toArray, List.getElem_cons_zero, List.getElem_cons_succ]
            refine wpAnyH_ready (rs := [28]) (by kernel_rfl) (by simp) ?_
            refine AllReadyH.cons rfl (fun K hK => ?_) AllReadyH.nil
            go_simp
            go_at_call 5
            refine (implSays_any rs2 (yieldOf t2) t2 _ _ _ _ _ _ _ _ _ _ (HR2z.out.below BB l2z) (HYz.out.below BB lyz) HT2.out (HK2z.out.under BB l2z) (Nat.le_trans l2z BB.size) (Nat.le_trans l2z BB.size) (Nat.le_trans lyz BB.size) (by have := HBT2.out; omega)).mono ?_
            rintro e wg9 ⟨rfl, bf9⟩
            rw [HSYT.out]
            have BB := nextB BB bf9
            go_wp2_with fail
            refine hK.out _ _ ⟨(BB.cell (p := ⟨w2.heap.size, 0, none⟩) m9).trans c9, (BB.cell (p := ⟨w2.heap.size + 1, 0, none⟩) m10).trans c100, (BB.cell (p := ⟨w2.heap.size + 1, 1, none⟩) m10).trans c101, (BB.cell (p := ⟨w2.heap.size + 1, 2, none⟩) m10).trans c102, (BB.cell (p := ⟨b2, off2 + t2.rule.toNat * 2, none⟩) lb2).trans h1c, (BB.cell (p := ⟨b2, off2, none⟩) lb2).trans h0c⟩ (fun hHeld => ?_)
            clear hK K
            try simp only [Act.put, List.setIfInBounds_toArray, List.set_cons_zero, List.set_cons_succ, List.getElem_toArray, List.getElem_cons_zero, List.getElem_cons_succ]
            refine wpAnyH_take (i := 29) (v := ?_) rfl (by kernel_rfl) (by kernel_rfl) (by kernel_rfl) (fun _ _ _ h => h) (Or.inl ⟨by rfl, ?_⟩) (by assumption) ?_
            rotate_left
            · intro w' hSw
              try dsimp only at hSw
              go_simp
              try with_reducible rfl
            simp only [Act.put, List.setIfInBounds_toArray, List.set_cons_zero, List.set_cons_succ, List.getElem_toArray, List.getElem_cons_zero, List.getElem_cons_succ]
            refine wpAnyH_take (i := 30) (v := ?_) rfl (by kernel_rfl) (by kernel_rfl) (by kernel_rfl) (fun _ _ _ h => h) (Or.inl ⟨by rfl, ?_⟩) (by assumption) ?_
            rotate_left
            · intro w' hSw
              try dsimp only at hSw
              go_simp
              try with_reducible rfl
            simp only [Act.put, List.setIfInBounds_toArray, List.set_cons_zero, List.set_cons_succ, List.getElem_toArray, List.getElem_cons_zero, List.getElem_cons_succ]
            refine wpAnyH_done (by kernel_rfl) ?_ _
            have FIN := Lib.hid (nextB HBLz.out BB)
            go_wp2
            go_ret
            exact ⟨rfl, FIN.out⟩
          · have dh : ((rs2[t2.rule.toNat]).head.toList != (rs2[0]).head.toList) = true := by rw [bne, list_eqH, decide_eq_false hh]; rfl
            have dhe : ((rs2[t2.rule.toNat]).head.toList == (rs2[0]).head.toList) = false := by rw [list_eqH, decide_eq_false hh]
            have dhd : decide ((rs2[t2.rule.toNat]).head = (rs2[0]).head) = false := decide_eq_false hh
            go_wp2_with fail
            have BB : Below wz.heap.size wz wz.drew := (Below.refl _ _).drew
            refine wp_region_held_drew (S := fun w' => w'.cell? ⟨w2.heap.size, 0, none⟩ = some (.slice (some ⟨b2, off2, none⟩) rs2.length cv2) ∧ w'.cell? ⟨w2.heap.size + 1, 0, none⟩ = some (.int .i64 t2.rule) ∧ w'.cell? ⟨w2.heap.size + 1, 1, none⟩ = some (.string t2.tok) ∧ w'.cell? ⟨w2.heap.size + 1, 2, none⟩ = some (.slice Au2 t2.kids.length cu2) ∧ w'.cell? ⟨b2, off2 + t2.rule.toNat * 2, none⟩ = some (.string (rs2[t2.rule.toNat]).head) ∧ w'.cell? ⟨b2, off2, none⟩ = some (.string (rs2[0]).head)) (by kernel_rfl) ⟨(BB.cell (p := ⟨w2.heap.size, 0, none⟩) m9).trans c9, (BB.cell (p := ⟨w2.heap.size + 1, 0, none⟩) m10).trans c100, (BB.cell (p := ⟨w2.heap.size + 1, 1, none⟩) m10).trans c101, (BB.cell (p := ⟨w2.heap.size + 1, 2, none⟩) m10).trans c102, (BB.cell (p := ⟨b2, off2 + t2.rule.toNat * 2, none⟩) lb2).trans h1c, (BB.cell (p := ⟨b2, off2, none⟩) lb2).trans h0c⟩ (fun hHeld => ?_)
            refine wpAnyH_take (i := 0) (v := ?_) rfl (by kernel_rfl) (by kernel_rfl) (by kernel_rfl) (fun _ _ _ h => h) (Or.inl ⟨by rfl, ?_⟩) (by assumption) ?_
            rotate_left
            · intro w' hSw
              try dsimp only at hSw
              go_simp
              try with_reducible rfl
            simp only [Act.put, List.setIfInBounds_toArray, List.set_cons_zero, List.set_cons_succ, List.getElem_toArray, List.getElem_cons_zero, List.getElem_cons_succ]
            refine wpAnyH_take (i := 1) (v := ?_) rfl (by kernel_rfl) (by kernel_rfl) (by kernel_rfl) (fun _ _ _ h => h) (Or.inl ⟨by rfl, ?_⟩) (by assumption) ?_
            rotate_left
            · intro w' hSw
              try dsimp only at hSw
              go_simp
              try with_reducible rfl
            simp only [Act.put, List.setIfInBounds_toArray, List.set_cons_zero, List.set_cons_succ, List.getElem_toArray, List.getElem_cons_zero, List.getElem_cons_succ]
            refine wpAnyH_ready (rs := [2]) (by kernel_rfl) (by simp) ?_
            refine AllReadyH.cons rfl (fun K hK => ?_) AllReadyH.nil
            go_simp
            go_at_call 11
            refine (specTreeRight_any rs2 t2 _ _ _ _ _ _ _ (HR2z.out.below BB l2z) HT2.out (HK2z.out.under BB l2z) (Nat.le_trans l2z BB.size) (Nat.le_trans l2z BB.size) (by have := sizeT_le_bulkT t2; have := HBT2.out; omega)).mono ?_
            rintro e wf ⟨rfl, bf⟩
            rw [HRBE.out]
            have BB := nextB BB bf
            go_wp2_with fail
            refine hK.out _ _ ⟨(BB.cell (p := ⟨w2.heap.size, 0, none⟩) m9).trans c9, (BB.cell (p := ⟨w2.heap.size + 1, 0, none⟩) m10).trans c100, (BB.cell (p := ⟨w2.heap.size + 1, 1, none⟩) m10).trans c101, (BB.cell (p := ⟨w2.heap.size + 1, 2, none⟩) m10).trans c102, (BB.cell (p := ⟨b2, off2 + t2.rule.toNat * 2, none⟩) lb2).trans h1c, (BB.cell (p := ⟨b2, off2, none⟩) lb2).trans h0c⟩ (fun hHeld => ?_)
            clear hK K
            try simp only [Act.put, List.setIfInBounds_toArray, List.set_cons_zero, List.set_cons_succ, List.getElem_toArray, List.getElem_cons_zero, List.getElem_cons_succ]
            refine wpAnyH_take (i := 3) (v := ?_) rfl (by kernel_rfl) (by kernel_rfl) (by kernel_rfl) (fun _ _ _ h => h) (Or.inl ⟨by rfl, ?_⟩) (by assumption) ?_
            rotate_left
            · intro w' hSw
              try dsimp only at hSw
              go_simp
              try with_reducible rfl
            simp only [Act.put, List.setIfInBounds_toArray, List.set_cons_zero, List.set_cons_succ, List.getElem_toArray, List.getElem_cons_zero, List.getElem_cons_succ]
            refine wpAnyH_take (i := 4) (v := ?_) rfl (by kernel_rfl) (by kernel_rfl) (by kernel_rfl) (fun _ _ _ h => h) (Or.inl ⟨by rfl, ?_⟩) (by assumption) ?_
            rotate_left
            · intro w' hSw
              try dsimp only at hSw
              go_simp
              try with_reducible rfl
            simp only [Act.put, List.setIfInBounds_toArray, List.set_cons_zero, List.set_cons_succ, List.getElem_toArray, List.getElem_cons_zero, List.getElem_cons_succ]
            refine wpAnyH_take (i := 5) (v := ?_) rfl (by kernel_rfl) (by kernel_rfl) (by kernel_rfl) (fun _ _ _ h => h) (Or.inl ⟨by rfl, ?_⟩) (by assumption) ?_
            rotate_left
            · intro w' hSw
              try dsimp only at hSw
              go_simp
              try with_reducible rfl
            simp only [Act.put, List.setIfInBounds_toArray, List.set_cons_zero, List.set_cons_succ, List.getElem_toArray, List.getElem_cons_zero, List.getElem_cons_succ]
            refine wpAnyH_take (i := 6) (v := ?_) rfl (by kernel_rfl) (by kernel_rfl) (by kernel_rfl) (fun _ _ _ h => h) (Or.inl ⟨by rfl, ?_⟩) (by assumption) ?_
            rotate_left
            · intro w' hSw
              try dsimp only at hSw
              go_simp
              try with_reducible rfl
            simp only [Act.put, List.setIfInBounds_toArray, List.set_cons_zero, List.set_cons_succ, List.getElem_toArray, List.getElem_cons_zero, List.getElem_cons_succ]
            refine wpAnyH_take (i := 7) (v := ?_) rfl (by kernel_rfl) (by kernel_rfl) (by kernel_rfl) (fun _ _ _ h => h) (Or.inl ⟨by rfl, ?_⟩) (by assumption) ?_
            rotate_left
            · intro w' hSw
              try dsimp only at hSw
              go_simp
              try with_reducible rfl
            simp only [Act.put, List.setIfInBounds_toArray, List.set_cons_zero, List.set_cons_succ, List.getElem_toArray, List.getElem_cons_zero, List.getElem_cons_succ]
            refine wpAnyH_take (i := 8) (v := ?_) rfl (by kernel_rfl) (by kernel_rfl) (by kernel_rfl) (fun _ _ _ h => h) (Or.inl ⟨by rfl, ?_⟩) (by assumption) ?_
            rotate_left
            · intro w' hSw
              try dsimp only at hSw
              go_simp
              try with_reducible rfl
            simp only [Act.put, List.setIfInBounds_toArray, List.set_cons_zero, List.set_cons_succ, List.getElem_toArray, List.getElem_cons_zero, List.getElem_cons_succ]
            refine wpAnyH_take (i := 9) (v := ?_) rfl (by kernel_rfl) (by kernel_rfl) (by kernel_rfl) (fun _ _ _ h => h) (Or.inl ⟨by rfl, ?_⟩) (by assumption) ?_
            rotate_left
            · intro w' hSw
              try dsimp only at hSw
              go_simp
              try with_reducible rfl
            simp only [Act.put, List.setIfInBounds_toArray, List.set_cons_zero, List.set_cons_succ, List.getElem_toArray, List.getElem_cons_zero, List.getElem_cons_succ]
            refine wpAnyH_take (i := 10) (v := ?_) rfl (by kernel_rfl) (by kernel_rfl) (by kernel_rfl) (fun _ _ _ h => h) (Or.inl ⟨by rfl, ?_⟩) (by assumption) ?_
            rotate_left
            · intro w' hSw
              try dsimp only at hSw
              go_simp
              try with_reducible rfl
            simp only [Act.put, List.setIfInBounds_toArray, List.set_cons_zero, List.set_cons_succ, List.getElem_toArray, List.getElem_cons_zero, List.getElem_cons_succ]
            refine wpAnyH_take (i := 11) (v := ?_) rfl (by kernel_rfl) (by kernel_rfl) (by kernel_rfl) (fun _ _ _ h => h) (Or.inl ⟨by rfl, ?_⟩) (by assumption) ?_
            rotate_left
            · intro w' hSw
              try dsimp only at hSw
              go_simp
              try with_reducible rfl
            simp only [Act.put, List.setIfInBounds_toArray, List.set_cons_zero, List.set_cons_succ, List.getElem_toArray, List.getElem_cons_zero, List.getElem_cons_succ]
            refine wpAnyH_take (i := 12) (v := ?_) rfl (by kernel_rfl) (by kernel_rfl) (by kernel_rfl) (fun _ _ _ h => h) (Or.inl ⟨by rfl, ?_⟩) (by assumption) ?_
            rotate_left
            · intro w' hSw
              try dsimp only at hSw
              go_simp
              try with_reducible rfl
            simp only [Act.put, List.setIfInBounds_toArray, List.set_cons_zero, List.set_cons_succ, List.getElem_toArray, List.getElem_cons_zero, List.getElem_cons_succ]
            refine wpAnyH_take (i := 13) (v := ?_) rfl (by kernel_rfl) (by kernel_rfl) (by kernel_rfl) (fun _ _ _ h => h) (Or.inl ⟨by rfl, ?_⟩) (by assumption) ?_
            rotate_left
            · intro w' hSw
              try dsimp only at hSw
              go_simp
              try with_reducible rfl
            simp only [Act.put, List.setIfInBounds_toArray, List.set_cons_zero, List.set_cons_succ, List.getElem_toArray, List.getElem_cons_zero, List.getElem_cons_succ]
            refine wpAnyH_take (i := 14) (v := ?_) rfl (by kernel_rfl) (by kernel_rfl) (by kernel_rfl) (fun _ _ _ h => h) (Or.inl ⟨by rfl, ?_⟩) (by assumption) ?_
            rotate_left
            · intro w' hSw
              try dsimp only at hSw
              go_simp
              try with_reducible rfl
            simp only [Act.put, List.setIfInBounds_toArray, List.set_cons_zero, List.set_cons_succ, List.getElem_toArray, List.getElem_cons_zero, List.getElem_cons_succ]
            refine wpAnyH_take (i := 15) (v := ?_) rfl (by kernel_rfl) (by kernel_rfl) (by kernel_rfl) (fun _ _ _ h => h) (Or.inl ⟨by rfl, ?_⟩) (by assumption) ?_
            rotate_left
            · intro w' hSw
              try dsimp only at hSw
              go_simp
              try with_reducible rfl
            simp only [Act.put, List.setIfInBounds_toArray, List.set_cons_zero, List.set_cons_succ, List.getElem_toArray, List.getElem_cons_zero, List.getElem_cons_succ]
            refine wpAnyH_take (i := 16) (v := ?_) rfl (by kernel_rfl) (by kernel_rfl) (by kernel_rfl) (fun _ _ _ h => h) (Or.inl ⟨by rfl, ?_⟩) (by assumption) ?_
            rotate_left
            · intro w' hSw
              try dsimp only at hSw
              go_simp
              try with_reducible rfl
            simp only [Act.put, List.setIfInBounds_toArray, List.set_cons_zero, List.set_cons_succ, List.getElem_toArray, List.getElem_cons_zero, List.getElem_cons_succ]
            refine wpAnyH_take (i := 17) (v := ?_) rfl (by kernel_rfl) (by kernel_rfl) (by kernel_rfl) (fun _ _ _ h => h) (Or.inl ⟨by rfl, ?_⟩) (by assumption) ?_
            rotate_left
            · intro w' hSw
              try dsimp only at hSw
              go_simp
              try with_reducible rfl
            simp only [Act.put, List.setIfInBounds_toArray, List.set_cons_zero, List.set_cons_succ, List.getElem_toArray, List.getElem_cons_zero, List.getElem_cons_succ]
            refine wpAnyH_take (i := 18) (v := ?_) rfl (by kernel_rfl) (by kernel_rfl) (by kernel_rfl) (fun _ _ _ h => h) (Or.inl ⟨by rfl, ?_⟩) (by assumption) ?_
            rotate_left
            · intro w' hSw
              try dsimp only at hSw
              go_simp
              try with_reducible rfl
            simp only [Act.put, List.setIfInBounds_toArray, List.set_cons_zero, List.set_cons_succ, List.getElem_toArray, List.getElem_cons_zero, List.getElem_cons_succ]
            refine wpAnyH_take (i := 19) (v := ?_) rfl (by kernel_rfl) (by kernel_rfl) (by kernel_rfl) (fun _ _ _ h => h) (Or.inl ⟨by rfl, ?_⟩) (by assumption) ?_
            rotate_left
            · intro w' hSw
              try dsimp only at hSw
              go_simp
              try with_reducible rfl
            simp only [Act.put, List.setIfInBounds_toArray, List.set_cons_zero, List.set_cons_succ, List.getElem_toArray, List.getElem_cons_zero, List.getElem_cons_succ]
            refine wpAnyH_take (i := 20) (v := ?_) rfl (by kernel_rfl) (by kernel_rfl) (by kernel_rfl) (fun _ _ _ h => h) (Or.inl ⟨by rfl, ?_⟩) (by assumption) ?_
            rotate_left
            · intro w' hSw
              try dsimp only at hSw
              go_simp
              try with_reducible rfl
            simp only [Act.put, List.setIfInBounds_toArray, List.set_cons_zero, List.set_cons_succ, List.getElem_toArray, List.getElem_cons_zero, List.getElem_cons_succ]
            refine wpAnyH_take (i := 21) (v := ?_) rfl (by kernel_rfl) (by kernel_rfl) (by kernel_rfl) (fun _ _ _ h => h) (Or.inl ⟨by rfl, ?_⟩) (by assumption) ?_
            rotate_left
            · intro w' hSw
              try dsimp only at hSw
              go_simp
              try with_reducible rfl
            simp only [Act.put, List.setIfInBounds_toArray, List.set_cons_zero, List.set_cons_succ, List.getElem_toArray, List.getElem_cons_zero, List.getElem_cons_succ]
            refine wpAnyH_take (i := 22) (v := ?_) rfl (by kernel_rfl) (by kernel_rfl) (by kernel_rfl) (fun _ _ _ h => h) (Or.inl ⟨by rfl, ?_⟩) (by assumption) ?_
            rotate_left
            · intro w' hSw
              try dsimp only at hSw
              go_simp
              try with_reducible rfl
            simp only [Act.put, List.setIfInBounds_toArray, List.set_cons_zero, List.set_cons_succ, List.getElem_toArray, List.getElem_cons_zero, List.getElem_cons_succ]
            refine wpAnyH_take (i := 23) (v := ?_) rfl (by kernel_rfl) (by kernel_rfl) (by kernel_rfl) (fun _ _ _ h => h) (Or.inl ⟨by rfl, ?_⟩) (by assumption) ?_
            rotate_left
            · intro w' hSw
              try dsimp only at hSw
              go_simp
              try with_reducible rfl
            simp only [Act.put, List.setIfInBounds_toArray, List.set_cons_zero, List.set_cons_succ, List.getElem_toArray, List.getElem_cons_zero, List.getElem_cons_succ]
            refine wpAnyH_take (i := 24) (v := ?_) rfl (by kernel_rfl) (by kernel_rfl) (by kernel_rfl) (fun _ _ _ h => h) (Or.inl ⟨by rfl, ?_⟩) (by assumption) ?_
            rotate_left
            · intro w' hSw
              try dsimp only at hSw
              go_simp
              try with_reducible rfl
            simp only [Act.put, List.setIfInBounds_toArray, List.set_cons_zero, List.set_cons_succ, List.getElem_toArray, List.getElem_cons_zero, List.getElem_cons_succ]
            refine wpAnyH_take (i := 25) (v := undef) rfl (by kernel_rfl) (by kernel_rfl) (by kernel_rfl) (fun _ _ _ h => h) (Or.inr ⟨by rfl, rfl⟩) (by assumption) ?_
            simp only [Act.put, List.setIfInBounds_toArray, List.set_cons_zero, List.set_cons_succ, List.getElem_toArray, List.getElem_cons_zero, List.getElem_cons_succ]
            refine wpAnyH_take (i := 26) (v := undef) rfl (by kernel_rfl) (by kernel_rfl) (by kernel_rfl) (fun _ _ _ h => h) (Or.inr ⟨by rfl, rfl⟩) (by assumption) ?_
            simp only [Act.put, List.setIfInBounds_toArray, List.set_cons_zero, List.set_cons_succ, List.getElem_toArray, List.getElem_cons_zero, List.getElem_cons_succ]
            refine wpAnyH_take (i := 27) (v := undef) rfl (by kernel_rfl) (by kernel_rfl) (by kernel_rfl) (fun _ _ _ h => h) (Or.inr ⟨by rfl, rfl⟩) (by assumption) ?_
            simp only [Act.put, List.setIfInBounds_toArray, List.set_cons_zero, List.set_cons_succ, List.getElem_toArray, List.getElem_cons_zero, List.getElem_cons_succ]
            refine wpAnyH_take (i := 28) (v := undef) rfl (by kernel_rfl) (by kernel_rfl) (by kernel_rfl) (fun _ _ _ h => h) (Or.inr ⟨by rfl, rfl⟩) (by assumption) ?_
            simp only [Act.put, List.setIfInBounds_toArray, List.set_cons_zero, List.set_cons_succ, List.getElem_toArray, List.getElem_cons_zero, List.getElem_cons_succ]
            refine wpAnyH_take (i := 29) (v := ?_) rfl (by kernel_rfl) (by kernel_rfl) (by kernel_rfl) (fun _ _ _ h => h) (Or.inl ⟨by rfl, ?_⟩) (by assumption) ?_
            rotate_left
            · intro w' hSw
              try dsimp only at hSw
              go_simp
              try with_reducible rfl
            simp only [Act.put, List.setIfInBounds_toArray, List.set_cons_zero, List.set_cons_succ, List.getElem_toArray, List.getElem_cons_zero, List.getElem_cons_succ]
            refine wpAnyH_take (i := 30) (v := ?_) rfl (by kernel_rfl) (by kernel_rfl) (by kernel_rfl) (fun _ _ _ h => h) (Or.inl ⟨by rfl, ?_⟩) (by assumption) ?_
            rotate_left
            · intro w' hSw
              try dsimp only at hSw
              go_simp
              try with_reducible rfl
            simp only [Act.put, List.setIfInBounds_toArray, List.set_cons_zero, List.set_cons_succ, List.getElem_toArray, List.getElem_cons_zero, List.getElem_cons_succ]
            refine wpAnyH_done (by kernel_rfl) ?_ _
            have FIN := Lib.hid (nextB HBLz.out BB)
            go_wp2
            go_ret
            exact ⟨rfl, FIN.out⟩
end Go.Proofs.YtokdhgocgicdnaaGreatDoor.fnTree
