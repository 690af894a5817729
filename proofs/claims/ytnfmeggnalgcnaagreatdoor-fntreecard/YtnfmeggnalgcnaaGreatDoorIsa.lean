/- Does a tree say a text? impl.Says. -/
import Derived.Test.YtnfmeggnalgcnaaGreatDoorJSad
import Derived.Test.YtnfmeggnalgcnaaGreatDoorJPMap
import Derived.Test.YtnfmeggnalgcnaaGreatDoorJIrs
import Derived.Test.YtnfmeggnalgcnaaGreatDoorJIyy
namespace Go.Proofs.YtnfmeggnalgcnaaGreatDoor
open Go.RowKit

set_option maxRecDepth 100000 in
set_option maxHeartbeats 4000000 in
theorem implSays_any (rs : List RuleD) (ws : List ByteArray) (t : TreeD) (v tv u : Value) (lo hi lo2 hi2 lo3 hi3 : Nat) (w : World) (hr : Rules w lo2 hi2 v rs) (hw : Strs w lo3 hi3 tv ws) (ht : TopOk t) (hk : Kd true w lo hi u t.kids) (hh : hi ≤ w.heap.size) (hh2 : hi2 ≤ w.heap.size) (hh3 : hi3 ≤ w.heap.size) (hb : bulkT t ≤ 1048576) :
    Calls Tryz.prog 5 #[.agg #[v], tv, trV t u] w fun e w' => e = .returned (.bool (saysB rs ws t)) ∧ Below w.heap.size w w' := by
  have hn : sizeT t ≤ 2097152 := by have := sizeT_le_bulkT t; omega
  have b0 := al2 w (.cells #[v] 25) (.cells #[.int .i64 t.rule, .string t.tok, u] 29)
  have RG := (Row.made w 25 #[v]).alloc (.cells #[.int .i64 t.rule, .string t.tok, u] 29)
  have RT := Row.made (w.alloc (.cells #[v] 25)) 29 #[.int .i64 t.rule, .string t.tok, u]
  have hsz : (w.alloc (.cells #[v] 25)).heap.size = w.heap.size + 1 := by simp
  rw [hsz] at RT
  have hsz2 : ((w.alloc (.cells #[v] 25)).alloc (.cells #[.int .i64 t.rule, .string t.tok, u] 29)).heap.size = w.heap.size + 1 + 1 := by simp
  have HSZ := Lib.hid hsz2
  have HRL := Lib.hid (hr.below b0 hh2)
  have HWS := Lib.hid (hw.below b0 hh3)
  have HKD := Lib.hid (hk.under b0 hh)
  have HT := Lib.hid ht
  have HB0 := Lib.hid b0
  obtain ⟨Av, cv, rfl, -⟩ := hr
  obtain ⟨Aw, cw, rfl, hlw, hcw, -⟩ := hw
  obtain ⟨A, c, U, rfl, -⟩ := hk.parts
  unfold maxLen at hcw
  clear b0 hk ht hsz hsz2
  unfold trV
  by_cases h4 : ws.length ≤ 400
  · have nb : decide ((ws.length : Int) > 400) = false := decide_eq_false (by omega)
    go_enter Tryz.func5, Tryz.ntmps5
    go_wp2_with fail
    generalize (w.alloc (.cells #[.slice Av rs.length cv] 25)).alloc (.cells #[.int .i64 t.rule, .string t.tok, .slice A t.kids.length c] 29) = w0 at RG RT HSZ HRL HWS HKD HB0 ⊢
    have z0 := HSZ.out
    refine (implRightSymbol_any rs t _ _ lo hi lo2 hi2 w0 HRL.out HT.out HKD.out (by omega) (by omega) hn).mono ?_
    rintro e w1 ⟨rfl, b1⟩
    have z1 := b1.size
    have B1 := Lib.hid (HB0.out.trans (b1.mono (by omega)))
    by_cases h5 : (rightS rs t).size = 0
    · have HE := Lib.hid (says_wrong (ws := ws) h5)
      have e5 : ((rightS rs t).toList == []) = true := by rw [toks_empty, decide_eq_true h5]
      clear b1
      go_wp2
      go_ret
      exact ⟨ret_bool HE.out.symm, B1.out⟩
    · have e5 : ((rightS rs t).toList == []) = false := by rw [toks_empty, decide_eq_false h5]
      have hlen : 0 < rs.length := by have := ((gramB_iff rs).1 (right_gram h5).1).1; omega
      have HST := Lib.hid (startTr_eq hlen)
      have RG1 := RG.below b1 (by omega)
      have RT1 := RT.below b1 (by omega)
      have g0 := RG1.cell 0
      have t0 := RT1.cell 0
      have t1 := RT1.cell 1
      have t2 := RT1.cell 2
      simp at g0 t0 t1 t2
      have l1 := RG1.lt
      have l2 := RT1.lt
      have HR1 := Lib.hid (HRL.out.below b1 (by omega))
      obtain ⟨Ar, cr, er, _, hcr, hrcell⟩ := HR1.out
      obtain ⟨br, offr, ea, _, hbr, hrc⟩ := hrcell hlen
      obtain ⟨_, hr0, _⟩ := hrc 0 hlen
      injection er with er1 er2 er3
      rw [← er1] at ea
      subst ea
      simp only [Nat.zero_mul, Nat.add_zero] at hr0
      have hbrw : br < w1.heap.size := by omega
      have hl0 : (0 : Int) < (rs.length : Int) := by omega
      have HK1 := Lib.hid (HKD.out.under b1 (by omega))
      have HW1 := Lib.hid (HWS.out.below b1 (by omega))
      clear hrcell hrc RG1 RT1 er1 er2 er3 b1
      by_cases h6 : rightS rs t = startTr rs
      · have e6 : ((rightS rs t).toList == rs[0].head.toList) = true := by rw [h6, HST.out]; simp
        have HE := Lib.hid (says_rest h4 h5 h6)
        have HYO := Lib.hid (right_yield h5)
        clear h6
        go_wp2_with fail
        refine (implYield_any t _ lo hi w1 HT.out HK1.out (by omega) hb).mono ?_
        rintro e w2 ⟨u2, g2, rfl, S2, G2, b2⟩
        have T2 := S2.strs G2
        have HT2 := Lib.hid T2
        have HW2 := Lib.hid (HW1.out.below b2 (by omega))
        have B2 := Lib.hid (B1.out.trans (b2.mono (by omega)))
        obtain ⟨A2, c2, rfl, -⟩ := T2
        clear S2 G2 b2
        go_wp2_with fail
        refine (slicesEqual_any _ _ (yieldOf t) ws _ _ _ _ w2 HT2.out HW2.out).mono ?_
        rintro e w3 ⟨rfl, n3, rfl⟩
        go_wp2
        go_ret
        exact ⟨ret_bool (by rw [HE.out, HYO.out]), ⟨B2.out.os, B2.out.tape, B2.out.output, B2.out.size, B2.out.block⟩⟩
      · have e6 : ((rightS rs t).toList == rs[0].head.toList) = false := by rw [list_eqE, decide_eq_false (by rw [← HST.out]; exact h6)]
        have HE := Lib.hid (says_other (ws := ws) h6)
        clear h6
        go_wp2
        go_ret
        exact ⟨ret_bool HE.out.symm, B1.out⟩
  · have nb : decide ((ws.length : Int) > 400) = true := decide_eq_true (by omega)
    have HE := Lib.hid (says_long (rs := rs) (t := t) h4)
    go_enter Tryz.func5, Tryz.ntmps5
    go_wp2
    go_ret
    exact ⟨ret_bool HE.out.symm, HB0.out⟩
end Go.Proofs.YtnfmeggnalgcnaaGreatDoor
