import Derived.Test.YtokdhgocgicdnaaGreatDoorJIyh
import Derived.Maps.AppendAt
import Derived.Test.YtokdhgocgicdnaaGreatDoorJSad
import Derived.Test.YtokdhgocgicdnaaGreatDoorJSeq
/- The texts of a tree: impl.Yield. -/
namespace Go.Proofs.YtokdhgocgicdnaaGreatDoor
open Go.RowKit Go.Shelf
attribute [local go_sem] Oper.semAt_some
attribute [-go_sem] Builtin.append_

theorem drC {B : Nat} {w w' : World} (h : Below B w.drew w') : Below B w w' := ⟨h.os, h.tape, h.output, h.size, h.block⟩
theorem kt_append {n₀ B : Nat} {W Wc w1 : World} {v v' : Value} {k : Nat} {xs : List Value} {tmp : Obj} (hb : Below W.heap.size W Wc) (hn : n₀ ≤ W.heap.size) (hrow : Wc.ownsRow n₀ 9 1 v k xs) (hg : (Wc.alloc tmp).grownBy w1 v.ownBlock) (hv1 : Boxed w1 B 26 v)
    (hb2 : Below n₀ Wc (w1.setCell ⟨B, 0, none⟩ v')) : Kt n₀ W (w1.setCell ⟨B, 0, none⟩ v') := by
  refine ⟨(hb.mono hn).trans hb2, fun i cur fr hi => ?_⟩
  have hlt : i < W.heap.size := (Array.getElem?_eq_some_iff.1 hi).1
  have hc : Wc.heap[i]? = some (.cells cur 29 fr) := (hb.block i hlt).trans hi
  have hltc : i < Wc.heap.size := (Array.getElem?_eq_some_iff.1 hc).1
  have h1 : w1.heap[i]? = Wc.heap[i]? := by
    refine (hg.block i (by simp; omega) fun e => ?_).trans (Below.heap_alloc Wc tmp i hltc)
    rcases hrow.2 with ⟨rfl, _⟩ | ⟨g, cap, cur', rfl, _, hgb, _⟩
    · simp [Value.ownBlock] at e
    · obtain rfl : i = g := by simpa [Value.ownBlock] using e
      rw [hc] at hgb
      injection hgb with hgb
      injection hgb with _ h2
      exact absurd h2 (by decide)
  have hne : i ≠ B := by
    rintro rfl
    have := h1.trans hc
    rw [show w1.heap[i]? = _ from hv1] at this
    injection this with this
    injection this with _ h2
    exact absurd h2 (by decide)
  rw [Below.heap_setCell _ _ _ _ hne, h1, hc, hi]

set_option maxRecDepth 100000 in
set_option maxHeartbeats 4000000 in
theorem implYield_any (t : TreeD) (u : Value) (lo hi : Nat) (w : World) (ht : TopOk t) (hk : Kd true w lo hi u t.kids) (hh : hi ≤ w.heap.size) (hb : bulkT t ≤ 1048576) :
    Calls Tryz.prog 7 #[trV t u] w fun e w' => MadeS w (yieldOf t) e w' := by
  have hn : sizeT t ≤ 2097152 := by have := sizeT_le_bulkT t; omega
  have b0 := al1 w (.cells #[.int .i64 t.rule, .string t.tok, u] 29)
  have R0 := Row.made w 29 #[.int .i64 t.rule, .string t.tok, u]
  have HK := Lib.hid (hk.under b0 hh)
  have HSM := Lib.hid (yieldT_small ht hk)
  have hsz : (w.alloc (.cells #[.int .i64 t.rule, .string t.tok, u] 29)).heap.size = w.heap.size + 1 := by simp
  have HSZ := Lib.hid hsz
  have HB0 := Lib.hid b0
  have HT := Lib.hid ht
  obtain ⟨A, c, U, rfl, -⟩ := hk.parts
  obtain ⟨i0, hi0, hz0, hz1, hz2⟩ := info_parts Tryz.infoStr
  clear hk ht hsz b0
  unfold trV
  by_cases hbig : sizeT t ≤ 200
  · have HY : Hid (yieldOf t = yieldT t) := Lib.hid (by unfold yieldOf; rw [if_pos hbig])
    have nb : decide ((sizeT t : Int) > 200) = false := decide_eq_false (by omega)
    refine (callsIn_wide (n := 5)).1 ?_
    refine callsIn_of_wp_marks Tryz.func7 rfl trivial ?_ rfl
    simp only [Tryz.ntmps7, List.size_toArray, List.length_cons, List.length_nil, Nat.reduceAdd, Nat.reduceSub, Array.replicate_succ, Array.replicate_zero, List.push_toArray, List.append_toArray, List.nil_append, List.cons_append]
    gi_wp2_with fail
    generalize w.alloc (.cells #[.int .i64 t.rule, .string t.tok, .slice A t.kids.length c] 29) = w0 at R0 HK HSZ HB0 ⊢
    have z0 := HSZ.out
    refine ⟨trivial, ?_⟩
    refine (callsIn_wide.2 (implSizeOf_any t _ lo hi w0 HT.out HK.out (by omega) hn)).mono ?_
    rintro e w1 ⟨rfl, b1⟩
    have z1 := b1.size
    have B1 := HB0.out.trans (b1.mono (by omega))
    have R1 := R0.below b1 (by omega)
    have c0 := R1.cell 0
    have c1 := R1.cell 1
    have c2 := R1.cell 2
    simp at c0 c1 c2
    have hl1 := R1.lt
    have HK1 := Lib.hid (HK.out.under b1 (by omega))
    have HB1 := Lib.hid B1
    clear R1 R0 b1 B1
    gi_wp2_with (refine ⟨trivial, ?_⟩; gi_at_call 26; refine (toksOf_in Fence.wide (fun _ => trivial) rfl _ t _ _).mono ?_; rintro e w' ⟨rfl, rfl⟩)
    --RANGE
    have bO := (Boxed.new w1 26 (.slice none 0 0)).alloc (.cells #[.int .i64 t.rule, .string t.tok, .slice A t.kids.length c] 29)
    have hB2 := al2 w1 (.cells #[.slice none 0 0] 26) (.cells #[.int .i64 t.rule, .string t.tok, .slice A t.kids.length c] 29)
    have R2 : Row ((w1.alloc (.cells #[.slice none 0 0] 26)).alloc (.cells #[.int .i64 t.rule, .string t.tok, .slice A t.kids.length c] 29)) (w1.heap.size + 1) 29 #[.int .i64 t.rule, .string t.tok, .slice A t.kids.length c] := by
      have := Row.made (w1.alloc (.cells #[.slice none 0 0] 26)) 29 #[.int .i64 t.rule, .string t.tok, .slice A t.kids.length c]
      rw [World.size_alloc] at this
      exact this
    have hK2 := HK1.out.under hB2 (by omega)
    have hyl := yieldT_len t
    have hlen200 : (yieldT t).length ≤ 200 := by omega
    refine wpIn_rangeFunc_ownG rfl (by omega) (gf := 50) (lb := #[.pointer (some ⟨w1.heap.size + 1, 0, none⟩)]) rfl trivial (enters_of Tryz.func50 (by kernel_rfl) rfl)
      (toks_stops Fence.wide rfl (fun _ => trivial) rfl (5 - 1) w1.heap.size (w1.heap.size + 1) t A c lo hi _ (by simp) (by simp; omega) R2 hK2 (by omega) hb)
      (fun h k => h.trans k)
      (fun W l o o' hl h h2 h3 => ⟨belowK_b (w := ((w1.alloc (.cells #[.slice none 0 0] 26)).alloc (.cells #[.int .i64 t.rule, .string t.tok, .slice A t.kids.length c] 29))) (by simp; omega) W l o o' hl h h2 h3, fun i cur fr hi => by
        have hne : i ≠ l := by
          rintro rfl
          rw [h] at hi
          injection hi with hi
          subst hi
          cases h2
        exact (grownBy_putObj' W l o').block i (Array.getElem?_eq_some_iff.1 hi).1 (fun e => hne (by simpa using e))⟩)
      (Below.refl _ _) (fun _ => rfl)
      (fun pre W => (∃ v, Boxed W w1.heap.size 26 v ∧ W.ownsRow w1.heap.size 9 1 v (texts pre).length ((texts pre).map Value.string) ∧ True) ∧ Below w1.heap.size w1 W)
      (fun _ _ _ => False)
      (OwnFrom.and (Own.from (holdsRow_own w1.heap.size w1.heap.size 26 9 1 (fun pre => (texts pre).length) (fun pre => (texts pre).map Value.string) (fun _ _ => True)) _) (ownFrom_below (Nat.le_refl _) (by simp; omega)))
      (fun _ _ _ _ _ hs _ _ => hs)
      ⟨⟨_, bO, World.ownsRow_nil _ _ _ _, trivial⟩, hB2⟩
      (fun x => { tmps := #[.agg #[.int .i64 t.rule, .string t.tok, .slice A t.kids.length c], .pointer (some ⟨w.heap.size, 0, none⟩), .slice none 0 0, .pointer (some ⟨w1.heap.size, 0, none⟩), .string x.1, .agg #[.int .i64 t.rule, .string t.tok, .slice A t.kids.length c], .int .i64 (sizeT t : Int), .bool false, .agg #[.int .i64 t.rule, .string t.tok, .slice A t.kids.length c], .func (.func 50) #[] #[.pointer (some ⟨w1.heap.size + 1, 0, none⟩)], .string x.1, undef, undef, undef, undef, undef, undef], defers := [] }) ?assign ?body ?done ?stop
    case assign =>
      intro l x W K hK
      gi_wp2
      exact hK
    case body =>
      rintro l pre x W ⟨⟨v, hv, hrow, _⟩, hB⟩ hlt
      have hpl : (texts pre).length ≤ 200 := by have : (texts pre).length = pre.length := by simp [texts]
                                                omega
      have hx := x.2
      have hS : Sts W w1.heap.size v (texts pre) := hrow
      obtain ⟨A9, c9, rfl⟩ := hS.shape
      have hc := hv.cell
      have hbs := hB.size
      have hlw := hv.lt
      have HV := Lib.hid hv
      have HS := Lib.hid hS
      have HBW := Lib.hid hB
      clear hv hrow hS hB
      have hfo : Tryz.prog.follows Departure.mixedOrders = true := by kernel_rfl
      gi_wp2
      gi_region_with_o (first
        | (refine ⟨trivial, ?_⟩; gi_at_call 27; refine (CallsIn.inRound l (callsIn_wide.2 (clone_any x.1 _ (by omega)))).mono ?_; rintro e Wc ⟨rfl, bc⟩; have bcW : Below W.heap.size W Wc := (by first | exact bc | exact drC bc); have hcc := (bcW.cell (p := ⟨w1.heap.size, 0, none⟩) HV.out.lt).trans hc; have zc := bcW.size; have hlc : w1.heap.size < Wc.heap.size := Nat.lt_of_lt_of_le HV.out.lt zc; obtain ⟨v3, w3, hrun3, hown3, hgrow3, _, _⟩ := run_append_own_at (P := Tryz.prog) (Wc.alloc (.cells #[.string x.1] 9)) w1.heap.size 26 26 9 i0 (.string ByteArray.empty) 1 16 Tryz.underlying26 hi0 hz0 hz1 hz2 rfl (by decide) (.slice A9 (texts pre).length c9) (texts pre).length ((texts pre).map Value.string) (World.ownsRow.alloc (Sts.below HS.out bcW) _) ⟨Wc.heap.size, 0, none⟩ 1 1 [.string x.1] rfl (cell_one_new _ _ _) (one_str _) (by unfold maxLen; omega) (by omega) (by simp; omega); obtain ⟨g', cap', rfl⟩ := ownsRow_succ hown3; obtain ⟨hv1, hv2, hr2, hk2, hb2⟩ := Boxed.appended (show Boxed Wc w1.heap.size 26 _ from (bcW.block _ HV.out.lt).trans HV.out) (by decide) (Sts.below HS.out bcW) (by omega) (Nat.le_refl _) hown3 hgrow3; have hc1 := hv1.cell; have hf1 := hv1.frozen))
      all_goals gi_wp2
      all_goals exact ⟨(KeepsFrom.of_grownBy (row := none) ⟨bcW.os, bcW.tape, bcW.output, bcW.size, fun i h _ => bcW.block i h⟩ (fun j e => by cases e)).trans (hk2.from _), kt_append bcW hbs (Sts.below HS.out bcW) hgrow3 hv1 hb2, ⟨⟨_, hv2, by simpa [texts] using hr2, trivial⟩, HBW.out.trans ((bcW.mono hbs).trans hb2)⟩⟩
    case done =>
      rintro D ys W hD hS ⟨⟨v, hv, hrow, _⟩, hB⟩ hK
      have hc := hv.cell
      have hS9 : Sts W w1.heap.size v (texts ys) := hrow
      gi_wp2
      refine ⟨by simp, .inl ⟨_, _, rfl, run_takeDeferred hK, ?_⟩⟩
      have hs3 : Sts (W.putObj D (.deferred none)) w1.heap.size v (yieldT t) := by
        rw [← hS]
        exact ownsRow_putObj hS9 _ hK rfl
      obtain ⟨g, h1, h2⟩ := Sts.own hs3 HSM.out
      refine ⟨_, results_tmp rfl _ _ _, ?_⟩
      rw [HY.out]
      refine ⟨_, g, rfl, h1, fun hne => ?_, ?_⟩
      · have := h2 hne; omega
      · exact (HB1.out.trans (hB.mono (by omega))).trans (belowK_b (w := w1) (by omega) W D _ _ (by simp at hD; omega) hK rfl rfl)
    case stop =>
      rintro D c pre W _ _ h _
      exact h.elim
  · have nb : decide ((sizeT t : Int) > 200) = true := decide_eq_true (by omega)
    have HY : Hid (yieldOf t = []) := Lib.hid (by unfold yieldOf; rw [if_neg hbig])
    refine (callsIn_wide (n := 5)).1 ?_
    refine callsIn_of_wp_marks Tryz.func7 rfl trivial ?_ rfl
    simp only [Tryz.ntmps7, List.size_toArray, List.length_cons, List.length_nil, Nat.reduceAdd, Nat.reduceSub, Array.replicate_succ, Array.replicate_zero, List.push_toArray, List.append_toArray, List.nil_append, List.cons_append]
    gi_wp2_with fail
    generalize w.alloc (.cells #[.int .i64 t.rule, .string t.tok, .slice A t.kids.length c] 29) = w0 at R0 HK HSZ HB0 ⊢
    have z0 := HSZ.out
    refine ⟨trivial, ?_⟩
    refine (callsIn_wide.2 (implSizeOf_any t _ lo hi w0 HT.out HK.out (by omega) hn)).mono ?_
    rintro e w1 ⟨rfl, b1⟩
    have B1 := Lib.hid (HB0.out.trans (b1.mono (by omega)))
    clear b1 R0
    gi_wp2
    refine ⟨_, results_tmp rfl _ _ _, ?_⟩
    rw [HY.out]
    exact ⟨_, 0, rfl, ⟨_, _, rfl, Nat.le_refl _, by unfold maxLen; omega, by simp, fun h => by simp at h⟩, fun h => absurd rfl h, B1.out⟩
end Go.Proofs.YtokdhgocgicdnaaGreatDoor

/- Does a tree say a text? impl.Says. -/
namespace Go.Proofs.YtokdhgocgicdnaaGreatDoor
open Go.RowKit

set_option maxRecDepth 100000 in
set_option maxHeartbeats 4000000 in
theorem implSays_any (rs : List RuleD) (ws : List ByteArray) (t : TreeD) (v tv u : Value) (lo hi lo2 hi2 lo3 hi3 : Nat) (w : World) (hr : Rules w lo2 hi2 v rs) (hw : Strs w lo3 hi3 tv ws) (ht : TopOk t) (hk : Kd true w lo hi u t.kids) (hh : hi ≤ w.heap.size) (hh2 : hi2 ≤ w.heap.size) (hh3 : hi3 ≤ w.heap.size) (hb : bulkT t ≤ 1048576) :
    Calls Tryz.prog 5 #[.agg #[v], tv, trV t u] w fun e w' => e = .returned (.bool (saysB rs ws t)) ∧ Below w.heap.size w w' := by
  have hn : sizeT t ≤ 2097152 := by have := sizeT_le_bulkT t; omega
  have b0 := al2 w (.cells #[v] 25) (.cells #[.int .i64 t.rule, .string t.tok, u] 29)
  have RG := (Row.made w 25 #[v]).alloc (.cells #[.int .i64 t.rule, .string t.tok, u] 29)
  have RT := Row.made (w.alloc (.cells #[v] 25)) 29 #[.int .i64 t.rule, .string t.tok, u]
  have hsz : (w.alloc (.cells #[v] 25)).heap.size = w.heap.size + 1 := by simp
  rw [hsz] at RT
  have hsz2 : ((w.alloc (.cells #[v] 25)).alloc (.cells #[.int .i64 t.rule, .string t.tok, u] 29)).heap.size = w.heap.size + 1 + 1 := by simp
  have HSZ := Lib.hid hsz2
  have HRL := Lib.hid (hr.below b0 hh2)
  have HWS := Lib.hid (hw.below b0 hh3)
  have HKD := Lib.hid (hk.under b0 hh)
  have HT := Lib.hid ht
  have HB0 := Lib.hid b0
  obtain ⟨Av, cv, rfl, -⟩ := hr
  obtain ⟨Aw, cw, rfl, hlw, hcw, -⟩ := hw
  obtain ⟨A, c, U, rfl, -⟩ := hk.parts
  unfold maxLen at hcw
  clear b0 hk ht hsz hsz2
  unfold trV
  by_cases h4 : ws.length ≤ 400
  · have nb : decide ((ws.length : Int) > 400) = false := decide_eq_false (by omega)
    go_enter Tryz.func5, Tryz.ntmps5
    go_wp2_with fail
    generalize (w.alloc (.cells #[.slice Av rs.length cv] 25)).alloc (.cells #[.int .i64 t.rule, .string t.tok, .slice A t.kids.length c] 29) = w0 at RG RT HSZ HRL HWS HKD HB0 ⊢
    have z0 := HSZ.out
    refine (implRightSymbol_any rs t _ _ lo hi lo2 hi2 w0 HRL.out HT.out HKD.out (by omega) (by omega) hn).mono ?_
    rintro e w1 ⟨rfl, b1⟩
    have z1 := b1.size
    have B1 := Lib.hid (HB0.out.trans (b1.mono (by omega)))
    by_cases h5 : (rightS rs t).size = 0
    · have HE := Lib.hid (says_wrong (ws := ws) h5)
      have e5 : ((rightS rs t).toList == []) = true := by rw [toks_empty, decide_eq_true h5]
      clear b1
      go_wp2
      go_ret
      exact ⟨ret_bool HE.out.symm, B1.out⟩
    · have e5 : ((rightS rs t).toList == []) = false := by rw [toks_empty, decide_eq_false h5]
      have hlen : 0 < rs.length := by have := ((gramB_iff rs).1 (right_gram h5).1).1; omega
      have HST := Lib.hid (startTr_eq hlen)
      have RG1 := RG.below b1 (by omega)
      have RT1 := RT.below b1 (by omega)
      have g0 := RG1.cell 0
      have t0 := RT1.cell 0
      have t1 := RT1.cell 1
      have t2 := RT1.cell 2
      simp at g0 t0 t1 t2
      have l1 := RG1.lt
      have l2 := RT1.lt
      have HR1 := Lib.hid (HRL.out.below b1 (by omega))
      obtain ⟨Ar, cr, er, _, hcr, hrcell⟩ := HR1.out
      obtain ⟨br, offr, ea, _, hbr, hrc⟩ := hrcell hlen
      obtain ⟨_, hr0, _⟩ := hrc 0 hlen
      injection er with er1 er2 er3
      rw [← er1] at ea
      subst ea
      simp only [Nat.zero_mul, Nat.add_zero] at hr0
      have hbrw : br < w1.heap.size := by omega
      have hl0 : (0 : Int) < (rs.length : Int) := by omega
      have HK1 := Lib.hid (HKD.out.under b1 (by omega))
      have HW1 := Lib.hid (HWS.out.below b1 (by omega))
      clear hrcell hrc RG1 RT1 er1 er2 er3 b1
      by_cases h6 : rightS rs t = startTr rs
      · have e6 : ((rightS rs t).toList == rs[0].head.toList) = true := by rw [h6, HST.out]; simp
        have HE := Lib.hid (says_rest h4 h5 h6)
        have HYO := Lib.hid (right_yield h5)
        clear h6
        go_wp2_with fail
        refine (implYield_any t _ lo hi w1 HT.out HK1.out (by omega) hb).mono ?_
        rintro e w2 ⟨u2, g2, rfl, S2, G2, b2⟩
        have T2 := S2.strs G2
        have HT2 := Lib.hid T2
        have HW2 := Lib.hid (HW1.out.below b2 (by omega))
        have B2 := Lib.hid (B1.out.trans (b2.mono (by omega)))
        obtain ⟨A2, c2, rfl, -⟩ := T2
        clear S2 G2 b2
        go_wp2_with fail
        refine (slicesEqual_any _ _ (yieldOf t) ws _ _ _ _ w2 HT2.out HW2.out).mono ?_
        rintro e w3 ⟨rfl, n3, rfl⟩
        go_wp2
        go_ret
        exact ⟨ret_bool (by rw [HE.out, HYO.out]), ⟨B2.out.os, B2.out.tape, B2.out.output, B2.out.size, B2.out.block⟩⟩
      · have e6 : ((rightS rs t).toList == rs[0].head.toList) = false := by rw [list_eqE, decide_eq_false (by rw [← HST.out]; exact h6)]
        have HE := Lib.hid (says_other (ws := ws) h6)
        clear h6
        go_wp2
        go_ret
        exact ⟨ret_bool HE.out.symm, B1.out⟩
  · have nb : decide ((ws.length : Int) > 400) = true := decide_eq_true (by omega)
    have HE := Lib.hid (says_long (rs := rs) (t := t) h4)
    go_enter Tryz.func5, Tryz.ntmps5
    go_wp2
    go_ret
    exact ⟨ret_bool HE.out.symm, HB0.out⟩
end Go.Proofs.YtokdhgocgicdnaaGreatDoor
