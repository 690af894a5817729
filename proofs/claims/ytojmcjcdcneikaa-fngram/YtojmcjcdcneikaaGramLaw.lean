/- The walk of the law FnGram. -/
import Derived.Test.YtojmcjcdcneikaaDrawGi
import Derived.Test.YtojmcjcdcneikaaLwT
import Derived.Test.YtojmcjcdcneikaaTextI
import Derived.Test.YtojmcjcdcneikaaToksS
import Derived.Test.YtojmcjcdcneikaaToks
import Derived.Test.YtojmcjcdcneikaaReadO
import Derived.Test.YtojmcjcdcneikaaRightb
import Derived.Deep.RegionHeld3
import Derived.Deep.RegionLaw
import Derived.Deep.QuietTactic
import Derived.BigQuiet
namespace Go.Proofs.Ytojmcjcdcneikaa
open Go.RowKit

theorem Below.next {w0 wk w' : World} (h : Below w0.heap.size w0 wk) (b : Below wk.heap.size wk w') : Below w0.heap.size w0 w' := h.trans (b.mono h.size)
/-- of a text that is read, the grammar has that text -/
theorem read_back {u : ByteArray} {ro : List RuleD × Int} (h : readOut u = ro) (hc : ro.2 = 0) : gramT ro.1 = u := by
  unfold readOut at h
  split at h
  · rw [← h] at hc; cases hc
  · split at h
    · rw [← h] at hc; cases hc
    · rename_i rs hp
      obtain ⟨h1, h2⟩ := parseT_text hp
      rw [← h]
      exact gramT_is h2 h1
/-- a right grammar comes back from its text -/
theorem read_text {rs : List RuleD} (h : ¬ gramT rs = ⟨#[]⟩) : readOut (gramT rs) = (rs, 0) := by
  have hg : gramB rs = true := by
    cases hq : gramB rs
    · exact absurd (gramT_f hq) h
    · rfl
  refine readOut_some (by have := Dr.gramT_size rs; omega) ?_
  rw [gramT_t hg]
  exact parseT_of hg
namespace fnGram
abbrev IsRow := @Dr.IsRow

set_option maxRecDepth 100000 in
set_option maxHeartbeats 40000000 in
theorem walk (a0 : Option Addr) (len0 cap0 : Nat) (z0 : List Int) (a1 : Option Addr) (len1 cap1 : Nat) (z1 : List Int) (w : World) (h0 : IsRow .u8 w a0 len0 cap0 z0) (h1 : IsRow .u8 w a1 len1 cap1 z1) :
    Calls Try.prog 3 #[.slice a0 len0 cap0, .slice a1 len1 cap1] w fun e w' => e = .returned (.bool true) ∧ Below w.heap.size w w' := by
  have hb0 := Dr.IsRow.bytes h0
  have HB1 := Lib.hid (Dr.IsRow.bytes h1)
  clear h0 h1
  by_cases hl0 : (1048576 : Int) < len0
  · go_enter Try.func3, Try.ntmps3
    go_wp2
    go_ret
    exact ⟨rfl, Below.refl _ _⟩
  by_cases hl1 : (1048576 : Int) < len1
  · go_enter Try.func3, Try.ntmps3
    go_wp2
    go_ret
    exact ⟨rfl, Below.refl _ _⟩
  go_enter Try.func3, Try.ntmps3
  go_wp2_with fail
  refine (Dr.drawGramText_any w a0 len0 cap0 hb0 (by omega)).mono ?_
  rintro e w1 ⟨v, rs, rfl, R1, b1⟩
  have A1 := al1 w1 (.cells #[v] 25)
  have RG := Row.made w1 25 #[v]
  have HV1 := Lib.hid (R1.below A1 (Nat.le_refl _))
  have B1 := Below.next b1 A1
  have cG1 := RG.cell 0
  simp at cG1
  obtain ⟨Av, cv, rfl, -⟩ := R1
  clear hb0 b1 A1
  go_wp2_with fail
  refine (implGramText_any rs _ _ _ _ HV1.out (by simp)).mono ?_
  rintro e w2 ⟨rfl, b2⟩
  have HV2 := Lib.hid (HV1.out.below b2 (by simp))
  have RG2 := RG.below b2 (by simp)
  have B2 := Below.next B1 b2
  clear HV1 b2 RG B1
  go_wp2_with fail
  refine (Dr.drawGramRead_any _ a1 len1 cap1 (HB1.out.later B2) (by omega)).mono ?_
  rintro e w3 ⟨u, rfl, hu, b3⟩
  have hum : u.size ≤ maxLen := by unfold maxLen; omega
  have HV3 := Lib.hid (HV2.out.below b3 (by have := RG2.lt; omega))
  have RG3 := RG2.below b3 RG2.lt
  have B3 := Below.next B2 b3
  clear HV2 b3 RG2 B2
  go_wp2_with fail
  refine (implGramRead_any u _ hum).mono ?_
  generalize hro : readOut u = ro
  have HRO := Lib.hid hro
  clear hro
  rintro e w4 ⟨v4, rfl, O4, b4⟩
  have HV4 := Lib.hid (HV3.out.below b4 (by have := RG3.lt; omega))
  have RG4 := RG3.below b4 RG3.lt
  have B4 := Below.next B3 b4
  have HX4 := Lib.hid O4.rules
  obtain ⟨A4, c4, rfl, -⟩ := O4
  clear HV3 b4 RG3 B3
  go_wp2_with fail
  refine (specGramRead_any u _ hum).mono ?_
  rw [HRO.out]
  rintro e w5 ⟨v5, rfl, O5, b5⟩
  have HV5 := Lib.hid (HV4.out.below b5 (by have := RG4.lt; omega))
  have RG5 := RG4.below b5 RG4.lt
  have B5 := Below.next B4 b5
  have HX5 := Lib.hid (HX4.out.below b5 (Nat.le_refl _))
  have HY5 := Lib.hid O5.rules
  obtain ⟨A5, c5, rfl, -⟩ := O5
  have z5 := b5.size
  clear HV4 b5 RG4 B4 HX4
  have A6 := al2 w5 (.cells #[.slice A4 ro.1.length c4, .int .i64 ro.2] 30) (.cells #[.slice A5 ro.1.length c5, .int .i64 ro.2] 30)
  have RX := (Row.made w5 30 #[.slice A4 ro.1.length c4, .int .i64 ro.2]).alloc (.cells #[.slice A5 ro.1.length c5, .int .i64 ro.2] 30)
  have RY : Row ((w5.alloc (.cells #[.slice A4 ro.1.length c4, .int .i64 ro.2] 30)).alloc (.cells #[.slice A5 ro.1.length c5, .int .i64 ro.2] 30)) (w5.heap.size + 1) 30 #[.slice A5 ro.1.length c5, .int .i64 ro.2] := by
    simpa using Row.made (w5.alloc (.cells #[.slice A4 ro.1.length c4, .int .i64 ro.2] 30)) 30 #[.slice A5 ro.1.length c5, .int .i64 ro.2]
  have B6 := Below.next B5 A6
  go_wp2_with fail
  refine (Dr.drawIsHead_any _ a1 len1 cap1 (HB1.out.later B6) (by omega)).mono ?_
  rintro e w6 ⟨sh, rfl, hsh, b6⟩
  have RX6 := RX.below b6 RX.lt
  have RY6 := RY.below b6 RY.lt
  have B66 := Below.next B6 b6
  have A66 := Below.next A6 b6
  clear RX RY A6
  go_wp2_with fail
  refine (Dr.drawIsToken_any _ a1 len1 cap1 (HB1.out.later B66) (by omega)).mono ?_
  rintro e w7 ⟨st, rfl, hst, b7⟩
  have RX7 := RX6.below b7 RX6.lt
  have RY7 := RY6.below b7 RY6.lt
  have B7 := Below.next B66 b7
  have A7 := Below.next A66 b7
  have RG7 := RG5.below A7 RG5.lt
  have HV7 := Lib.hid (HV5.out.below A7 (by have := RG5.lt; omega))
  have HX7 := Lib.hid (HX5.out.below A7 (by omega))
  have HY7 := Lib.hid (HY5.out.below A7 (Nat.le_refl _))
  have lG := RG7.lt
  have lX := RX7.lt
  have lY := RY7.lt
  have lv : w1.heap.size ≤ w7.heap.size := by omega
  have l4 : w4.heap.size ≤ w7.heap.size := by omega
  have l5 : w5.heap.size ≤ w7.heap.size := by omega
  have cG := RG7.cell 0
  have cX0 := RX7.cell 0
  have cX1 := RX7.cell 1
  have cY0 := RY7.cell 0
  have cY1 := RY7.cell 1
  simp at cG cX0 cX1 cY0 cY1
  have HB7 := Lib.hid B7
  have BB : Below w7.heap.size w7 w7.drew := (Below.refl _ _).drew
  have HES := Lib.hid (eqSs_t (rfl : headsOf rs = headsOf rs))
  have HET := Lib.hid (eqSs_t (rfl : toksOf rs = toksOf rs))
  have dT : ((gramT rs).toList == (gramT rs).toList) = true := by simp
  have hshm : sh.size ≤ maxLen := by unfold maxLen; omega
  have hstm : st.size ≤ maxLen := by unfold maxLen; omega
  clear B7 A7 B66 A66 b7 b6 RX6 RY6 RG5 RX7 RY7 RG7 HV5 HX5 HY5 B6 B5 cG1 hum
  go_wp2_with fail
  go_region_held3 (fun w' => w'.cell? ⟨w1.heap.size, 0, none⟩ = some (.slice Av rs.length cv) ∧ w'.cell? ⟨w5.heap.size, 0, none⟩ = some (.slice A4 ro.1.length c4) ∧ w'.cell? ⟨w5.heap.size, 1, none⟩ = some (.int .i64 ro.2) ∧ w'.cell? ⟨w5.heap.size + 1, 0, none⟩ = some (.slice A5 ro.1.length c5) ∧ w'.cell? ⟨w5.heap.size + 1, 1, none⟩ = some (.int .i64 ro.2))
    (first | go_keep | (refine ⟨?_, ?_, ?_, ?_, ?_⟩ <;> (rw [BB.cell (by first | exact lG | exact lX | exact lY)]; assumption)))
    (first
      | (go_at_call 18; refine (specGramText_any rs _ _ _ _ (HV7.out.below BB lv) (Nat.le_trans lv BB.size)).mono ?_; rintro e wa ⟨rfl, ba⟩; have BB := Below.next BB ba)
      | (go_at_call 19; refine (lwGram_same _ _ ro.1 _ _ _ _ _ (HX7.out.below BB l4) (HY7.out.below BB l5) (Nat.le_trans l4 BB.size) (Nat.le_trans l5 BB.size)).mono ?_; rintro e wb ⟨rfl, bb⟩; have BB := Below.next BB bb)
      | (go_at_call 21; refine (implHeads_any rs _ _ _ _ (HV7.out.below BB lv) (Nat.le_trans lv BB.size)).mono ?_; rintro e wc ⟨u1, g1, rfl, S1, G1, bc⟩; have T1 := S1.strs G1; have BB := Below.next BB bc)
      | (go_at_call 22; refine (specHeads_any rs _ _ _ _ (HV7.out.below BB lv) (Nat.le_trans lv BB.size)).mono ?_; rintro e wd ⟨u2, g2, rfl, S2, G2, bd⟩; have T2 := S2.strs G2; have T1d := T1.below bd (Nat.le_refl _); have BB := Below.next BB bd)
      | (go_at_call 20; refine (lwTexts_any u1 u2 (headsOf rs) (headsOf rs) _ _ _ _ _ T1d T2).mono ?_; rintro e we ⟨rfl, nq, rfl⟩; rw [HES.out]; have BB : Below w7.heap.size w7 (wd.drewN nq) := ⟨BB.os, BB.tape, BB.output, BB.size, BB.block⟩; clear T1d T2 T1)
      | (go_at_call 23; refine (implTokens_any rs _ _ _ _ (HV7.out.below BB lv) (Nat.le_trans lv BB.size)).mono ?_; rintro e wf ⟨u3, g3, rfl, S3, G3, bf⟩; have T3 := S3.strs G3; have BB := Below.next BB bf)
      | (go_at_call 24; refine (specTokens_any rs _ _ _ _ (HV7.out.below BB lv) (Nat.le_trans lv BB.size)).mono ?_; rintro e wg ⟨u4, g4, rfl, S4, G4, bg⟩; have T4 := S4.strs G4; have T3d := T3.below bg (Nat.le_refl _); have BB := Below.next BB bg)
      | (go_at_call 20; refine (lwTexts_any u3 u4 (toksOf rs) (toksOf rs) _ _ _ _ _ T3d T4).mono ?_; rintro e wh ⟨rfl, nr, rfl⟩; rw [HET.out]; have BB : Below w7.heap.size w7 (wg.drewN nr) := ⟨BB.os, BB.tape, BB.output, BB.size, BB.block⟩)
      | (go_at_call 25; refine (implGramRight_any rs _ _ _ _ (HV7.out.below BB lv) (Nat.le_trans lv BB.size)).mono ?_; rintro e wi ⟨rfl, bi⟩; have BB := Below.next BB bi)
      | (go_at_call 26; refine (specGramRight_any rs _ _ _ _ (HV7.out.below BB lv) (Nat.le_trans lv BB.size)).mono ?_; rintro e wj ⟨rfl, bj⟩; have BB := Below.next BB bj)
      | (go_at_call 27; refine (implIsHead_any sh _).mono ?_; rintro e wk ⟨rfl, bk⟩; have BB := Below.next BB bk)
      | (go_at_call 28; refine (specIsHead_any sh _ hshm).mono ?_; rintro e wk' ⟨rfl, rfl⟩)
      | (go_at_call 29; refine (implIsToken_any st _).mono ?_; rintro e wl ⟨rfl, bl⟩; have BB := Below.next BB bl)
      | (go_at_call 30; refine (specIsToken_any st _ hstm).mono ?_; rintro e wl' ⟨rfl, rfl⟩))
  have lB := BB
  have HBL := Lib.hid BB
  have hfd := Dr.field_gram
  have BB : Below w7.heap.size w7 wl.drew := BB.drew
  have c8G := (lB.cell (p := ⟨w1.heap.size, 0, none⟩) lG).trans cG
  have c8X0 := (lB.cell (p := ⟨w5.heap.size, 0, none⟩) lX).trans cX0
  have c8X1 := (lB.cell (p := ⟨w5.heap.size, 1, none⟩) lX).trans cX1
  clear cY0 cY1 lB
  by_cases hc : ro.2 = 0
  · have HGT : Hid (gramT ro.1 = u) := Lib.hid (read_back HRO.out hc)
    have dc : (ro.2 != 0) = false := by rw [hc]; rfl
    have du : (u.toList == u.toList) = true := by simp
    have HC := Lib.hid hc
    clear hc
    by_cases ht : gramT rs = ⟨#[]⟩
    · have dt := eq_lit ht
      clear ht
      go_wp2
      first
        | go_region_with (go_at_call 12; refine (implGramText_any ro.1 _ _ _ _ (HX7.out.below BB l4) (Nat.le_trans l4 BB.size)).mono ?_; rintro e wp ⟨rfl, bp⟩; rw [HGT.out]; have BB := Below.next BB bp)
        | fail
      all_goals
        go_wp2
        go_ret
        exact ⟨rfl, HB7.out.trans (BB.mono HB7.out.size)⟩
    · have dt := neq_lit (l := []) ht
      have HRT := Lib.hid (read_text ht)
      have hgm : (gramT rs).size ≤ maxLen := by have := Dr.gramT_size rs; unfold maxLen; omega
      clear ht
      go_wp2
      go_region_held3 (fun w' => w'.cell? ⟨w1.heap.size, 0, none⟩ = some (.slice Av rs.length cv) ∧ w'.cell? ⟨w5.heap.size, 0, none⟩ = some (.slice A4 ro.1.length c4) ∧ w'.cell? ⟨w5.heap.size, 1, none⟩ = some (.int .i64 ro.2))
      (first | go_keep | (refine ⟨?_, ?_, ?_⟩ <;> (rw [BB.cell (by first | exact lG | exact lX | exact lY)]; assumption)))
      (first
        | (go_at_call 12; refine (implGramText_any ro.1 _ _ _ _ (HX7.out.below BB l4) (Nat.le_trans l4 BB.size)).mono ?_; rintro e wp ⟨rfl, bp⟩; rw [HGT.out]; have BB := Below.next BB bp)
        | (go_at_call 14; refine (implGramRead_any (gramT rs) _ hgm).mono ?_; rw [HRT.out]; rintro e wq ⟨vq, rfl, Oq, bq⟩; have HQ := Lib.hid Oq.rules; obtain ⟨Aq, cq, rfl, -⟩ := Oq; have BB := Below.next BB bq)
        | (go_at_call 19; refine (lwGram_same _ _ rs _ _ _ _ _ HQ.out (HV7.out.below BB lv) (Nat.le_refl _) (Nat.le_trans lv BB.size)).mono ?_; rintro e wr ⟨rfl, br⟩; have BB := Below.next BB br))
      go_wp2
      go_ret
      exact ⟨rfl, HB7.out.trans (BB.mono HB7.out.size)⟩
  · have dc : (ro.2 != 0) = true := by simpa using hc
    have dc1 : (ro.2 == 0) = false := by simpa using hc
    have dc2 : decide (ro.2 = 0) = false := decide_eq_false hc
    clear hc
    by_cases ht : gramT rs = ⟨#[]⟩
    · have dt := eq_lit ht
      clear ht
      go_wp2
      go_quiet (fail)
      go_wp2
      go_ret
      exact ⟨rfl, HB7.out.trans (Below.mono (show Below w7.heap.size w7 (wl.drewN nq) from ⟨BB.os, BB.tape, BB.output, BB.size, BB.block⟩) HB7.out.size)⟩
    · have dt := neq_lit (l := []) ht
      have HRT := Lib.hid (read_text ht)
      have hgm : (gramT rs).size ≤ maxLen := by have := Dr.gramT_size rs; unfold maxLen; omega
      clear ht
      go_wp2
      first
        | go_region_with (first
          | (go_at_call 14; refine (implGramRead_any (gramT rs) _ hgm).mono ?_; rw [HRT.out]; rintro e wq ⟨vq, rfl, Oq, bq⟩; have HQ := Lib.hid Oq.rules; obtain ⟨Aq, cq, rfl, -⟩ := Oq; have BB := Below.next BB bq; have cGq := (BB.cell (p := ⟨w1.heap.size, 0, none⟩) lG).trans cG)
          | (go_at_call 19; refine (lwGram_same _ _ rs _ _ _ _ _ HQ.out (HV7.out.below BB lv) (Nat.le_refl _) (Nat.le_trans lv BB.size)).mono ?_; rintro e wr ⟨rfl, br⟩; have BB := Below.next BB br))
        | fail
      all_goals
        go_wp2
        go_ret
        exact ⟨rfl, HB7.out.trans (BB.mono HB7.out.size)⟩
end fnGram
end Go.Proofs.Ytojmcjcdcneikaa
