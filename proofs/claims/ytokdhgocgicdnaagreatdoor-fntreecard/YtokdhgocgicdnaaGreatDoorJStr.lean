import Derived.Test.YtokdhgocgicdnaaGreatDoorJEq
import Derived.Test.YtokdhgocgicdnaaGreatDoorJSsy
import Derived.Deep.LoopGhost
import Derived.Test.YtokdhgocgicdnaaGreatDoorJHeadsS
import Derived.Deep.RegionHeld3
import Derived.BigQuiet
/- May a tree be one of a symbol? The model: spec.l05Part. -/
namespace Go.Proofs.YtokdhgocgicdnaaGreatDoor
open Go.RowKit

theorem symOK_small {s : ByteArray} (h : symOK s = true) : s.size ≠ 0 ∧ s.size ≤ 4 := by
  unfold symOK headB tokB at h
  rw [Bool.or_eq_true] at h
  rcases h with h | h
  · have := (symB_iff _ _ _).1 h; omega
  · have := (symB_iff _ _ _).1 h; omega
theorem part_tok {rs : List RuleD} {t : TreeD} {s : ByteArray} (hg : gramB rs = true) (hs : tokB s = true) : symT rs t = s ↔ t.rule = -1 ∧ t.tok = s ∧ t.kids.length = 0 := by
  have hz : s.size ≠ 0 := sym_size hs
  constructor
  · intro h
    rcases symT_cases rs t with h0 | ⟨_, h2, h3, _, h5⟩ | ⟨_, _, h3, h4, _⟩
    · rw [h0] at h; rw [← h] at hz; exact absurd rfl hz
    · rw [h5] at h; exact ⟨h3, h, h2⟩
    · have := ((gramB_iff rs).1 hg).2.2 _ h3
      have := ((ruleB_iff _).1 this).1
      rw [← h4, h, ] at this
      rw [tok_no_head this] at hs
      cases hs
  · rintro ⟨h1, h2, h3⟩
    rw [symT_leaf (by rw [h2]; exact hz) h3 h1 (by rw [h2]; exact hs), h2]
section
variable {rs : List RuleD} {t : TreeD} {s : ByteArray}
theorem part_head_tok (hs : tokB s = false) (hz : s.size ≠ 0) (h : t.tok.size ≠ 0) : symT rs t ≠ s := by
  intro e
  rcases symT_cases rs t with h0 | ⟨_, h2, h3, h4, h5⟩ | ⟨h1, _⟩
  · rw [h0] at e; rw [← e] at hz; exact absurd rfl hz
  · rw [h5] at e; rw [e, hs] at h4; cases h4
  · exact h h1
theorem part_head_range (hs : tokB s = false) (hz : s.size ≠ 0) (h : ¬ (0 ≤ t.rule ∧ t.rule < (rs.length : Int))) : symT rs t ≠ s := by
  intro e
  rcases symT_cases rs t with h0 | ⟨_, h2, h3, h4, h5⟩ | ⟨h1, h2, h3, _⟩
  · rw [h0] at e; rw [← e] at hz; exact absurd rfl hz
  · rw [h5] at e; rw [e, hs] at h4; cases h4
  · omega
theorem part_other (hz : s.size ≠ 0) (h1 : t.tok.size = 0) (h3 : t.rule.toNat < rs.length) (h : rs[t.rule.toNat].head ≠ s ∨ t.kids.length ≠ rs[t.rule.toNat].body.length) : symT rs t ≠ s := by
  intro e
  rcases symT_cases rs t with h0 | ⟨h2, _⟩ | ⟨_, h2, h3, h4, h5⟩
  · rw [h0] at e; rw [← e] at hz; exact absurd rfl hz
  · exact h2 h1
  · rcases h with h | h
    · exact h (by rw [← h4, e])
    · exact h h5
end
theorem bytes_beq_t {a b : ByteArray} (h : a = b) : (a.toList == b.toList) = true := by rw [h]; simp
theorem bytes_beq_f {a b : ByteArray} (h : a ≠ b) : (a.toList == b.toList) = false := by rw [list_eqE, decide_eq_false h]

set_option maxHeartbeats 1000000 in
theorem l02Is_any (a n : Int) (w : World) : Calls Tryz.prog 34 #[.int .i64 a, .int .i64 0, .int .i64 n] w fun e w' => e = .returned (.bool (decide (0 ≤ a) && decide (a ≤ n))) ∧ w' = w := by
  by_cases h : 0 ≤ a
  · have d : decide (0 ≤ a) = true := decide_eq_true h
    go_enter Tryz.func34, Tryz.ntmps34
    go_wp2
    go_ret
    first | exact ⟨rfl, rfl⟩ | exact ⟨ret_bool (by rw [d]; rfl), rfl⟩ | exact ⟨ret_bool rfl, rfl⟩
  · have d : decide (0 ≤ a) = false := decide_eq_false h
    go_enter Tryz.func34, Tryz.ntmps34
    go_wp2
    go_ret
    first | exact ⟨rfl, rfl⟩ | exact ⟨ret_bool (by rw [d]; rfl), rfl⟩ | exact ⟨ret_bool rfl, rfl⟩

def SpP (rs : List RuleD) (t : TreeD) : Prop := ∀ (z : Bool) (u v : Value) (s : ByteArray) (lo hi lo2 hi2 : Nat) (w : World), symOK s = true → Kd z w lo hi u t.kids → Rules w lo2 hi2 v rs → hi ≤ w.heap.size → hi2 ≤ w.heap.size →
  Calls Tryz.prog 35 #[.agg #[v], trV t u, .string s] w fun e w' => e = .returned (.bool (decide (symT rs t = s))) ∧ Below w.heap.size w w'

set_option maxRecDepth 100000 in
set_option maxHeartbeats 4000000 in
theorem specPart_of (rs : List RuleD) (hg : gramB rs = true) (t : TreeD) (ih : ∀ i (h : i < t.kids.length), SpP rs t.kids[i]) : SpP rs t := by
  intro z u v s lo hi lo2 hi2 w hs hkd hrl hh hh2
  obtain ⟨hz, hz4⟩ := symOK_small hs
  have hsm : s.size ≤ maxLen := by unfold maxLen; omega
  have HSM := Lib.hid hsm
  have HG := Lib.hid hg
  obtain ⟨A, c, U, rfl, hlc, hc, hs', hcell, hsub⟩ := hkd.parts
  have HC := Lib.hid hcell
  have HB := Lib.hid hsub
  have HRV := Lib.hid hrl
  obtain ⟨Ar, cr, rfl, hlr, hcr, hrcell⟩ := hrl
  have HR := Lib.hid hrcell
  unfold maxLen at hc hcr
  unfold trV
  have hb0 := al2 w (.cells #[.slice Ar rs.length cr] 25) (.cells #[.int .i64 t.rule, .string t.tok, .slice A t.kids.length c] 29)
  have HB0 := Lib.hid hb0
  clear hkd hcell hsub hs' hrcell hsm hg hb0
  cases htk : tokB s
  · have HTK := Lib.hid htk
    clear htk
    by_cases hrg : 0 ≤ t.rule ∧ t.rule < (rs.length : Int)
    · by_cases h1 : t.tok.size = 0
      · have e1 : (t.tok.toList == []) = true := by rw [toks_empty, decide_eq_true h1]
        have d1 : decide (0 ≤ t.rule) = true := decide_eq_true hrg.1
        have d2 : decide (t.rule ≤ (rs.length : Int) - 1) = true := decide_eq_true (by omega)
        have h4 : t.rule.toNat < rs.length := by omega
        obtain ⟨br, offr, rfl, _, hbr, hrc⟩ := HR.out (by omega)
        obtain ⟨hhd, hr0, ub, hr1, hbody⟩ := hrc t.rule.toNat h4
        obtain ⟨Ab, cb, rfl, hlb, hcb, hsb, hbcell⟩ := hbody
        have HBC := Lib.hid hbcell
        unfold maxLen at hcb
        have hlt3 : t.rule < (rs.length : Int) := by omega
        have hge3 : 0 ≤ t.rule := by omega
        have hbrw : br < w.heap.size := by omega
        clear hrc hbcell hsb
        by_cases h6 : rs[t.rule.toNat].head = s
        · have e6 := bytes_beq_t h6
          have H6 := Lib.hid h6
          clear h6
          by_cases h5 : t.kids.length = rs[t.rule.toNat].body.length
          · have HRB := Lib.hid (((ruleB_iff _).1 (((gramB_iff rs).1 HG.out).2.2 _ h4)).2.2)
            have R1 := (Row.made (w.alloc (.cells #[.slice (some ⟨br, offr, none⟩) rs.length cr] 25)) 29 #[.int .i64 t.rule, .string t.tok, .slice A t.kids.length c]).alloc (.cells #[.string rs[t.rule.toNat].head, .slice Ab rs[t.rule.toNat].body.length cb] 45)
            have RG := ((Row.made w 25 #[.slice (some ⟨br, offr, none⟩) rs.length cr]).alloc (.cells #[.int .i64 t.rule, .string t.tok, .slice A t.kids.length c] 29)).alloc (.cells #[.string rs[t.rule.toNat].head, .slice Ab rs[t.rule.toNat].body.length cb] 45)
            have R2 := Row.made ((w.alloc (.cells #[.slice (some ⟨br, offr, none⟩) rs.length cr] 25)).alloc (.cells #[.int .i64 t.rule, .string t.tok, .slice A t.kids.length c] 29)) 45 #[.string rs[t.rule.toNat].head, .slice Ab rs[t.rule.toNat].body.length cb]
            have hb1 := al3 w (.cells #[.slice (some ⟨br, offr, none⟩) rs.length cr] 25) (.cells #[.int .i64 t.rule, .string t.tok, .slice A t.kids.length c] 29) (.cells #[.string rs[t.rule.toNat].head, .slice Ab rs[t.rule.toNat].body.length cb] 45)
            have hsz1 : (w.alloc (.cells #[.slice (some ⟨br, offr, none⟩) rs.length cr] 25)).heap.size = w.heap.size + 1 := by simp
            have hsz2 : ((w.alloc (.cells #[.slice (some ⟨br, offr, none⟩) rs.length cr] 25)).alloc (.cells #[.int .i64 t.rule, .string t.tok, .slice A t.kids.length c] 29)).heap.size = w.heap.size + 1 + 1 := by simp
            have hsz3 : (((w.alloc (.cells #[.slice (some ⟨br, offr, none⟩) rs.length cr] 25)).alloc (.cells #[.int .i64 t.rule, .string t.tok, .slice A t.kids.length c] 29)).alloc (.cells #[.string rs[t.rule.toNat].head, .slice Ab rs[t.rule.toNat].body.length cb] 45)).heap.size = w.heap.size + 1 + 1 + 1 := by simp
            rw [hsz1] at R1
            rw [hsz2] at R2
            have HSZ := Lib.hid hsz3
            have H5 := Lib.hid h5
            have n5 : ((t.kids.length : Int) != (rs[t.rule.toNat].body.length : Int)) = false := by rw [bne_eq_false_iff_eq]; omega
            clear hsz1 hsz2 hsz3 h5
            go_enter Tryz.func35, Tryz.ntmps35
            go_wp2_with (first | (go_at_call 33; refine (specIsToken_any s _ HSM.out).mono ?_; rintro e w1 ⟨rfl, rfl⟩; rw [HTK.out]) | (go_at_call 34; refine (l02Is_any _ _ _).mono ?_; rintro e w1 ⟨rfl, rfl⟩; rw [d1, d2]))
            generalize ((w.alloc (.cells #[.slice (some ⟨br, offr, none⟩) rs.length cr] 25)).alloc (.cells #[.int .i64 t.rule, .string t.tok, .slice A t.kids.length c] 29)).alloc (.cells #[.string rs[t.rule.toNat].head, .slice Ab rs[t.rule.toNat].body.length cb] 45) = w0 at R1 R2 RG hb1 HSZ ⊢
            have hsz0 := HSZ.out
            go_loopg [8] t.kids.length (fun gk i wr => ∃ k : Nat, k ≤ t.kids.length ∧ i = .int .i64 k ∧ Below w0.heap.size w0 wr ∧ (∀ j (h : j < t.kids.length), j < k → symT rs t.kids[j] = rs[t.rule.toNat].body[j]'(by have := H5.out; omega)) ∧ gk = t.kids.length - k)
            case atStart => exact ⟨0, by omega, rfl, Below.refl _ _, (fun j _ hj => by omega), rfl⟩
            case round =>
              obtain ⟨k, hk, rfl, hbw, hall, rfl⟩ := hrel
              have HA := Lib.hid hall
              clear hall
              have hsw := hbw.size
              have R3 := R1.below hbw R1.lt
              have R4 := R2.below hbw R2.lt
              have R5 := RG.below hbw RG.lt
              have c2 := R3.cell 2
              have c1 := R4.cell 1
              have c0 := R5.cell 0
              simp at c0 c1 c2
              have l1 := R3.lt
              have l2 := R4.lt
              have l0 := R5.lt
              have HBX := Lib.hid (hb1.trans (hbw.mono hb1.size))
              by_cases hlt : k < t.kids.length
              · obtain ⟨b, off, rfl, _, hbh, _, hcc⟩ := HC.out (by omega)
                obtain ⟨hc0, hc1, hc2⟩ := hcc k hlt
                have hlt5 : k < rs[t.rule.toNat].body.length := by have := H5.out; omega
                obtain ⟨bb, offb, rfl, _, hbbh, hbcc⟩ := HBC.out (by omega)
                have hbk := hbcc k hlt5
                have B0 := HBX.out
                have k0 := (B0.cell (p := ⟨b, off + k * 3, none⟩) (by show b < _; omega)).trans hc0
                have k1 := (B0.cell (p := ⟨b, off + k * 3 + 1, none⟩) (by show b < _; omega)).trans hc1
                have k2 := (B0.cell (p := ⟨b, off + k * 3 + 2, none⟩) (by show b < _; omega)).trans hc2
                have kb := (B0.cell (p := ⟨bb, offb + k, none⟩) (by show bb < _; omega)).trans hbk
                have HKD := Lib.hid ((HB.out k hlt).under B0 hh)
                have HRD := Lib.hid (HRV.out.below B0 hh2)
                have i1 : (k : Int) < (t.kids.length : Int) := by omega
                have i5 : (k : Int) < (rs[t.rule.toNat].body.length : Int) := by omega
                have hbwr : b < wr.heap.size := by omega
                have hbbwr : bb < wr.heap.size := by omega
                have hbw2 : Below w0.heap.size w0 wr.drew := hbw.drew
                have g1d : Kd z wr.drew lo hi (U k) t.kids[k].kids := HKD.out.drewN 1
                have g2d : Rules wr.drew lo2 hi2 (.slice (some ⟨br, offr, none⟩) rs.length cr) rs := HRD.out
                have hswd : w0.heap.size ≤ wr.drew.heap.size := hsw
                clear hcc hc0 hc1 hc2 hbcc hbk R3 R4 R5 B0
                by_cases heq : symT rs t.kids[k] = rs[t.rule.toNat].body[k]
                · have HEQ := Lib.hid heq
                  have HDE := Lib.hid (decide_eq_true heq)
                  clear heq
                  go_wp2
                  go_still_tail 11, (by kernel_rfl)
                  change wpList _ _ _ _ _ wr.drew
                  generalize wr.drew = w2 at hbw2 g1d g2d hswd ⊢
                  go_wp2_with fail
                  refine (ih k hlt z (U k) _ rs[t.rule.toNat].body[k] lo hi lo2 hi2 _ (HRB.out k hlt5) g1d g2d (by omega) (by omega)).mono ?_
                  rintro e w1 ⟨rfl, hb2⟩
                  rw [HDE.out]
                  go_wp2
                  go_roundg (t.kids.length - (k + 1))
                  case rel => exact ⟨k + 1, by omega, by go_num, hbw2.trans (hb2.mono hswd), (fun j hj hjk => by
                    by_cases e : j = k
                    · subst e; exact HEQ.out
                    · exact HA.out j hj (by omega)), rfl⟩
                  case measure => omega
                · have HE := Lib.hid (decide_eq_false (fun h : symT rs t = s => by
                    rw [symT_kid h1 (by omega) h4 H5.out hlt heq] at h
                    rw [← h] at hz
                    exact hz rfl))
                  have HDE := Lib.hid (decide_eq_false heq)
                  clear heq
                  go_wp2
                  go_still_tail 11, (by kernel_rfl)
                  change wpList _ _ _ _ _ wr.drew
                  generalize wr.drew = w2 at hbw2 g1d g2d hswd ⊢
                  go_wp2_with fail
                  refine (ih k hlt z (U k) _ rs[t.rule.toNat].body[k] lo hi lo2 hi2 _ (HRB.out k hlt5) g1d g2d (by omega) (by omega)).mono ?_
                  rintro e w1 ⟨rfl, hb2⟩
                  rw [HDE.out]
                  go_wp2
                  go_ret
                  exact ⟨ret_bool HE.out.symm, (hb1.trans (hbw2.mono hb1.size)).trans (hb2.mono (by omega))⟩
              · have HE := Lib.hid (decide_eq_true (show symT rs t = s by rw [symT_ok h1 (by omega) h4 H5.out (fun i hi hi' => HA.out i hi (by omega))]; exact H6.out))
                clear R3 R4 R5
                go_wp2
                go_ret
                exact ⟨ret_bool HE.out.symm, HBX.out⟩
          · have HE := Lib.hid (decide_eq_false (part_other (rs := rs) hz h1 h4 (.inr h5)))
            have n5 : ((t.kids.length : Int) == (rs[t.rule.toNat].body.length : Int)) = false := by rw [beq_eq_false_iff_ne]; omega
            go_enter Tryz.func35, Tryz.ntmps35
            go_wp2_with (first | (go_at_call 33; refine (specIsToken_any s _ HSM.out).mono ?_; rintro e w1 ⟨rfl, rfl⟩; rw [HTK.out]) | (go_at_call 34; refine (l02Is_any _ _ _).mono ?_; rintro e w1 ⟨rfl, rfl⟩; rw [d1, d2]))
            go_ret
            exact ⟨ret_bool HE.out.symm, al3 _ _ _ _⟩
        · have HE := Lib.hid (decide_eq_false (part_other (rs := rs) hz h1 h4 (.inl h6)))
          have e6 := bytes_beq_f h6
          clear h6
          go_enter Tryz.func35, Tryz.ntmps35
          go_wp2_with (first | (go_at_call 33; refine (specIsToken_any s _ HSM.out).mono ?_; rintro e w1 ⟨rfl, rfl⟩; rw [HTK.out]) | (go_at_call 34; refine (l02Is_any _ _ _).mono ?_; rintro e w1 ⟨rfl, rfl⟩; rw [d1, d2]))
          go_ret
          exact ⟨ret_bool HE.out.symm, al3 _ _ _ _⟩
      · have HE := Lib.hid (decide_eq_false (part_head_tok (rs := rs) HTK.out hz h1))
        have e1 : (t.tok.toList == []) = false := by rw [toks_empty, decide_eq_false h1]
        have d1 : decide (0 ≤ t.rule) = true := decide_eq_true hrg.1
        have d2 : decide (t.rule ≤ (rs.length : Int) - 1) = true := decide_eq_true (by omega)
        go_enter Tryz.func35, Tryz.ntmps35
        go_wp2_with (first | (go_at_call 33; refine (specIsToken_any s _ HSM.out).mono ?_; rintro e w1 ⟨rfl, rfl⟩; rw [HTK.out]) | (go_at_call 34; refine (l02Is_any _ _ _).mono ?_; rintro e w1 ⟨rfl, rfl⟩; rw [d1, d2]))
        go_ret
        exact ⟨ret_bool HE.out.symm, HB0.out⟩
    · have HE := Lib.hid (decide_eq_false (part_head_range (rs := rs) HTK.out hz hrg))
      have d1 : (decide (0 ≤ t.rule) && decide (t.rule ≤ (rs.length : Int) - 1)) = false := by
        rw [Bool.and_eq_false_iff, decide_eq_false_iff_not, decide_eq_false_iff_not]; omega
      have D1 := Lib.hid d1
      clear d1
      go_enter Tryz.func35, Tryz.ntmps35
      go_wp2_with (first | (go_at_call 33; refine (specIsToken_any s _ HSM.out).mono ?_; rintro e w1 ⟨rfl, rfl⟩; rw [HTK.out]) | (go_at_call 34; refine (l02Is_any _ _ _).mono ?_; rintro e w1 ⟨rfl, rfl⟩; rw [D1.out]))
      go_ret
      exact ⟨ret_bool HE.out.symm, HB0.out⟩
  · have HTK := Lib.hid htk
    have HPT := Lib.hid (part_tok (t := t) HG.out htk)
    clear htk
    by_cases h1 : t.rule = -1
    · by_cases h2 : t.tok = s
      · have e2 := bytes_beq_t h2
        have HE : Hid (decide (symT rs t = s) = ((t.kids.length : Int) == 0)) := Lib.hid (by
          rw [Bool.eq_iff_iff, decide_eq_true_eq, HPT.out, beq_iff_eq]
          constructor
          · rintro ⟨_, _, h⟩; omega
          · intro h; exact ⟨h1, h2, by omega⟩)
        have H2 := Lib.hid h2
        clear h2
        go_enter Tryz.func35, Tryz.ntmps35
        go_wp2_with (go_at_call 33; refine (specIsToken_any s _ HSM.out).mono ?_; rintro e w1 ⟨rfl, rfl⟩; rw [HTK.out])
        go_ret
        exact ⟨ret_bool HE.out.symm, al2 _ _ _⟩
      · have e2 := bytes_beq_f h2
        have HE := Lib.hid (decide_eq_false (fun h => h2 (HPT.out.1 h).2.1))
        go_enter Tryz.func35, Tryz.ntmps35
        go_wp2_with (go_at_call 33; refine (specIsToken_any s _ HSM.out).mono ?_; rintro e w1 ⟨rfl, rfl⟩; rw [HTK.out])
        go_ret
        exact ⟨ret_bool HE.out.symm, al2 _ _ _⟩
    · have HE := Lib.hid (decide_eq_false (fun h => h1 (HPT.out.1 h).1))
      go_enter Tryz.func35, Tryz.ntmps35
      go_wp2_with (go_at_call 33; refine (specIsToken_any s _ HSM.out).mono ?_; rintro e w1 ⟨rfl, rfl⟩; rw [HTK.out])
      go_ret
      exact ⟨ret_bool HE.out.symm, HB0.out⟩
end Go.Proofs.YtokdhgocgicdnaaGreatDoor

/- Is a tree right? The model: spec.TreeRight. -/
namespace Go.Proofs.YtokdhgocgicdnaaGreatDoor
open Go.RowKit
theorem specPart_any (rs : List RuleD) (hg : gramB rs = true) (t : TreeD) : SpP rs t := tree_ind (specPart_of rs hg) t

section
variable {rs : List RuleD} {t : TreeD}
theorem rightB_no (h : gramB rs = false) : rightB rs t = false := by
  unfold rightB rightS
  rw [if_neg (by rw [h]; rintro ⟨h, _⟩; cases h)]
  rfl
theorem rightB_big (h : ¬ sizeT t ≤ 200) : rightB rs t = false := by
  unfold rightB rightS
  rw [if_neg (fun e => h e.2)]
  rfl
theorem rightB_sym (hg : gramB rs = true) (h : sizeT t ≤ 200) : rightB rs t = decide ((symT rs t).size ≠ 0) := by
  unfold rightB rightS
  rw [if_pos ⟨hg, h⟩]
theorem rightB_leaf (hg : gramB rs = true) (h : sizeT t ≤ 200) (h1 : t.rule = -1) : rightB rs t = (tokB t.tok && decide (t.kids.length = 0)) := by
  rw [rightB_sym hg h, Bool.eq_iff_iff, decide_eq_true_eq, Bool.and_eq_true, decide_eq_true_eq]
  constructor
  · intro hz
    rcases symT_cases rs t with h0 | ⟨_, h2, _, h4, _⟩ | ⟨_, h3, _⟩
    · rw [h0] at hz; exact absurd rfl hz
    · exact ⟨h4, h2⟩
    · omega
  · rintro ⟨h2, h3⟩
    rw [symT_leaf (sym_size h2) h3 h1 h2]
    exact sym_size h2
theorem rightB_out (hg : gramB rs = true) (h : sizeT t ≤ 200) (h1 : t.rule ≠ -1) (h2 : ¬ (0 ≤ t.rule ∧ t.rule < (rs.length : Int))) : rightB rs t = false := by
  rw [rightB_sym hg h, decide_eq_false_iff_not]
  intro hz
  rcases symT_cases rs t with h0 | ⟨_, _, h3, _⟩ | ⟨_, h3, h4, _⟩
  · rw [h0] at hz; exact absurd rfl hz
  · exact h1 h3
  · omega
theorem rightB_in (hg : gramB rs = true) (h : sizeT t ≤ 200) (h2 : 0 ≤ t.rule) (h3 : t.rule.toNat < rs.length) : rightB rs t = decide (symT rs t = rs[t.rule.toNat].head) := by
  rw [rightB_sym hg h, Bool.eq_iff_iff, decide_eq_true_eq, decide_eq_true_eq]
  have hh := ((ruleB_iff _).1 (((gramB_iff rs).1 hg).2.2 _ h3)).1
  constructor
  · intro hz
    rcases symT_cases rs t with h0 | ⟨_, _, h5, _⟩ | ⟨_, _, _, h6, _⟩
    · rw [h0] at hz; exact absurd rfl hz
    · omega
    · exact h6
  · intro e
    rw [e]
    exact sym_size hh
end
theorem upto_big {n : Nat} {r : Int} (h : Upto n 200 r) : decide (r > 200) = decide (¬ n ≤ 200) := by
  unfold Upto at h
  rw [Bool.eq_iff_iff, decide_eq_true_eq, decide_eq_true_eq]
  omega

set_option maxRecDepth 100000 in
set_option maxHeartbeats 4000000 in
theorem specTreeRight_any (rs : List RuleD) (t : TreeD) (v u : Value) (lo hi lo2 hi2 : Nat) (w : World) (hr : Rules w lo2 hi2 v rs) (ht : TopOk t) (hk : Kd true w lo hi u t.kids) (hh : hi ≤ w.heap.size) (hh2 : hi2 ≤ w.heap.size) (hn : sizeT t ≤ 2097152) :
    Calls Tryz.prog 11 #[.agg #[v], trV t u] w fun e w' => e = .returned (.bool (rightB rs t)) ∧ Below w.heap.size w w' := by
  have hb0 := al2 w (.cells #[v] 25) (.cells #[.int .i64 t.rule, .string t.tok, u] 29)
  have HB0 := Lib.hid hb0
  have RG := (Row.made w 25 #[v]).alloc (.cells #[.int .i64 t.rule, .string t.tok, u] 29)
  have RT := Row.made (w.alloc (.cells #[v] 25)) 29 #[.int .i64 t.rule, .string t.tok, u]
  have hsz : (w.alloc (.cells #[v] 25)).heap.size = w.heap.size + 1 := by simp
  rw [hsz] at RT
  have hsz2 : ((w.alloc (.cells #[v] 25)).alloc (.cells #[.int .i64 t.rule, .string t.tok, u] 29)).heap.size = w.heap.size + 1 + 1 := by simp
  have HRL := Lib.hid (hr.below hb0 hh2)
  have HKD := Lib.hid (hk.under hb0 hh)
  have HT := Lib.hid ht
  obtain ⟨Av, cv, rfl, hlr, hcr, -⟩ := hr
  obtain ⟨A, c, U, rfl, hlk, hck, -⟩ := hk.parts
  unfold maxLen at hcr hck
  clear hb0 hsz hk ht
  unfold trV
  cases hg : gramB rs
  · have HE := Lib.hid (rightB_no (t := t) hg)
    have HG := Lib.hid hg
    clear hg
    go_enter Tryz.func11, Tryz.ntmps11
    go_wp2_with fail
    refine (specGramRight_any rs _ lo2 hi2 _ HRL.out (by simp; omega)).mono ?_
    rintro e w1 ⟨rfl, b1⟩
    rw [HG.out]
    go_wp2
    go_ret
    exact ⟨ret_bool HE.out.symm, HB0.out.trans (b1.mono (by simp; omega))⟩
  · have HG := Lib.hid hg
    clear hg
    go_enter Tryz.func11, Tryz.ntmps11
    go_wp2_with fail
    generalize (w.alloc (.cells #[.slice Av rs.length cv] 25)).alloc (.cells #[.int .i64 t.rule, .string t.tok, .slice A t.kids.length c] 29) = w0 at RG RT HB0 HRL HKD hsz2 ⊢
    refine (specGramRight_any rs _ lo2 hi2 w0 HRL.out (by omega)).mono ?_
    rintro e w1 ⟨rfl, b1⟩
    rw [HG.out]
    have z1 := b1.size
    have RT1 := RT.below b1 (by omega)
    have a0 := RT1.cell 0
    have a1 := RT1.cell 1
    have a2 := RT1.cell 2
    simp at a0 a1 a2
    go_wp2_with fail
    refine (specSize5_any t true _ lo hi 200 w1 (HKD.out.under b1 (by omega)) (by omega) hn (by omega) (by omega)).mono ?_
    rintro e w2 ⟨r, rfl, hup, b2⟩
    have HU := Lib.hid (upto_big hup)
    have z2 := b2.size
    have b12 := b1.trans (b2.mono z1)
    have HBX := Lib.hid (HB0.out.trans (b12.mono (by omega)))
    have RT2 := RT.below b12 (by omega)
    have RG2 := RG.below b12 (by omega)
    have t0 := RT2.cell 0
    have t1 := RT2.cell 1
    have t2 := RT2.cell 2
    have t3 := RG2.cell 0
    simp at t0 t1 t2 t3
    have l1 := RT2.lt
    have l2 := RG2.lt
    clear RT1 a0 a1 a2 hup RT2 RG2
    by_cases hbig : sizeT t ≤ 200
    · have nb : decide (r > 200) = false := by rw [HU.out]; simp [hbig]
      by_cases h1 : t.rule = -1
      · have HE := Lib.hid (rightB_leaf (rs := rs) HG.out hbig h1)
        have HTM := Lib.hid HT.out.1
        cases hk0 : tokB t.tok
        · have HK0 := Lib.hid hk0
          clear hk0
          go_wp2_with (go_at_call 33; refine (specIsToken_any t.tok _ HTM.out).mono ?_; rintro e w3 ⟨rfl, rfl⟩; rw [HK0.out])
          go_ret
          exact ⟨ret_bool (by rw [HE.out, HK0.out]; rfl), HBX.out⟩
        · have HK0 := Lib.hid hk0
          clear hk0
          go_wp2_with (go_at_call 33; refine (specIsToken_any t.tok _ HTM.out).mono ?_; rintro e w3 ⟨rfl, rfl⟩; rw [HK0.out])
          go_ret
          exact ⟨ret_bool (by rw [HE.out, HK0.out, Bool.true_and, Bool.eq_iff_iff, decide_eq_true_eq, beq_iff_eq]; omega), HBX.out⟩
      · have hwp : IntKind.i64.wrap ((rs.length : Int) - 1) = (rs.length : Int) - 1 := IntWalk.i64_in _ (by omega)
        by_cases hrg : 0 ≤ t.rule ∧ t.rule < (rs.length : Int)
        · have h4 : t.rule.toNat < rs.length := by omega
          have HE := Lib.hid (rightB_in (rs := rs) HG.out hbig hrg.1 h4)
          have d1 : (decide (0 ≤ t.rule) && decide (t.rule ≤ (rs.length : Int) - 1)) = true := by rw [Bool.and_eq_true, decide_eq_true_eq, decide_eq_true_eq]; omega
          have D1 := Lib.hid d1
          have HRH := Lib.hid (((ruleB_iff _).1 (((gramB_iff rs).1 HG.out).2.2 _ h4)).1)
          have HRW := Lib.hid (HRL.out.below b12 (by omega))
          have HKW := Lib.hid (HKD.out.under b12 (by omega))
          obtain ⟨Ar, cr2, er, _, _, hrcell⟩ := HRW.out
          obtain ⟨br, offr, ea, _, hbr, hrc⟩ := hrcell (by omega)
          obtain ⟨hhd, hr0, ub, hr1, hbody⟩ := hrc t.rule.toNat h4
          injection er with er1 er2 er3
          rw [← er1] at ea
          subst ea
          have hlt3 : t.rule < (rs.length : Int) := by omega
          have hge3 : 0 ≤ t.rule := by omega
          have hbrw : br < w2.heap.size := by omega
          have V5 : Kd true w2.drew lo hi (.slice A t.kids.length c) t.kids := HKW.out.drewN 1
          have R5 : Rules w2.drew lo2 hi2 (.slice (some ⟨br, offr, none⟩) rs.length cv) rs := HRW.out
          clear d1 hrcell hrc hr1 hbody b1 b2 b12 er1 er2 er3
          go_wp2
          go_region_held3 (fun w' => (w'.cell? ⟨w.heap.size + 1, 0, none⟩ = some (.int .i64 t.rule) ∧ w'.cell? ⟨w.heap.size + 1, 1, none⟩ = some (.string t.tok) ∧ w'.cell? ⟨w.heap.size + 1, 2, none⟩ = some (.slice A t.kids.length c)) ∧ w'.cell? ⟨w.heap.size, 0, none⟩ = some (.slice (some ⟨br, offr, none⟩) rs.length cv) ∧ w'.cell? ⟨br, offr + t.rule.toNat * 2, none⟩ = some (.string rs[t.rule.toNat].head))
            (first | assumption | go_keep | (refine ⟨⟨?_, ?_, ?_⟩, ?_, ?_⟩ <;> (rw [b7.cell (by simp <;> omega)]; assumption)))
            (first
              | (go_at_call 34; refine (l02Is_any _ _ w2.drew).mono ?_; rintro e w6 ⟨rfl, rfl⟩; rw [D1.out])
              | (go_at_call 35; refine (specPart_any rs HG.out t true _ _ rs[t.rule.toNat].head lo hi lo2 hi2 w2.drew (by unfold symOK; rw [HRH.out]; rfl) V5 R5 (by show hi ≤ w2.heap.size; omega) (by show hi2 ≤ w2.heap.size; omega)).mono ?_; rintro e w7 ⟨rfl, b7⟩))
          go_wp2
          go_ret
          exact ⟨ret_bool HE.out.symm, HBX.out.trans ((Below.refl _ _).drew.trans (b7.mono (by simp <;> omega)))⟩
        · have HE := Lib.hid (rightB_out (rs := rs) HG.out hbig h1 hrg)
          have d1 : (decide (0 ≤ t.rule) && decide (t.rule ≤ (rs.length : Int) - 1)) = false := by rw [Bool.and_eq_false_iff, decide_eq_false_iff_not, decide_eq_false_iff_not]; omega
          have c1 : ∀ n, Calls Tryz.prog 34 #[.int .i64 t.rule, .int .i64 0, .int .i64 ((rs.length : Int) - 1)] (w2.drewN n) fun e w' => e = .returned (.bool false) ∧ w' = w2.drewN n := fun n => by
            refine (l02Is_any _ _ _).mono ?_
            rintro e w' ⟨rfl, rfl⟩
            rw [d1]
            exact ⟨rfl, rfl⟩
          clear d1
          go_wp2
          go_quiet (first | (go_at_call 34; refine Calls.quiet_of_same (c1 _)))
          go_wp2
          go_ret
          exact ⟨ret_bool HE.out.symm, ⟨HBX.out.os, HBX.out.tape, HBX.out.output, HBX.out.size, HBX.out.block⟩⟩
    · have HE := Lib.hid (rightB_big (rs := rs) hbig)
      have nb : decide (r > 200) = true := by rw [HU.out]; simp [hbig]
      go_wp2
      go_ret
      exact ⟨ret_bool HE.out.symm, HBX.out⟩
end Go.Proofs.YtokdhgocgicdnaaGreatDoor
