/- Is a tree right? The model: spec.TreeRight. -/
import Derived.Test.YtonfiahihmcmlaaSpp
import Derived.Test.YtonfiahihmcmlaaRightb
import Derived.Deep.RegionHeld3
import Derived.BigQuiet
namespace Go.Proofs.Ytonfiahihmcmlaa
open Go.RowKit
theorem specPart_any (rs : List RuleD) (hg : gramB rs = true) (t : TreeD) : SpP rs t := tree_ind (specPart_of rs hg) t

section
variable {rs : List RuleD} {t : TreeD}
theorem rightB_no (h : gramB rs = false) : rightB rs t = false := by
  unfold rightB rightS
  rw [if_neg (by rw [h]; rintro ⟨h, _⟩; cases h)]
  rfl
theorem rightB_big (h : ¬ sizeT t ≤ 200) : rightB rs t = false := by
  unfold rightB rightS
  rw [if_neg (fun e => h e.2)]
  rfl
theorem rightB_sym (hg : gramB rs = true) (h : sizeT t ≤ 200) : rightB rs t = decide ((symT rs t).size ≠ 0) := by
  unfold rightB rightS
  rw [if_pos ⟨hg, h⟩]
theorem rightB_leaf (hg : gramB rs = true) (h : sizeT t ≤ 200) (h1 : t.rule = -1) : rightB rs t = (tokB t.tok && decide (t.kids.length = 0)) := by
  rw [rightB_sym hg h, Bool.eq_iff_iff, decide_eq_true_eq, Bool.and_eq_true, decide_eq_true_eq]
  constructor
  · intro hz
    rcases symT_cases rs t with h0 | ⟨_, h2, _, h4, _⟩ | ⟨_, h3, _⟩
    · rw [h0] at hz; exact absurd rfl hz
    · exact ⟨h4, h2⟩
    · omega
  · rintro ⟨h2, h3⟩
    rw [symT_leaf (sym_size h2) h3 h1 h2]
    exact sym_size h2
theorem rightB_out (hg : gramB rs = true) (h : sizeT t ≤ 200) (h1 : t.rule ≠ -1) (h2 : ¬ (0 ≤ t.rule ∧ t.rule < (rs.length : Int))) : rightB rs t = false := by
  rw [rightB_sym hg h, decide_eq_false_iff_not]
  intro hz
  rcases symT_cases rs t with h0 | ⟨_, _, h3, _⟩ | ⟨_, h3, h4, _⟩
  · rw [h0] at hz; exact absurd rfl hz
  · exact h1 h3
  · omega
theorem rightB_in (hg : gramB rs = true) (h : sizeT t ≤ 200) (h2 : 0 ≤ t.rule) (h3 : t.rule.toNat < rs.length) : rightB rs t = decide (symT rs t = rs[t.rule.toNat].head) := by
  rw [rightB_sym hg h, Bool.eq_iff_iff, decide_eq_true_eq, decide_eq_true_eq]
  have hh := ((ruleB_iff _).1 (((gramB_iff rs).1 hg).2.2 _ h3)).1
  constructor
  · intro hz
    rcases symT_cases rs t with h0 | ⟨_, _, h5, _⟩ | ⟨_, _, _, h6, _⟩
    · rw [h0] at hz; exact absurd rfl hz
    · omega
    · exact h6
  · intro e
    rw [e]
    exact sym_size hh
end
theorem upto_big {n : Nat} {r : Int} (h : Upto n 200 r) : decide (r > 200) = decide (¬ n ≤ 200) := by
  unfold Upto at h
  rw [Bool.eq_iff_iff, decide_eq_true_eq, decide_eq_true_eq]
  omega

set_option maxRecDepth 100000 in
set_option maxHeartbeats 4000000 in
theorem specTreeRight_any (rs : List RuleD) (t : TreeD) (v u : Value) (lo hi lo2 hi2 : Nat) (w : World) (hr : Rules w lo2 hi2 v rs) (ht : TopOk t) (hk : Kd true w lo hi u t.kids) (hh : hi ≤ w.heap.size) (hh2 : hi2 ≤ w.heap.size) (hn : sizeT t ≤ 2097152) :
    Calls Try.prog 42 #[.agg #[v], trV t u] w fun e w' => e = .returned (.bool (rightB rs t)) ∧ Below w.heap.size w w' := by
  have hb0 := al2 w (.cells #[v] 25) (.cells #[.int .i64 t.rule, .string t.tok, u] 62)
  have HB0 := Lib.hid hb0
  have RG := (Row.made w 25 #[v]).alloc (.cells #[.int .i64 t.rule, .string t.tok, u] 62)
  have RT := Row.made (w.alloc (.cells #[v] 25)) 62 #[.int .i64 t.rule, .string t.tok, u]
  have hsz : (w.alloc (.cells #[v] 25)).heap.size = w.heap.size + 1 := by simp
  rw [hsz] at RT
  have hsz2 : ((w.alloc (.cells #[v] 25)).alloc (.cells #[.int .i64 t.rule, .string t.tok, u] 62)).heap.size = w.heap.size + 1 + 1 := by simp
  have HRL := Lib.hid (hr.below hb0 hh2)
  have HKD := Lib.hid (hk.under hb0 hh)
  have HT := Lib.hid ht
  obtain ⟨Av, cv, rfl, hlr, hcr, -⟩ := hr
  obtain ⟨A, c, U, rfl, hlk, hck, -⟩ := hk.parts
  unfold maxLen at hcr hck
  clear hb0 hsz hk ht
  unfold trV
  cases hg : gramB rs
  · have HE := Lib.hid (rightB_no (t := t) hg)
    have HG := Lib.hid hg
    clear hg
    go_enter Try.func42, Try.ntmps42
    go_wp2_with fail
    refine (specGramRight_any rs _ lo2 hi2 _ HRL.out (by simp; omega)).mono ?_
    rintro e w1 ⟨rfl, b1⟩
    rw [HG.out]
    go_wp2
    go_ret
    exact ⟨ret_bool HE.out.symm, HB0.out.trans (b1.mono (by simp; omega))⟩
  · have HG := Lib.hid hg
    clear hg
    go_enter Try.func42, Try.ntmps42
    go_wp2_with fail
    generalize (w.alloc (.cells #[.slice Av rs.length cv] 25)).alloc (.cells #[.int .i64 t.rule, .string t.tok, .slice A t.kids.length c] 62) = w0 at RG RT HB0 HRL HKD hsz2 ⊢
    refine (specGramRight_any rs _ lo2 hi2 w0 HRL.out (by omega)).mono ?_
    rintro e w1 ⟨rfl, b1⟩
    rw [HG.out]
    have z1 := b1.size
    have RT1 := RT.below b1 (by omega)
    have a0 := RT1.cell 0
    have a1 := RT1.cell 1
    have a2 := RT1.cell 2
    simp at a0 a1 a2
    go_wp2_with fail
    refine (specSize5_any t true _ lo hi 200 w1 (HKD.out.under b1 (by omega)) (by omega) hn (by omega) (by omega)).mono ?_
    rintro e w2 ⟨r, rfl, hup, b2⟩
    have HU := Lib.hid (upto_big hup)
    have z2 := b2.size
    have b12 := b1.trans (b2.mono z1)
    have HBX := Lib.hid (HB0.out.trans (b12.mono (by omega)))
    have RT2 := RT.below b12 (by omega)
    have RG2 := RG.below b12 (by omega)
    have t0 := RT2.cell 0
    have t1 := RT2.cell 1
    have t2 := RT2.cell 2
    have t3 := RG2.cell 0
    simp at t0 t1 t2 t3
    have l1 := RT2.lt
    have l2 := RG2.lt
    clear RT1 a0 a1 a2 hup RT2 RG2
    by_cases hbig : sizeT t ≤ 200
    · have nb : decide (r > 200) = false := by rw [HU.out]; simp [hbig]
      by_cases h1 : t.rule = -1
      · have HE := Lib.hid (rightB_leaf (rs := rs) HG.out hbig h1)
        have HTM := Lib.hid HT.out.1
        cases hk0 : tokB t.tok
        · have HK0 := Lib.hid hk0
          clear hk0
          go_wp2_with (go_at_call 30; refine (specIsToken_any t.tok _ HTM.out).mono ?_; rintro e w3 ⟨rfl, rfl⟩; rw [HK0.out])
          go_ret
          exact ⟨ret_bool (by rw [HE.out, HK0.out]; rfl), HBX.out⟩
        · have HK0 := Lib.hid hk0
          clear hk0
          go_wp2_with (go_at_call 30; refine (specIsToken_any t.tok _ HTM.out).mono ?_; rintro e w3 ⟨rfl, rfl⟩; rw [HK0.out])
          go_ret
          exact ⟨ret_bool (by rw [HE.out, HK0.out, Bool.true_and, Bool.eq_iff_iff, decide_eq_true_eq, beq_iff_eq]; omega), HBX.out⟩
      · have hwp : IntKind.i64.wrap ((rs.length : Int) - 1) = (rs.length : Int) - 1 := IntWalk.i64_in _ (by omega)
        by_cases hrg : 0 ≤ t.rule ∧ t.rule < (rs.length : Int)
        · have h4 : t.rule.toNat < rs.length := by omega
          have HE := Lib.hid (rightB_in (rs := rs) HG.out hbig hrg.1 h4)
          have d1 : (decide (0 ≤ t.rule) && decide (t.rule ≤ (rs.length : Int) - 1)) = true := by rw [Bool.and_eq_true, decide_eq_true_eq, decide_eq_true_eq]; omega
          have D1 := Lib.hid d1
          have HRH := Lib.hid (((ruleB_iff _).1 (((gramB_iff rs).1 HG.out).2.2 _ h4)).1)
          have HRW := Lib.hid (HRL.out.below b12 (by omega))
          have HKW := Lib.hid (HKD.out.under b12 (by omega))
          obtain ⟨Ar, cr2, er, _, _, hrcell⟩ := HRW.out
          obtain ⟨br, offr, ea, _, hbr, hrc⟩ := hrcell (by omega)
          obtain ⟨hhd, hr0, ub, hr1, hbody⟩ := hrc t.rule.toNat h4
          injection er with er1 er2 er3
          rw [← er1] at ea
          subst ea
          have hlt3 : t.rule < (rs.length : Int) := by omega
          have hge3 : 0 ≤ t.rule := by omega
          have hbrw : br < w2.heap.size := by omega
          have V5 : Kd true w2.drew lo hi (.slice A t.kids.length c) t.kids := HKW.out.drewN 1
          have R5 : Rules w2.drew lo2 hi2 (.slice (some ⟨br, offr, none⟩) rs.length cv) rs := HRW.out
          clear d1 hrcell hrc hr1 hbody b1 b2 b12 er1 er2 er3
          go_wp2
          go_region_held3 (fun w' => (w'.cell? ⟨w.heap.size + 1, 0, none⟩ = some (.int .i64 t.rule) ∧ w'.cell? ⟨w.heap.size + 1, 1, none⟩ = some (.string t.tok) ∧ w'.cell? ⟨w.heap.size + 1, 2, none⟩ = some (.slice A t.kids.length c)) ∧ w'.cell? ⟨w.heap.size, 0, none⟩ = some (.slice (some ⟨br, offr, none⟩) rs.length cv) ∧ w'.cell? ⟨br, offr + t.rule.toNat * 2, none⟩ = some (.string rs[t.rule.toNat].head))
            (first | assumption | go_keep | (refine ⟨⟨?_, ?_, ?_⟩, ?_, ?_⟩ <;> (rw [b7.cell (by simp <;> omega)]; assumption)))
            (first
              | (go_at_call 101; refine (l02Is_any _ _ w2.drew).mono ?_; rintro e w6 ⟨rfl, rfl⟩; rw [D1.out])
              | (go_at_call 102; refine (specPart_any rs HG.out t true _ _ rs[t.rule.toNat].head lo hi lo2 hi2 w2.drew (by unfold symOK; rw [HRH.out]; rfl) V5 R5 (by show hi ≤ w2.heap.size; omega) (by show hi2 ≤ w2.heap.size; omega)).mono ?_; rintro e w7 ⟨rfl, b7⟩))
          go_wp2
          go_ret
          exact ⟨ret_bool HE.out.symm, HBX.out.trans ((Below.refl _ _).drew.trans (b7.mono (by simp <;> omega)))⟩
        · have HE := Lib.hid (rightB_out (rs := rs) HG.out hbig h1 hrg)
          have d1 : (decide (0 ≤ t.rule) && decide (t.rule ≤ (rs.length : Int) - 1)) = false := by rw [Bool.and_eq_false_iff, decide_eq_false_iff_not, decide_eq_false_iff_not]; omega
          have c1 : ∀ n, Calls Try.prog 101 #[.int .i64 t.rule, .int .i64 0, .int .i64 ((rs.length : Int) - 1)] (w2.drewN n) fun e w' => e = .returned (.bool false) ∧ w' = w2.drewN n := fun n => by
            refine (l02Is_any _ _ _).mono ?_
            rintro e w' ⟨rfl, rfl⟩
            rw [d1]
            exact ⟨rfl, rfl⟩
          clear d1
          go_wp2
          go_quiet (first | (go_at_call 101; refine Calls.quiet_of_same (c1 _)))
          go_wp2
          go_ret
          exact ⟨ret_bool HE.out.symm, ⟨HBX.out.os, HBX.out.tape, HBX.out.output, HBX.out.size, HBX.out.block⟩⟩
    · have HE := Lib.hid (rightB_big (rs := rs) hbig)
      have nb : decide (r > 200) = true := by rw [HU.out]; simp [hbig]
      go_wp2
      go_ret
      exact ⟨ret_bool HE.out.symm, HBX.out⟩
end Go.Proofs.Ytonfiahihmcmlaa
