/- Are two Comps the same? The model: spec.CompSame. -/
import Derived.Test.YtlgedjpolmlciaaCmk
import Derived.Test.YtlgedjpolmlciaaJCtm
namespace Go.Proofs.Ytlgedjpolmlciaa
open Go.RowKit

theorem toCell {w w' : World} {B : Nat} (b : Below B w w') {p : Addr} {v : Value} (h : w.cell? p = some v) (hp : p.block < B) : w'.cell? p = some v := (b.cell (p := p) hp).trans h
set_option maxRecDepth 100000 in
set_option maxHeartbeats 8000000 in
theorem specCompSame_any (a b : CompD) (vg vm vt ug um ut : Value) (hi : Nat) (w : World) (h : CompAt true w 0 hi a vg vm vt) (h' : CompAt true w 0 hi b ug um ut) (hh : hi ≤ w.heap.size) (hn : bulkC a ≤ 1048576) (hn' : bulkC b ≤ 1048576) :
    Calls Try.prog 5 #[cmV vg vm a vt, cmV ug um b ut] w fun e w' => ∃ r, e = .returned (.bool r) ∧ (r = true ↔ a = b) ∧ Below w.heap.size w w' := by
  have hla : a.mades.length ≤ 1048576 := by
    have : bulkC a = bulkR a.rules + bulkDs a.mades + sizeMs a.null.kids := rfl
    unfold bulkDs at this
    omega
  have hlb : b.mades.length ≤ 1048576 := by
    have : bulkC b = bulkR b.rules + bulkDs b.mades + sizeMs b.null.kids := rfl
    unfold bulkDs at this
    omega
  have hsz := sizeMs_all a
  have b2 := al2 w (.cells #[vg, vm, .bool a.has, .int .i64 a.null.kind, .int .i64 a.null.num, vt] 41) (.cells #[ug, um, .bool b.has, .int .i64 b.null.kind, .int .i64 b.null.num, ut] 41)
  have RA := (Row.made w 41 #[vg, vm, .bool a.has, .int .i64 a.null.kind, .int .i64 a.null.num, vt]).alloc (.cells #[ug, um, .bool b.has, .int .i64 b.null.kind, .int .i64 b.null.num, ut] 41)
  have RB : Row ((w.alloc (.cells #[vg, vm, .bool a.has, .int .i64 a.null.kind, .int .i64 a.null.num, vt] 41)).alloc (.cells #[ug, um, .bool b.has, .int .i64 b.null.kind, .int .i64 b.null.num, ut] 41)) (w.heap.size + 1) 41 #[ug, um, .bool b.has, .int .i64 b.null.kind, .int .i64 b.null.num, ut] := by
    simpa using Row.made (w.alloc (.cells #[vg, vm, .bool a.has, .int .i64 a.null.kind, .int .i64 a.null.num, vt] 41)) 41 #[ug, um, .bool b.has, .int .i64 b.null.kind, .int .i64 b.null.num, ut]
  have hz : ((w.alloc (.cells #[vg, vm, .bool a.has, .int .i64 a.null.kind, .int .i64 a.null.num, vt] 41)).alloc (.cells #[ug, um, .bool b.has, .int .i64 b.null.kind, .int .i64 b.null.num, ut] 41)).heap.size = w.heap.size + 2 := by simp
  have HA := Lib.hid (h.under b2 hh)
  have HB := Lib.hid (h'.under b2 hh)
  have HB2 := Lib.hid b2
  have HRA := Lib.hid RA
  have HRB := Lib.hid RB
  have HZ := Lib.hid hz
  obtain ⟨Ag, cg, rfl, -⟩ := h.rules
  obtain ⟨Am, cm, rfl, -⟩ := h.mades
  obtain ⟨At, ct, Ut, rfl, -⟩ := h.kids.parts
  obtain ⟨Bg, dg, rfl, -⟩ := h'.rules
  obtain ⟨Bm, dm, rfl, -⟩ := h'.mades
  obtain ⟨Bt, dt, Vt, rfl, -⟩ := h'.kids.parts
  clear h h' b2 RA RB hz
  unfold cmV
  go_enter Try.func5, Try.ntmps5
  by_cases hhas : a.has = b.has
  · have e1 : (a.has == b.has) = true := by rw [beq_iff_eq]; exact hhas
    have e1' : (a.has != b.has) = false := by rw [bne_eq_false_iff_eq]; exact hhas
    have HH := Lib.hid hhas
    clear hhas
    by_cases hnl : a.null = b.null
    · have HN := Lib.hid hnl
      clear hnl
      by_cases hlm : a.mades.length = b.mades.length
      · have e2 : ((a.mades.length : Int) != (b.mades.length : Int)) = false := by rw [bne_eq_false_iff_eq]; omega
        have e2' : ((a.mades.length : Int) == (b.mades.length : Int)) = true := by rw [beq_iff_eq]; omega
        have HLM := Lib.hid hlm
        clear hlm
        by_cases hlr : a.rules.length = b.rules.length
        · have e3 : ((a.rules.length : Int) != (b.rules.length : Int)) = false := by rw [bne_eq_false_iff_eq]; omega
          have e3' : ((a.rules.length : Int) == (b.rules.length : Int)) = true := by rw [beq_iff_eq]; omega
          have HLR := Lib.hid hlr
          clear hlr
          go_wp2_with fail
          generalize (w.alloc (.cells #[.slice Ag a.rules.length cg, .slice Am a.mades.length cm, .bool a.has, .int .i64 a.null.kind, .int .i64 a.null.num, .slice At a.null.kids.length ct] 41)).alloc (.cells #[.slice Bg b.rules.length dg, .slice Bm b.mades.length dm, .bool b.has, .int .i64 b.null.kind, .int .i64 b.null.num, .slice Bt b.null.kids.length dt] 41) = wx at HA HB HB2 HRA HRB HZ ⊢
          have zx := HZ.out
          have HX : Hid (∀ w', Below wx.heap.size wx w' → w'.cell? ⟨w.heap.size, 0, none⟩ = some (.slice Ag a.rules.length cg) ∧ w'.cell? ⟨w.heap.size, 1, none⟩ = some (.slice Am a.mades.length cm) ∧ w'.cell? ⟨w.heap.size, 2, none⟩ = some (.bool a.has) ∧ w'.cell? ⟨w.heap.size, 3, none⟩ = some (.int .i64 a.null.kind) ∧ w'.cell? ⟨w.heap.size, 4, none⟩ = some (.int .i64 a.null.num) ∧ w'.cell? ⟨w.heap.size, 5, none⟩ = some (.slice At a.null.kids.length ct) ∧
              w'.cell? ⟨w.heap.size + 1, 0, none⟩ = some (.slice Bg b.rules.length dg) ∧ w'.cell? ⟨w.heap.size + 1, 1, none⟩ = some (.slice Bm b.mades.length dm) ∧ w'.cell? ⟨w.heap.size + 1, 2, none⟩ = some (.bool b.has) ∧ w'.cell? ⟨w.heap.size + 1, 3, none⟩ = some (.int .i64 b.null.kind) ∧ w'.cell? ⟨w.heap.size + 1, 4, none⟩ = some (.int .i64 b.null.num) ∧ w'.cell? ⟨w.heap.size + 1, 5, none⟩ = some (.slice Bt b.null.kids.length dt)) := Lib.hid (fun w' bw => by
            obtain ⟨a0, a1, a2, a3, a4, a5, _⟩ := (HRA.out.below bw (by omega)).six9
            obtain ⟨d0, d1, d2, d3, d4, d5, _⟩ := (HRB.out.below bw (by omega)).six9
            exact ⟨a0, a1, a2, a3, a4, a5, d0, d1, d2, d3, d4, d5⟩)
          have step := specTerm9_any a.null b.null true (.slice At a.null.kids.length ct) (.slice Bt b.null.kids.length dt) 0 hi 0 hi wx HA.out.kids HB.out.kids (by omega) (by omega)
          unfold tmV at step
          refine step.mono ?_
          clear step
          rintro e w3 ⟨r1, rfl, h1, b3⟩
          obtain rfl : r1 = true := h1.2 HN.out
          have B3 : Below wx.heap.size wx w3 := b3
          clear b3 h1
          obtain ⟨y0, y1, y2, y3, y4, y5, y6, y7, y8, y9, y10, y11⟩ := HX.out _ B3
          have z3 := B3.size
          have HB3 := Lib.hid B3
          clear B3
          go_wp2
          clear e1 e1' e2 e2' e3 e3' y0 y1 y2 y3 y4 y5 y6 y7 y8 y9 y10 y11
          go_loopg [5] a.rules.length (fun gk v5 wr => ∃ k : Nat, v5 = .int .i64 k ∧ k ≤ a.rules.length ∧ Below wx.heap.size wx wr ∧ (∀ j (h : j < a.rules.length) (h' : j < b.rules.length), j < k → a.rules[j] = b.rules[j]) ∧ gk = a.rules.length - k)
          case atStart => exact ⟨0, rfl, by omega, HB3.out, (fun j _ _ h => by omega), rfl⟩
          case round =>
            clear HB3
            obtain ⟨k, rfl, hk, hbw, hall, rfl⟩ := hrel
            have hzw := hbw.size
            obtain ⟨a0, a1, a2, a3, a4, a5, d0, d1, d2, d3, d4, d5⟩ := HX.out wr hbw
            clear a2 a3 a4 a5 d2 d3 d4 d5
            have HALL := Lib.hid hall
            have HBW := Lib.hid hbw
            by_cases hkl : k < a.rules.length
            · have hkl' : k < b.rules.length := by have := HLR.out; omega
              obtain ⟨_, _, ea, hl1, hl2, hca⟩ := HA.out.rules
              obtain ⟨_, _, eb, _, _, hcb⟩ := HB.out.rules
              injection ea with ea1 _ ea2
              injection eb with eb1 _ eb2
              subst ea1 ea2 eb1 eb2
              unfold maxLen at hl2
              obtain ⟨g1, o1, rfl, _, hg1, hcc⟩ := hca (by omega)
              obtain ⟨q1, hc0, u1, hc1, hs1⟩ := hcc k hkl
              obtain ⟨g2, o2, rfl, _, hg2, hcc'⟩ := hcb (by omega)
              obtain ⟨q2, hd0, u2, hd1, hs2⟩ := hcc' k hkl'
              have k0 := toCell hbw hc0 (by show g1 < _; omega)
              have k1 := toCell hbw hc1 (by show g1 < _; omega)
              have m0 := toCell hbw hd0 (by show g2 < _; omega)
              have m1 := toCell hbw hd1 (by show g2 < _; omega)
              have i1 : (k : Int) < (a.rules.length : Int) := by omega
              have i2 : (k : Int) < (b.rules.length : Int) := by omega
              have SA := Lib.hid (hs1.below hbw (by omega))
              have SB := Lib.hid (hs2.below hbw (by omega))
              obtain ⟨Au, cu, rfl, -⟩ := hs1
              obtain ⟨Bu, du, rfl, -⟩ := hs2
              have cS : ∀ n, Calls Try.prog 13 #[.slice Au a.rules[k].body.length cu, .slice Bu b.rules[k].body.length du] (wr.drewN n) fun e w' => e = .returned (.bool (eqSs a.rules[k].body b.rules[k].body)) ∧ ∃ m, w' = (wr.drewN n).drewN m := fun n => l07Same_any _ _ a.rules[k].body b.rules[k].body 0 hi 0 hi (wr.drewN n) (SA.out.drewN n) (SB.out.drewN n)
              clear hca hcb hcc hcc' hc0 hc1 hd0 hd1 hbw hall
              by_cases hhd : a.rules[k].head = b.rules[k].head
              · have deq := eqS_t hhd
                have HHD := Lib.hid hhd
                clear hhd
                by_cases hbd : a.rules[k].body = b.rules[k].body
                · rw [eqSs_t hbd] at cS
                  have HBD := Lib.hid hbd
                  clear hbd
                  go_wp2
                  go_quiet (first | (go_at_call 13; refine Calls.quiet_of (cS _)))
                  have FIN := Lib.hid (HBW.out.trans ((⟨rfl, rfl, rfl, Nat.le_refl _, fun _ _ => rfl⟩ : Below wr.heap.size wr (wr.drewN nq)).mono hzw))
                  go_wp2
                  go_roundg (a.rules.length - (k + 1))
                  case rel => exact ⟨k + 1, by go_num, by omega, FIN.out, (fun j hj hj' hjk => by
                      by_cases e : j = k
                      · subst e; exact RuleD.ext_of HHD.out HBD.out
                      · exact HALL.out j hj hj' (by omega)), rfl⟩
                  case measure => omega
                · rw [eqSs_f hbd] at cS
                  have HE : Hid (a ≠ b) := Lib.hid (fun e => hbd (by subst e; rfl))
                  clear hbd
                  go_wp2
                  go_quiet (first | (go_at_call 13; refine Calls.quiet_of (cS _)))
                  have FIN := Lib.hid (HB2.out.trans ((HBW.out.trans ((⟨rfl, rfl, rfl, Nat.le_refl _, fun _ _ => rfl⟩ : Below wr.heap.size wr (wr.drewN nq)).mono hzw)).mono (by omega)))
                  go_wp2
                  go_ret
                  exact ⟨false, rfl, ⟨(fun h => by cases h), fun h => absurd h HE.out⟩, FIN.out⟩
              · have deq := eqS_f hhd
                have HE : Hid (a ≠ b) := Lib.hid (fun e => hhd (by subst e; rfl))
                clear hhd cS
                go_wp2
                go_quiet (fail)
                have FIN := Lib.hid (HB2.out.trans ((HBW.out.trans ((⟨rfl, rfl, rfl, Nat.le_refl _, fun _ _ => rfl⟩ : Below wr.heap.size wr (wr.drewN nq)).mono hzw)).mono (by omega)))
                go_wp2
                go_ret
                exact ⟨false, rfl, ⟨(fun h => by cases h), fun h => absurd h HE.out⟩, FIN.out⟩
            · have HRE : Hid (a.rules = b.rules) := Lib.hid (List.ext_getElem HLR.out fun i h1 h2 => hall i h1 h2 (by omega))
              clear hall hbw HALL
              go_wp2
              clear a0 a1 d0 d1
              go_loopg [6] a.mades.length (fun gk v6 wr => ∃ k : Nat, v6 = .int .i64 k ∧ k ≤ a.mades.length ∧ Below wx.heap.size wx wr ∧ (∀ j (h : j < a.mades.length) (h' : j < b.mades.length), j < k → a.mades[j] = b.mades[j]) ∧ gk = a.mades.length - k)
              case atStart => exact ⟨0, rfl, by omega, HBW.out, (fun j _ _ h => by omega), rfl⟩
              case round =>
                clear HBW
                obtain ⟨k, rfl, hk, hbw, hall, rfl⟩ := hrel
                have hzw := hbw.size
                obtain ⟨a0, a1, a2, a3, a4, a5, d0, d1, d2, d3, d4, d5⟩ := HX.out wr hbw
                clear a0 a2 a3 a4 a5 d0 d2 d3 d4 d5
                have HALL := Lib.hid hall
                have HBW := Lib.hid hbw
                by_cases hkl : k < a.mades.length
                · have hkl' : k < b.mades.length := by have := HLM.out; omega
                  obtain ⟨_, _, ea, _, _, hca⟩ := HA.out.mades
                  obtain ⟨_, _, eb, _, _, hcb⟩ := HB.out.mades
                  injection ea with ea1 _ ea2
                  injection eb with eb1 _ eb2
                  subst ea1 ea2 eb1 eb2
                  obtain ⟨g1, o1, rfl, _, hg1, _, hcc⟩ := hca (by omega)
                  obtain ⟨q1, _, hc0, u1, x1, hc1, hc2, hc3, hc4, hs1, hk1⟩ := hcc k hkl
                  obtain ⟨g2, o2, rfl, _, hg2, _, hcc'⟩ := hcb (by omega)
                  obtain ⟨q2, _, hd0, u2, x2, hd1, hd2, hd3, hd4, hs2, hk2⟩ := hcc' k hkl'
                  have k0 := toCell hbw hc0 (by show g1 < _; omega)
                  have k1 := toCell hbw hc1 (by show g1 < _; omega)
                  have k2 := toCell hbw hc2 (by show g1 < _; omega)
                  have k3 := toCell hbw hc3 (by show g1 < _; omega)
                  have k4 := toCell hbw hc4 (by show g1 < _; omega)
                  have m0 := toCell hbw hd0 (by show g2 < _; omega)
                  have m1 := toCell hbw hd1 (by show g2 < _; omega)
                  have m2 := toCell hbw hd2 (by show g2 < _; omega)
                  have m3 := toCell hbw hd3 (by show g2 < _; omega)
                  have m4 := toCell hbw hd4 (by show g2 < _; omega)
                  have i1 : (k : Int) < (a.mades.length : Int) := by omega
                  have i2 : (k : Int) < (b.mades.length : Int) := by omega
                  have SA := Lib.hid (hs1.below hbw (by omega))
                  have SB := Lib.hid (hs2.below hbw (by omega))
                  have KA := Lib.hid (hk1.under hbw (by omega))
                  have KB := Lib.hid (hk2.under hbw (by omega))
                  obtain ⟨Au, cu, rfl, -⟩ := hs1
                  obtain ⟨Bu, du, rfl, -⟩ := hs2
                  obtain ⟨Ax, cx, Ux, rfl, -⟩ := hk1.parts
                  obtain ⟨Bx, dx, Vx, rfl, -⟩ := hk2.parts
                  have cS : ∀ n, Calls Try.prog 13 #[.slice Au a.mades[k].body.length cu, .slice Bu b.mades[k].body.length du] (wr.drewN n) fun e w' => e = .returned (.bool (eqSs a.mades[k].body b.mades[k].body)) ∧ ∃ m, w' = (wr.drewN n).drewN m := fun n => l07Same_any _ _ a.mades[k].body b.mades[k].body 0 hi 0 hi (wr.drewN n) (SA.out.drewN n) (SB.out.drewN n)
                  clear hca hcb hcc hcc' hc0 hc1 hc2 hc3 hc4 hd0 hd1 hd2 hd3 hd4 hbw hall hk1 hk2
                  by_cases hhd : a.mades[k].head = b.mades[k].head
                  · have deq := eqS_t hhd
                    have HHD := Lib.hid hhd
                    clear hhd
                    by_cases hbd : a.mades[k].body = b.mades[k].body
                    · have HBD := Lib.hid (eqSs_t hbd)
                      have HBQ := Lib.hid hbd
                      have HY : Hid (∀ w', Below wr.heap.size wr w' → w'.cell? ⟨w.heap.size, 1, none⟩ = some (.slice (some ⟨g1, o1, none⟩) a.mades.length cm) ∧ w'.cell? ⟨w.heap.size + 1, 1, none⟩ = some (.slice (some ⟨g2, o2, none⟩) b.mades.length dm) ∧
                          w'.cell? ⟨g1, o1 + k * 5, none⟩ = some (.string a.mades[k].head) ∧ w'.cell? ⟨g1, o1 + k * 5 + 1, none⟩ = some (.slice Au a.mades[k].body.length cu) ∧ w'.cell? ⟨g1, o1 + k * 5 + 2, none⟩ = some (.int .i64 a.mades[k].term.kind) ∧ w'.cell? ⟨g1, o1 + k * 5 + 3, none⟩ = some (.int .i64 a.mades[k].term.num) ∧ w'.cell? ⟨g1, o1 + k * 5 + 4, none⟩ = some (.slice Ax a.mades[k].term.kids.length cx) ∧
                          w'.cell? ⟨g2, o2 + k * 5, none⟩ = some (.string b.mades[k].head) ∧ w'.cell? ⟨g2, o2 + k * 5 + 1, none⟩ = some (.slice Bu b.mades[k].body.length du) ∧ w'.cell? ⟨g2, o2 + k * 5 + 2, none⟩ = some (.int .i64 b.mades[k].term.kind) ∧ w'.cell? ⟨g2, o2 + k * 5 + 3, none⟩ = some (.int .i64 b.mades[k].term.num) ∧ w'.cell? ⟨g2, o2 + k * 5 + 4, none⟩ = some (.slice Bx b.mades[k].term.kids.length dx)) := Lib.hid (fun w' bw =>
                        ⟨toCell bw a1 (by show w.heap.size < _; omega), toCell bw d1 (by show w.heap.size + 1 < _; omega), toCell bw k0 (by show g1 < _; omega), toCell bw k1 (by show g1 < _; omega), toCell bw k2 (by show g1 < _; omega), toCell bw k3 (by show g1 < _; omega), toCell bw k4 (by show g1 < _; omega), toCell bw m0 (by show g2 < _; omega), toCell bw m1 (by show g2 < _; omega), toCell bw m2 (by show g2 < _; omega), toCell bw m3 (by show g2 < _; omega), toCell bw m4 (by show g2 < _; omega)⟩)
                      clear hbd cS
                      by_cases htm : a.mades[k].term = b.mades[k].term
                      · have HTM := Lib.hid htm
                        clear htm
                        go_wp2
                        clear a1 d1 k0 k1 k2 k3 k4 m0 m1 m2 m3 m4
                        refine wp_region_held_drew (S := fun w' => Below wr.heap.size wr w') (by kernel_rfl) ((Below.refl wr.heap.size wr).drew) (fun hHeld => ?_)
                        refine wpAnyH_take (i := 0) (v := ?_) rfl (by kernel_rfl) (by kernel_rfl) (by kernel_rfl) (fun _ _ _ h => h) (Or.inl ⟨by rfl, ?_⟩) (by assumption) ?_
                        rotate_left
                        · intro w' hSw
                          obtain ⟨y0, y1, y2, y3, y4, y5, y6, y7, y8, y9, y10, y11⟩ := HY.out _ hSw
                          clear hSw
                          go_simp
                          try with_reducible rfl
                        simp only [Act.put, List.setIfInBounds_toArray, List.set_cons_zero, List.set_cons_succ, List.getElem_toArray, List.getElem_cons_zero]
                        refine wpAnyH_take (i := 1) (v := ?_) rfl (by kernel_rfl) (by kernel_rfl) (by kernel_rfl) (fun _ _ _ h => h) (Or.inl ⟨by rfl, ?_⟩) (by assumption) ?_
                        rotate_left
                        · intro w' hSw
                          obtain ⟨y0, y1, y2, y3, y4, y5, y6, y7, y8, y9, y10, y11⟩ := HY.out _ hSw
                          clear hSw
                          go_simp
                          try with_reducible rfl
                        simp only [Act.put, List.setIfInBounds_toArray, List.set_cons_zero, List.set_cons_succ, List.getElem_toArray, List.getElem_cons_zero, List.getElem_cons_succ]
                        refine wpAnyH_take (i := 2) (v := ?_) rfl (by kernel_rfl) (by kernel_rfl) (by kernel_rfl) (fun _ _ _ h => h) (Or.inl ⟨by rfl, ?_⟩) (by assumption) ?_
                        rotate_left
                        · intro w' hSw
                          obtain ⟨y0, y1, y2, y3, y4, y5, y6, y7, y8, y9, y10, y11⟩ := HY.out _ hSw
                          clear hSw
                          go_simp
                          try with_reducible rfl
                        simp only [Act.put, List.setIfInBounds_toArray, List.set_cons_zero, List.set_cons_succ, List.getElem_toArray, List.getElem_cons_zero, List.getElem_cons_succ]
                        refine wpAnyH_take (i := 3) (v := ?_) rfl (by kernel_rfl) (by kernel_rfl) (by kernel_rfl) (fun _ _ _ h => h) (Or.inl ⟨by rfl, ?_⟩) (by assumption) ?_
                        rotate_left
                        · intro w' hSw
                          obtain ⟨y0, y1, y2, y3, y4, y5, y6, y7, y8, y9, y10, y11⟩ := HY.out _ hSw
                          clear hSw
                          go_simp
                          try with_reducible rfl
                        simp only [Act.put, List.setIfInBounds_toArray, List.set_cons_zero, List.set_cons_succ, List.getElem_toArray, List.getElem_cons_zero, List.getElem_cons_succ]
                        refine wpAnyH_take (i := 4) (v := ?_) rfl (by kernel_rfl) (by kernel_rfl) (by kernel_rfl) (fun _ _ _ h => h) (Or.inl ⟨by rfl, ?_⟩) (by assumption) ?_
                        rotate_left
                        · intro w' hSw
                          obtain ⟨y0, y1, y2, y3, y4, y5, y6, y7, y8, y9, y10, y11⟩ := HY.out _ hSw
                          clear hSw
                          go_simp
                          try with_reducible rfl
                        simp only [Act.put, List.setIfInBounds_toArray, List.set_cons_zero, List.set_cons_succ, List.getElem_toArray, List.getElem_cons_zero, List.getElem_cons_succ]
                        refine wpAnyH_take (i := 5) (v := ?_) rfl (by kernel_rfl) (by kernel_rfl) (by kernel_rfl) (fun _ _ _ h => h) (Or.inl ⟨by rfl, ?_⟩) (by assumption) ?_
                        rotate_left
                        · intro w' hSw
                          obtain ⟨y0, y1, y2, y3, y4, y5, y6, y7, y8, y9, y10, y11⟩ := HY.out _ hSw
                          clear hSw
                          go_simp
                          try with_reducible rfl
                        simp only [Act.put, List.setIfInBounds_toArray, List.set_cons_zero, List.set_cons_succ, List.getElem_toArray, List.getElem_cons_zero, List.getElem_cons_succ]
                        refine wpAnyH_take (i := 6) (v := ?_) rfl (by kernel_rfl) (by kernel_rfl) (by kernel_rfl) (fun _ _ _ h => h) (Or.inl ⟨by rfl, ?_⟩) (by assumption) ?_
                        rotate_left
                        · intro w' hSw
                          obtain ⟨y0, y1, y2, y3, y4, y5, y6, y7, y8, y9, y10, y11⟩ := HY.out _ hSw
                          clear hSw
                          go_simp
                          try with_reducible rfl
                        simp only [Act.put, List.setIfInBounds_toArray, List.set_cons_zero, List.set_cons_succ, List.getElem_toArray, List.getElem_cons_zero, List.getElem_cons_succ]
                        refine wpAnyH_take (i := 7) (v := ?_) rfl (by kernel_rfl) (by kernel_rfl) (by kernel_rfl) (fun _ _ _ h => h) (Or.inl ⟨by rfl, ?_⟩) (by assumption) ?_
                        rotate_left
                        · intro w' hSw
                          obtain ⟨y0, y1, y2, y3, y4, y5, y6, y7, y8, y9, y10, y11⟩ := HY.out _ hSw
                          clear hSw
                          go_simp
                          try with_reducible rfl
                        simp only [Act.put, List.setIfInBounds_toArray, List.set_cons_zero, List.set_cons_succ, List.getElem_toArray, List.getElem_cons_zero, List.getElem_cons_succ]
                        refine wpAnyH_take (i := 8) (v := ?_) rfl (by kernel_rfl) (by kernel_rfl) (by kernel_rfl) (fun _ _ _ h => h) (Or.inl ⟨by rfl, ?_⟩) (by assumption) ?_
                        rotate_left
                        · intro w' hSw
                          obtain ⟨y0, y1, y2, y3, y4, y5, y6, y7, y8, y9, y10, y11⟩ := HY.out _ hSw
                          clear hSw
                          go_simp
                          try with_reducible rfl
                        simp only [Act.put, List.setIfInBounds_toArray, List.set_cons_zero, List.set_cons_succ, List.getElem_toArray, List.getElem_cons_zero, List.getElem_cons_succ]
                        refine wpAnyH_take (i := 9) (v := ?_) rfl (by kernel_rfl) (by kernel_rfl) (by kernel_rfl) (fun _ _ _ h => h) (Or.inl ⟨by rfl, ?_⟩) (by assumption) ?_
                        rotate_left
                        · intro w' hSw
                          obtain ⟨y0, y1, y2, y3, y4, y5, y6, y7, y8, y9, y10, y11⟩ := HY.out _ hSw
                          clear hSw
                          go_simp
                          try with_reducible rfl
                        simp only [Act.put, List.setIfInBounds_toArray, List.set_cons_zero, List.set_cons_succ, List.getElem_toArray, List.getElem_cons_zero, List.getElem_cons_succ]
                        refine wpAnyH_take (i := 10) (v := ?_) rfl (by kernel_rfl) (by kernel_rfl) (by kernel_rfl) (fun _ _ _ h => h) (Or.inl ⟨by rfl, ?_⟩) (by assumption) ?_
                        rotate_left
                        · intro w' hSw
                          obtain ⟨y0, y1, y2, y3, y4, y5, y6, y7, y8, y9, y10, y11⟩ := HY.out _ hSw
                          clear hSw
                          go_simp
                          try with_reducible rfl
                        simp only [Act.put, List.setIfInBounds_toArray, List.set_cons_zero, List.set_cons_succ, List.getElem_toArray, List.getElem_cons_zero, List.getElem_cons_succ]
                        refine wpAnyH_take (i := 11) (v := ?_) rfl (by kernel_rfl) (by kernel_rfl) (by kernel_rfl) (fun _ _ _ h => h) (Or.inl ⟨by rfl, ?_⟩) (by assumption) ?_
                        rotate_left
                        · intro w' hSw
                          obtain ⟨y0, y1, y2, y3, y4, y5, y6, y7, y8, y9, y10, y11⟩ := HY.out _ hSw
                          clear hSw
                          go_simp
                          try with_reducible rfl
                        simp only [Act.put, List.setIfInBounds_toArray, List.set_cons_zero, List.set_cons_succ, List.getElem_toArray, List.getElem_cons_zero, List.getElem_cons_succ]
                        refine wpAnyH_take (i := 12) (v := ?_) rfl (by kernel_rfl) (by kernel_rfl) (by kernel_rfl) (fun _ _ _ h => h) (Or.inl ⟨by rfl, ?_⟩) (by assumption) ?_
                        rotate_left
                        · intro w' hSw
                          obtain ⟨y0, y1, y2, y3, y4, y5, y6, y7, y8, y9, y10, y11⟩ := HY.out _ hSw
                          clear hSw
                          go_simp
                          try with_reducible rfl
                        simp only [Act.put, List.setIfInBounds_toArray, List.set_cons_zero, List.set_cons_succ, List.getElem_toArray, List.getElem_cons_zero, List.getElem_cons_succ]
                        refine wpAnyH_take (i := 13) (v := ?_) rfl (by kernel_rfl) (by kernel_rfl) (by kernel_rfl) (fun _ _ _ h => h) (Or.inl ⟨by rfl, ?_⟩) (by assumption) ?_
                        rotate_left
                        · intro w' hSw
                          obtain ⟨y0, y1, y2, y3, y4, y5, y6, y7, y8, y9, y10, y11⟩ := HY.out _ hSw
                          clear hSw
                          go_simp
                          try with_reducible rfl
                        simp only [Act.put, List.setIfInBounds_toArray, List.set_cons_zero, List.set_cons_succ, List.getElem_toArray, List.getElem_cons_zero, List.getElem_cons_succ]
                        refine wpAnyH_take (i := 14) (v := ?_) rfl (by kernel_rfl) (by kernel_rfl) (by kernel_rfl) (fun _ _ _ h => h) (Or.inl ⟨by rfl, ?_⟩) (by assumption) ?_
                        rotate_left
                        · intro w' hSw
                          obtain ⟨y0, y1, y2, y3, y4, y5, y6, y7, y8, y9, y10, y11⟩ := HY.out _ hSw
                          clear hSw
                          go_simp
                          try with_reducible rfl
                        simp only [Act.put, List.setIfInBounds_toArray, List.set_cons_zero, List.set_cons_succ, List.getElem_toArray, List.getElem_cons_zero, List.getElem_cons_succ]
                        refine wpAnyH_take (i := 15) (v := ?_) rfl (by kernel_rfl) (by kernel_rfl) (by kernel_rfl) (fun _ _ _ h => h) (Or.inl ⟨by rfl, ?_⟩) (by assumption) ?_
                        rotate_left
                        · intro w' hSw
                          obtain ⟨y0, y1, y2, y3, y4, y5, y6, y7, y8, y9, y10, y11⟩ := HY.out _ hSw
                          clear hSw
                          go_simp
                          try with_reducible rfl
                        simp only [Act.put, List.setIfInBounds_toArray, List.set_cons_zero, List.set_cons_succ, List.getElem_toArray, List.getElem_cons_zero, List.getElem_cons_succ]
                        refine wpAnyH_take (i := 16) (v := ?_) rfl (by kernel_rfl) (by kernel_rfl) (by kernel_rfl) (fun _ _ _ h => h) (Or.inl ⟨by rfl, ?_⟩) (by assumption) ?_
                        rotate_left
                        · intro w' hSw
                          obtain ⟨y0, y1, y2, y3, y4, y5, y6, y7, y8, y9, y10, y11⟩ := HY.out _ hSw
                          clear hSw
                          go_simp
                          try with_reducible rfl
                        simp only [Act.put, List.setIfInBounds_toArray, List.set_cons_zero, List.set_cons_succ, List.getElem_toArray, List.getElem_cons_zero, List.getElem_cons_succ]
                        refine wpAnyH_take (i := 17) (v := ?_) rfl (by kernel_rfl) (by kernel_rfl) (by kernel_rfl) (fun _ _ _ h => h) (Or.inl ⟨by rfl, ?_⟩) (by assumption) ?_
                        rotate_left
                        · intro w' hSw
                          obtain ⟨y0, y1, y2, y3, y4, y5, y6, y7, y8, y9, y10, y11⟩ := HY.out _ hSw
                          clear hSw
                          go_simp
                          try with_reducible rfl
                        simp only [Act.put, List.setIfInBounds_toArray, List.set_cons_zero, List.set_cons_succ, List.getElem_toArray, List.getElem_cons_zero, List.getElem_cons_succ]
                        refine wpAnyH_take (i := 18) (v := ?_) rfl (by kernel_rfl) (by kernel_rfl) (by kernel_rfl) (fun _ _ _ h => h) (Or.inl ⟨by rfl, ?_⟩) (by assumption) ?_
                        rotate_left
                        · intro w' hSw
                          obtain ⟨y0, y1, y2, y3, y4, y5, y6, y7, y8, y9, y10, y11⟩ := HY.out _ hSw
                          clear hSw
                          go_simp
                          try with_reducible rfl
                        simp only [Act.put, List.setIfInBounds_toArray, List.set_cons_zero, List.set_cons_succ, List.getElem_toArray, List.getElem_cons_zero, List.getElem_cons_succ]
                        refine wpAnyH_take (i := 19) (v := ?_) rfl (by kernel_rfl) (by kernel_rfl) (by kernel_rfl) (fun _ _ _ h => h) (Or.inl ⟨by rfl, ?_⟩) (by assumption) ?_
                        rotate_left
                        · intro w' hSw
                          obtain ⟨y0, y1, y2, y3, y4, y5, y6, y7, y8, y9, y10, y11⟩ := HY.out _ hSw
                          clear hSw
                          go_simp
                          try with_reducible rfl
                        simp only [Act.put, List.setIfInBounds_toArray, List.set_cons_zero, List.set_cons_succ, List.getElem_toArray, List.getElem_cons_zero, List.getElem_cons_succ]
                        refine wpAnyH_take (i := 20) (v := ?_) rfl (by kernel_rfl) (by kernel_rfl) (by kernel_rfl) (fun _ _ _ h => h) (Or.inl ⟨by rfl, ?_⟩) (by assumption) ?_
                        rotate_left
                        · intro w' hSw
                          obtain ⟨y0, y1, y2, y3, y4, y5, y6, y7, y8, y9, y10, y11⟩ := HY.out _ hSw
                          clear hSw
                          go_simp
                          try with_reducible rfl
                        simp only [Act.put, List.setIfInBounds_toArray, List.set_cons_zero, List.set_cons_succ, List.getElem_toArray, List.getElem_cons_zero, List.getElem_cons_succ]
                        refine wpAnyH_take (i := 21) (v := ?_) rfl (by kernel_rfl) (by kernel_rfl) (by kernel_rfl) (fun _ _ _ h => h) (Or.inl ⟨by rfl, ?_⟩) (by assumption) ?_
                        rotate_left
                        · intro w' hSw
                          obtain ⟨y0, y1, y2, y3, y4, y5, y6, y7, y8, y9, y10, y11⟩ := HY.out _ hSw
                          clear hSw
                          go_simp
                          try with_reducible rfl
                        simp only [Act.put, List.setIfInBounds_toArray, List.set_cons_zero, List.set_cons_succ, List.getElem_toArray, List.getElem_cons_zero, List.getElem_cons_succ]
                        refine wpAnyH_take (i := 22) (v := ?_) rfl (by kernel_rfl) (by kernel_rfl) (by kernel_rfl) (fun _ _ _ h => h) (Or.inl ⟨by rfl, ?_⟩) (by assumption) ?_
                        rotate_left
                        · intro w' hSw
                          obtain ⟨y0, y1, y2, y3, y4, y5, y6, y7, y8, y9, y10, y11⟩ := HY.out _ hSw
                          clear hSw
                          go_simp
                          try with_reducible rfl
                        simp only [Act.put, List.setIfInBounds_toArray, List.set_cons_zero, List.set_cons_succ, List.getElem_toArray, List.getElem_cons_zero, List.getElem_cons_succ]
                        refine wpAnyH_take (i := 23) (v := ?_) rfl (by kernel_rfl) (by kernel_rfl) (by kernel_rfl) (fun _ _ _ h => h) (Or.inl ⟨by rfl, ?_⟩) (by assumption) ?_
                        rotate_left
                        · intro w' hSw
                          obtain ⟨y0, y1, y2, y3, y4, y5, y6, y7, y8, y9, y10, y11⟩ := HY.out _ hSw
                          clear hSw
                          go_simp
                          try with_reducible rfl
                        simp only [Act.put, List.setIfInBounds_toArray, List.set_cons_zero, List.set_cons_succ, List.getElem_toArray, List.getElem_cons_zero, List.getElem_cons_succ]
                        refine wpAnyH_take (i := 24) (v := ?_) rfl (by kernel_rfl) (by kernel_rfl) (by kernel_rfl) (fun _ _ _ h => h) (Or.inl ⟨by rfl, ?_⟩) (by assumption) ?_
                        rotate_left
                        · intro w' hSw
                          obtain ⟨y0, y1, y2, y3, y4, y5, y6, y7, y8, y9, y10, y11⟩ := HY.out _ hSw
                          clear hSw
                          go_simp
                          try with_reducible rfl
                        simp only [Act.put, List.setIfInBounds_toArray, List.set_cons_zero, List.set_cons_succ, List.getElem_toArray, List.getElem_cons_zero, List.getElem_cons_succ]
                        refine wpAnyH_take (i := 25) (v := ?_) rfl (by kernel_rfl) (by kernel_rfl) (by kernel_rfl) (fun _ _ _ h => h) (Or.inl ⟨by rfl, ?_⟩) (by assumption) ?_
                        rotate_left
                        · intro w' hSw
                          obtain ⟨y0, y1, y2, y3, y4, y5, y6, y7, y8, y9, y10, y11⟩ := HY.out _ hSw
                          clear hSw
                          go_simp
                          try with_reducible rfl
                        simp only [Act.put, List.setIfInBounds_toArray, List.set_cons_zero, List.set_cons_succ, List.getElem_toArray, List.getElem_cons_zero, List.getElem_cons_succ]
                        refine wpAnyH_ready (rs := [26]) (by kernel_rfl) (by simp) ?_
                        refine AllReadyH.cons rfl (fun K hK => ?_) AllReadyH.nil
                        go_simp
                        go_at_call 13
                        refine (l07Same_any _ _ a.mades[k].body b.mades[k].body 0 hi 0 hi wr.drew SA.out SB.out).mono ?_
                        rintro e w4 ⟨rfl, n4, hw4⟩
                        rw [HBD.out]
                        have B4 : Below wr.heap.size wr w4 := by rw [hw4]; exact ⟨rfl, rfl, rfl, Nat.le_refl _, fun _ _ => rfl⟩
                        clear hw4
                        go_wp2_with fail
                        refine hK.out _ _ (B4) (fun hHeld => ?_)
                        clear hK K
                        refine wpAnyH_take (i := 27) (v := ?_) rfl (by kernel_rfl) (by kernel_rfl) (by kernel_rfl) (fun _ _ _ h => h) (Or.inl ⟨by rfl, ?_⟩) (by assumption) ?_
                        rotate_left
                        · intro w' hSw
                          obtain ⟨y0, y1, y2, y3, y4, y5, y6, y7, y8, y9, y10, y11⟩ := HY.out _ hSw
                          clear hSw
                          go_simp
                          try with_reducible rfl
                        simp only [Act.put, List.setIfInBounds_toArray, List.set_cons_zero, List.set_cons_succ, List.getElem_toArray, List.getElem_cons_zero, List.getElem_cons_succ]
                        refine wpAnyH_take (i := 28) (v := ?_) rfl (by kernel_rfl) (by kernel_rfl) (by kernel_rfl) (fun _ _ _ h => h) (Or.inl ⟨by rfl, ?_⟩) (by assumption) ?_
                        rotate_left
                        · intro w' hSw
                          obtain ⟨y0, y1, y2, y3, y4, y5, y6, y7, y8, y9, y10, y11⟩ := HY.out _ hSw
                          clear hSw
                          go_simp
                          try with_reducible rfl
                        simp only [Act.put, List.setIfInBounds_toArray, List.set_cons_zero, List.set_cons_succ, List.getElem_toArray, List.getElem_cons_zero, List.getElem_cons_succ]
                        refine wpAnyH_take (i := 29) (v := ?_) rfl (by kernel_rfl) (by kernel_rfl) (by kernel_rfl) (fun _ _ _ h => h) (Or.inl ⟨by rfl, ?_⟩) (by assumption) ?_
                        rotate_left
                        · intro w' hSw
                          obtain ⟨y0, y1, y2, y3, y4, y5, y6, y7, y8, y9, y10, y11⟩ := HY.out _ hSw
                          clear hSw
                          go_simp
                          try with_reducible rfl
                        simp only [Act.put, List.setIfInBounds_toArray, List.set_cons_zero, List.set_cons_succ, List.getElem_toArray, List.getElem_cons_zero, List.getElem_cons_succ]
                        refine wpAnyH_take (i := 30) (v := ?_) rfl (by kernel_rfl) (by kernel_rfl) (by kernel_rfl) (fun _ _ _ h => h) (Or.inl ⟨by rfl, ?_⟩) (by assumption) ?_
                        rotate_left
                        · intro w' hSw
                          obtain ⟨y0, y1, y2, y3, y4, y5, y6, y7, y8, y9, y10, y11⟩ := HY.out _ hSw
                          clear hSw
                          go_simp
                          try with_reducible rfl
                        simp only [Act.put, List.setIfInBounds_toArray, List.set_cons_zero, List.set_cons_succ, List.getElem_toArray, List.getElem_cons_zero, List.getElem_cons_succ]
                        refine wpAnyH_take (i := 31) (v := ?_) rfl (by kernel_rfl) (by kernel_rfl) (by kernel_rfl) (fun _ _ _ h => h) (Or.inl ⟨by rfl, ?_⟩) (by assumption) ?_
                        rotate_left
                        · intro w' hSw
                          obtain ⟨y0, y1, y2, y3, y4, y5, y6, y7, y8, y9, y10, y11⟩ := HY.out _ hSw
                          clear hSw
                          go_simp
                          try with_reducible rfl
                        simp only [Act.put, List.setIfInBounds_toArray, List.set_cons_zero, List.set_cons_succ, List.getElem_toArray, List.getElem_cons_zero, List.getElem_cons_succ]
                        refine wpAnyH_take (i := 32) (v := ?_) rfl (by kernel_rfl) (by kernel_rfl) (by kernel_rfl) (fun _ _ _ h => h) (Or.inl ⟨by rfl, ?_⟩) (by assumption) ?_
                        rotate_left
                        · intro w' hSw
                          obtain ⟨y0, y1, y2, y3, y4, y5, y6, y7, y8, y9, y10, y11⟩ := HY.out _ hSw
                          clear hSw
                          go_simp
                          try with_reducible rfl
                        simp only [Act.put, List.setIfInBounds_toArray, List.set_cons_zero, List.set_cons_succ, List.getElem_toArray, List.getElem_cons_zero, List.getElem_cons_succ]
                        refine wpAnyH_take (i := 33) (v := ?_) rfl (by kernel_rfl) (by kernel_rfl) (by kernel_rfl) (fun _ _ _ h => h) (Or.inl ⟨by rfl, ?_⟩) (by assumption) ?_
                        rotate_left
                        · intro w' hSw
                          obtain ⟨y0, y1, y2, y3, y4, y5, y6, y7, y8, y9, y10, y11⟩ := HY.out _ hSw
                          clear hSw
                          go_simp
                          try with_reducible rfl
                        simp only [Act.put, List.setIfInBounds_toArray, List.set_cons_zero, List.set_cons_succ, List.getElem_toArray, List.getElem_cons_zero, List.getElem_cons_succ]
                        refine wpAnyH_take (i := 34) (v := ?_) rfl (by kernel_rfl) (by kernel_rfl) (by kernel_rfl) (fun _ _ _ h => h) (Or.inl ⟨by rfl, ?_⟩) (by assumption) ?_
                        rotate_left
                        · intro w' hSw
                          obtain ⟨y0, y1, y2, y3, y4, y5, y6, y7, y8, y9, y10, y11⟩ := HY.out _ hSw
                          clear hSw
                          go_simp
                          try with_reducible rfl
                        simp only [Act.put, List.setIfInBounds_toArray, List.set_cons_zero, List.set_cons_succ, List.getElem_toArray, List.getElem_cons_zero, List.getElem_cons_succ]
                        refine wpAnyH_take (i := 35) (v := ?_) rfl (by kernel_rfl) (by kernel_rfl) (by kernel_rfl) (fun _ _ _ h => h) (Or.inl ⟨by rfl, ?_⟩) (by assumption) ?_
                        rotate_left
                        · intro w' hSw
                          obtain ⟨y0, y1, y2, y3, y4, y5, y6, y7, y8, y9, y10, y11⟩ := HY.out _ hSw
                          clear hSw
                          go_simp
                          try with_reducible rfl
                        simp only [Act.put, List.setIfInBounds_toArray, List.set_cons_zero, List.set_cons_succ, List.getElem_toArray, List.getElem_cons_zero, List.getElem_cons_succ]
                        refine wpAnyH_take (i := 36) (v := ?_) rfl (by kernel_rfl) (by kernel_rfl) (by kernel_rfl) (fun _ _ _ h => h) (Or.inl ⟨by rfl, ?_⟩) (by assumption) ?_
                        rotate_left
                        · intro w' hSw
                          obtain ⟨y0, y1, y2, y3, y4, y5, y6, y7, y8, y9, y10, y11⟩ := HY.out _ hSw
                          clear hSw
                          go_simp
                          try with_reducible rfl
                        simp only [Act.put, List.setIfInBounds_toArray, List.set_cons_zero, List.set_cons_succ, List.getElem_toArray, List.getElem_cons_zero, List.getElem_cons_succ]
                        refine wpAnyH_take (i := 37) (v := ?_) rfl (by kernel_rfl) (by kernel_rfl) (by kernel_rfl) (fun _ _ _ h => h) (Or.inl ⟨by rfl, ?_⟩) (by assumption) ?_
                        rotate_left
                        · intro w' hSw
                          obtain ⟨y0, y1, y2, y3, y4, y5, y6, y7, y8, y9, y10, y11⟩ := HY.out _ hSw
                          clear hSw
                          go_simp
                          try with_reducible rfl
                        simp only [Act.put, List.setIfInBounds_toArray, List.set_cons_zero, List.set_cons_succ, List.getElem_toArray, List.getElem_cons_zero, List.getElem_cons_succ]
                        refine wpAnyH_take (i := 38) (v := ?_) rfl (by kernel_rfl) (by kernel_rfl) (by kernel_rfl) (fun _ _ _ h => h) (Or.inl ⟨by rfl, ?_⟩) (by assumption) ?_
                        rotate_left
                        · intro w' hSw
                          obtain ⟨y0, y1, y2, y3, y4, y5, y6, y7, y8, y9, y10, y11⟩ := HY.out _ hSw
                          clear hSw
                          go_simp
                          try with_reducible rfl
                        simp only [Act.put, List.setIfInBounds_toArray, List.set_cons_zero, List.set_cons_succ, List.getElem_toArray, List.getElem_cons_zero, List.getElem_cons_succ]
                        refine wpAnyH_take (i := 39) (v := ?_) rfl (by kernel_rfl) (by kernel_rfl) (by kernel_rfl) (fun _ _ _ h => h) (Or.inl ⟨by rfl, ?_⟩) (by assumption) ?_
                        rotate_left
                        · intro w' hSw
                          obtain ⟨y0, y1, y2, y3, y4, y5, y6, y7, y8, y9, y10, y11⟩ := HY.out _ hSw
                          clear hSw
                          go_simp
                          try with_reducible rfl
                        simp only [Act.put, List.setIfInBounds_toArray, List.set_cons_zero, List.set_cons_succ, List.getElem_toArray, List.getElem_cons_zero, List.getElem_cons_succ]
                        refine wpAnyH_take (i := 40) (v := ?_) rfl (by kernel_rfl) (by kernel_rfl) (by kernel_rfl) (fun _ _ _ h => h) (Or.inl ⟨by rfl, ?_⟩) (by assumption) ?_
                        rotate_left
                        · intro w' hSw
                          obtain ⟨y0, y1, y2, y3, y4, y5, y6, y7, y8, y9, y10, y11⟩ := HY.out _ hSw
                          clear hSw
                          go_simp
                          try with_reducible rfl
                        simp only [Act.put, List.setIfInBounds_toArray, List.set_cons_zero, List.set_cons_succ, List.getElem_toArray, List.getElem_cons_zero, List.getElem_cons_succ]
                        refine wpAnyH_take (i := 41) (v := ?_) rfl (by kernel_rfl) (by kernel_rfl) (by kernel_rfl) (fun _ _ _ h => h) (Or.inl ⟨by rfl, ?_⟩) (by assumption) ?_
                        rotate_left
                        · intro w' hSw
                          obtain ⟨y0, y1, y2, y3, y4, y5, y6, y7, y8, y9, y10, y11⟩ := HY.out _ hSw
                          clear hSw
                          go_simp
                          try with_reducible rfl
                        simp only [Act.put, List.setIfInBounds_toArray, List.set_cons_zero, List.set_cons_succ, List.getElem_toArray, List.getElem_cons_zero, List.getElem_cons_succ]
                        refine wpAnyH_ready (rs := [42]) (by kernel_rfl) (by simp) ?_
                        refine AllReadyH.cons rfl (fun K hK => ?_) AllReadyH.nil
                        go_simp
                        go_at_call 12
                        have step := specTerm9_any a.mades[k].term b.mades[k].term true (.slice Ax a.mades[k].term.kids.length cx) (.slice Bx b.mades[k].term.kids.length dx) 0 hi 0 hi w4 (KA.out.under B4 (by omega)) (KB.out.under B4 (by omega)) (by have := B4.size; omega) (by have := B4.size; omega)
                        unfold tmV at step
                        refine step.mono ?_
                        clear step
                        rintro e w5 ⟨r5, rfl, h5, b5⟩
                        obtain rfl : r5 = true := h5.2 HTM.out
                        have B5 : Below wr.heap.size wr w5 := B4.trans (b5.mono B4.size)
                        clear b5 h5
                        go_wp2_with fail
                        refine hK.out _ _ (B5) (fun hHeld => ?_)
                        clear hK K
                        refine wpAnyH_take (i := 43) (v := ?_) rfl (by kernel_rfl) (by kernel_rfl) (by kernel_rfl) (fun _ _ _ h => h) (Or.inl ⟨by rfl, ?_⟩) (by assumption) ?_
                        rotate_left
                        · intro w' hSw
                          obtain ⟨y0, y1, y2, y3, y4, y5, y6, y7, y8, y9, y10, y11⟩ := HY.out _ hSw
                          clear hSw
                          go_simp
                          try with_reducible rfl
                        simp only [Act.put, List.setIfInBounds_toArray, List.set_cons_zero, List.set_cons_succ, List.getElem_toArray, List.getElem_cons_zero, List.getElem_cons_succ]
                        refine wpAnyH_take (i := 44) (v := ?_) rfl (by kernel_rfl) (by kernel_rfl) (by kernel_rfl) (fun _ _ _ h => h) (Or.inl ⟨by rfl, ?_⟩) (by assumption) ?_
                        rotate_left
                        · intro w' hSw
                          obtain ⟨y0, y1, y2, y3, y4, y5, y6, y7, y8, y9, y10, y11⟩ := HY.out _ hSw
                          clear hSw
                          go_simp
                          try with_reducible rfl
                        simp only [Act.put, List.setIfInBounds_toArray, List.set_cons_zero, List.set_cons_succ, List.getElem_toArray, List.getElem_cons_zero, List.getElem_cons_succ]
                        refine wpAnyH_done (by kernel_rfl) ?_ _
                        have FIN := Lib.hid (HBW.out.trans (B5.mono hzw))
                        clear B4 B5
                        go_wp2
                        go_roundg (a.mades.length - (k + 1))
                        case rel => exact ⟨k + 1, by go_num, by omega, FIN.out, (fun j hj hj' hjk => by
                            by_cases e : j = k
                            · subst e; exact MadeD.ext_of HHD.out HBQ.out HTM.out
                            · exact HALL.out j hj hj' (by omega)), rfl⟩
                        case measure => omega
                      · have HE : Hid (a ≠ b) := Lib.hid (fun e => htm (by subst e; rfl))
                        have HTM := Lib.hid htm
                        clear htm
                        go_wp2
                        clear a1 d1 k0 k1 k2 k3 k4 m0 m1 m2 m3 m4
                        refine wp_region_held_drew (S := fun w' => Below wr.heap.size wr w') (by kernel_rfl) ((Below.refl wr.heap.size wr).drew) (fun hHeld => ?_)
                        refine wpAnyH_take (i := 0) (v := ?_) rfl (by kernel_rfl) (by kernel_rfl) (by kernel_rfl) (fun _ _ _ h => h) (Or.inl ⟨by rfl, ?_⟩) (by assumption) ?_
                        rotate_left
                        · intro w' hSw
                          obtain ⟨y0, y1, y2, y3, y4, y5, y6, y7, y8, y9, y10, y11⟩ := HY.out _ hSw
                          clear hSw
                          go_simp
                          try with_reducible rfl
                        simp only [Act.put, List.setIfInBounds_toArray, List.set_cons_zero, List.set_cons_succ, List.getElem_toArray, List.getElem_cons_zero]
                        refine wpAnyH_take (i := 1) (v := ?_) rfl (by kernel_rfl) (by kernel_rfl) (by kernel_rfl) (fun _ _ _ h => h) (Or.inl ⟨by rfl, ?_⟩) (by assumption) ?_
                        rotate_left
                        · intro w' hSw
                          obtain ⟨y0, y1, y2, y3, y4, y5, y6, y7, y8, y9, y10, y11⟩ := HY.out _ hSw
                          clear hSw
                          go_simp
                          try with_reducible rfl
                        simp only [Act.put, List.setIfInBounds_toArray, List.set_cons_zero, List.set_cons_succ, List.getElem_toArray, List.getElem_cons_zero, List.getElem_cons_succ]
                        refine wpAnyH_take (i := 2) (v := ?_) rfl (by kernel_rfl) (by kernel_rfl) (by kernel_rfl) (fun _ _ _ h => h) (Or.inl ⟨by rfl, ?_⟩) (by assumption) ?_
                        rotate_left
                        · intro w' hSw
                          obtain ⟨y0, y1, y2, y3, y4, y5, y6, y7, y8, y9, y10, y11⟩ := HY.out _ hSw
                          clear hSw
                          go_simp
                          try with_reducible rfl
                        simp only [Act.put, List.setIfInBounds_toArray, List.set_cons_zero, List.set_cons_succ, List.getElem_toArray, List.getElem_cons_zero, List.getElem_cons_succ]
                        refine wpAnyH_take (i := 3) (v := ?_) rfl (by kernel_rfl) (by kernel_rfl) (by kernel_rfl) (fun _ _ _ h => h) (Or.inl ⟨by rfl, ?_⟩) (by assumption) ?_
                        rotate_left
                        · intro w' hSw
                          obtain ⟨y0, y1, y2, y3, y4, y5, y6, y7, y8, y9, y10, y11⟩ := HY.out _ hSw
                          clear hSw
                          go_simp
                          try with_reducible rfl
                        simp only [Act.put, List.setIfInBounds_toArray, List.set_cons_zero, List.set_cons_succ, List.getElem_toArray, List.getElem_cons_zero, List.getElem_cons_succ]
                        refine wpAnyH_take (i := 4) (v := ?_) rfl (by kernel_rfl) (by kernel_rfl) (by kernel_rfl) (fun _ _ _ h => h) (Or.inl ⟨by rfl, ?_⟩) (by assumption) ?_
                        rotate_left
                        · intro w' hSw
                          obtain ⟨y0, y1, y2, y3, y4, y5, y6, y7, y8, y9, y10, y11⟩ := HY.out _ hSw
                          clear hSw
                          go_simp
                          try with_reducible rfl
                        simp only [Act.put, List.setIfInBounds_toArray, List.set_cons_zero, List.set_cons_succ, List.getElem_toArray, List.getElem_cons_zero, List.getElem_cons_succ]
                        refine wpAnyH_take (i := 5) (v := ?_) rfl (by kernel_rfl) (by kernel_rfl) (by kernel_rfl) (fun _ _ _ h => h) (Or.inl ⟨by rfl, ?_⟩) (by assumption) ?_
                        rotate_left
                        · intro w' hSw
                          obtain ⟨y0, y1, y2, y3, y4, y5, y6, y7, y8, y9, y10, y11⟩ := HY.out _ hSw
                          clear hSw
                          go_simp
                          try with_reducible rfl
                        simp only [Act.put, List.setIfInBounds_toArray, List.set_cons_zero, List.set_cons_succ, List.getElem_toArray, List.getElem_cons_zero, List.getElem_cons_succ]
                        refine wpAnyH_take (i := 6) (v := ?_) rfl (by kernel_rfl) (by kernel_rfl) (by kernel_rfl) (fun _ _ _ h => h) (Or.inl ⟨by rfl, ?_⟩) (by assumption) ?_
                        rotate_left
                        · intro w' hSw
                          obtain ⟨y0, y1, y2, y3, y4, y5, y6, y7, y8, y9, y10, y11⟩ := HY.out _ hSw
                          clear hSw
                          go_simp
                          try with_reducible rfl
                        simp only [Act.put, List.setIfInBounds_toArray, List.set_cons_zero, List.set_cons_succ, List.getElem_toArray, List.getElem_cons_zero, List.getElem_cons_succ]
                        refine wpAnyH_take (i := 7) (v := ?_) rfl (by kernel_rfl) (by kernel_rfl) (by kernel_rfl) (fun _ _ _ h => h) (Or.inl ⟨by rfl, ?_⟩) (by assumption) ?_
                        rotate_left
                        · intro w' hSw
                          obtain ⟨y0, y1, y2, y3, y4, y5, y6, y7, y8, y9, y10, y11⟩ := HY.out _ hSw
                          clear hSw
                          go_simp
                          try with_reducible rfl
                        simp only [Act.put, List.setIfInBounds_toArray, List.set_cons_zero, List.set_cons_succ, List.getElem_toArray, List.getElem_cons_zero, List.getElem_cons_succ]
                        refine wpAnyH_take (i := 8) (v := ?_) rfl (by kernel_rfl) (by kernel_rfl) (by kernel_rfl) (fun _ _ _ h => h) (Or.inl ⟨by rfl, ?_⟩) (by assumption) ?_
                        rotate_left
                        · intro w' hSw
                          obtain ⟨y0, y1, y2, y3, y4, y5, y6, y7, y8, y9, y10, y11⟩ := HY.out _ hSw
                          clear hSw
                          go_simp
                          try with_reducible rfl
                        simp only [Act.put, List.setIfInBounds_toArray, List.set_cons_zero, List.set_cons_succ, List.getElem_toArray, List.getElem_cons_zero, List.getElem_cons_succ]
                        refine wpAnyH_take (i := 9) (v := ?_) rfl (by kernel_rfl) (by kernel_rfl) (by kernel_rfl) (fun _ _ _ h => h) (Or.inl ⟨by rfl, ?_⟩) (by assumption) ?_
                        rotate_left
                        · intro w' hSw
                          obtain ⟨y0, y1, y2, y3, y4, y5, y6, y7, y8, y9, y10, y11⟩ := HY.out _ hSw
                          clear hSw
                          go_simp
                          try with_reducible rfl
                        simp only [Act.put, List.setIfInBounds_toArray, List.set_cons_zero, List.set_cons_succ, List.getElem_toArray, List.getElem_cons_zero, List.getElem_cons_succ]
                        refine wpAnyH_take (i := 10) (v := ?_) rfl (by kernel_rfl) (by kernel_rfl) (by kernel_rfl) (fun _ _ _ h => h) (Or.inl ⟨by rfl, ?_⟩) (by assumption) ?_
                        rotate_left
                        · intro w' hSw
                          obtain ⟨y0, y1, y2, y3, y4, y5, y6, y7, y8, y9, y10, y11⟩ := HY.out _ hSw
                          clear hSw
                          go_simp
                          try with_reducible rfl
                        simp only [Act.put, List.setIfInBounds_toArray, List.set_cons_zero, List.set_cons_succ, List.getElem_toArray, List.getElem_cons_zero, List.getElem_cons_succ]
                        refine wpAnyH_take (i := 11) (v := ?_) rfl (by kernel_rfl) (by kernel_rfl) (by kernel_rfl) (fun _ _ _ h => h) (Or.inl ⟨by rfl, ?_⟩) (by assumption) ?_
                        rotate_left
                        · intro w' hSw
                          obtain ⟨y0, y1, y2, y3, y4, y5, y6, y7, y8, y9, y10, y11⟩ := HY.out _ hSw
                          clear hSw
                          go_simp
                          try with_reducible rfl
                        simp only [Act.put, List.setIfInBounds_toArray, List.set_cons_zero, List.set_cons_succ, List.getElem_toArray, List.getElem_cons_zero, List.getElem_cons_succ]
                        refine wpAnyH_take (i := 12) (v := ?_) rfl (by kernel_rfl) (by kernel_rfl) (by kernel_rfl) (fun _ _ _ h => h) (Or.inl ⟨by rfl, ?_⟩) (by assumption) ?_
                        rotate_left
                        · intro w' hSw
                          obtain ⟨y0, y1, y2, y3, y4, y5, y6, y7, y8, y9, y10, y11⟩ := HY.out _ hSw
                          clear hSw
                          go_simp
                          try with_reducible rfl
                        simp only [Act.put, List.setIfInBounds_toArray, List.set_cons_zero, List.set_cons_succ, List.getElem_toArray, List.getElem_cons_zero, List.getElem_cons_succ]
                        refine wpAnyH_take (i := 13) (v := ?_) rfl (by kernel_rfl) (by kernel_rfl) (by kernel_rfl) (fun _ _ _ h => h) (Or.inl ⟨by rfl, ?_⟩) (by assumption) ?_
                        rotate_left
                        · intro w' hSw
                          obtain ⟨y0, y1, y2, y3, y4, y5, y6, y7, y8, y9, y10, y11⟩ := HY.out _ hSw
                          clear hSw
                          go_simp
                          try with_reducible rfl
                        simp only [Act.put, List.setIfInBounds_toArray, List.set_cons_zero, List.set_cons_succ, List.getElem_toArray, List.getElem_cons_zero, List.getElem_cons_succ]
                        refine wpAnyH_take (i := 14) (v := ?_) rfl (by kernel_rfl) (by kernel_rfl) (by kernel_rfl) (fun _ _ _ h => h) (Or.inl ⟨by rfl, ?_⟩) (by assumption) ?_
                        rotate_left
                        · intro w' hSw
                          obtain ⟨y0, y1, y2, y3, y4, y5, y6, y7, y8, y9, y10, y11⟩ := HY.out _ hSw
                          clear hSw
                          go_simp
                          try with_reducible rfl
                        simp only [Act.put, List.setIfInBounds_toArray, List.set_cons_zero, List.set_cons_succ, List.getElem_toArray, List.getElem_cons_zero, List.getElem_cons_succ]
                        refine wpAnyH_take (i := 15) (v := ?_) rfl (by kernel_rfl) (by kernel_rfl) (by kernel_rfl) (fun _ _ _ h => h) (Or.inl ⟨by rfl, ?_⟩) (by assumption) ?_
                        rotate_left
                        · intro w' hSw
                          obtain ⟨y0, y1, y2, y3, y4, y5, y6, y7, y8, y9, y10, y11⟩ := HY.out _ hSw
                          clear hSw
                          go_simp
                          try with_reducible rfl
                        simp only [Act.put, List.setIfInBounds_toArray, List.set_cons_zero, List.set_cons_succ, List.getElem_toArray, List.getElem_cons_zero, List.getElem_cons_succ]
                        refine wpAnyH_take (i := 16) (v := ?_) rfl (by kernel_rfl) (by kernel_rfl) (by kernel_rfl) (fun _ _ _ h => h) (Or.inl ⟨by rfl, ?_⟩) (by assumption) ?_
                        rotate_left
                        · intro w' hSw
                          obtain ⟨y0, y1, y2, y3, y4, y5, y6, y7, y8, y9, y10, y11⟩ := HY.out _ hSw
                          clear hSw
                          go_simp
                          try with_reducible rfl
                        simp only [Act.put, List.setIfInBounds_toArray, List.set_cons_zero, List.set_cons_succ, List.getElem_toArray, List.getElem_cons_zero, List.getElem_cons_succ]
                        refine wpAnyH_take (i := 17) (v := ?_) rfl (by kernel_rfl) (by kernel_rfl) (by kernel_rfl) (fun _ _ _ h => h) (Or.inl ⟨by rfl, ?_⟩) (by assumption) ?_
                        rotate_left
                        · intro w' hSw
                          obtain ⟨y0, y1, y2, y3, y4, y5, y6, y7, y8, y9, y10, y11⟩ := HY.out _ hSw
                          clear hSw
                          go_simp
                          try with_reducible rfl
                        simp only [Act.put, List.setIfInBounds_toArray, List.set_cons_zero, List.set_cons_succ, List.getElem_toArray, List.getElem_cons_zero, List.getElem_cons_succ]
                        refine wpAnyH_take (i := 18) (v := ?_) rfl (by kernel_rfl) (by kernel_rfl) (by kernel_rfl) (fun _ _ _ h => h) (Or.inl ⟨by rfl, ?_⟩) (by assumption) ?_
                        rotate_left
                        · intro w' hSw
                          obtain ⟨y0, y1, y2, y3, y4, y5, y6, y7, y8, y9, y10, y11⟩ := HY.out _ hSw
                          clear hSw
                          go_simp
                          try with_reducible rfl
                        simp only [Act.put, List.setIfInBounds_toArray, List.set_cons_zero, List.set_cons_succ, List.getElem_toArray, List.getElem_cons_zero, List.getElem_cons_succ]
                        refine wpAnyH_take (i := 19) (v := ?_) rfl (by kernel_rfl) (by kernel_rfl) (by kernel_rfl) (fun _ _ _ h => h) (Or.inl ⟨by rfl, ?_⟩) (by assumption) ?_
                        rotate_left
                        · intro w' hSw
                          obtain ⟨y0, y1, y2, y3, y4, y5, y6, y7, y8, y9, y10, y11⟩ := HY.out _ hSw
                          clear hSw
                          go_simp
                          try with_reducible rfl
                        simp only [Act.put, List.setIfInBounds_toArray, List.set_cons_zero, List.set_cons_succ, List.getElem_toArray, List.getElem_cons_zero, List.getElem_cons_succ]
                        refine wpAnyH_take (i := 20) (v := ?_) rfl (by kernel_rfl) (by kernel_rfl) (by kernel_rfl) (fun _ _ _ h => h) (Or.inl ⟨by rfl, ?_⟩) (by assumption) ?_
                        rotate_left
                        · intro w' hSw
                          obtain ⟨y0, y1, y2, y3, y4, y5, y6, y7, y8, y9, y10, y11⟩ := HY.out _ hSw
                          clear hSw
                          go_simp
                          try with_reducible rfl
                        simp only [Act.put, List.setIfInBounds_toArray, List.set_cons_zero, List.set_cons_succ, List.getElem_toArray, List.getElem_cons_zero, List.getElem_cons_succ]
                        refine wpAnyH_take (i := 21) (v := ?_) rfl (by kernel_rfl) (by kernel_rfl) (by kernel_rfl) (fun _ _ _ h => h) (Or.inl ⟨by rfl, ?_⟩) (by assumption) ?_
                        rotate_left
                        · intro w' hSw
                          obtain ⟨y0, y1, y2, y3, y4, y5, y6, y7, y8, y9, y10, y11⟩ := HY.out _ hSw
                          clear hSw
                          go_simp
                          try with_reducible rfl
                        simp only [Act.put, List.setIfInBounds_toArray, List.set_cons_zero, List.set_cons_succ, List.getElem_toArray, List.getElem_cons_zero, List.getElem_cons_succ]
                        refine wpAnyH_take (i := 22) (v := ?_) rfl (by kernel_rfl) (by kernel_rfl) (by kernel_rfl) (fun _ _ _ h => h) (Or.inl ⟨by rfl, ?_⟩) (by assumption) ?_
                        rotate_left
                        · intro w' hSw
                          obtain ⟨y0, y1, y2, y3, y4, y5, y6, y7, y8, y9, y10, y11⟩ := HY.out _ hSw
                          clear hSw
                          go_simp
                          try with_reducible rfl
                        simp only [Act.put, List.setIfInBounds_toArray, List.set_cons_zero, List.set_cons_succ, List.getElem_toArray, List.getElem_cons_zero, List.getElem_cons_succ]
                        refine wpAnyH_take (i := 23) (v := ?_) rfl (by kernel_rfl) (by kernel_rfl) (by kernel_rfl) (fun _ _ _ h => h) (Or.inl ⟨by rfl, ?_⟩) (by assumption) ?_
                        rotate_left
                        · intro w' hSw
                          obtain ⟨y0, y1, y2, y3, y4, y5, y6, y7, y8, y9, y10, y11⟩ := HY.out _ hSw
                          clear hSw
                          go_simp
                          try with_reducible rfl
                        simp only [Act.put, List.setIfInBounds_toArray, List.set_cons_zero, List.set_cons_succ, List.getElem_toArray, List.getElem_cons_zero, List.getElem_cons_succ]
                        refine wpAnyH_take (i := 24) (v := ?_) rfl (by kernel_rfl) (by kernel_rfl) (by kernel_rfl) (fun _ _ _ h => h) (Or.inl ⟨by rfl, ?_⟩) (by assumption) ?_
                        rotate_left
                        · intro w' hSw
                          obtain ⟨y0, y1, y2, y3, y4, y5, y6, y7, y8, y9, y10, y11⟩ := HY.out _ hSw
                          clear hSw
                          go_simp
                          try with_reducible rfl
                        simp only [Act.put, List.setIfInBounds_toArray, List.set_cons_zero, List.set_cons_succ, List.getElem_toArray, List.getElem_cons_zero, List.getElem_cons_succ]
                        refine wpAnyH_take (i := 25) (v := ?_) rfl (by kernel_rfl) (by kernel_rfl) (by kernel_rfl) (fun _ _ _ h => h) (Or.inl ⟨by rfl, ?_⟩) (by assumption) ?_
                        rotate_left
                        · intro w' hSw
                          obtain ⟨y0, y1, y2, y3, y4, y5, y6, y7, y8, y9, y10, y11⟩ := HY.out _ hSw
                          clear hSw
                          go_simp
                          try with_reducible rfl
                        simp only [Act.put, List.setIfInBounds_toArray, List.set_cons_zero, List.set_cons_succ, List.getElem_toArray, List.getElem_cons_zero, List.getElem_cons_succ]
                        refine wpAnyH_ready (rs := [26]) (by kernel_rfl) (by simp) ?_
                        refine AllReadyH.cons rfl (fun K hK => ?_) AllReadyH.nil
                        go_simp
                        go_at_call 13
                        refine (l07Same_any _ _ a.mades[k].body b.mades[k].body 0 hi 0 hi wr.drew SA.out SB.out).mono ?_
                        rintro e w4 ⟨rfl, n4, hw4⟩
                        rw [HBD.out]
                        have B4 : Below wr.heap.size wr w4 := by rw [hw4]; exact ⟨rfl, rfl, rfl, Nat.le_refl _, fun _ _ => rfl⟩
                        clear hw4
                        go_wp2_with fail
                        refine hK.out _ _ (B4) (fun hHeld => ?_)
                        clear hK K
                        refine wpAnyH_take (i := 27) (v := ?_) rfl (by kernel_rfl) (by kernel_rfl) (by kernel_rfl) (fun _ _ _ h => h) (Or.inl ⟨by rfl, ?_⟩) (by assumption) ?_
                        rotate_left
                        · intro w' hSw
                          obtain ⟨y0, y1, y2, y3, y4, y5, y6, y7, y8, y9, y10, y11⟩ := HY.out _ hSw
                          clear hSw
                          go_simp
                          try with_reducible rfl
                        simp only [Act.put, List.setIfInBounds_toArray, List.set_cons_zero, List.set_cons_succ, List.getElem_toArray, List.getElem_cons_zero, List.getElem_cons_succ]
                        refine wpAnyH_take (i := 28) (v := ?_) rfl (by kernel_rfl) (by kernel_rfl) (by kernel_rfl) (fun _ _ _ h => h) (Or.inl ⟨by rfl, ?_⟩) (by assumption) ?_
                        rotate_left
                        · intro w' hSw
                          obtain ⟨y0, y1, y2, y3, y4, y5, y6, y7, y8, y9, y10, y11⟩ := HY.out _ hSw
                          clear hSw
                          go_simp
                          try with_reducible rfl
                        simp only [Act.put, List.setIfInBounds_toArray, List.set_cons_zero, List.set_cons_succ, List.getElem_toArray, List.getElem_cons_zero, List.getElem_cons_succ]
                        refine wpAnyH_take (i := 29) (v := ?_) rfl (by kernel_rfl) (by kernel_rfl) (by kernel_rfl) (fun _ _ _ h => h) (Or.inl ⟨by rfl, ?_⟩) (by assumption) ?_
                        rotate_left
                        · intro w' hSw
                          obtain ⟨y0, y1, y2, y3, y4, y5, y6, y7, y8, y9, y10, y11⟩ := HY.out _ hSw
                          clear hSw
                          go_simp
                          try with_reducible rfl
                        simp only [Act.put, List.setIfInBounds_toArray, List.set_cons_zero, List.set_cons_succ, List.getElem_toArray, List.getElem_cons_zero, List.getElem_cons_succ]
                        refine wpAnyH_take (i := 30) (v := ?_) rfl (by kernel_rfl) (by kernel_rfl) (by kernel_rfl) (fun _ _ _ h => h) (Or.inl ⟨by rfl, ?_⟩) (by assumption) ?_
                        rotate_left
                        · intro w' hSw
                          obtain ⟨y0, y1, y2, y3, y4, y5, y6, y7, y8, y9, y10, y11⟩ := HY.out _ hSw
                          clear hSw
                          go_simp
                          try with_reducible rfl
                        simp only [Act.put, List.setIfInBounds_toArray, List.set_cons_zero, List.set_cons_succ, List.getElem_toArray, List.getElem_cons_zero, List.getElem_cons_succ]
                        refine wpAnyH_take (i := 31) (v := ?_) rfl (by kernel_rfl) (by kernel_rfl) (by kernel_rfl) (fun _ _ _ h => h) (Or.inl ⟨by rfl, ?_⟩) (by assumption) ?_
                        rotate_left
                        · intro w' hSw
                          obtain ⟨y0, y1, y2, y3, y4, y5, y6, y7, y8, y9, y10, y11⟩ := HY.out _ hSw
                          clear hSw
                          go_simp
                          try with_reducible rfl
                        simp only [Act.put, List.setIfInBounds_toArray, List.set_cons_zero, List.set_cons_succ, List.getElem_toArray, List.getElem_cons_zero, List.getElem_cons_succ]
                        refine wpAnyH_take (i := 32) (v := ?_) rfl (by kernel_rfl) (by kernel_rfl) (by kernel_rfl) (fun _ _ _ h => h) (Or.inl ⟨by rfl, ?_⟩) (by assumption) ?_
                        rotate_left
                        · intro w' hSw
                          obtain ⟨y0, y1, y2, y3, y4, y5, y6, y7, y8, y9, y10, y11⟩ := HY.out _ hSw
                          clear hSw
                          go_simp
                          try with_reducible rfl
                        simp only [Act.put, List.setIfInBounds_toArray, List.set_cons_zero, List.set_cons_succ, List.getElem_toArray, List.getElem_cons_zero, List.getElem_cons_succ]
                        refine wpAnyH_take (i := 33) (v := ?_) rfl (by kernel_rfl) (by kernel_rfl) (by kernel_rfl) (fun _ _ _ h => h) (Or.inl ⟨by rfl, ?_⟩) (by assumption) ?_
                        rotate_left
                        · intro w' hSw
                          obtain ⟨y0, y1, y2, y3, y4, y5, y6, y7, y8, y9, y10, y11⟩ := HY.out _ hSw
                          clear hSw
                          go_simp
                          try with_reducible rfl
                        simp only [Act.put, List.setIfInBounds_toArray, List.set_cons_zero, List.set_cons_succ, List.getElem_toArray, List.getElem_cons_zero, List.getElem_cons_succ]
                        refine wpAnyH_take (i := 34) (v := ?_) rfl (by kernel_rfl) (by kernel_rfl) (by kernel_rfl) (fun _ _ _ h => h) (Or.inl ⟨by rfl, ?_⟩) (by assumption) ?_
                        rotate_left
                        · intro w' hSw
                          obtain ⟨y0, y1, y2, y3, y4, y5, y6, y7, y8, y9, y10, y11⟩ := HY.out _ hSw
                          clear hSw
                          go_simp
                          try with_reducible rfl
                        simp only [Act.put, List.setIfInBounds_toArray, List.set_cons_zero, List.set_cons_succ, List.getElem_toArray, List.getElem_cons_zero, List.getElem_cons_succ]
                        refine wpAnyH_take (i := 35) (v := ?_) rfl (by kernel_rfl) (by kernel_rfl) (by kernel_rfl) (fun _ _ _ h => h) (Or.inl ⟨by rfl, ?_⟩) (by assumption) ?_
                        rotate_left
                        · intro w' hSw
                          obtain ⟨y0, y1, y2, y3, y4, y5, y6, y7, y8, y9, y10, y11⟩ := HY.out _ hSw
                          clear hSw
                          go_simp
                          try with_reducible rfl
                        simp only [Act.put, List.setIfInBounds_toArray, List.set_cons_zero, List.set_cons_succ, List.getElem_toArray, List.getElem_cons_zero, List.getElem_cons_succ]
                        refine wpAnyH_take (i := 36) (v := ?_) rfl (by kernel_rfl) (by kernel_rfl) (by kernel_rfl) (fun _ _ _ h => h) (Or.inl ⟨by rfl, ?_⟩) (by assumption) ?_
                        rotate_left
                        · intro w' hSw
                          obtain ⟨y0, y1, y2, y3, y4, y5, y6, y7, y8, y9, y10, y11⟩ := HY.out _ hSw
                          clear hSw
                          go_simp
                          try with_reducible rfl
                        simp only [Act.put, List.setIfInBounds_toArray, List.set_cons_zero, List.set_cons_succ, List.getElem_toArray, List.getElem_cons_zero, List.getElem_cons_succ]
                        refine wpAnyH_take (i := 37) (v := ?_) rfl (by kernel_rfl) (by kernel_rfl) (by kernel_rfl) (fun _ _ _ h => h) (Or.inl ⟨by rfl, ?_⟩) (by assumption) ?_
                        rotate_left
                        · intro w' hSw
                          obtain ⟨y0, y1, y2, y3, y4, y5, y6, y7, y8, y9, y10, y11⟩ := HY.out _ hSw
                          clear hSw
                          go_simp
                          try with_reducible rfl
                        simp only [Act.put, List.setIfInBounds_toArray, List.set_cons_zero, List.set_cons_succ, List.getElem_toArray, List.getElem_cons_zero, List.getElem_cons_succ]
                        refine wpAnyH_take (i := 38) (v := ?_) rfl (by kernel_rfl) (by kernel_rfl) (by kernel_rfl) (fun _ _ _ h => h) (Or.inl ⟨by rfl, ?_⟩) (by assumption) ?_
                        rotate_left
                        · intro w' hSw
                          obtain ⟨y0, y1, y2, y3, y4, y5, y6, y7, y8, y9, y10, y11⟩ := HY.out _ hSw
                          clear hSw
                          go_simp
                          try with_reducible rfl
                        simp only [Act.put, List.setIfInBounds_toArray, List.set_cons_zero, List.set_cons_succ, List.getElem_toArray, List.getElem_cons_zero, List.getElem_cons_succ]
                        refine wpAnyH_take (i := 39) (v := ?_) rfl (by kernel_rfl) (by kernel_rfl) (by kernel_rfl) (fun _ _ _ h => h) (Or.inl ⟨by rfl, ?_⟩) (by assumption) ?_
                        rotate_left
                        · intro w' hSw
                          obtain ⟨y0, y1, y2, y3, y4, y5, y6, y7, y8, y9, y10, y11⟩ := HY.out _ hSw
                          clear hSw
                          go_simp
                          try with_reducible rfl
                        simp only [Act.put, List.setIfInBounds_toArray, List.set_cons_zero, List.set_cons_succ, List.getElem_toArray, List.getElem_cons_zero, List.getElem_cons_succ]
                        refine wpAnyH_take (i := 40) (v := ?_) rfl (by kernel_rfl) (by kernel_rfl) (by kernel_rfl) (fun _ _ _ h => h) (Or.inl ⟨by rfl, ?_⟩) (by assumption) ?_
                        rotate_left
                        · intro w' hSw
                          obtain ⟨y0, y1, y2, y3, y4, y5, y6, y7, y8, y9, y10, y11⟩ := HY.out _ hSw
                          clear hSw
                          go_simp
                          try with_reducible rfl
                        simp only [Act.put, List.setIfInBounds_toArray, List.set_cons_zero, List.set_cons_succ, List.getElem_toArray, List.getElem_cons_zero, List.getElem_cons_succ]
                        refine wpAnyH_take (i := 41) (v := ?_) rfl (by kernel_rfl) (by kernel_rfl) (by kernel_rfl) (fun _ _ _ h => h) (Or.inl ⟨by rfl, ?_⟩) (by assumption) ?_
                        rotate_left
                        · intro w' hSw
                          obtain ⟨y0, y1, y2, y3, y4, y5, y6, y7, y8, y9, y10, y11⟩ := HY.out _ hSw
                          clear hSw
                          go_simp
                          try with_reducible rfl
                        simp only [Act.put, List.setIfInBounds_toArray, List.set_cons_zero, List.set_cons_succ, List.getElem_toArray, List.getElem_cons_zero, List.getElem_cons_succ]
                        refine wpAnyH_ready (rs := [42]) (by kernel_rfl) (by simp) ?_
                        refine AllReadyH.cons rfl (fun K hK => ?_) AllReadyH.nil
                        go_simp
                        go_at_call 12
                        have step := specTerm9_any a.mades[k].term b.mades[k].term true (.slice Ax a.mades[k].term.kids.length cx) (.slice Bx b.mades[k].term.kids.length dx) 0 hi 0 hi w4 (KA.out.under B4 (by omega)) (KB.out.under B4 (by omega)) (by have := B4.size; omega) (by have := B4.size; omega)
                        unfold tmV at step
                        refine step.mono ?_
                        clear step
                        rintro e w5 ⟨r5, rfl, h5, b5⟩
                        obtain rfl : r5 = false := by cases r5; rfl; exact absurd (h5.1 rfl) HTM.out
                        have B5 : Below wr.heap.size wr w5 := B4.trans (b5.mono B4.size)
                        clear b5 h5
                        go_wp2_with fail
                        refine hK.out _ _ (B5) (fun hHeld => ?_)
                        clear hK K
                        refine wpAnyH_take (i := 43) (v := ?_) rfl (by kernel_rfl) (by kernel_rfl) (by kernel_rfl) (fun _ _ _ h => h) (Or.inl ⟨by rfl, ?_⟩) (by assumption) ?_
                        rotate_left
                        · intro w' hSw
                          obtain ⟨y0, y1, y2, y3, y4, y5, y6, y7, y8, y9, y10, y11⟩ := HY.out _ hSw
                          clear hSw
                          go_simp
                          try with_reducible rfl
                        simp only [Act.put, List.setIfInBounds_toArray, List.set_cons_zero, List.set_cons_succ, List.getElem_toArray, List.getElem_cons_zero, List.getElem_cons_succ]
                        refine wpAnyH_take (i := 44) (v := ?_) rfl (by kernel_rfl) (by kernel_rfl) (by kernel_rfl) (fun _ _ _ h => h) (Or.inl ⟨by rfl, ?_⟩) (by assumption) ?_
                        rotate_left
                        · intro w' hSw
                          obtain ⟨y0, y1, y2, y3, y4, y5, y6, y7, y8, y9, y10, y11⟩ := HY.out _ hSw
                          clear hSw
                          go_simp
                          try with_reducible rfl
                        simp only [Act.put, List.setIfInBounds_toArray, List.set_cons_zero, List.set_cons_succ, List.getElem_toArray, List.getElem_cons_zero, List.getElem_cons_succ]
                        refine wpAnyH_done (by kernel_rfl) ?_ _
                        have FIN := Lib.hid (HB2.out.trans ((HBW.out.trans (B5.mono hzw)).mono (by omega)))
                        clear B4 B5
                        go_wp2
                        go_ret
                        exact ⟨false, rfl, ⟨(fun h => by cases h), fun h => absurd h HE.out⟩, FIN.out⟩
                    · rw [eqSs_f hbd] at cS
                      have HE : Hid (a ≠ b) := Lib.hid (fun e => hbd (by subst e; rfl))
                      clear hbd
                      go_wp2
                      go_quiet (first | (go_at_call 13; refine Calls.quiet_of (cS _)))
                      have FIN := Lib.hid (HB2.out.trans ((HBW.out.trans ((⟨rfl, rfl, rfl, Nat.le_refl _, fun _ _ => rfl⟩ : Below wr.heap.size wr (wr.drewN nq)).mono hzw)).mono (by omega)))
                      go_wp2
                      go_ret
                      exact ⟨false, rfl, ⟨(fun h => by cases h), fun h => absurd h HE.out⟩, FIN.out⟩
                  · have deq := eqS_f hhd
                    have HE : Hid (a ≠ b) := Lib.hid (fun e => hhd (by subst e; rfl))
                    clear hhd cS
                    go_wp2
                    go_quiet (fail)
                    have FIN := Lib.hid (HB2.out.trans ((HBW.out.trans ((⟨rfl, rfl, rfl, Nat.le_refl _, fun _ _ => rfl⟩ : Below wr.heap.size wr (wr.drewN nq)).mono hzw)).mono (by omega)))
                    go_wp2
                    go_ret
                    exact ⟨false, rfl, ⟨(fun h => by cases h), fun h => absurd h HE.out⟩, FIN.out⟩
                · have HE : Hid (a = b) := Lib.hid (CompD.ext_of HRE.out (List.ext_getElem HLM.out fun i h1 h2 => hall i h1 h2 (by omega)) HH.out HN.out)
                  have FIN := Lib.hid (HB2.out.trans (HBW.out.mono (by omega)))
                  clear hall hbw
                  go_wp2
                  go_ret
                  exact ⟨true, rfl, ⟨fun _ => HE.out, fun _ => rfl⟩, FIN.out⟩
        · have e3 : ((a.rules.length : Int) != (b.rules.length : Int)) = true := by rw [bne_iff_ne]; omega
          have e3' : ((a.rules.length : Int) == (b.rules.length : Int)) = false := by rw [beq_eq_false_iff_ne]; omega
          have HE : Hid (a ≠ b) := Lib.hid (fun e => hlr (by rw [e]))
          clear hlr
          go_wp2_with fail
          generalize (w.alloc (.cells #[.slice Ag a.rules.length cg, .slice Am a.mades.length cm, .bool a.has, .int .i64 a.null.kind, .int .i64 a.null.num, .slice At a.null.kids.length ct] 41)).alloc (.cells #[.slice Bg b.rules.length dg, .slice Bm b.mades.length dm, .bool b.has, .int .i64 b.null.kind, .int .i64 b.null.num, .slice Bt b.null.kids.length dt] 41) = wx at HA HB HB2 HRA HRB HZ ⊢
          have zx := HZ.out
          have HX : Hid (∀ w', Below wx.heap.size wx w' → w'.cell? ⟨w.heap.size, 0, none⟩ = some (.slice Ag a.rules.length cg) ∧ w'.cell? ⟨w.heap.size, 1, none⟩ = some (.slice Am a.mades.length cm) ∧ w'.cell? ⟨w.heap.size, 2, none⟩ = some (.bool a.has) ∧ w'.cell? ⟨w.heap.size, 3, none⟩ = some (.int .i64 a.null.kind) ∧ w'.cell? ⟨w.heap.size, 4, none⟩ = some (.int .i64 a.null.num) ∧ w'.cell? ⟨w.heap.size, 5, none⟩ = some (.slice At a.null.kids.length ct) ∧
              w'.cell? ⟨w.heap.size + 1, 0, none⟩ = some (.slice Bg b.rules.length dg) ∧ w'.cell? ⟨w.heap.size + 1, 1, none⟩ = some (.slice Bm b.mades.length dm) ∧ w'.cell? ⟨w.heap.size + 1, 2, none⟩ = some (.bool b.has) ∧ w'.cell? ⟨w.heap.size + 1, 3, none⟩ = some (.int .i64 b.null.kind) ∧ w'.cell? ⟨w.heap.size + 1, 4, none⟩ = some (.int .i64 b.null.num) ∧ w'.cell? ⟨w.heap.size + 1, 5, none⟩ = some (.slice Bt b.null.kids.length dt)) := Lib.hid (fun w' bw => by
            obtain ⟨a0, a1, a2, a3, a4, a5, _⟩ := (HRA.out.below bw (by omega)).six9
            obtain ⟨d0, d1, d2, d3, d4, d5, _⟩ := (HRB.out.below bw (by omega)).six9
            exact ⟨a0, a1, a2, a3, a4, a5, d0, d1, d2, d3, d4, d5⟩)
          have step := specTerm9_any a.null b.null true (.slice At a.null.kids.length ct) (.slice Bt b.null.kids.length dt) 0 hi 0 hi wx HA.out.kids HB.out.kids (by omega) (by omega)
          unfold tmV at step
          refine step.mono ?_
          clear step
          rintro e w3 ⟨r1, rfl, h1, b3⟩
          obtain rfl : r1 = true := h1.2 HN.out
          have B3 : Below wx.heap.size wx w3 := b3
          clear b3 h1
          obtain ⟨y0, y1, y2, y3, y4, y5, y6, y7, y8, y9, y10, y11⟩ := HX.out _ B3
          have FIN := Lib.hid (HB2.out.trans (B3.mono (by omega)))
          go_wp2
          go_ret
          exact ⟨false, rfl, ⟨(fun h => by cases h), fun h => absurd h HE.out⟩, FIN.out⟩
      · have e2 : ((a.mades.length : Int) != (b.mades.length : Int)) = true := by rw [bne_iff_ne]; omega
        have e2' : ((a.mades.length : Int) == (b.mades.length : Int)) = false := by rw [beq_eq_false_iff_ne]; omega
        have HE : Hid (a ≠ b) := Lib.hid (fun e => hlm (by rw [e]))
        clear hlm
        go_wp2_with fail
        generalize (w.alloc (.cells #[.slice Ag a.rules.length cg, .slice Am a.mades.length cm, .bool a.has, .int .i64 a.null.kind, .int .i64 a.null.num, .slice At a.null.kids.length ct] 41)).alloc (.cells #[.slice Bg b.rules.length dg, .slice Bm b.mades.length dm, .bool b.has, .int .i64 b.null.kind, .int .i64 b.null.num, .slice Bt b.null.kids.length dt] 41) = wx at HA HB HB2 HRA HRB HZ ⊢
        have zx := HZ.out
        have HX : Hid (∀ w', Below wx.heap.size wx w' → w'.cell? ⟨w.heap.size, 0, none⟩ = some (.slice Ag a.rules.length cg) ∧ w'.cell? ⟨w.heap.size, 1, none⟩ = some (.slice Am a.mades.length cm) ∧ w'.cell? ⟨w.heap.size, 2, none⟩ = some (.bool a.has) ∧ w'.cell? ⟨w.heap.size, 3, none⟩ = some (.int .i64 a.null.kind) ∧ w'.cell? ⟨w.heap.size, 4, none⟩ = some (.int .i64 a.null.num) ∧ w'.cell? ⟨w.heap.size, 5, none⟩ = some (.slice At a.null.kids.length ct) ∧
            w'.cell? ⟨w.heap.size + 1, 0, none⟩ = some (.slice Bg b.rules.length dg) ∧ w'.cell? ⟨w.heap.size + 1, 1, none⟩ = some (.slice Bm b.mades.length dm) ∧ w'.cell? ⟨w.heap.size + 1, 2, none⟩ = some (.bool b.has) ∧ w'.cell? ⟨w.heap.size + 1, 3, none⟩ = some (.int .i64 b.null.kind) ∧ w'.cell? ⟨w.heap.size + 1, 4, none⟩ = some (.int .i64 b.null.num) ∧ w'.cell? ⟨w.heap.size + 1, 5, none⟩ = some (.slice Bt b.null.kids.length dt)) := Lib.hid (fun w' bw => by
          obtain ⟨a0, a1, a2, a3, a4, a5, _⟩ := (HRA.out.below bw (by omega)).six9
          obtain ⟨d0, d1, d2, d3, d4, d5, _⟩ := (HRB.out.below bw (by omega)).six9
          exact ⟨a0, a1, a2, a3, a4, a5, d0, d1, d2, d3, d4, d5⟩)
        have step := specTerm9_any a.null b.null true (.slice At a.null.kids.length ct) (.slice Bt b.null.kids.length dt) 0 hi 0 hi wx HA.out.kids HB.out.kids (by omega) (by omega)
        unfold tmV at step
        refine step.mono ?_
        clear step
        rintro e w3 ⟨r1, rfl, h1, b3⟩
        obtain rfl : r1 = true := h1.2 HN.out
        have B3 : Below wx.heap.size wx w3 := b3
        clear b3 h1
        obtain ⟨y0, y1, y2, y3, y4, y5, y6, y7, y8, y9, y10, y11⟩ := HX.out _ B3
        have FIN := Lib.hid (HB2.out.trans (B3.mono (by omega)))
        go_wp2
        go_ret
        exact ⟨false, rfl, ⟨(fun h => by cases h), fun h => absurd h HE.out⟩, FIN.out⟩
    · have HE : Hid (a ≠ b) := Lib.hid (fun e => hnl (by rw [e]))
      have HN := Lib.hid hnl
      clear hnl
      go_wp2_with fail
      generalize (w.alloc (.cells #[.slice Ag a.rules.length cg, .slice Am a.mades.length cm, .bool a.has, .int .i64 a.null.kind, .int .i64 a.null.num, .slice At a.null.kids.length ct] 41)).alloc (.cells #[.slice Bg b.rules.length dg, .slice Bm b.mades.length dm, .bool b.has, .int .i64 b.null.kind, .int .i64 b.null.num, .slice Bt b.null.kids.length dt] 41) = wx at HA HB HB2 HRA HRB HZ ⊢
      have zx := HZ.out
      have HX : Hid (∀ w', Below wx.heap.size wx w' → w'.cell? ⟨w.heap.size, 0, none⟩ = some (.slice Ag a.rules.length cg) ∧ w'.cell? ⟨w.heap.size, 1, none⟩ = some (.slice Am a.mades.length cm) ∧ w'.cell? ⟨w.heap.size, 2, none⟩ = some (.bool a.has) ∧ w'.cell? ⟨w.heap.size, 3, none⟩ = some (.int .i64 a.null.kind) ∧ w'.cell? ⟨w.heap.size, 4, none⟩ = some (.int .i64 a.null.num) ∧ w'.cell? ⟨w.heap.size, 5, none⟩ = some (.slice At a.null.kids.length ct) ∧
          w'.cell? ⟨w.heap.size + 1, 0, none⟩ = some (.slice Bg b.rules.length dg) ∧ w'.cell? ⟨w.heap.size + 1, 1, none⟩ = some (.slice Bm b.mades.length dm) ∧ w'.cell? ⟨w.heap.size + 1, 2, none⟩ = some (.bool b.has) ∧ w'.cell? ⟨w.heap.size + 1, 3, none⟩ = some (.int .i64 b.null.kind) ∧ w'.cell? ⟨w.heap.size + 1, 4, none⟩ = some (.int .i64 b.null.num) ∧ w'.cell? ⟨w.heap.size + 1, 5, none⟩ = some (.slice Bt b.null.kids.length dt)) := Lib.hid (fun w' bw => by
        obtain ⟨a0, a1, a2, a3, a4, a5, _⟩ := (HRA.out.below bw (by omega)).six9
        obtain ⟨d0, d1, d2, d3, d4, d5, _⟩ := (HRB.out.below bw (by omega)).six9
        exact ⟨a0, a1, a2, a3, a4, a5, d0, d1, d2, d3, d4, d5⟩)
      have step := specTerm9_any a.null b.null true (.slice At a.null.kids.length ct) (.slice Bt b.null.kids.length dt) 0 hi 0 hi wx HA.out.kids HB.out.kids (by omega) (by omega)
      unfold tmV at step
      refine step.mono ?_
      clear step
      rintro e w3 ⟨r1, rfl, h1, b3⟩
      obtain rfl : r1 = false := by cases r1; rfl; exact absurd (h1.1 rfl) HN.out
      have B3 : Below wx.heap.size wx w3 := b3
      clear b3 h1
      obtain ⟨y0, y1, y2, y3, y4, y5, y6, y7, y8, y9, y10, y11⟩ := HX.out _ B3
      have FIN := Lib.hid (HB2.out.trans (B3.mono (by omega)))
      go_wp2
      go_ret
      exact ⟨false, rfl, ⟨(fun h => by cases h), fun h => absurd h HE.out⟩, FIN.out⟩
  · have e1 : (a.has == b.has) = false := by rw [beq_eq_false_iff_ne]; exact hhas
    have e1' : (a.has != b.has) = true := by rw [bne_iff_ne]; exact hhas
    have HE : Hid (a ≠ b) := Lib.hid (fun e => hhas (by rw [e]))
    clear hhas
    go_wp2
    go_ret
    exact ⟨false, rfl, ⟨(fun h => by cases h), fun h => absurd h HE.out⟩, HB2.out⟩
end Go.Proofs.Ytlgedjpolmlciaa
