/- Are two trees the same? The walk of impl.TreeSame. -/
import Derived.Test.YtnfmeggnalgcnaaGreatDoorJTsm
import Derived.Deep.RegionHeld3
import Derived.Deep.CutRange
import Derived.Maps.AppendAt
namespace Go.Proofs.YtnfmeggnalgcnaaGreatDoor
open Go.RowKit

theorem putFour {w : World} {g : Nat} {T : TypeId} {x0 x1 x2 x3 a b c d : Value} (h : Row w g T #[x0, x1, x2, x3]) : Row ((((w.setCell ⟨g, 0, none⟩ a).setCell ⟨g, 1, none⟩ b).setCell ⟨g, 2, none⟩ c).setCell ⟨g, 3, none⟩ d) g T #[a, b, c, d] := by
  simpa using (((h.put 0 a).put 1 b).put 2 c).put 3 d
theorem drB {B : Nat} {w w' : World} (h : Below B w.drew w') : Below B w w' := ⟨h.os, h.tape, h.output, h.size, h.block⟩
set_option maxRecDepth 100000 in
set_option maxHeartbeats 8000000 in
theorem implTreeSame_any (a b : TreeD) (u v : Value) (lo hi : Nat) (w : World) (ta : TopOk a) (tb : TopOk b) (ha : Kd true w lo hi u a.kids) (hb : Kd true w lo hi v b.kids) (hh : hi ≤ w.heap.size) (hn : sizeT a ≤ 2097152) :
    Calls Tryz.prog 18 #[trV a u, trV b v] w fun e w' => ∃ r, e = .returned (.bool r) ∧ (r = true ↔ a = b) ∧ Below w.heap.size w w' := by
  have HSB := Lib.hid (SmB.made w a b u v lo hi ha hb ta tb hh)
  obtain ⟨A, c, U, rfl, -⟩ := ha.parts
  obtain ⟨B, d, V, rfl, -⟩ := hb.parts
  clear ha hb ta tb
  have hmm := @run_makeMap Tryz.prog
  obtain ⟨i0, hi0, hz0, hz1, hz2⟩ := info_parts Tryz.infoTwo
  have hsa : sizeTs [a] = sizeT a := by simp [sizeTs]
  unfold trV
  go_enter Tryz.func18, Tryz.ntmps18
  go_wp2
  generalize ((((w.alloc (.cells #[.int .i64 a.rule, .string a.tok, .slice A a.kids.length c] 29)).alloc (.cells #[.int .i64 b.rule, .string b.tok, .slice B b.kids.length d] 29)).alloc (.map #[] 0)).alloc (.cells #[.int .i64 a.rule, .string a.tok, .slice A a.kids.length c] 29)).alloc (.cells #[.int .i64 b.rule, .string b.tok, .slice B b.kids.length d] 29) = w5 at HSB ⊢
  have z5 := HSB.out.size
  have HM5 := Lib.hid HSB.out.map
  go_loopg [6] (costP [⟨.slice (some ⟨w.heap.size + 3, 0, none⟩) 1 1, .slice (some ⟨w.heap.size + 4, 0, none⟩) 1 1, [a], [b]⟩]) (fun gk v6 wr => ∃ L M D, SmR w5 (w.heap.size + 2) (w.heap.size + 5) [a] [b] v6 wr L M D none ∧ gk = costP L ∧ costP L ≤ 2097153)
  case atStart =>
    refine ⟨_, [], [([a], [b])], ⟨SmI.start HSB.out.ka HSB.out.kb, ?_, ?_, ?_⟩, rfl, by simp [costP, hsa]; omega⟩
    · have := Stp.made w5 (w.heap.size + 5) ⟨.slice (some ⟨w.heap.size + 3, 0, none⟩) 1 1, .slice (some ⟨w.heap.size + 4, 0, none⟩) 1 1, [a], [b]⟩ (by omega)
      rw [z5] at this
      exact this
    · exact ⟨#[], 0, (Below.heap_alloc _ _ _ (by omega)).trans HM5.out, rfl⟩
    · exact (Nr.refl _ _ _).below (al1 _ _) (by omega)
  case round =>
    obtain ⟨L, M, D, hR, rfl, hcL⟩ := hrel
    have hW : ∀ w' : World, Nr (w.heap.size + 2) (w.heap.size + 5) w5 w' → Below w.heap.size w w' := fun w' k => ⟨k.os.trans HSB.out.below.os, k.tape.trans HSB.out.below.tape, k.output.trans HSB.out.below.output, Nat.le_trans HSB.out.below.size k.size, fun i hi => (k.block i (by omega) (by omega)).trans (HSB.out.below.block i hi)⟩
    have HW := Lib.hid hW
    clear hW
    have HR := Lib.hid hR
    have hsz := hR.2.2.2.size
    rcases List.eq_nil_or_concat L with rfl | ⟨L', p, rfl⟩
    · obtain ⟨A6, cap, rfl, -⟩ := hR.2.1.form
      have HAB : Hid (a = b) := Lib.hid (by have := hR.1.all; simpa using this)
      clear hR
      go_wp2
      go_ret
      exact ⟨true, rfl, ⟨fun _ => HAB.out, fun _ => rfl⟩, HW.out _ HR.out.2.2.2⟩
    · obtain ⟨hI, hS, hM, hN⟩ := hR
      rw [List.concat_eq_append] at *
      obtain ⟨g, cap, rfl, hgb, hgl, hcap, hcm, s0, s1, hpop⟩ := hS.parts
      have hlen := costP_len (L' ++ [p])
      simp only [List.length_append, List.length_cons, List.length_nil] at hlen
      obtain ⟨kpa, kpb⟩ := hI.kd p (by simp)
      have HKA := Lib.hid kpa
      have HKB := Lib.hid kpb
      have HI := Lib.hid hI
      have HM := Lib.hid hM
      have HN := Lib.hid hN
      have HP := Lib.hid hpop
      obtain ⟨A1, c1, U1, e1, hl1, hm1, -, hcell1, hsub1⟩ := kpa.parts
      obtain ⟨B1, d1, V1, f1, hl1', hm1', -, hcell1', hsub1'⟩ := kpb.parts
      have HC1 := Lib.hid hcell1
      have HB1 := Lib.hid hsub1
      have HC1' := Lib.hid hcell1'
      have HB1' := Lib.hid hsub1'
      rw [e1] at s0
      rw [f1] at s1
      rw [e1] at HKA
      rw [f1] at HKB
      unfold maxLen at hcm hm1 hm1'
      have HSM : Hid ([a] = [b] → p.a = p.b) := Lib.hid (fun e => hI.same e p (by simp))
      clear hI hM hN hS hpop kpa kpb hcell1 hsub1 hcell1' hsub1' e1 f1 HR
      have ab := al1 wr (.cells #[.slice A1 p.a.length c1, .slice B1 p.b.length d1] 73)
      have RB := Row.made wr 73 #[.slice A1 p.a.length c1, .slice B1 p.b.length d1]
      have HN1 := Lib.hid (HN.out.below ab (by omega))
      have HKA1 := Lib.hid (HKA.out.near HN1.out (Nat.le_refl _) HM5.out)
      have HKB1 := Lib.hid (HKB.out.near HN1.out (Nat.le_refl _) HM5.out)
      have hl0 : (0 : Int) < (L'.length : Int) + 1 := by omega
      go_wp2_with fail
      refine (sameTops_any p.a p.b true _ _ 0 (w.heap.size + 5) _ HKA1.out HKB1.out (by simp; omega)).mono ?_
      rintro e w1 ⟨r, rfl, hr, b1⟩
      have z1 : wr.heap.size + 1 ≤ w1.heap.size := by have := b1.size; simpa using this
      have N1 := HN1.out.below b1 (by simp; omega)
      have b01 : Below wr.heap.size wr w1 := ab.trans (b1.mono (by simp))
      cases r with
      | false =>
        have HNE : Hid (a ≠ b) := Lib.hid (fun e => by
          have := HI.out.same (by rw [e]) p (by simp)
          have := hr.2 (tops_of_eq this)
          cases this)
        have HN2 := Lib.hid N1
        clear hr N1 b1 b01
        go_wp2
        go_ret
        exact ⟨false, rfl, ⟨(fun h => by cases h), fun h => absurd h HNE.out⟩, HW.out _ HN2.out⟩
      | true =>
        have HTE := Lib.hid (hr.1 rfl)
        have R1 := RB.below b1 (by simp)
        have q0 := R1.cell 0
        simp at q0
        have hst : SmR w5 (w.heap.size + 2) (w.heap.size + 5) [a] [b] (.slice (some ⟨g, 0, none⟩) L'.length cap) w1 L' M D (some (p.a, p.b)) :=
          ⟨HI.out.take, HP.out.keep (fun g' hg' => by
            obtain rfl : g = g' := by simpa [Value.ownBlock] using hg'
            exact b01.block g hgl), HM.out.keep (b01.block _ (by omega)), N1⟩
        have HST := Lib.hid hst
        have HR1 := Lib.hid R1
        have hcp := costP_snoc L' p
        clear hr hst N1 b1 b01 R1
        go_wp2
        have hg0 : ∀ g', (Value.slice (some ⟨g, 0, none⟩) L'.length cap).ownBlock = some g' → g' ≠ wr.heap.size := fun g' hg' => by
          obtain rfl : g = g' := by simpa [Value.ownBlock] using hg'
          omega
        have HG0 := Lib.hid hg0
        clear hg0
        generalize hnb : wr.heap.size = nb at hgl hsz z1 HR1 HG0 ⊢
        have HNB := Lib.hid hnb
        have HNBZ : Hid (w.heap.size + 5 ≤ nb) := Lib.hid (by omega)
        clear hnb
        go_loopg [39, 6] p.a.length (fun gk i v6 wq => ∃ k L M D, k ≤ p.a.length ∧ i = .int .i64 k ∧ SmR w5 (w.heap.size + 2) (w.heap.size + 5) [a] [b] v6 wq L M D (some (p.a, p.b)) ∧ Cls D p.a p.b k ∧ Row wq nb 73 #[.slice A1 p.a.length c1, .slice B1 p.b.length d1] ∧ (∀ g', v6.ownBlock = some g' → g' ≠ nb) ∧ costP L + sizeTs (p.a.drop k) ≤ costP L' + sizeTs p.a ∧ gk = p.a.length - k)
        case atStart => exact ⟨0, L', M, D, by omega, rfl, HST.out, ⟨HTE.out, fun _ _ _ h => by omega⟩, HR1.out, HG0.out, by simp, by simp⟩
        case round =>
          clear HST HR1 HG0 HM HI HN HP HN1 HKA1 HKB1 ab RB q0
          obtain ⟨k, L, M, D, hk, rfl, hR, hcl, hrow, hgn, hcost, rfl⟩ := hrel
          obtain ⟨hI, hS, hM, hN⟩ := hR
          have HI := Lib.hid hI
          have HS := Lib.hid hS
          have HM := Lib.hid hM
          have HN := Lib.hid hN
          have HCL := Lib.hid hcl
          have HRW := Lib.hid hrow
          have HGN := Lib.hid hgn
          have HCO := Lib.hid hcost
          obtain ⟨A6, cap6, rfl, hc6, hm6⟩ := hS.form
          have hq0 := hrow.lt
          have r0 := hrow.cell 0
          have r1 := hrow.cell 1
          simp at r0 r1
          have hzq := hN.size
          have HZQ : Hid (w.heap.size + 5 ≤ wr.heap.size) := Lib.hid (by omega)
          clear hI hS hM hcl hrow hgn hcost
          by_cases hlt : k < p.a.length
          · have hlt' : k < p.b.length := by have := HTE.out.1; omega
            obtain ⟨b1, off1, rfl, _, hb1, hf1, hcc⟩ := HC1.out (by omega)
            obtain ⟨b2, off2, rfl, _, hb2, hf2, hcc'⟩ := HC1'.out (by omega)
            obtain ⟨hc0, hc1, hc2⟩ := hcc k hlt
            obtain ⟨hd0, hd1, hd2⟩ := hcc' k hlt'
            have ne1 : b1 ≠ w.heap.size + 2 := by
              rintro rfl
              simp [World.cell?, HM5.out] at hc0
            have ne2 : b2 ≠ w.heap.size + 2 := by
              rintro rfl
              simp [World.cell?, HM5.out] at hd0
            have hbk1 := hN.block b1 hb1 ne1
            have hbk2 := hN.block b2 hb2 ne2
            have HKa := Lib.hid (HB1.out k hlt)
            have HKb := Lib.hid (HB1'.out k hlt')
            obtain ⟨A2, c2, U2, e2, hl2, hm2, -, hcell2, -⟩ := HKa.out.parts
            obtain ⟨B2, d2, V2, f2, hl2', hm2', -, hcell2', -⟩ := HKb.out.parts
            rw [e2] at hc2 HKa
            rw [f2] at hd2 HKb
            have HC2 := Lib.hid hcell2
            have HC2' := Lib.hid hcell2'
            have k0 := (World.cell?_of_block (w := w5) (a := ⟨b1, off1 + k * 3, none⟩) hbk1).trans hc0
            have k1 := (World.cell?_of_block (w := w5) (a := ⟨b1, off1 + k * 3 + 1, none⟩) hbk1).trans hc1
            have k2 := (World.cell?_of_block (w := w5) (a := ⟨b1, off1 + k * 3 + 2, none⟩) hbk1).trans hc2
            have m2 := (World.cell?_of_block (w := w5) (a := ⟨b2, off2 + k * 3 + 2, none⟩) hbk2).trans hd2
            have hb1q : b1 < wr.heap.size := by omega
            have hb2q : b2 < wr.heap.size := by omega
            have i1 : (k : Int) < (p.a.length : Int) := by omega
            have i2 : (k : Int) < (p.b.length : Int) := by omega
            have HTK := Lib.hid (HTE.out.2 k hlt hlt')
            unfold maxLen at hm2 hm2' hm6
            clear hcc hcc' hc0 hc1 hc2 hd0 hd1 hd2 hbk1 hbk2 ne1 ne2 hf1 hf2 hcell2 hcell2' e2 f2 hN
            have HSTEP : Hid (∀ w' : World, Below wr.heap.size wr w' → Stp w' (w.heap.size + 5) (.slice A6 L.length cap6) L ∧ PM w' (w.heap.size + 2) p2V (fun x => .bool x) M ∧ Nr (w.heap.size + 2) (w.heap.size + 5) w5 w' ∧ Row w' nb 73 #[.slice (some ⟨b1, off1, none⟩) p.a.length c1, .slice (some ⟨b2, off2, none⟩) p.b.length d1]) := Lib.hid (fun w' b =>
              ⟨HS.out.keep (fun g' hg' => b.block g' (HS.out.block g' hg').2), HM.out.keep (b.block _ HM.out.lt), HN.out.below b (by omega), HRW.out.below b hq0⟩)
            have HCS : Hid (sizeTs (p.a.drop k) = 1 + sizeTs p.a[k].kids + sizeTs (p.a.drop (k + 1))) := Lib.hid (sizeTs_drop p.a k hlt)
            have HCLS : Hid (∀ D', (∀ e ∈ D, e ∈ D') → (p.a[k].kids = [] ∨ (p.a[k].kids, p.b[k].kids) ∈ D') → Cls D' p.a p.b (k + 1)) := Lib.hid (fun D' h1 h2 => ⟨HCL.out.1, fun j hj hj' hjk => by
              by_cases e : j = k
              · subst e; exact h2
              · exact (HCL.out.2 j hj hj' (by omega)).imp id (fun e => h1 _ e)⟩)
            by_cases hk0 : p.a[k].kids.length = 0
            · have e0 : ((p.a[k].kids.length : Int) == 0) = true := by rw [hk0]; rfl
              have HK0 := Lib.hid hk0
              clear hk0
              go_wp2
              go_region
              go_wp2
              go_roundg (p.a.length - (k + 1))
              case rel =>
                obtain ⟨x1, x2, x3, x4⟩ := HSTEP.out _ ((al2 wr (.cells #[.int .i64 p.a[k].rule, .string p.a[k].tok, .slice A2 p.a[k].kids.length c2] 29) (.cells #[.slice A2 p.a[k].kids.length c2, .slice B2 p.b[k].kids.length d2] 73)).drew)
                exact ⟨k + 1, L, M, D, by omega, by go_num, ⟨HI.out, x1, x2, x3⟩, HCLS.out D (fun _ h => h) (.inl (List.eq_nil_of_length_eq_zero HK0.out)), x4, HGN.out, by have := HCO.out; have := HCS.out; omega, rfl⟩
              case measure => omega
            · have hlk : p.b[k].kids.length = p.a[k].kids.length := HTK.out.2.2.symm
              rw [hlk] at HKb m2 hl2'
              obtain ⟨x1, o1, rfl, _, hx1, hfx1, -⟩ := HC2.out (by omega)
              obtain ⟨x2, o2, rfl, _, hx2, hfx2, -⟩ := HC2'.out (by omega)
              have HFX1 := Lib.hid (hfx1 rfl)
              have HFX2 := Lib.hid (hfx2 rfl)
              clear hfx1 hfx2
              have n0 : ((p.a[k].kids.length : Int) == 0) = false := by rw [beq_eq_false_iff_ne]; omega
              have hp1 : 0 < p.a[k].kids.length := by omega
              have B6 : Below wr.heap.size wr ((wr.alloc (.cells #[.int .i64 p.a[k].rule, .string p.a[k].tok, .slice (some ⟨x1, o1, none⟩) p.a[k].kids.length c2] 29)).alloc (.cells #[.slice (some ⟨x1, o1, none⟩) p.a[k].kids.length c2, .slice (some ⟨x2, o2, none⟩) p.a[k].kids.length d2] 73)).drew := (al2 _ _ _).drew
              have R6 : Row ((wr.alloc (.cells #[.int .i64 p.a[k].rule, .string p.a[k].tok, .slice (some ⟨x1, o1, none⟩) p.a[k].kids.length c2] 29)).alloc (.cells #[.slice (some ⟨x1, o1, none⟩) p.a[k].kids.length c2, .slice (some ⟨x2, o2, none⟩) p.a[k].kids.length d2] 73)).drew (wr.heap.size + 1) 73 #[.slice (some ⟨x1, o1, none⟩) p.a[k].kids.length c2, .slice (some ⟨x2, o2, none⟩) p.a[k].kids.length d2] := by
                have := Row.made (wr.alloc (.cells #[.int .i64 p.a[k].rule, .string p.a[k].tok, .slice (some ⟨x1, o1, none⟩) p.a[k].kids.length c2] 29)) 73 #[.slice (some ⟨x1, o1, none⟩) p.a[k].kids.length c2, .slice (some ⟨x2, o2, none⟩) p.a[k].kids.length d2]
                have hsz1 : (wr.alloc (.cells #[.int .i64 p.a[k].rule, .string p.a[k].tok, .slice (some ⟨x1, o1, none⟩) p.a[k].kids.length c2] 29)).heap.size = wr.heap.size + 1 := by simp
                rw [hsz1] at this
                exact this
              have z6 : ((wr.alloc (.cells #[.int .i64 p.a[k].rule, .string p.a[k].tok, .slice (some ⟨x1, o1, none⟩) p.a[k].kids.length c2] 29)).alloc (.cells #[.slice (some ⟨x1, o1, none⟩) p.a[k].kids.length c2, .slice (some ⟨x2, o2, none⟩) p.a[k].kids.length d2] 73)).drew.heap.size = wr.heap.size + 2 := by
                show (((wr.heap.push _).push _).size = _)
                simp
              have HZ6 := Lib.hid z6
              clear hk0 z6 hlk
              go_wp2
              go_region
              go_wp2
              generalize ((wr.alloc (.cells #[.int .i64 p.a[k].rule, .string p.a[k].tok, .slice (some ⟨x1, o1, none⟩) p.a[k].kids.length c2] 29)).alloc (.cells #[.slice (some ⟨x1, o1, none⟩) p.a[k].kids.length c2, .slice (some ⟨x2, o2, none⟩) p.a[k].kids.length d2] 73)).drew = w6 at B6 R6 HZ6 ⊢
              have y0 := R6.cell 0
              have y1 := R6.cell 1
              simp at y0 y1
              have hy6 := R6.lt
              have HP2 := Lib.hid hp1
              go_cut [11, 39] from 39 to 74 (fun s11 s39 wx => s39 = .int .i64 (k : Int) ∧ ∃ q, s11 = .pointer (some ⟨q, 0, none⟩) ∧ Row wx q 80 #[.pointer (some ⟨x1, o1, none⟩), .int .i64 (p.a[k].kids.length : Int), .pointer (some ⟨x2, o2, none⟩), .int .i64 (p.a[k].kids.length : Int)] ∧ Below w6.heap.size w6 wx)
              case first =>
                go_region_with (first
                  | (go_at_call 42; refine (placeOf_any x1 o1 _ c2 _ hp1).mono ?_; rintro e w7 ⟨rfl, b7⟩; have b7' : Below w6.heap.size w6 w7 := (by first | exact drB b7 | exact drB ((al1 w6.drew _).trans (b7.mono (by simp)))); have z7 := b7'.size; have hy7 := Nat.lt_of_lt_of_le hy6 z7; have y07 := (b7'.cell (p := ⟨wr.heap.size + 1, 0, none⟩) hy6).trans y0; have y17 := (b7'.cell (p := ⟨wr.heap.size + 1, 1, none⟩) hy6).trans y1; (try have Rn7 : Row w7 w6.heap.size 80 #[.pointer none, .int .i64 0, .pointer none, .int .i64 0] := (Row.made w6.drew 80 #[.pointer none, .int .i64 0, .pointer none, .int .i64 0]).below b7 (by simp)); clear hp1; unfold plV)
                  | (go_at_call 42; refine (placeOf_any x2 o2 _ d2 _ HP2.out).mono ?_; rintro e w8 ⟨rfl, b8⟩; have b8' : Below w7.heap.size w7 w8 := (by first | exact b8 | exact (al1 w7 _).trans (b8.mono (by simp))); have z8 := b8'.size; (first | (have Rn8 : Row w8 w6.heap.size 80 #[.pointer none, .int .i64 0, .pointer none, .int .i64 0] := Rn7.below b8 Rn7.lt; have c90 := Rn8.cell 0; have c91 := Rn8.cell 1; have c92 := Rn8.cell 2; have c93 := Rn8.cell 3; simp at c90 c91 c92 c93; have f90 := Rn8.free 0; have f91 := Rn8.free 1; have f92 := Rn8.free 2; have f93 := Rn8.free 3) | (have Rn8 := (Row.made w7 80 #[.pointer none, .int .i64 0, .pointer none, .int .i64 0]).below b8 (by simp); have c90 := Rn8.cell 0; have c91 := Rn8.cell 1; have c92 := Rn8.cell 2; have c93 := Rn8.cell 3; simp at c90 c91 c92 c93; have f90 := Rn8.free 0; have f91 := Rn8.free 1; have f92 := Rn8.free 2; have f93 := Rn8.free 3) | skip); unfold plV))
                all_goals
                  go_wp2_with fail
                  go_meet
                  refine ⟨rfl, _, rfl, ?_, ?_⟩
                  · first
                      | (with_reducible exact Row.made w8 _ _)
                      | (with_reducible exact putFour Rn8)
                  · first
                      | (with_reducible exact (b7'.trans (b8'.mono z7)).trans ((al1 w8 _).mono (Nat.le_trans z7 z8)))
                      | (with_reducible exact ((((b7'.trans (b8'.mono z7)).setCell z7 _).setCell z7 _).setCell z7 _).setCell z7 _)
                      | (with_reducible exact ((((b7'.trans (b8'.mono z7)).setCell (Nat.le_refl _) _).setCell (Nat.le_refl _) _).setCell (Nat.le_refl _) _).setCell (Nat.le_refl _) _)
              case rest =>
                obtain ⟨rfl, q, rfl, RQ, BQ⟩ := hcut
                have zc := BQ.size
                have B9 : Below wr.heap.size wr wc := B6.trans (BQ.mono B6.size)
                obtain ⟨X1, X2, X3, X4⟩ := HSTEP.out wc B9
                have q0 := RQ.cell 0
                have q1 := RQ.cell 1
                have q2 := RQ.cell 2
                have q3 := RQ.cell 3
                simp at q0 q1 q2 q3
                have hql := RQ.lt
                have yc0 := (BQ.cell (p := ⟨wr.heap.size + 1, 0, none⟩) hy6).trans y0
                have yc1 := (BQ.cell (p := ⟨wr.heap.size + 1, 1, none⟩) hy6).trans y1
                have hyc : wr.heap.size + 1 < wc.heap.size := by omega
                have pl1 : plOk w5 (⟨x1, o1, none⟩, p.a[k].kids.length) := HFX1.out
                have pl2 : plOk w5 (⟨x2, o2, none⟩, p.a[k].kids.length) := HFX2.out
                have hok : ∀ y ∈ M, p2Ok wc y.1 := fun y hy => ⟨X3.free HM5.out (HI.out.mfree y hy).1.1 (HI.out.mfree y hy).1.2, X3.free HM5.out (HI.out.mfree y hy).2.1 (HI.out.mfree y hy).2.2⟩
                have okQ : p2Ok wc ((⟨x1, o1, none⟩, p.a[k].kids.length), (⟨x2, o2, none⟩, p.a[k].kids.length)) := ⟨X3.free HM5.out pl1 hx1, X3.free HM5.out pl2 hx2⟩
                have hlook := X2.look keyPlace2 undSeen hok (zeroBoolT wc) ((⟨x1, o1, none⟩, p.a[k].kids.length), (⟨x2, o2, none⟩, p.a[k].kids.length)) okQ
                cases hlkk : lk M ((⟨x1, o1, none⟩, p.a[k].kids.length), (⟨x2, o2, none⟩, p.a[k].kids.length)) with
                | some vb =>
                  obtain ⟨rfl, hD⟩ := HI.out.seen (p := (⟨x1, o1, none⟩, p.a[k].kids.length)) (q := (⟨x2, o2, none⟩, p.a[k].kids.length)) HKa.out HKb.out hlkk
                  rw [hlkk] at hlook
                  have hl9 : (Instr.lookup 71 (.map (some (w.heap.size + 1 + 1))) (.agg #[.pointer (some ⟨x1, o1, none⟩), .int .i64 (p.a[k].kids.length : Int), .pointer (some ⟨x2, o2, none⟩), .int .i64 (p.a[k].kids.length : Int)]) false).run Tryz.prog wc = .ok (.bool true) wc := hlook
                  have H9 := Lib.hid (And.intro X1 (And.intro X2 (And.intro X3 X4)))
                  have HD9 := Lib.hid hD
                  clear hlook hlkk X1 X2 X3 X4 hok okQ hD pl1 pl2 B9 BQ B6 RQ R6
                  go_wp2
                  go_roundg (p.a.length - (k + 1))
                  case rel => exact ⟨k + 1, L, M, D, by omega, by go_num, ⟨HI.out, H9.out.1, H9.out.2.1, H9.out.2.2.1⟩, HCLS.out D (fun _ h => h) (.inr HD9.out), H9.out.2.2.2, HGN.out, by have := HCO.out; have := HCS.out; omega, rfl⟩
                  case measure => omega
                | none =>
                  rw [hlkk] at hlook
                  have hl9 : (Instr.lookup 71 (.map (some (w.heap.size + 1 + 1))) (.agg #[.pointer (some ⟨x1, o1, none⟩), .int .i64 (p.a[k].kids.length : Int), .pointer (some ⟨x2, o2, none⟩), .int .i64 (p.a[k].kids.length : Int)]) false).run Tryz.prog wc = .ok (.bool false) wc := hlook
                  obtain ⟨wp, hrun, hMp, hmid, hszp⟩ := X2.put keyPlace2 undSeen hok ((⟨x1, o1, none⟩, p.a[k].kids.length), (⟨x2, o2, none⟩, p.a[k].kids.length)) okQ true
                  have hr9 : (Instr.mapUpdate 71 (.map (some (w.heap.size + 1 + 1))) (.agg #[.pointer (some ⟨x1, o1, none⟩), .int .i64 (p.a[k].kids.length : Int), .pointer (some ⟨x2, o2, none⟩), .int .i64 (p.a[k].kids.length : Int)]) (.bool true)).run Tryz.prog wc = .ok () wp := hrun
                  have hmb : ∀ j, j < wc.heap.size → j ≠ w.heap.size + 2 → wp.heap[j]? = wc.heap[j]? := fun j h1 h2 => hmid.block j h1 (by omega)
                  have yp0 := (World.cell?_of_block (w := wc) (a := ⟨wr.heap.size + 1, 0, none⟩) (hmb (wr.heap.size + 1) hyc (by have := HZQ.out; omega))).trans yc0
                  have yp1 := (World.cell?_of_block (w := wc) (a := ⟨wr.heap.size + 1, 1, none⟩) (hmb (wr.heap.size + 1) hyc (by have := HZQ.out; omega))).trans yc1
                  have hyp : wr.heap.size + 1 < wp.heap.size := by omega
                  have XS : Stp wp (w.heap.size + 5) (.slice A6 L.length cap6) L := X1.keep (fun g' hg' => hmb g' (X1.block g' hg').2 (by have := (X1.block g' hg').1; omega))
                  have XN := X3.mid hmid (by omega)
                  have XR := X4.same (hmb nb X4.lt (by have := HNBZ.out; omega))
                  have HPU := Lib.hid (HI.out.push (p := (⟨x1, o1, none⟩, p.a[k].kids.length)) (q := (⟨x2, o2, none⟩, p.a[k].kids.length)) HKa.out HKb.out ⟨pl1, hx1⟩ ⟨pl2, hx2⟩ (fun e => by have e2 := HSM.out e; have := HTK.out; simp only [e2]))
                  have HXS := Lib.hid XS
                  have HXN := Lib.hid XN
                  have HXR := Lib.hid XR
                  have HXM := Lib.hid hMp
                  have hnbp := XR.lt
                  have HNW := Lib.hid (twoT_new wp (.slice (some ⟨x1, o1, none⟩) p.a[k].kids.length c2) (.slice (some ⟨x2, o2, none⟩) p.a[k].kids.length d2))
                  have hLl := costP_len L
                  have HLL : Hid (L.length ≤ 2097153) := Lib.hid (by have := HCO.out; omega)
                  have hll9 := HLL.out
                  have hwp5 : w.heap.size + 5 ≤ wp.heap.size := by have := HZQ.out; omega
                  clear hlook hlkk X1 X2 X3 X4 hok okQ pl1 pl2 B9 BQ B6 RQ R6 hrun hMp hmid hmb XS XN XR yc0 yc1 hLl hszp
                  go_wp2_with (at_builtin; refine wpList_append_own_at _ rfl _ _ 74 rfl (w.heap.size + 5) 73 i0 _ 2 48 Tryz.underlying74 hi0 hz0 hz1 hz2 rfl (by decide) (.slice A6 L.length cap6) L.length (flatP L) rfl (World.ownsRow.alloc HXS.out _) ⟨wp.heap.size, 0, none⟩ 1 1 [.slice (some ⟨x1, o1, none⟩) p.a[k].kids.length c2, .slice (some ⟨x2, o2, none⟩) p.a[k].kids.length d2] rfl rfl HNW.out (twoT_one _ _ _ _ _ _) (by unfold maxLen; omega) (by omega) (by simp; omega) ?_)
                  intro v5 w7 hown5 hg5 _ hob
                  have A4 := al1 wp (.cells #[.slice (some ⟨x1, o1, none⟩) p.a[k].kids.length c2, .slice (some ⟨x2, o2, none⟩) p.a[k].kids.length d2] 73)
                  have S5 : Stp w7 (w.heap.size + 5) v5 (L ++ [⟨.slice (some ⟨x1, o1, none⟩) p.a[k].kids.length c2, .slice (some ⟨x2, o2, none⟩) p.a[k].kids.length d2, p.a[k].kids, p.b[k].kids⟩]) := by
                    unfold Stp
                    rw [flatP_snoc, List.length_append]
                    exact hown5
                  have hrow9 : ∀ g, (Value.slice A6 L.length cap6).ownBlock = some g → w.heap.size + 5 ≤ g := fun g hg => (HXS.out.block g hg).1
                  have M5 := HXM.out.keep ((hg5.block (w.heap.size + 2) (by simp; omega) (fun e => by have := hrow9 _ e.symm; omega)).trans (A4.block _ (by omega)))
                  have N5 := (HXN.out.below A4 (by omega)).grown hg5 (by simp; omega) hrow9
                  have R5 := HXR.out.same ((hg5.block nb (by simp; omega) (fun e => HGN.out nb e.symm rfl)).trans (A4.block _ hnbp))
                  have G5 : ∀ g', v5.ownBlock = some g' → g' ≠ nb := fun g' hg' => by
                    rcases hob with e | e
                    · rw [e] at hg'; exact HGN.out g' hg'
                    · rw [e] at hg'
                      injection hg' with hg'
                      have : (wp.alloc (.cells #[.slice (some ⟨x1, o1, none⟩) p.a[k].kids.length c2, .slice (some ⟨x2, o2, none⟩) p.a[k].kids.length d2] 73)).heap.size = wp.heap.size + 1 := by simp
                      omega
                  have H5 := Lib.hid (And.intro S5 (And.intro M5 (And.intro N5 (And.intro R5 G5))))
                  have hcs5 := costP_snoc L ⟨.slice (some ⟨x1, o1, none⟩) p.a[k].kids.length c2, .slice (some ⟨x2, o2, none⟩) p.a[k].kids.length d2, p.a[k].kids, p.b[k].kids⟩
                  have HC5 := Lib.hid hcs5
                  clear S5 M5 N5 R5 G5 A4 hown5 hg5 hob hcs5 hrow9
                  go_wp2
                  go_roundg (p.a.length - (k + 1))
                  case rel => exact ⟨k + 1, _, _, _, by omega, by go_num, ⟨HPU.out, H5.out.1, H5.out.2.1, H5.out.2.2.1⟩, HCLS.out _ (fun _ h => List.mem_cons_of_mem _ h) (.inr List.mem_cons_self), H5.out.2.2.2.1, H5.out.2.2.2.2, by rw [HC5.out]; have := HCO.out; have := HCS.out; omega, rfl⟩
                  case measure => omega
          · have hke : k = p.a.length := by omega
            have HFIN := Lib.hid (HI.out.done (by rw [← hke]; exact HCL.out))
            have HC9 : Hid (costP L < costP (L' ++ [p]) ∧ costP L ≤ 2097153) := Lib.hid (by
              have := HCO.out
              rw [hke, List.drop_length] at this
              have e9 : sizeTs ([] : List TreeD) = 0 := rfl
              have := costP_snoc L' p
              omega)
            clear hke hN
            go_wp2
            go_roundg (costP L)
            case rel => exact ⟨L, M, D, ⟨HFIN.out, HS.out, HM.out, HN.out⟩, rfl, HC9.out.2⟩
            case measure => exact HC9.out.1
end Go.Proofs.YtnfmeggnalgcnaaGreatDoor
