/- Are two lists of terms the same? sameAll[Tree]. -/
import Derived.Test.YtlgedjpolmlciaaJUfqm
import Derived.Deep.RegionHeld3
import Derived.Deep.RegionWith
import Derived.Deep.CutRange
namespace Go.Proofs.Ytlgedjpolmlciaa
open Go.RowKit

abbrev kidsFUM : Value := .func (.func 34) #[] #[]
abbrev ownFUM : Value := .func (.func 35) #[] #[]
structure SaIM (w5 wr : World) (m hi : Nat) (ra rb : List TermD) (v : Value) (L : List (Pr2 TermD)) (D : List (List TermD × List TermD)) (M : List (Place × Place)) (t : Place → Nat) (T : Nat) (cur : Option (List TermD × List TermD)) : Prop where
  sm : SmJ ownTM TermD.kids (KM true w5 0 hi) ra rb L D cur
  um : UfMM w5 m hi wr M
  uf : UfT (AtTM w5 hi) D M t T
  stp : StqM wr (m + 1) v L
  bel : Below m w5 wr
theorem SaIM.below {w5 wr w' : World} {m hi : Nat} {ra rb : List TermD} {v : Value} {L : List (Pr2 TermD)} {D : List (List TermD × List TermD)} {M : List (Place × Place)} {t : Place → Nat} {T : Nat} {cur : Option (List TermD × List TermD)} (h : SaIM w5 wr m hi ra rb v L D M t T cur) (hm : hi ≤ m) (hw : m ≤ wr.heap.size) (b : Below wr.heap.size wr w') : SaIM w5 w' m hi ra rb v L D M t T cur :=
  ⟨h.sm, h.um.keep b (Nat.le_trans hm hw), h.uf, h.stp.keep (fun g hg => b.block g (h.stp.block g hg).2), h.bel.trans (b.mono hw)⟩
theorem SaIM.mid {w5 wr w' : World} {m hi : Nat} {ra rb : List TermD} {v : Value} {L : List (Pr2 TermD)} {D D' : List (List TermD × List TermD)} {M M' : List (Place × Place)} {t t' : Place → Nat} {T T' : Nat} {cur : Option (List TermD × List TermD)} (h : SaIM w5 wr m hi ra rb v L D M t T cur) (hw : m ≤ wr.heap.size) (k : Mid m (m + 1) wr w')
    (um : UfMM w5 m hi w' M') (uf : UfT (AtTM w5 hi) D' M' t' T') (sm : SmJ ownTM TermD.kids (KM true w5 0 hi) ra rb L D' cur) : SaIM w5 w' m hi ra rb v L D' M' t' T' cur :=
  ⟨sm, um, uf, h.stp.keep (fun g hg => k.block g (h.stp.block g hg).2 (.inr (h.stp.block g hg).1)), h.bel.trans (k.below hw)⟩
theorem drB'M {B : Nat} {w w' : World} (h : Below B w.drew w') : Below B w w' := ⟨h.os, h.tape, h.output, h.size, h.block⟩

set_option maxRecDepth 100000 in
set_option maxHeartbeats 8000000 in
theorem sameAll_anyM (ra rb : List TermD) (va vb : Value) (hi : Nat) (w : World) (ha : KM true w 0 hi va ra) (hb : KM true w 0 hi vb rb) (hh : hi ≤ w.heap.size) (hn : sizeMs ra ≤ 2097152) :
    Calls Try.prog 33 #[va, vb, kidsFUM, ownFUM] w fun e w' => ∃ r, e = .returned (.bool r) ∧ (r = true ↔ ra = rb) ∧ Below w.heap.size w w' := by
  have hmm := @run_makeMap Try.prog
  obtain ⟨i0, hi0, hz0, hz1, hz2⟩ := info_parts Try.infoTwoUM
  have am := al1 w (.map #[] 0)
  have hz5 : (w.alloc (.map #[] 0)).heap.size = w.heap.size + 1 := by simp
  have hm5 : (w.alloc (.map #[] 0)).heap[w.heap.size]? = some (.map #[] 0) := heap_alloc_new w _
  have hA := ha.under am hh
  have hB := hb.under am hh
  obtain ⟨A, c, U, rfl, hlA, hcA, -⟩ := ha.parts
  obtain ⟨B, d, V, rfl, hlB, hcB, -⟩ := hb.parts
  have HS0 : Hid (SaIM (w.alloc (.map #[] 0)) ((w.alloc (.map #[] 0)).alloc (.cells #[.slice A ra.length c, .slice B rb.length d] 84)) w.heap.size hi ra rb (.slice (some ⟨w.heap.size + 1, 0, none⟩) 1 1) [⟨.slice A ra.length c, .slice B rb.length d, ra, rb⟩] [(ra, rb)] [] (fun _ => 0) 0 none) := Lib.hid
    ⟨SmJ.start hA hB, ⟨⟨#[], 0, (Below.heap_alloc _ _ _ (by simp)).trans hm5, rfl⟩, by simp, (NrM.refl _ _ _).below (al1 _ _) (by simp; omega), ⟨_, _, hm5⟩⟩, UfT.nil _ _,
      by have := StqM.made (w.alloc (.map #[] 0)) (w.heap.size + 1) ⟨.slice A ra.length c, .slice B rb.length d, ra, rb⟩ (by simp); rw [hz5] at this; exact this, (al1 (w.alloc (.map #[] 0)) _).mono (by simp)⟩
  have HAM := Lib.hid am
  have HC0 : Hid (costQM [(⟨.slice A ra.length c, .slice B rb.length d, ra, rb⟩ : Pr2 TermD)] ≤ 2097153) := Lib.hid (by simp [costQM]; omega)
  clear ha hb hA hB hm5
  unfold kidsFUM ownFUM
  go_enter Try.func33, Try.ntmps33
  go_wp2
  clear hmm
  have HZ5 : Hid (w.heap.size < (w.alloc (.map #[] 0)).heap.size) := Lib.hid (by simp)
  generalize w.alloc (.map #[] 0) = w5 at HS0 HAM HZ5 ⊢
  generalize w5.alloc (.cells #[.slice A ra.length c, .slice B rb.length d] 84) = wz at HS0 ⊢
  clear hz5
  go_loopg [10, 11, 12, 13, 14, 44] (costQM [(⟨.slice A ra.length c, .slice B rb.length d, ra, rb⟩ : Pr2 TermD)]) (fun gk v10 _ _ _ _ _ wr => ∃ L D M t T, SaIM w5 wr w.heap.size hi ra rb v10 L D M t T none ∧ gk = costQM L ∧ costQM L ≤ 2097153)
  case atStart => exact ⟨_, _, _, _, _, HS0.out, rfl, HC0.out⟩
  case round =>
    clear HS0 HC0
    obtain ⟨L, D, M, t, T, hS, rfl, hcL⟩ := hrel
    have HBW : Hid (∀ w', Below w.heap.size w5 w' → Below w.heap.size w w') := Lib.hid (fun w' b => HAM.out.trans b)
    have hzr : w.heap.size < wr.heap.size := Nat.lt_of_lt_of_le HZ5.out hS.bel.size
    rcases List.eq_nil_or_concat L with rfl | ⟨L', p, rfl⟩
    · obtain ⟨A6, cap, rfl, -⟩ := hS.stp.form
      have HE : Hid (ra = rb) := Lib.hid (hS.sm.all kids_lessM ext_ownM)
      have HB := Lib.hid (HBW.out _ hS.bel)
      clear hS
      go_wp2
      go_ret
      exact ⟨true, rfl, ⟨fun _ => HE.out, fun _ => rfl⟩, HB.out⟩
    · rw [List.concat_eq_append] at *
      obtain ⟨g, cap, rfl, hgb, hgl, hcap, hcm, s0, s1, hpop⟩ := hS.stp.parts
      have hlen := costQ_lenM (L' ++ [p])
      simp only [List.length_append, List.length_cons, List.length_nil] at hlen
      obtain ⟨kpa, kpb⟩ := hS.sm.kd p (by simp)
      obtain ⟨A1, c1, U1, e1, hl1, hm1, -, hcell1, hsub1⟩ := kpa.parts
      obtain ⟨B1, d1, V1, f1, hl1', hm1', -, hcell1', hsub1'⟩ := kpb.parts
      rw [e1] at s0 kpa
      rw [f1] at s1 kpb
      have HKA := Lib.hid kpa
      have HKB := Lib.hid kpb
      have HC1 := Lib.hid hcell1
      have HB1 := Lib.hid hsub1
      have HC1' := Lib.hid hcell1'
      have HB1' := Lib.hid hsub1'
      unfold maxLen at hcm hm1 hm1'
      have HSM : Hid (ra = rb → p.a = p.b) := Lib.hid (fun e => hS.sm.same e p (by simp))
      have ab := al1 wr (.cells #[.slice A1 p.a.length c1, .slice B1 p.b.length d1] 84)
      have RB := Row.made wr 84 #[.slice A1 p.a.length c1, .slice B1 p.b.length d1]
      have HST := Lib.hid (SaIM.below (⟨hS.sm.take, hS.um, hS.uf, hpop, hS.bel⟩ : SaIM w5 wr w.heap.size hi ra rb (.slice (some ⟨g, 0, none⟩) L'.length cap) L' D M t T (some (p.a, p.b))) hh (Nat.le_of_lt hzr) ab)
      have HCP := Lib.hid (costQ_snocM L' p)
      have hl0 : (0 : Int) < (L'.length : Int) + 1 := by omega
      clear hS hpop kpa kpb hcell1 hsub1 hcell1' hsub1' e1 f1
      go_wp2_with fail
      refine (equalOwn_anyM p.a p.b true _ _ 0 hi _ (HKA.out.under HST.out.bel hh) (HKB.out.under HST.out.bel hh) (by simp; omega)).mono ?_
      rintro e w1 ⟨r, rfl, hr, b1⟩
      have z1 : wr.heap.size + 1 ≤ w1.heap.size := by have := b1.size; simpa using this
      have R1 := RB.below b1 (by simp)
      cases r with
      | false =>
        have HNE : Hid (ra ≠ rb) := Lib.hid (fun e => by
          have := hr.2 (ownsEq_ofM (HSM.out e))
          cases this)
        have HB := Lib.hid (HBW.out _ (HST.out.bel.trans (b1.mono (by simp; omega))))
        clear hr b1 R1
        go_wp2
        go_ret
        exact ⟨false, rfl, ⟨(fun h => by cases h), fun h => absurd h HNE.out⟩, HB.out⟩
      | true =>
        have HTE := Lib.hid (hr.1 rfl)
        have HST1 := Lib.hid (HST.out.below hh (by simp; omega) b1)
        have HR1 := Lib.hid R1
        have q0 := R1.cell 0
        simp at q0
        have HG0 : Hid (∀ g', (Value.slice (some ⟨g, 0, none⟩) L'.length cap).ownBlock = some g' → g' ≠ wr.heap.size) := Lib.hid (fun g' hg' => by
          obtain rfl : g = g' := by simpa [Value.ownBlock] using hg'
          omega)
        clear hr b1 R1 ab RB HST
        go_wp2
        generalize hnb : wr.heap.size = nb at HR1 HG0 hzr z1 ⊢
        have HNB : Hid (w.heap.size < nb) := Lib.hid hzr
        clear q0 s0 s1 hgl
        go_loopg [10, 12, 13, 14, 44] p.a.length (fun gk v10 _ _ _ v44 wr => ∃ (k : Nat) (L : List (Pr2 TermD)) (D : List (List TermD × List TermD)) (M : List (Place × Place)) (t : Place → Nat) (T : Nat), k ≤ p.a.length ∧ v44 = .int .i64 k ∧ SaIM w5 wr w.heap.size hi ra rb v10 L D M t T (some (p.a, p.b)) ∧ ClsU ownTM TermD.kids D p.a p.b k ∧ Row wr nb 84 #[.slice A1 p.a.length c1, .slice B1 p.b.length d1] ∧ (∀ g', v10.ownBlock = some g' → g' ≠ nb) ∧ costQM L + sizeMs (p.a.drop k) ≤ costQM L' + sizeMs p.a ∧ gk = p.a.length - k)
        case atStart => exact ⟨0, L', D, M, t, T, by omega, rfl, HST1.out, ⟨HTE.out.1, HTE.out.2, fun _ _ _ h => by omega⟩, HR1.out, HG0.out, by simp, by simp⟩
        case round =>
          clear HST1 HR1 HG0
          obtain ⟨k, L, D, M, t, T, hk, rfl, hS, hcl, hrow, hgn, hcost, rfl⟩ := hrel
          have HS := Lib.hid hS
          have HCL := Lib.hid hcl
          have HRW := Lib.hid hrow
          have HGN := Lib.hid hgn
          have HCO := Lib.hid hcost
          have hq0 := hrow.lt
          have r0 := hrow.cell 0
          have r1 := hrow.cell 1
          simp at r0 r1
          have hzq := hS.bel.size
          have hz5 := HZ5.out
          clear hcl hrow hgn hcost
          by_cases hlt : k < p.a.length
          · have hlt' : k < p.b.length := by have := HTE.out.1; omega
            obtain ⟨b1, off1, rfl, _, hb1, hf1, hcc⟩ := HC1.out (by omega)
            obtain ⟨b2, off2, rfl, _, hb2, hf2, hcc'⟩ := HC1'.out (by omega)
            obtain ⟨hc0, hc1, hc2⟩ := hcc k hlt
            obtain ⟨hd0, hd1, hd2⟩ := hcc' k hlt'
            have HKa := Lib.hid (HB1.out k hlt)
            have HKb := Lib.hid (HB1'.out k hlt')
            obtain ⟨A2, c2, U2, e2, hl2, hm2, -, hcell2, -⟩ := HKa.out.parts
            obtain ⟨B2, d2, V2, f2, hl2', hm2', -, hcell2', -⟩ := HKb.out.parts
            rw [e2] at hc2 HKa
            rw [f2] at hd2 HKb
            have HC2 := Lib.hid hcell2
            have HC2' := Lib.hid hcell2'
            have k0 := (hS.bel.cell (p := ⟨b1, off1 + k * 3, none⟩) (by show b1 < _; omega)).trans hc0
            have k1 := (hS.bel.cell (p := ⟨b1, off1 + k * 3 + 1, none⟩) (by show b1 < _; omega)).trans hc1
            have k2 := (hS.bel.cell (p := ⟨b1, off1 + k * 3 + 2, none⟩) (by show b1 < _; omega)).trans hc2
            have m0 := (hS.bel.cell (p := ⟨b2, off2 + k * 3, none⟩) (by show b2 < _; omega)).trans hd0
            have m1 := (hS.bel.cell (p := ⟨b2, off2 + k * 3 + 1, none⟩) (by show b2 < _; omega)).trans hd1
            have m2 := (hS.bel.cell (p := ⟨b2, off2 + k * 3 + 2, none⟩) (by show b2 < _; omega)).trans hd2
            have hb1q : b1 < wr.heap.size := by omega
            have hb2q : b2 < wr.heap.size := by omega
            have i1 : (k : Int) < (p.a.length : Int) := by omega
            have i2 : (k : Int) < (p.b.length : Int) := by omega
            have HTK := Lib.hid (HTE.out.2 k hlt hlt')
            unfold maxLen at hm2 hm2'
            have HCS : Hid (sizeMs (p.a.drop k) = 1 + sizeMs p.a[k].kids + sizeMs (p.a.drop (k + 1))) := Lib.hid (sizeMs_dropM p.a k hlt)
            have HKEQ : Hid (ra = rb → p.a[k].kids = p.b[k].kids) := Lib.hid (fun e => by have e2 := HSM.out e; simp only [e2])
            have HLE : Hid (k < p.a.length) := Lib.hid hlt
            have HCLS : Hid (∀ D', (∀ e ∈ D, e ∈ D') → p.a[k].kids.length = p.b[k].kids.length → (p.a[k].kids = [] ∨ Eqv D' p.a[k].kids p.b[k].kids) → ClsU ownTM TermD.kids D' p.a p.b (k + 1)) := Lib.hid (fun D' h1 h2 h3 => ⟨HCL.out.len, HCL.out.own_, fun j hj hj' hjk => by
              by_cases e : j = k
              · subst e
                exact ⟨h2, h3⟩
              · exact ((HCL.out.mono h1).kid j hj hj' (by omega))⟩)
            generalize hak : p.a[k] = ta at *
            generalize hbk : p.b[k] = tb at *
            clear hcc hcc' hc0 hc1 hc2 hd0 hd1 hd2 hf1 hf2 hcell2 hcell2' e2 f2 hak hbk hS
            have HRX := Lib.hid (Row.made wr 39 #[.int .i64 ta.kind, .int .i64 ta.num, .slice A2 ta.kids.length c2])
            have BX := al1 wr (.cells #[.int .i64 ta.kind, .int .i64 ta.num, .slice A2 ta.kids.length c2] 39)
            have HSX := Lib.hid (HS.out.below hh (by omega) BX)
            have HRWX := Lib.hid (HRW.out.below BX hq0)
            have ux0 := (BX.cell (p := ⟨b2, off2 + k * 3, none⟩) hb2q).trans m0
            have ux1 := (BX.cell (p := ⟨b2, off2 + k * 3 + 1, none⟩) hb2q).trans m1
            have ux2 := (BX.cell (p := ⟨b2, off2 + k * 3 + 2, none⟩) hb2q).trans m2
            have hzx : (wr.alloc (.cells #[.int .i64 ta.kind, .int .i64 ta.num, .slice A2 ta.kids.length c2] 39)).heap.size = wr.heap.size + 1 := by simp
            have HUX := Lib.hid (And.intro ux0 (And.intro ux1 (And.intro ux2 hzx)))
            clear BX ux0 ux1 ux2 hzx HS HRW
            go_wp2
            generalize wr.alloc (.cells #[.int .i64 ta.kind, .int .i64 ta.num, .slice A2 ta.kids.length c2] 39) = wx at HRX HSX HRWX HUX ⊢
            clear k0 k1 k2 m0 m1 m2 r0 r1
            go_cut [14, 44] from 44 to 83 (fun s14 s44 wc => s44 = .int .i64 (k : Int) ∧ ∃ q, s14 = .pointer (some ⟨q, 0, none⟩) ∧ wx.heap.size ≤ q ∧ Row wc q 84 #[.slice A2 ta.kids.length c2, .slice B2 tb.kids.length d2] ∧ Below wx.heap.size wx wc)
            case first =>
              obtain ⟨ux0, ux1, ux2, hzx⟩ := HUX.out
              obtain hrx := HRX.out
              obtain hrw := HRWX.out
              have hx13 : wr.heap.size < wx.heap.size := by omega
              have hxnb : nb < wx.heap.size := hrw.lt
              have hxb2 : b2 < wx.heap.size := by omega
              have x0 := hrx.cell 0
              have x1 := hrx.cell 1
              have x2 := hrx.cell 2
              have y1 := hrw.cell 1
              simp at x0 x1 x2 y1
              have HSW : Hid (∀ w', Below wx.heap.size wx w' → w'.cell? ⟨wr.heap.size, 0, none⟩ = some (.int .i64 ta.kind) ∧ w'.cell? ⟨wr.heap.size, 1, none⟩ = some (.int .i64 ta.num) ∧ w'.cell? ⟨wr.heap.size, 2, none⟩ = some (.slice A2 ta.kids.length c2) ∧ w'.cell? ⟨nb, 1, none⟩ = some (.slice (some ⟨b2, off2, none⟩) p.b.length d1) ∧ w'.cell? ⟨b2, off2 + k * 3, none⟩ = some (.int .i64 tb.kind) ∧ w'.cell? ⟨b2, off2 + k * 3 + 1, none⟩ = some (.int .i64 tb.num) ∧ w'.cell? ⟨b2, off2 + k * 3 + 2, none⟩ = some (.slice B2 tb.kids.length d2)) := Lib.hid (fun w' bw =>
                ⟨(bw.cell (p := ⟨wr.heap.size, 0, none⟩) hx13).trans x0, (bw.cell (p := ⟨wr.heap.size, 1, none⟩) hx13).trans x1, (bw.cell (p := ⟨wr.heap.size, 2, none⟩) hx13).trans x2, (bw.cell (p := ⟨nb, 1, none⟩) hxnb).trans y1, (bw.cell (p := ⟨b2, off2 + k * 3, none⟩) hxb2).trans ux0, (bw.cell (p := ⟨b2, off2 + k * 3 + 1, none⟩) hxb2).trans ux1, (bw.cell (p := ⟨b2, off2 + k * 3 + 2, none⟩) hxb2).trans ux2⟩)
              have hbd : Below wx.heap.size wx wx.drew := (Below.refl wx.heap.size wx).drew
              have hzq : wx.drew.heap.size = wx.heap.size := rfl
              have HZQ := Lib.hid hzq
              clear hzx hzq x0 x1 x2 y1 ux0 ux1 ux2
              refine wp_region_held_drew (S := (fun w' => w'.cell? ⟨wr.heap.size, 0, none⟩ = some (.int .i64 ta.kind) ∧ w'.cell? ⟨wr.heap.size, 1, none⟩ = some (.int .i64 ta.num) ∧ w'.cell? ⟨wr.heap.size, 2, none⟩ = some (.slice A2 ta.kids.length c2) ∧ w'.cell? ⟨nb, 1, none⟩ = some (.slice (some ⟨b2, off2, none⟩) p.b.length d1) ∧ w'.cell? ⟨b2, off2 + k * 3, none⟩ = some (.int .i64 tb.kind) ∧ w'.cell? ⟨b2, off2 + k * 3 + 1, none⟩ = some (.int .i64 tb.num) ∧ w'.cell? ⟨b2, off2 + k * 3 + 2, none⟩ = some (.slice B2 tb.kids.length d2))) (by kernel_rfl) (HSW.out _ hbd) (fun hHeld => ?_)
              refine wpAnyH_take (i := 0) (v := ?_) rfl (by kernel_rfl) (by kernel_rfl) (by kernel_rfl) (fun _ _ _ h => h) (Or.inl ⟨by rfl, ?_⟩) (by assumption) ?_
              rotate_left
              · intro w' hSw
                obtain ⟨y1, y2, y3, y4, y5, y6, y7⟩ := hSw
                go_simp
                try with_reducible rfl
              simp only [Act.put, List.setIfInBounds_toArray, List.set_cons_zero, List.set_cons_succ, List.getElem_toArray, List.getElem_cons_zero]
              refine wpAnyH_take (i := 1) (v := ?_) rfl (by kernel_rfl) (by kernel_rfl) (by kernel_rfl) (fun _ _ _ h => h) (Or.inl ⟨by rfl, ?_⟩) (by assumption) ?_
              rotate_left
              · intro w' hSw
                obtain ⟨y1, y2, y3, y4, y5, y6, y7⟩ := hSw
                go_simp
                try with_reducible rfl
              simp only [Act.put, List.setIfInBounds_toArray, List.set_cons_zero, List.set_cons_succ, List.getElem_toArray, List.getElem_cons_zero, List.getElem_cons_succ]
              refine wpAnyH_take (i := 3) (v := ?_) rfl (by kernel_rfl) (by kernel_rfl) (by kernel_rfl) (fun _ _ _ h => h) (Or.inl ⟨by rfl, ?_⟩) (by assumption) ?_
              rotate_left
              · intro w' hSw
                obtain ⟨y1, y2, y3, y4, y5, y6, y7⟩ := hSw
                go_simp
                try with_reducible rfl
              simp only [Act.put, List.setIfInBounds_toArray, List.set_cons_zero, List.set_cons_succ, List.getElem_toArray, List.getElem_cons_zero, List.getElem_cons_succ]
              refine wpAnyH_take (i := 4) (v := ?_) rfl (by kernel_rfl) (by kernel_rfl) (by kernel_rfl) (fun _ _ _ h => h) (Or.inl ⟨by rfl, ?_⟩) (by assumption) ?_
              rotate_left
              · intro w' hSw
                obtain ⟨y1, y2, y3, y4, y5, y6, y7⟩ := hSw
                go_simp
                try with_reducible rfl
              simp only [Act.put, List.setIfInBounds_toArray, List.set_cons_zero, List.set_cons_succ, List.getElem_toArray, List.getElem_cons_zero, List.getElem_cons_succ]
              refine wpAnyH_take (i := 5) (v := ?_) rfl (by kernel_rfl) (by kernel_rfl) (by kernel_rfl) (fun _ _ _ h => h) (Or.inl ⟨by rfl, ?_⟩) (by assumption) ?_
              rotate_left
              · intro w' hSw
                obtain ⟨y1, y2, y3, y4, y5, y6, y7⟩ := hSw
                go_simp
                try with_reducible rfl
              simp only [Act.put, List.setIfInBounds_toArray, List.set_cons_zero, List.set_cons_succ, List.getElem_toArray, List.getElem_cons_zero, List.getElem_cons_succ]
              refine wpAnyH_take (i := 6) (v := ?_) rfl (by kernel_rfl) (by kernel_rfl) (by kernel_rfl) (fun _ _ _ h => h) (Or.inl ⟨by rfl, ?_⟩) (by assumption) ?_
              rotate_left
              · intro w' hSw
                obtain ⟨y1, y2, y3, y4, y5, y6, y7⟩ := hSw
                go_simp
                try with_reducible rfl
              simp only [Act.put, List.setIfInBounds_toArray, List.set_cons_zero, List.set_cons_succ, List.getElem_toArray, List.getElem_cons_zero, List.getElem_cons_succ]
              refine wpAnyH_take (i := 7) (v := ?_) rfl (by kernel_rfl) (by kernel_rfl) (by kernel_rfl) (fun _ _ _ h => h) (Or.inl ⟨by rfl, ?_⟩) (by assumption) ?_
              rotate_left
              · intro w' hSw
                obtain ⟨y1, y2, y3, y4, y5, y6, y7⟩ := hSw
                go_simp
                try with_reducible rfl
              simp only [Act.put, List.setIfInBounds_toArray, List.set_cons_zero, List.set_cons_succ, List.getElem_toArray, List.getElem_cons_zero, List.getElem_cons_succ]
              refine wpAnyH_take (i := 8) (v := ?_) rfl (by kernel_rfl) (by kernel_rfl) (by kernel_rfl) (fun _ _ _ h => h) (Or.inl ⟨by rfl, ?_⟩) (by assumption) ?_
              rotate_left
              · intro w' hSw
                obtain ⟨y1, y2, y3, y4, y5, y6, y7⟩ := hSw
                go_simp
                try with_reducible rfl
              simp only [Act.put, List.setIfInBounds_toArray, List.set_cons_zero, List.set_cons_succ, List.getElem_toArray, List.getElem_cons_zero, List.getElem_cons_succ]
              refine wpAnyH_ready (rs := [2, 11]) (by kernel_rfl) (by simp) ?_
              refine AllReadyH.cons rfl (fun K hK => ?_) (AllReadyH.cons rfl (fun K hK => ?_) AllReadyH.nil)
              · go_simp
                go_at_call 34
                refine (kidsOfU_anyM ta A2 c2 _).mono ?_
                rintro e w7 ⟨rfl, b0⟩
                have b7 : Below wx.heap.size wx w7 := drB'M b0
                go_wp2_with fail
                refine hK.out _ _ (HSW.out _ b7) (fun hHeld => ?_)
                clear hK K b0
                refine wpAnyH_ready (rs := [9, 11]) (by kernel_rfl) (by simp) ?_
                refine AllReadyH.cons rfl (fun K hK => ?_) (AllReadyH.cons rfl (fun K hK => ?_) AllReadyH.nil)
                · go_simp
                  go_at_call 34
                  refine (kidsOfU_anyM tb B2 d2 _).mono ?_
                  rintro e w8 ⟨rfl, b0⟩
                  have b8 : Below wx.heap.size wx w8 := b7.trans (b0.mono b7.size)
                  go_wp2_with fail
                  refine hK.out _ _ (HSW.out _ b8) (fun hHeld => ?_)
                  clear hK K b0
                  refine wpAnyH_take (i := 10) (v := ?_) rfl (by kernel_rfl) (by kernel_rfl) (by kernel_rfl) (fun _ _ _ h => h) (Or.inl ⟨by rfl, ?_⟩) (by assumption) ?_
                  rotate_left
                  · intro w' hSw
                    obtain ⟨y1, y2, y3, y4, y5, y6, y7⟩ := hSw
                    go_simp
                    try with_reducible rfl
                  simp only [Act.put, List.setIfInBounds_toArray, List.set_cons_zero, List.set_cons_succ, List.getElem_toArray, List.getElem_cons_zero, List.getElem_cons_succ]
                  refine wpAnyH_ready (rs := [11]) (by kernel_rfl) (by simp) ?_
                  refine AllReadyH.cons rfl (fun K hK => ?_) AllReadyH.nil
                  go_simp
                  refine hK.out _ _ (HSW.out _ (b8.trans ((al1 w8 (.cells #[.slice none 0 0, .slice none 0 0] 84)).mono b8.size))) (fun hHeld => ?_)
                  clear hK K
                  refine wpAnyH_ready (rs := [12]) (by kernel_rfl) (by simp) ?_
                  refine AllReadyH.cons rfl (fun K hK => ?_) AllReadyH.nil
                  have RN := Row.made w8 84 #[.slice none 0 0, .slice none 0 0]
                  obtain ⟨c90, c91, f90, f91, c94⟩ := RN.duoM
                  go_simp
                  refine hK.out _ _ (HSW.out _ (b8.trans ((al1 w8 _).mono b8.size))) (fun hHeld => ?_)
                  clear hK K
                  refine wpAnyH_done (by kernel_rfl) ?_ _
                  go_wp2_with fail
                  go_meet
                  exact ⟨rfl, _, rfl, b8.size, Row.made w8 _ _, b8.trans ((al1 w8 _).mono b8.size)⟩
                · go_simp
                  refine hK.out _ _ (HSW.out _ (b7.trans ((al1 w7 (.cells #[.slice none 0 0, .slice none 0 0] 84)).mono b7.size))) (fun hHeld => ?_)
                  clear hK K
                  refine wpAnyH_ready (rs := [9]) (by kernel_rfl) (by simp) ?_
                  refine AllReadyH.cons rfl (fun K hK => ?_) AllReadyH.nil
                  go_simp
                  go_at_call 34
                  refine (kidsOfU_anyM tb B2 d2 _).mono ?_
                  rintro e w8 ⟨rfl, b0⟩
                  have b8 : Below wx.heap.size wx w8 := (b7.trans ((al1 w7 (.cells #[.slice none 0 0, .slice none 0 0] 84)).mono b7.size)).trans (b0.mono (by have := b7.size; simp; omega))
                  go_wp2_with fail
                  refine hK.out _ _ (HSW.out _ b8) (fun hHeld => ?_)
                  have RQ := (Row.made w7 84 #[.slice none 0 0, .slice none 0 0]).below b0 (by simp)
                  clear hK K b0
                  refine wpAnyH_take (i := 10) (v := ?_) rfl (by kernel_rfl) (by kernel_rfl) (by kernel_rfl) (fun _ _ _ h => h) (Or.inl ⟨by rfl, ?_⟩) (by assumption) ?_
                  rotate_left
                  · intro w' hSw
                    obtain ⟨y1, y2, y3, y4, y5, y6, y7⟩ := hSw
                    go_simp
                    try with_reducible rfl
                  simp only [Act.put, List.setIfInBounds_toArray, List.set_cons_zero, List.set_cons_succ, List.getElem_toArray, List.getElem_cons_zero, List.getElem_cons_succ]
                  refine wpAnyH_ready (rs := [12]) (by kernel_rfl) (by simp) ?_
                  refine AllReadyH.cons rfl (fun K hK => ?_) AllReadyH.nil
                  have RN := RQ
                  obtain ⟨c90, c91, f90, f91, c94⟩ := RN.duoM
                  go_simp
                  refine hK.out _ _ (HSW.out _ ((b8.setCell b7.size _).setCell b7.size _)) (fun hHeld => ?_)
                  clear hK K
                  refine wpAnyH_done (by kernel_rfl) ?_ _
                  go_wp2_with fail
                  go_meet
                  exact ⟨rfl, _, rfl, b7.size, putTwoM RN, (b8.setCell b7.size _).setCell b7.size _⟩
              · go_simp
                refine hK.out _ _ (HSW.out _ (hbd.trans ((al1 wx.drew (.cells #[.slice none 0 0, .slice none 0 0] 84)).mono (Nat.le_refl _)))) (fun hHeld => ?_)
                clear hK K
                refine wpAnyH_ready (rs := [2]) (by kernel_rfl) (by simp) ?_
                refine AllReadyH.cons rfl (fun K hK => ?_) AllReadyH.nil
                go_simp
                go_at_call 34
                refine (kidsOfU_anyM ta A2 c2 _).mono ?_
                rintro e w7 ⟨rfl, b0⟩
                have b7 : Below wx.heap.size wx w7 := (hbd.trans ((al1 wx.drew (.cells #[.slice none 0 0, .slice none 0 0] 84)).mono (Nat.le_refl _))).trans (b0.mono (by simp))
                go_wp2_with fail
                refine hK.out _ _ (HSW.out _ b7) (fun hHeld => ?_)
                have RP : Row w7 wx.heap.size 84 #[.slice none 0 0, .slice none 0 0] := (Row.made wx.drew 84 #[.slice none 0 0, .slice none 0 0]).below b0 (by simp)
                clear hK K b0
                refine wpAnyH_ready (rs := [9]) (by kernel_rfl) (by simp) ?_
                refine AllReadyH.cons rfl (fun K hK => ?_) AllReadyH.nil
                go_simp
                go_at_call 34
                refine (kidsOfU_anyM tb B2 d2 _).mono ?_
                rintro e w8 ⟨rfl, b0⟩
                have b8 : Below wx.heap.size wx w8 := b7.trans (b0.mono b7.size)
                go_wp2_with fail
                refine hK.out _ _ (HSW.out _ b8) (fun hHeld => ?_)
                have RQ := RP.below b0 RP.lt
                clear hK K b0
                refine wpAnyH_take (i := 10) (v := ?_) rfl (by kernel_rfl) (by kernel_rfl) (by kernel_rfl) (fun _ _ _ h => h) (Or.inl ⟨by rfl, ?_⟩) (by assumption) ?_
                rotate_left
                · intro w' hSw
                  obtain ⟨y1, y2, y3, y4, y5, y6, y7⟩ := hSw
                  go_simp
                  try with_reducible rfl
                simp only [Act.put, List.setIfInBounds_toArray, List.set_cons_zero, List.set_cons_succ, List.getElem_toArray, List.getElem_cons_zero, List.getElem_cons_succ]
                refine wpAnyH_ready (rs := [12]) (by kernel_rfl) (by simp) ?_
                refine AllReadyH.cons rfl (fun K hK => ?_) AllReadyH.nil
                have RN := RQ
                obtain ⟨c90, c91, f90, f91, c94⟩ := RN.duoM
                go_simp
                refine hK.out _ _ (HSW.out _ ((b8.setCell (Nat.le_refl _) _).setCell (Nat.le_refl _) _)) (fun hHeld => ?_)
                clear hK K
                refine wpAnyH_done (by kernel_rfl) ?_ _
                go_wp2_with fail
                go_meet
                exact ⟨rfl, _, rfl, Nat.le_refl _, putTwoM RN, (b8.setCell (Nat.le_refl _) _).setCell (Nat.le_refl _) _⟩
            case rest =>
              obtain ⟨rfl, q, rfl, hqx, RQ, BQ⟩ := hcut
              obtain ⟨-, -, -, hzx⟩ := HUX.out
              have hzc := BQ.size
              have HSC := Lib.hid (HSX.out.below hh (by omega) BQ)
              have HRC := Lib.hid (HRWX.out.below BQ HRWX.out.lt)
              have HRQ := Lib.hid RQ
              have hql := RQ.lt
              have q0 := RQ.cell 0
              have q1 := RQ.cell 1
              simp at q0 q1
              clear HSX HRWX HUX HRX BQ RQ
              by_cases hlen : ta.kids.length = tb.kids.length
              · have hne : ((ta.kids.length : Int) == (tb.kids.length : Int)) = true := by rw [beq_iff_eq]; omega
                rw [← hlen] at q1 HKb hl2'
                have HRQ' : Hid (Row wc q 84 #[.slice A2 ta.kids.length c2, .slice B2 ta.kids.length d2]) := Lib.hid (by have := HRQ.out; rwa [← hlen] at this)
                have HLN := Lib.hid hlen
                by_cases hk0 : ta.kids.length = 0
                · have HK0 : Hid (ta.kids = []) := Lib.hid (List.eq_nil_of_length_eq_zero hk0)
                  have e0 : ((ta.kids.length : Int) == 0) = true := by rw [hk0]; rfl
                  clear hk0 hlen HRQ
                  go_wp2
                  go_roundg (p.a.length - (k + 1))
                  case rel => exact ⟨k + 1, L, D, M, t, T, HLE.out, by go_num, HSC.out, HCLS.out D (fun _ h => h) HLN.out (.inl HK0.out), HRC.out, HGN.out, by have := HCO.out; have := HCS.out; omega, rfl⟩
                  case measure => omega
                · have e0 : ((ta.kids.length : Int) == 0) = false := by rw [beq_eq_false_iff_ne]; omega
                  have hp1 : 0 < ta.kids.length := by omega
                  obtain ⟨x1, o1, rfl, _, hx1, hfx1, -⟩ := HC2.out hp1
                  obtain ⟨x2, o2, rfl, _, hx2, hfx2, -⟩ := HC2'.out (by omega)
                  have HAT1 : Hid (AtTM w5 hi (⟨x1, o1, none⟩, ta.kids.length) ta.kids) := Lib.hid ⟨hfx1 (by first | rfl | trivial), hx1, c2, HKa.out⟩
                  have HAT2 : Hid (AtTM w5 hi (⟨x2, o2, none⟩, ta.kids.length) tb.kids) := Lib.hid ⟨hfx2 (by first | rfl | trivial), hx2, d2, HKb.out⟩
                  clear hk0 hlen HRQ hfx1 hfx2
                  go_wp2
                  refine wp_region_held_drew (S := fun w' => w'.cell? ⟨q, 0, none⟩ = some (.slice (some ⟨x1, o1, none⟩) ta.kids.length c2) ∧ w'.cell? ⟨q, 1, none⟩ = some (.slice (some ⟨x2, o2, none⟩) ta.kids.length d2)) (by kernel_rfl) ⟨q0, q1⟩ (fun hHeld => ?_)
                  refine wpAnyH_take (i := 0) (v := ?_) rfl (by kernel_rfl) (by kernel_rfl) (by kernel_rfl) (fun _ _ _ h => h) (Or.inl ⟨by rfl, ?_⟩) (by assumption) ?_
                  rotate_left
                  · intro w' hSw
                    obtain ⟨y1, y2⟩ := hSw
                    go_simp
                    try with_reducible rfl
                  simp only [Act.put, List.setIfInBounds_toArray, List.set_cons_zero, List.set_cons_succ, List.getElem_toArray, List.getElem_cons_zero]
                  refine wpAnyH_take (i := 1) (v := ?_) rfl (by kernel_rfl) (by kernel_rfl) (by kernel_rfl) (fun _ _ _ h => h) (Or.inl ⟨by rfl, ?_⟩) (by assumption) ?_
                  rotate_left
                  · intro w' hSw
                    obtain ⟨y1, y2⟩ := hSw
                    go_simp
                    try with_reducible rfl
                  simp only [Act.put, List.setIfInBounds_toArray, List.set_cons_zero, List.set_cons_succ, List.getElem_toArray, List.getElem_cons_zero, List.getElem_cons_succ]
                  refine wpAnyH_take (i := 2) (v := ?_) rfl (by kernel_rfl) (by kernel_rfl) (by kernel_rfl) (fun _ _ _ h => h) (Or.inl ⟨by rfl, ?_⟩) (by assumption) ?_
                  rotate_left
                  · intro w' hSw
                    obtain ⟨y1, y2⟩ := hSw
                    go_simp
                    try with_reducible rfl
                  simp only [Act.put, List.setIfInBounds_toArray, List.set_cons_zero, List.set_cons_succ, List.getElem_toArray, List.getElem_cons_zero, List.getElem_cons_succ]
                  refine wpAnyH_take (i := 4) (v := ?_) rfl (by kernel_rfl) (by kernel_rfl) (by kernel_rfl) (fun _ _ _ h => h) (Or.inl ⟨by rfl, ?_⟩) (by assumption) ?_
                  rotate_left
                  · intro w' hSw
                    obtain ⟨y1, y2⟩ := hSw
                    go_simp
                    try with_reducible rfl
                  simp only [Act.put, List.setIfInBounds_toArray, List.set_cons_zero, List.set_cons_succ, List.getElem_toArray, List.getElem_cons_zero, List.getElem_cons_succ]
                  refine wpAnyH_take (i := 5) (v := ?_) rfl (by kernel_rfl) (by kernel_rfl) (by kernel_rfl) (fun _ _ _ h => h) (Or.inl ⟨by rfl, ?_⟩) (by assumption) ?_
                  rotate_left
                  · intro w' hSw
                    obtain ⟨y1, y2⟩ := hSw
                    go_simp
                    try with_reducible rfl
                  simp only [Act.put, List.setIfInBounds_toArray, List.set_cons_zero, List.set_cons_succ, List.getElem_toArray, List.getElem_cons_zero, List.getElem_cons_succ]
                  refine wpAnyH_ready (rs := [3]) (by kernel_rfl) (by simp) ?_
                  refine AllReadyH.cons rfl (fun K hK => ?_) AllReadyH.nil
                  go_simp
                  go_at_call 46
                  have step := placeOf_anyM x1 o1 ta.kids.length c2 wc.drew hp1
                  unfold plV at step
                  refine step.mono ?_
                  clear step
                  rintro e w7 ⟨rfl, b7⟩
                  have B7 : Below wc.heap.size wc w7 := drB'M b7
                  go_wp2_with fail
                  refine hK.out _ _ ⟨(B7.cell (p := ⟨q, 0, none⟩) hql).trans q0, (B7.cell (p := ⟨q, 1, none⟩) hql).trans q1⟩ (fun hHeld => ?_)
                  clear hK K
                  refine wpAnyH_ready (rs := [6]) (by kernel_rfl) (by simp) ?_
                  refine AllReadyH.cons rfl (fun K hK => ?_) AllReadyH.nil
                  go_simp
                  go_at_call 46
                  have step := placeOf_anyM x2 o2 ta.kids.length d2 w7 hp1
                  unfold plV at step
                  refine step.mono ?_
                  clear step
                  rintro e w8 ⟨rfl, b8⟩
                  have B8 : Below wc.heap.size wc w8 := B7.trans (b8.mono B7.size)
                  have HS8 := Lib.hid (HSC.out.below hh (by omega) B8)
                  go_wp2_with fail
                  refine hK.out _ _ ⟨(B8.cell (p := ⟨q, 0, none⟩) hql).trans q0, (B8.cell (p := ⟨q, 1, none⟩) hql).trans q1⟩ (fun hHeld => ?_)
                  clear hK K
                  refine wpAnyH_ready (rs := [7]) (by kernel_rfl) (by simp) ?_
                  refine AllReadyH.cons rfl (fun K hK => ?_) AllReadyH.nil
                  go_simp
                  go_at_call 45
                  have step := take_anyM D (⟨x1, o1, none⟩, ta.kids.length) (⟨x2, o2, none⟩, ta.kids.length) ta.kids tb.kids M t T w.heap.size hi w5 w8 HS8.out.um HS8.out.uf HAT1.out HAT2.out (by have := B8.size; omega)
                  unfold plV at step
                  refine step.mono ?_
                  clear step
                  rintro e w9 ⟨bb, M9, t9, T9, rfl, um9, hf9, ht9, mid9⟩
                  have hq9 := mid9.block q (by have := B8.size; omega) (.inr (by omega))
                  have hz9 := mid9.size
                  have hz8 := B8.size
                  go_wp2_with fail
                  refine hK.out _ _ ⟨(World.cell?_of_block (a := ⟨q, 0, none⟩) hq9).trans ((B8.cell (p := ⟨q, 0, none⟩) hql).trans q0), (World.cell?_of_block (a := ⟨q, 1, none⟩) hq9).trans ((B8.cell (p := ⟨q, 1, none⟩) hql).trans q1)⟩ (fun hHeld => ?_)
                  clear hK K
                  refine wpAnyH_done (by kernel_rfl) ?_ _
                  have HQ9 : Hid (Row w9 q 84 #[.slice (some ⟨x1, o1, none⟩) ta.kids.length c2, .slice (some ⟨x2, o2, none⟩) ta.kids.length d2]) := Lib.hid ((HRQ'.out.below B8 hql).same hq9)
                  have HN9 : Hid (Row w9 nb 84 #[.slice (some ⟨b1, off1, none⟩) p.a.length c1, .slice (some ⟨b2, off2, none⟩) p.b.length d1]) := Lib.hid ((HRC.out.below B8 HRC.out.lt).same (mid9.block nb (by have := HRC.out.lt; omega) (.inr (by have := HNB.out; omega))))
                  have HUM9 := Lib.hid um9
                  have HMD9 := Lib.hid mid9
                  have HHF := Lib.hid hf9
                  have HHT := Lib.hid ht9
                  have hz9' : w.heap.size < w9.heap.size := by omega
                  have hm8 : w.heap.size ≤ w8.heap.size := by omega
                  have hqw9 : q < w9.heap.size := by omega
                  clear um9 mid9 hf9 ht9 hq9 B7 b7 b8 q0 q1
                  cases bb with
                  | false =>
                    obtain ⟨he9, hu9⟩ := HHF.out rfl
                    have H9 := Lib.hid (HS8.out.mid hm8 HMD9.out HUM9.out hu9 HS8.out.sm)
                    have HE9 := Lib.hid he9
                    clear he9 hu9
                    go_wp2
                    go_roundg (p.a.length - (k + 1))
                    case rel => exact ⟨k + 1, L, D, M9, t9, T9, HLE.out, by go_num, H9.out, HCLS.out D (fun _ h => h) HLN.out (.inr HE9.out), HN9.out, HGN.out, by have := HCO.out; have := HCS.out; omega, rfl⟩
                    case measure => omega
                  | true =>
                    have HPU := Lib.hid (HS8.out.sm.push (p := ⟨.slice (some ⟨x1, o1, none⟩) ta.kids.length c2, .slice (some ⟨x2, o2, none⟩) ta.kids.length d2, ta.kids, tb.kids⟩) HKa.out HKb.out (fun e => HKEQ.out e))
                    have HST9 := Lib.hid (HS8.out.stp.keep (w' := w9) (fun g' hg' => HMD9.out.block g' (HS8.out.stp.block g' hg').2 (.inr (HS8.out.stp.block g' hg').1)))
                    have HBL9 : Hid (Below w.heap.size w5 w9) := Lib.hid (HS8.out.bel.trans (HMD9.out.below hm8))
                    have HNW := Lib.hid (twoU_newM w9 (.slice (some ⟨x1, o1, none⟩) ta.kids.length c2) (.slice (some ⟨x2, o2, none⟩) ta.kids.length d2))
                    have hLl := costQ_lenM L
                    have hll9 : L.length ≤ 2097153 := by
                      have := HCO.out
                      have := HCP.out
                      omega
                    have q0 := HQ9.out.cell 0
                    have q1 := HQ9.out.cell 1
                    simp at q0 q1
                    clear hLl
                    go_wp2_with (at_builtin; refine wpList_append_lies _ rfl _ _ 85 rfl (w.heap.size + 1) 84 i0 _ 2 48 Try.underlying85 hi0 hz0 hz1 hz2 rfl (by decide) _ L.length (flatQM L) rfl (World.ownsRow.alloc HST9.out _) ⟨w9.heap.size, 0, none⟩ 1 1 [.slice (some ⟨x1, o1, none⟩) ta.kids.length c2, .slice (some ⟨x2, o2, none⟩) ta.kids.length d2] rfl rfl HNW.out (twoU_oneM _ _ _ _ _ _) (by omega) (by unfold maxLen; omega) (by omega) (by simp; omega) (w9.heap.size + 1) (by simp) ?_)
                    intro gg capg wz2 hownz hgz hatz hltz
                    have A4 := al1 w9 (.cells #[.slice (some ⟨x1, o1, none⟩) ta.kids.length c2, .slice (some ⟨x2, o2, none⟩) ta.kids.length d2] 84)
                    have hrow9 : ∀ g', u10.ownBlock = some g' → w.heap.size + 1 ≤ g' ∧ g' < w9.heap.size := fun g' hg' => HST9.out.block g' hg'
                    have h49 : (w9.alloc (.cells #[.slice (some ⟨x1, o1, none⟩) ta.kids.length c2, .slice (some ⟨x2, o2, none⟩) ta.kids.length d2] 84)).heap.size = w9.heap.size + 1 := by simp
                    have kz : ∀ i, i < w9.heap.size → (∀ g', u10.ownBlock = some g' → i ≠ g') → wz2.heap[i]? = w9.heap[i]? := fun i h1 h2 => (hgz.block i (by omega) (fun e => h2 i e.symm rfl)).trans (A4.block i h1)
                    have hszz := hgz.size
                    have FIN : Hid (SaIM w5 wz2 w.heap.size hi ra rb (.slice (some ⟨gg, 0, none⟩) (L.length + 1) capg) (L ++ [⟨.slice (some ⟨x1, o1, none⟩) ta.kids.length c2, .slice (some ⟨x2, o2, none⟩) ta.kids.length d2, ta.kids, tb.kids⟩]) ((ta.kids, tb.kids) :: D) M9 t9 T9 (some (p.a, p.b)) ∧ Row wz2 nb 84 #[.slice (some ⟨b1, off1, none⟩) p.a.length c1, .slice (some ⟨b2, off2, none⟩) p.b.length d1] ∧ ∀ g', (Value.slice (some ⟨gg, 0, none⟩) (L.length + 1) capg).ownBlock = some g' → g' ≠ nb) := Lib.hid (by
                      refine ⟨⟨HPU.out, ⟨HUM9.out.map.keep (kz _ (by omega) (fun g' hg' => by have := hrow9 g' hg'; omega)), HUM9.out.key, ⟨hgz.os.trans (A4.os.trans HUM9.out.near.os), hgz.tape.trans (A4.tape.trans HUM9.out.near.tape), hgz.output.trans (A4.output.trans HUM9.out.near.output), by have := HUM9.out.near.size; omega, fun i h1 h2 => (kz i (by omega) (fun g' hg' => by have := hrow9 g' hg'; omega)).trans (HUM9.out.near.block i h1 h2)⟩, HUM9.out.here⟩, HHT.out (by first | rfl | trivial), ?_, ⟨hgz.os.trans (A4.os.trans HBL9.out.os), hgz.tape.trans (A4.tape.trans HBL9.out.tape), hgz.output.trans (A4.output.trans HBL9.out.output), by have := HBL9.out.size; omega, fun i h1 => (kz i (by omega) (fun g' hg' => by have := hrow9 g' hg'; omega)).trans (HBL9.out.block i h1)⟩⟩, HN9.out.same (kz nb HN9.out.lt (fun g' hg' => (HGN.out g' hg').symm)), fun g' hg' => ?_⟩
                      · unfold StqM
                        rw [flatQ_snocM, List.length_append]
                        exact hownz
                      · obtain rfl : gg = g' := by simpa [Value.ownBlock] using hg'
                        rcases hatz with e | e
                        · exact HGN.out gg e
                        · have := HN9.out.lt; omega)
                    have HC5 := Lib.hid (costQ_snocM L ⟨.slice (some ⟨x1, o1, none⟩) ta.kids.length c2, .slice (some ⟨x2, o2, none⟩) ta.kids.length d2, ta.kids, tb.kids⟩)
                    clear A4 hownz hgz hatz hltz hrow9 h49 kz hszz
                    go_wp2
                    go_roundg (p.a.length - (k + 1))
                    case rel => exact ⟨k + 1, _, _, M9, t9, T9, HLE.out, by go_num, FIN.out.1, HCLS.out _ (fun _ h => List.mem_cons_of_mem _ h) HLN.out (.inr (.pair _ _ List.mem_cons_self)), FIN.out.2.1, FIN.out.2.2, by rw [HC5.out]; have := HCO.out; have := HCS.out; omega, rfl⟩
                    case measure => omega
              · have hne : ((ta.kids.length : Int) == (tb.kids.length : Int)) = false := by rw [beq_eq_false_iff_ne]; omega
                have HNE : Hid (ra ≠ rb) := Lib.hid (fun e => hlen (by rw [HKEQ.out e]))
                have HB := Lib.hid (HBW.out _ HSC.out.bel)
                clear hlen
                go_wp2
                go_ret
                exact ⟨false, rfl, ⟨(fun h => by cases h), fun h => absurd h HNE.out⟩, HB.out⟩
          · have hke : k = p.a.length := by omega
            have HFIN : Hid (SaIM w5 wr w.heap.size hi ra rb u10 L D M t T none) := Lib.hid ⟨hS.sm.done (by rw [← hke]; exact HCL.out), hS.um, hS.uf, hS.stp, hS.bel⟩
            have HC9 : Hid (costQM L < costQM (L' ++ [p]) ∧ costQM L ≤ 2097153) := Lib.hid (by
              have := HCO.out
              rw [hke, List.drop_length] at this
              have e9 : sizeMs ([] : List TermD) = 0 := rfl
              have := HCP.out
              omega)
            clear hke hS
            go_wp2
            go_roundg (costQM L)
            case rel => exact ⟨L, D, M, t, T, HFIN.out, rfl, HC9.out.2⟩
            case measure => exact HC9.out.1
end Go.Proofs.Ytlgedjpolmlciaa
