import Derived.Test.YtokdhgocgicdnaaGreatDoorJToc
import Derived.Deep.RegionLaw
import Derived.Deep.RegionHeld3
/- The walk of setsOf. -/
namespace Go.Proofs.YtokdhgocgicdnaaGreatDoor
open Go.RowKit

theorem Tryz.infoSet : (Tryz.prog.info? 144).map (fun i => (i.zero, i.size, i.bytes)) = some (some (.int .u32 0), 1, 4) := by kernel_rfl
theorem Tryz.infoRuleSets : (Tryz.prog.info? 147).map (fun i => (i.zero, i.size, i.bytes)) = some (some (.agg #[.int .i64 0, .int .u32 0, .slice none 0 0]), 3, 40) := by kernel_rfl
/-- the rules of a right grammar as sets -/
def rlOf (rs : List RuleD) : List RuleN := if gramB rs = true then rnl rs (List.range rs.length) else []
theorem rlOf_t {rs : List RuleD} (h : gramB rs = true) : rlOf rs = rnl rs (List.range rs.length) := if_pos h
theorem rlOf_f {rs : List RuleD} (h : gramB rs = false) : rlOf rs = [] := if_neg (by rw [h]; decide)
theorem rnl_succ {rs : List RuleD} {k : Nat} : rnl rs (List.range (k + 1)) = rnl rs (List.range k) ++ [rn rs k] := by unfold rnl; rw [List.range_succ, List.map_append]; rfl
theorem rnl_len (rs : List RuleD) (ix : List Nat) : (rnl rs ix).length = ix.length := by simp [rnl]
theorem one_u32 (x : Int) : ∀ u ∈ [Value.int .u32 x], u.oneCell' = true := by
  intro u hu
  rw [List.mem_singleton] at hu; subst hu; rfl
theorem three_one (a b : Int) (A : Option Addr) (n c : Nat) : ∀ u ∈ [Value.int .i64 a, .int .u32 b, .slice A n c], u.oneCell' = true := by
  intro u hu
  simp only [List.mem_cons, List.not_mem_nil, or_false] at hu
  rcases hu with rfl | rfl | rfl <;> rfl

theorem Nts.below {w w' : World} {base : Nat} {v : Value} {l : List Nat} (h : Nts w base v l) (k : Below w.heap.size w w') : Nts w' base v l := by
  refine ⟨h.1, ?_⟩
  rcases h.2 with a | ⟨g, cap, cur, rfl, hb, hh, r⟩
  · exact .inl a
  · have hr : Row w g 144 cur := hh
    exact .inr ⟨g, cap, cur, rfl, hb, (k.block g hr.lt).trans hh, r⟩

theorem Nts.away {w : World} {base : Nat} {v : Value} {l : List Nat} (h : Nts w base v l) {p : Addr} (hp : p.block < base) (u : Value) : Nts (w.setCell p u) base v l := by
  refine ⟨h.1, ?_⟩
  rcases h.2 with a | ⟨g, cap, cur, rfl, hb, hh, r⟩
  · exact .inl a
  · exact .inr ⟨g, cap, cur, rfl, hb, (Below.heap_setCell _ _ _ _ (by omega)).trans hh, r⟩
theorem three_new (w : World) (a b c : Value) : ∀ j u, [a, b, c][j]? = some u → (w.alloc (.cells #[a, b, c] 147)).cell? ((⟨w.heap.size, 0, none⟩ : Addr).add j) = some u :=
  World.news_of_block (cs := #[a, b, c]) (t := 147) (fr := (0, 0)) (heap_alloc_new _ _)

set_option maxRecDepth 100000 in
set_option maxHeartbeats 8000000 in
theorem setsOf_any (rs : List RuleD) (v : Value) (lo hi : Nat) (w : World) (h : Rules w lo hi v rs) (hh : hi ≤ w.heap.size) :
    Calls Tryz.prog 75 #[.agg #[v]] w fun e w' => ∃ x, e = .returned x ∧ SetsG w' w'.heap.size x (headsOf rs) (rlOf rs) ∧ Below w.heap.size w w' := by
  have HV := Lib.hid h
  obtain ⟨A, c, rfl, hlc, hc, hcell⟩ := h
  unfold maxLen at hc
  have HC := Lib.hid hcell
  clear hcell
  have hb := al2 w (.cells #[.slice A rs.length c] 25) (.cells #[.slice none 0 0, .slice none 0 0] 140)
  have R0 := (Row.made w 25 #[.slice A rs.length c]).alloc (.cells #[.slice none 0 0, .slice none 0 0] 140)
  have R1 := Row.made1 w (.cells #[.slice A rs.length c] 25) 140 #[.slice none 0 0, .slice none 0 0]
  cases hq : gramB rs
  · rw [headsOf_f hq, rlOf_f hq]
    have HQ := Lib.hid hq
    clear hq
    go_enter Tryz.func75, Tryz.ntmps75
    go_wp2_with fail
    refine (implGramRight_any rs _ lo hi _ (HV.out.below hb hh) (by simp; omega)).mono ?_
    rintro e w1 ⟨rfl, b1⟩
    rw [HQ.out]
    have R1' := R1.below b1 (by simp)
    have c0 := R1'.cell 0
    have c1 := R1'.cell 1
    have f0 := R1'.free 0
    have f1 := R1'.free 1
    simp at c0 c1
    have hb1 := hb.trans (b1.mono (by simp; omega))
    have hl1 := R1'.lt
    clear R0 R1 b1 hb
    go_wp2
    exact bodyPost_ret (v := .agg #[.slice none 0 0, .slice none 0 0]) (by simp [results, Tryz.results75, go_sem, c0, c1]) rfl ⟨_, rfl, ⟨_, _, rfl, Strs.nil _ _ _, RulesN.nil _ _⟩, (hb1.setCell (by show _ ≤ w.heap.size + 1; omega) _).setCell (by show _ ≤ w.heap.size + 1; omega) _⟩
  · rw [headsOf_t hq, rlOf_t hq]
    have RT := Lib.hid (Rt.of hq)
    have hl20 := RT.out.few
    have hhs := RT.out.hs_len
    have HQ := Lib.hid hq
    have HH : Hid (headsOf rs = hsOf rs) := Lib.hid (headsOf_t hq)
    obtain ⟨i0, hi0, hz0, hz1, hz2⟩ := info_parts Tryz.infoSet
    obtain ⟨j0, hj0, hy0, hy1, hy2⟩ := info_parts Tryz.infoRuleSets
    clear hq
    go_enter Tryz.func75, Tryz.ntmps75
    go_wp2_with fail
    refine (implGramRight_any rs _ lo hi _ (HV.out.below hb hh) (by simp; omega)).mono ?_
    rintro e w1 ⟨rfl, b1⟩
    rw [HQ.out]
    have R0' := R0.below b1 (by simp; omega)
    have R1' := R1.below b1 (by simp)
    have c0 := R0'.cell 0
    simp at c0
    have hb1 := hb.trans (b1.mono (by simp; omega))
    have hl1 := R1'.lt
    have hs1 := hb1.size
    clear R0 R1 b1 hb
    go_wp2_with fail
    refine (implHeads_any rs _ lo hi _ (HV.out.below hb1 hh) (by omega)).mono ?_
    rintro e w3 ⟨hv, g, rfl, ho, hg, b3⟩
    rw [HH.out] at ho hg
    have hb3 := hb1.trans (b3.mono hs1)
    have hl3 : w.heap.size + 1 < w3.heap.size := Nat.lt_of_lt_of_le hl1 b3.size
    have hl3b : w.heap.size < w3.heap.size := by omega
    have STl := ho.strs (lo := w1.heap.size) (hi := w3.heap.size) (fun hn => hg hn)
    have HSTL := Lib.hid STl
    have ST := STl.more (Nat.zero_le _) (Nat.le_refl _)
    clear STl
    have R0'' := R0'.below b3 (by omega)
    have R1'' := R1'.below b3 (by omega)
    have c3 := R0''.cell 0
    simp at c3
    have HST := Lib.hid ST
    obtain ⟨Ah, ch, rfl, -⟩ := ST
    have HB3 := Lib.hid hb3
    have HR1 := Lib.hid R1''
    clear R0' R1' R0'' R1'' ho hg b3 hb1
    go_wp2
    go_loopw [4, 5, 6, 8, 19] (fun _ _ _ _ i wr => ∃ (j : Nat) (xs : List (RuleN × Value)) (v : Value), j ≤ rs.length ∧ i = .int .i64 (j : Int) ∧ xs.map (·.1) = rnl rs (List.range j) ∧ Row wr w3.heap.size 140 #[.slice Ah (hsOf rs).length ch, v] ∧ GrowN wr w3.heap.size w.heap.size v xs ∧ Below w3.heap.size w3 wr) (fun _ _ _ _ i _ => rs.length - (intOf i).toNat)
    case atStart => exact ⟨0, [], .slice none 0 0, by omega, rfl, rfl, Row.made _ _ _, GrowN.nil _ _ _, al1 _ _⟩
    case round =>
      obtain ⟨j, xs, vr, hj, rfl, hxs, hrow, hgr, hbw⟩ := hrel
      rename World => wo
      have hsw := hbw.size
      have hxl : xs.length = j := by have := congrArg List.length hxs; simpa [rnl] using this
      have HXS := Lib.hid hxs
      have HXL := Lib.hid hxl
      have HROW := Lib.hid hrow
      have HGR := Lib.hid hgr
      have hrl := hrow.lt
      obtain ⟨Bv, dv, rfl⟩ : ∃ B d, vr = .slice B xs.length d := by
        rcases hgr.1.2 with ⟨rfl, h0⟩ | ⟨g, cap, cur, rfl, _⟩
        · exact ⟨none, 0, by rw [h0]⟩
        · exact ⟨_, _, rfl⟩
      have s0 := hrow.cell 0
      have s1 := hrow.cell 1
      simp at s0 s1
      clear hxs hxl hrow hgr
      by_cases hlt : j < rs.length
      · obtain ⟨b, off, rfl, _, hbh, hcc⟩ := HC.out (by omega)
        obtain ⟨hhsz, d0, u, d1, hst⟩ := hcc j hlt
        have bw0 := HB3.out.trans (hbw.mono (by omega))
        have d0' := (bw0.cell (p := ⟨b, off + j * 2, none⟩) (by show b < _; omega)).trans d0
        have d1' := (bw0.cell (p := ⟨b, off + j * 2 + 1, none⟩) (by show b < _; omega)).trans d1
        have hst' := hst.below bw0 (by omega)
        clear hcc d0 d1 hst
        have HS := Lib.hid hst'
        obtain ⟨A', c', rfl, hlc', hc', hsz', hcell'⟩ := hst'
        have HZ := Lib.hid hsz'
        have HCB := Lib.hid hcell'
        unfold maxLen at hc'
        have hbl := RT.out.len j hlt
        have HBW := Lib.hid hbw
        have ha := al1 wo (.cells #[.string rs[j].head, .slice A' rs[j].body.length c'] 45)
        clear hsz' hcell' hbw bw0
        have sA0 := (ha.cell (p := ⟨w3.heap.size, 0, none⟩) (by show _ < _; omega)).trans s0
        have sA1 := (ha.cell (p := ⟨w3.heap.size, 1, none⟩) (by show _ < _; omega)).trans s1
        go_wp2_with fail
        refine (setOf_any (hsOf rs) _ (xs.map (·.1)) Ah ch Bv dv rs[j].head w3.heap.size _ ((HST.out.below HBW.out (Nat.le_refl _)).below ha (by omega)) (by rw [List.length_map]) (by simp; omega) hhs).mono ?_
        rintro e w4 ⟨rfl, b4⟩
        have R5 := (Row.made wo 45 #[.string rs[j].head, .slice A' rs[j].body.length c']).below b4 (by simp)
        have r51 := R5.cell 1
        simp at r51
        have hl5 : wo.heap.size < w4.heap.size := R5.lt
        have hb4 : Below wo.heap.size wo w4 := ha.trans (b4.mono (by simp))
        have HB4 := Lib.hid hb4
        have hsn := RT.out.setN_lt rs[j].head
        clear R5 b4 hb4 ha sA0 sA1 s0 s1 d0' d1'
        obtain ⟨H, hH⟩ : ∃ H, setN (hsOf rs) rs[j].head = H := ⟨_, rfl⟩
        rw [hH] at hsn ⊢
        have HH' := Lib.hid hH
        clear hH
        go_wp2
        go_loopw [8, 33] (fun _ i wr => ∃ (m : Nat) (bv : Value), m ≤ rs[j].body.length ∧ i = .int .i64 (m : Int) ∧ Row wr w4.heap.size 147 #[.int .i64 (j : Int), .int .u32 (H : Int), bv] ∧ Nts wr (w4.heap.size + 1) bv ((rs[j].body.take m).map (setN (hsOf rs))) ∧ Below w4.heap.size w4 wr) (fun _ i _ => rs[j].body.length - (intOf i).toNat)
        case atStart => exact ⟨0, .slice none 0 0, by omega, rfl, Row.made _ _ _, Nts.nil _ _, al1 _ _⟩
        case round =>
          obtain ⟨m, bv, hm, rfl, rO, hN, hbx⟩ := hrel
          have hsx := hbx.size
          have hOl := rO.lt
          have B4x := HB4.out.trans (hbx.mono (by omega))
          have rS := HROW.out.below B4x hrl
          by_cases hml : m < rs[j].body.length
          · obtain ⟨b1, off1, rfl, _, hbh1, hcc1⟩ := HCB.out (by omega)
            have hcb := (B4x.cell (p := ⟨b1, off1 + m, none⟩) (by show b1 < _; omega)).trans (hcc1 m hml)
            clear hcc1
            have STx0 : Strs wr 0 w3.heap.size (.slice Ah (hsOf rs).length ch) (hsOf rs) := (HST.out.below HBW.out (Nat.le_refl _)).below B4x (by omega)
            have STx : Strs wr.drew 0 w3.heap.size (.slice Ah (hsOf rs).length ch) (hsOf rs) := STx0
            clear STx0
            have HSTX := Lib.hid STx
            have HN' := Lib.hid hN
            have HRO := Lib.hid rO
            have HRS := Lib.hid rS
            have hml' : ((rs[j].body.take m).map (setN (hsOf rs))).length = m := by rw [List.length_map, List.length_take]; omega
            have HML := Lib.hid hml'
            obtain ⟨Ab, cb, rfl⟩ : ∃ B d, bv = .slice B m d := by
              rcases hN.2 with ⟨rfl, h0⟩ | ⟨g, cap, cur, rfl, _⟩
              · exact ⟨none, 0, by rw [← hml', h0]⟩
              · exact ⟨_, _, by rw [hml']⟩
            have o2 := rO.cell 2
            have s0 := rS.cell 0
            have s1 := rS.cell 1
            simp at o2 s0 s1
            have o2d : wr.drew.cell? ⟨w4.heap.size, 2, none⟩ = _ := o2
            have s0d : wr.drew.cell? ⟨w3.heap.size, 0, none⟩ = _ := s0
            have s1d : wr.drew.cell? ⟨w3.heap.size, 1, none⟩ = _ := s1
            clear STx hN rO rS hml' B4x
            go_wp2
            go_region_law (first
              | (refine step_append_lies _ (by rfl) _ _ _ (by rfl) (w4.heap.size + 1) 144 i0 _ 1 4 Tryz.underlying145 hi0 hz0 hz1 hz2 rfl (by omega) (.slice Ab m cb) m (((rs[j].body.take m).map (setN (hsOf rs))).map fun (x : Nat) => Value.int .u32 (x : Int)) (by rfl) (World.ownsRow.alloc HN7.out _) ⟨w7.heap.size, 0, none⟩ 1 1 [.int .u32 ((setN (hsOf rs) rs[j].body[m] : Nat) : Int)] (by rfl) (by rfl) (World.news_of_block (cs := #[.int .u32 ((setN (hsOf rs) rs[j].body[m] : Nat) : Int)]) (t := 144) (fr := (0, 0)) (heap_alloc_new w7 _)) (one_u32 _) (by omega) (by unfold maxLen; omega) (by omega) (by simp <;> omega) (w7.heap.size + 1) (by simp) ?_; intro gg cap w8 hown8 hg8 hat8 hlt8; have r8 := Tx.row_grown (HR7.out.alloc _) (World.ownsRow.alloc HN7.out _) (by decide) hg8; have c8 := r8.cell 2; have f8 := r8.free 2; simp at c8)
              | (go_simp; go_at_call 87; refine (setOf_any (hsOf rs) _ (xs.map (·.1)) Ah ch Bv dv rs[j].body[m] w3.heap.size _ HSTX.out (by rw [List.length_map]) (by show _ ≤ wr.heap.size; omega) hhs).mono ?_; rintro e w7 ⟨rfl, b7⟩; have B7 : Below wr.heap.size wr w7 := ⟨b7.os, b7.tape, b7.output, b7.size, b7.block⟩; have HR7 := Lib.hid (HRO.out.below B7 hOl); have HN7 : Hid (w7.ownsRow (w4.heap.size + 1) 144 1 (.slice Ab m cb) m (((rs[j].body.take m).map (setN (hsOf rs))).map fun (x : Nat) => Value.int .u32 (x : Int))) := Lib.hid (by have := HN'.out.below B7; unfold Nts at this; rwa [HML.out] at this); have c7 := HR7.out.cell 2; have l7 := HR7.out.lt; simp at c7))
            all_goals
              have N8 : Nts w8 (w4.heap.size + 1) (.slice (some ⟨gg, 0, none⟩) (m + 1) cap) ((rs[j].body.take (m + 1)).map (setN (hsOf rs))) := by
                rw [List.take_succ_eq_append_getElem hml, List.map_append]
                refine Nts.one _ ?_
                rw [HML.out]
                exact hown8
              have B8 : Below w4.heap.size w4 w8 := Tx.below_grown ((hbx.trans (B7.mono hsx)).trans ((al1 w7 _).mono (by omega))) (World.ownsRow.alloc HN7.out _) hg8 (by simp; omega) (by omega)
              have N9 := N8.away (p := ⟨w4.heap.size, 2, none⟩) (by show w4.heap.size < _; omega) (.slice (some ⟨gg, 0, none⟩) (m + 1) cap)
              have R9 : Row (w8.setCell ⟨w4.heap.size, 2, none⟩ (.slice (some ⟨gg, 0, none⟩) (m + 1) cap)) w4.heap.size 147 #[.int .i64 (j : Int), .int .u32 (H : Int), .slice (some ⟨gg, 0, none⟩) (m + 1) cap] := by simpa using r8.put 2 (.slice (some ⟨gg, 0, none⟩) (m + 1) cap)
              have B9 := B8.setCell (p := ⟨w4.heap.size, 2, none⟩) (by show w4.heap.size ≤ w4.heap.size; omega) (.slice (some ⟨gg, 0, none⟩) (m + 1) cap)
              have H9 := Lib.hid (And.intro R9 (And.intro N9 B9))
              clear hown8 hg8 hat8 r8 c8 f8 N8 B8 N9 R9 B9 c7
              go_wp2
              go_roundw
              case rel => exact ⟨m + 1, _, by omega, by go_num, H9.out.1, H9.out.2.1, H9.out.2.2⟩
              case measure => simp [intOf]; omega
          · have hme : m = rs[j].body.length := by omega
            have hNz : ∀ x ∈ (rs[j].body.take m).map (setN (hsOf rs)), x < 4194304 := fun x hx => by
              obtain ⟨t, _, rfl⟩ := List.mem_map.1 hx
              exact RT.out.setN_lt t
            have HX := Lib.hid (hN.x (bb := w.heap.size) hNz)
            have HRN : Hid (rn rs j = ⟨j, H, (rs[j].body.take m).map (setN (hsOf rs))⟩) := Lib.hid (by
              unfold rn; rw [ruleAt_eq hlt, hme, List.take_length, HH'.out])
            have hml' : ((rs[j].body.take m).map (setN (hsOf rs))).length = m := by rw [List.length_map, List.length_take]; omega
            obtain ⟨Ab, cb, rfl⟩ : ∃ B d, bv = .slice B m d := by
              rcases hN.2 with ⟨rfl, h0⟩ | ⟨g, cap, cur, rfl, _⟩
              · exact ⟨none, 0, by rw [← hml', h0]⟩
              · exact ⟨_, _, by rw [hml']⟩
            have G3 := Lib.hid (HGR.out.below B4x)
            have HRS := Lib.hid rS
            have s1 := rS.cell 1
            have o0 := rO.cell 0
            have o1 := rO.cell 1
            have o2 := rO.cell 2
            simp at s1 o0 o1 o2
            have HB3x := Lib.hid (HBW.out.trans (B4x.mono (by omega)))
            have hxs20 : xs.length ≤ 20 := by rw [HXL.out]; omega
            have HNW := Lib.hid (three_new wr (.int .i64 (j : Int)) (.int .u32 (H : Int)) (.slice Ab m cb))
            clear hNz hml' hN rS rO B4x hme
            go_wp2_with (at_builtin; refine wpList_append_own _ rfl _ _ 138 rfl w3.heap.size 147 j0 _ 3 40 Tryz.underlying138 hj0 hy0 hy1 hy2 rfl (by decide) (.slice Bv xs.length dv) xs.length (flatN xs) rfl (World.ownsRow.alloc G3.out.1 _) ⟨wr.heap.size, 0, none⟩ 1 1 [.int .i64 (j : Int), .int .u32 (H : Int), .slice Ab m cb] rfl rfl HNW.out (three_one _ _ _ _ _) (by unfold maxLen; omega) (by omega) (by simp; omega) ?_)
            intro v' w5 hown5 hg5 _
            have A4 := al1 wr (.cells #[.int .i64 (j : Int), .int .u32 (H : Int), .slice Ab m cb] 147)
            have G4 := G3.out.below A4
            have G5 := G4.snoc (r := ⟨j, H, (rs[j].body.take m).map (setN (hsOf rs))⟩) (u := .slice Ab m cb) hown5 hg5 (by show j ≤ 1000; omega) hsn (HX.out.move A4.size fun b hb _ => A4.block b hb) (by omega)
            have rS5 := Tx.row_grown (HRS.out.alloc _) G4.1 (by decide) hg5
            have B5 : Below w3.heap.size w3 w5 := Tx.below_grown (HB3x.out.trans (A4.mono (by omega))) G4.1 hg5 (by simp; omega) (Nat.le_refl _)
            obtain ⟨gv, cv, rfl, -⟩ := hown5.form (by omega)
            have c5 := rS5.cell 1
            have f5 := rS5.free 1
            simp at c5
            have G6 := G5.away (p := ⟨w3.heap.size, 1, none⟩) rS5 (by decide) (by decide) (by show w.heap.size ≤ w3.heap.size; omega) (.slice (some ⟨gv, 0, none⟩) (xs.length + 1) cv)
            have rS6 : Row (w5.setCell ⟨w3.heap.size, 1, none⟩ (.slice (some ⟨gv, 0, none⟩) (xs.length + 1) cv)) w3.heap.size 140 #[.slice Ah (hsOf rs).length ch, .slice (some ⟨gv, 0, none⟩) (xs.length + 1) cv] := by simpa using rS5.put 1 (.slice (some ⟨gv, 0, none⟩) (xs.length + 1) cv)
            have B6 := B5.setCell (p := ⟨w3.heap.size, 1, none⟩) (by show w3.heap.size ≤ w3.heap.size; omega) (.slice (some ⟨gv, 0, none⟩) (xs.length + 1) cv)
            have H6 := Lib.hid (And.intro rS6 (And.intro G6 B6))
            clear rS5 B5 G5 G4 A4 hown5 hg5 rS6 B6 G6
            go_wp2
            go_roundw
            case rel => exact ⟨j + 1, _, _, by omega, by go_num, by rw [List.map_append, HXS.out, rnl_succ, HRN.out]; rfl, H6.out.1, H6.out.2.1, H6.out.2.2⟩
            case measure => simp [intOf]; omega
      · have hje : j = rs.length := by omega
        have hlt' : w.heap.size + 1 < wo.heap.size := by omega
        have R1 := HR1.out.below hbw (by omega)
        have c0 := R1.cell 0
        have c1 := R1.cell 1
        have f0 := R1.free 0
        have f1 := R1.free 1
        simp at c0 c1
        have HX : Hid (xs.map (·.1) = rnl rs (List.range rs.length)) := Lib.hid (by rw [HXS.out, hje])
        have hBE := HB3.out.trans (hbw.mono (by omega))
        obtain ⟨wA, hwA⟩ : ∃ wA, wA = wo.setCell ⟨w.heap.size + 1, 0, none⟩ (.slice Ah (hsOf rs).length ch) := ⟨_, rfl⟩
        obtain ⟨wB, hwB⟩ : ∃ wB, wB = wA.setCell ⟨w.heap.size + 1, 1, none⟩ (.slice Bv xs.length dv) := ⟨_, rfl⟩
        have RA : Row wA (w.heap.size + 1) 140 #[.slice Ah (hsOf rs).length ch, .slice none 0 0] := by rw [hwA]; simpa using R1.put 0 (.slice Ah (hsOf rs).length ch)
        have GA : GrowN wA w3.heap.size w.heap.size (.slice Bv xs.length dv) xs := by rw [hwA]; exact HGR.out.away (p := ⟨w.heap.size + 1, 0, none⟩) R1 (by decide) (by decide) (by show w.heap.size ≤ w.heap.size + 1; omega) _
        have GB : GrowN wB w3.heap.size w.heap.size (.slice Bv xs.length dv) xs := by rw [hwB]; exact GA.away (p := ⟨w.heap.size + 1, 1, none⟩) RA (by decide) (by decide) (by show w.heap.size ≤ w.heap.size + 1; omega) _
        have BB : Below w.heap.size w wB := by rw [hwB, hwA]; exact (hBE.setCell (by show w.heap.size ≤ w.heap.size + 1; omega) _).setCell (by show w.heap.size ≤ w.heap.size + 1; omega) _
        have SB : Strs wB w1.heap.size w3.heap.size (.slice Ah (hsOf rs).length ch) (hsOf rs) := by
          refine (HSTL.out.below hbw (Nat.le_refl _)).keep fun k hk1 hk2 => ?_
          rw [hwB, Below.heap_setCell _ _ _ _ (by show k ≠ w.heap.size + 1; omega), hwA, Below.heap_setCell _ _ _ _ (by show k ≠ w.heap.size + 1; omega)]
        have zB : w3.heap.size ≤ wB.heap.size := by rw [hwB, hwA]; simp [World.setCell]; omega
        have FIN : SetsG wB wB.heap.size (.agg #[.slice Ah (hsOf rs).length ch, .slice Bv xs.length dv]) (hsOf rs) (rnl rs (List.range rs.length)) := ⟨_, _, rfl, SB.more (Nat.zero_le _) zB, by rw [← HX.out]; exact GB.done⟩
        rw [hwB, hwA] at FIN BB
        have HFIN := Lib.hid (And.intro FIN BB)
        clear FIN BB zB SB GB GA RA hwB hwA hBE R1 hbw
        go_wp2
        exact bodyPost_ret (v := .agg #[.slice Ah (hsOf rs).length ch, .slice Bv xs.length dv]) (by simp [results, Tryz.results75, go_sem, c0, c1]) rfl ⟨_, rfl, HFIN.out.1, HFIN.out.2⟩
end Go.Proofs.YtokdhgocgicdnaaGreatDoor

/- The program's Nullable and Productive. -/
namespace Go.Proofs.YtokdhgocgicdnaaGreatDoor
open Go.RowKit

theorem pickB_filter {n : Nat} {hs : List ByteArray} {p : ByteArray → Bool} (h : ∀ i (hi : i < hs.length), n.testBit i = p hs[i]) : pickB n hs hs.length = hs.filter p := by
  have key : ∀ k, k ≤ hs.length → pickB n hs k = (hs.take k).filter p := by
    intro k
    induction k with
    | zero => intro _; rfl
    | succ k ih =>
      intro hk
      have h1 := h k (by omega)
      rw [List.take_succ_eq_append_getElem (by omega), List.filter_append, ← ih (by omega)]
      cases hb : n.testBit k
      · rw [pickB_f (by omega) hb]
        rw [hb] at h1
        simp [← h1]
      · rw [pickB_t (by omega) hb]
        rw [hb] at h1
        simp [← h1]
  rw [key _ (Nat.le_refl _), List.take_length]
theorem headsOf_few (rs : List RuleD) : (headsOf rs).length ≤ 20 := by
  cases hq : gramB rs
  · rw [headsOf_f hq]; simp
  · rw [headsOf_t hq]; exact (Rt.of hq).hs_len
theorem rlOf_head (rs : List RuleD) : ∀ r ∈ rlOf rs, r.head < 4194304 := by
  intro r hr
  cases hq : gramB rs
  · rw [rlOf_f hq] at hr; simp at hr
  · rw [rlOf_t hq] at hr
    obtain ⟨i, _, rfl⟩ := List.mem_map.1 hr
    exact (Rt.of hq).setN_lt _
theorem rlOf_body (rs : List RuleD) : ∀ r ∈ rlOf rs, ∀ x ∈ r.body, x < 4194304 := by
  intro r hr x hx
  cases hq : gramB rs
  · rw [rlOf_f hq] at hr; simp at hr
  · rw [rlOf_t hq] at hr
    obtain ⟨i, _, rfl⟩ := List.mem_map.1 hr
    obtain ⟨t, _, rfl⟩ := List.mem_map.1 hx
    exact (Rt.of hq).setN_lt _
theorem come_list {rs : List RuleD} {tok : Bool} {m : Nat} (h : FixAt (stepCome (rlOf rs)) (tokBase tok) m) : pickB m (headsOf rs) (headsOf rs).length = comOf tok rs := by
  unfold comOf
  cases hq : gramB rs
  · rw [headsOf_f hq]; rfl
  · have R := Rt.of hq
    have e : headsOf rs = hsOf rs := headsOf_t hq
    rw [rlOf_t hq] at h
    rw [e]
    apply pickB_filter
    intro i hi
    have h1 := com_bits R tok h (hsOf rs)[i]
    rw [R.idx_at hi] at h1
    have ht := head_no_tok (R.hs_head (List.getElem_mem hi))
    rw [Bool.eq_iff_iff, h1, ht]
    simp

end Go.Proofs.YtokdhgocgicdnaaGreatDoor
