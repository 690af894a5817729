import Derived.Test.YtokdhgocgicdnaaGreatDoorJWnew2
/- The walk of newSearch, whole. -/
namespace Go.Proofs.YtokdhgocgicdnaaGreatDoor
open Go.RowKit Go.Maps Go.Conc

theorem mostLooks_int (rs : List RuleD) (v : Value) (p : Nat) (z : Int) (hz : z = (p : Int)) (lo hi : Nat) (w : World) (h : Rules w lo hi v rs) (hh : hi ≤ w.heap.size) (hp : p ≤ 13) (h20 : rs.length ≤ 20) (hb5 : ∀ i (h : i < rs.length), rs[i].body.length ≤ 5) :
    Calls Tryz.prog 77 #[v, .int .i64 z] w fun e w' => e = .returned (.int .i64 ((mostTo rs p rs.length : Nat) : Int)) ∧ Below w.heap.size w w' := by
  subst hz
  exact mostLooks_any rs v p lo hi w h hh hp h20 hb5
/-- a search that has just been made -/
def NewS (w : World) (rs : List RuleD) (t : List ByteArray) (e : Ending) (w' : World) : Prop := ∃ E : Env, e = .returned (E.v (frs rs).length t.length) ∧ Sea w' E (frs rs) t [] St.none ∧ w.heap.size ≤ E.base ∧ Below w.heap.size w w'
/-- the maps and the queue are new -/
theorem Sea.made {w w7 w9 : World} {rs : List RuleD} {t : List ByteArray} (F : Fits rs t) {A : Option Addr} {c : Nat} {B : Option Addr} {d : Nat} (hr : Rules w9 0 w.heap.size (.slice A rs.length c) rs) (ht : Strs w9 0 w.heap.size (.slice B t.length d) t)
    (h7 : Below (((w.alloc (.map #[] 0)).alloc (.map #[] 0)).alloc (.map #[] 0)).heap.size (((w.alloc (.map #[] 0)).alloc (.map #[] 0)).alloc (.map #[] 0)) w7) (h9 : ∀ k, w.heap.size ≤ k → w9.heap[k]? = (w7.alloc (.chan (mostTo rs (t.length + 1) rs.length) #[] false 0 0 false)).heap[k]?) :
    Sea w9 ⟨A, c, B, d, w.heap.size, w.heap.size, w.heap.size, w.heap.size + 1, w.heap.size + 2, w7.heap.size, mostTo rs (t.length + 1) rs.length⟩ rs t [] St.none := by
  have z7 : w.heap.size + 3 ≤ w7.heap.size := by have := h7.size; simpa using this
  have hs3 : (((w.alloc (.map #[] 0)).alloc (.map #[] 0)).alloc (.map #[] 0)).heap.size = w.heap.size + 3 := by simp
  have get : ∀ k, w.heap.size ≤ k → k < w.heap.size + 3 → w9.heap[k]? = (((w.alloc (.map #[] 0)).alloc (.map #[] 0)).alloc (.map #[] 0)).heap[k]? := fun k h1 h2 => by
    rw [h9 k h1, Below.heap_alloc _ _ _ (by omega), h7.block k (by rw [hs3]; omega)]
  have m1 : MapAt (((w.alloc (.map #[] 0)).alloc (.map #[] 0)).alloc (.map #[] 0)) 151 boolE w.heap.size 0 (fun _ => none) := ((MapAt.made w _ _).keep (Below.heap_alloc _ _ _ (by simp))).keep (Below.heap_alloc _ _ _ (by simp; omega))
  have m2 : MapAt (((w.alloc (.map #[] 0)).alloc (.map #[] 0)).alloc (.map #[] 0)) 82 boolE (w.heap.size + 1) 0 (fun _ => none) := by
    have := (MapAt.made (w.alloc (.map #[] 0)) 82 boolE).keep (Below.heap_alloc _ (.map #[] 0) _ (by simp))
    simpa using this
  have m3 : MapAt (((w.alloc (.map #[] 0)).alloc (.map #[] 0)).alloc (.map #[] 0)) 122 rawE (w.heap.size + 2) 0 (fun _ => none) := by
    have := MapAt.made ((w.alloc (.map #[] 0)).alloc (.map #[] 0)) 122 rawE
    simpa using this
  refine ⟨F, Inv.none, hr, ht, Nat.le_refl _, ?_, ?_, ?_, ⟨0, 0, ?_⟩, rfl, by simp, by simp [St.none], List.Pairwise.nil, List.Pairwise.nil, ⟨Nat.le_refl _, by simp, by simp, by show w.heap.size ≤ w7.heap.size; omega⟩, ⟨by simp, by simp, by simp⟩⟩
  · exact (m1.keep (get _ (Nat.le_refl _) (by omega))).like fun l => memF_nil l
  · exact (m2.keep (get _ (by omega) (by omega))).like fun l => memF_nil l
  · exact m3.keep (get _ (by omega) (by omega))
  · show w9.heap[w7.heap.size]? = _
    rw [h9 w7.heap.size (by omega)]
    exact heap_alloc_new _ _

set_option maxRecDepth 100000 in
set_option maxHeartbeats 8000000 in
theorem newSearch_any (rs : List RuleD) (t : List ByteArray) (v tv : Value) (lo hi lo2 hi2 : Nat) (w : World) (h : Rules w lo hi v rs) (hh : hi ≤ w.heap.size) (h2 : Strs w lo2 hi2 tv t) (hh2 : hi2 ≤ w.heap.size) (hg : gramB rs = true) (ht : textB t = true) :
    Calls Tryz.prog 64 #[.agg #[v], tv] w (NewS w rs t) := by
  obtain ⟨j0, hj0, hy0, hy1, hy2⟩ := info_parts Tryz.infoRule
  have hmm := @run_makeMap Tryz.prog
  have F := frs_fits hg ht
  have h12 := F.short
  have hflen := frs_len rs
  have hf20 := F.few
  have R := Rt.of hg
  have hr20 := R.few
  have HF := Lib.hid F
  have HV := Lib.hid (h.more (Nat.zero_le lo) (Nat.le_refl hi))
  have HW := Lib.hid (h2.more (Nat.zero_le lo2) (Nat.le_refl hi2))
  have HG := Lib.hid hg
  obtain ⟨A, c, rfl, hlc, hc, -⟩ := h
  obtain ⟨B, d, rfl, hld, hd, -, -⟩ := h2
  unfold maxLen at hc hd
  have hb := al2 w (.cells #[.slice A rs.length c] 25) (.cells #[.slice none 0 0, .slice none 0 0, .map none, .map none, .map none, .chan none] 78)
  have R0 := (Row.made w 25 #[.slice A rs.length c]).alloc (.cells #[.slice none 0 0, .slice none 0 0, .map none, .map none, .map none, .chan none] 78)
  have R1 := Row.made1 w (.cells #[.slice A rs.length c] 25) 78 #[.slice none 0 0, .slice none 0 0, .map none, .map none, .map none, .chan none]
  have hsz : ((w.alloc (.cells #[.slice A rs.length c] 25)).alloc (.cells #[.slice none 0 0, .slice none 0 0, .map none, .map none, .map none, .chan none] 78)).heap.size = w.heap.size + 2 := by simp
  have HSZ := Lib.hid hsz
  clear F hg ht R hsz
  unfold NewS
  go_enter Tryz.func64, Tryz.ntmps64
  go_wp2_with fail
  refine (setsOf_any rs _ 0 hi _ (HV.out.below hb hh) (by rw [HSZ.out]; omega)).mono ?_
  rintro _ w1 ⟨x, rfl, SG, b1⟩
  have hb1 := hb.trans (b1.mono (by rw [HSZ.out]; omega))
  have z1 := b1.size
  rw [HSZ.out] at z1
  have R01 := R0.below b1 R0.lt
  have R11 := R1.below b1 R1.lt
  clear b1 hb R0 R1
  go_wp2_with fail
  refine (fruitful_any (headsOf rs) (rlOf rs) _ _ _ SG (Nat.le_refl _) (rlOf_few rs) (rlOf_head rs)).mono ?_
  rintro _ w2 ⟨x2, m1, rfl, SX, hfix, b2⟩
  have hb2 := hb1.trans (b2.mono hb1.size)
  have z2 := b2.size
  have R02 := R01.below b2 R01.lt
  have R12 := R11.below b2 R11.lt
  have SG2 := SX.i.g (Nat.le_refl _) (by omega)
  rw [fruit_at HG.out hfix] at SG2
  obtain ⟨A2, c2, B2, d2, rfl, -, hR⟩ := SG2.form
  obtain ⟨B', d', e', hlc2, hc2, hcell⟩ := hR
  injection e' with e1 _ e2
  subst e1 e2
  unfold maxLen at hc2
  have hlen := rnl_len rs (goodIx rs)
  have hgl : (goodIx rs).length = (frs rs).length := by unfold frs; rw [List.length_map]
  have HC := Lib.hid hcell
  have HB2 := Lib.hid hb2
  have HR02 := Lib.hid R02
  have HR12 := Lib.hid R12
  have HGL := Lib.hid hgl
  clear hcell SG SG2 SX b2 hb1 hfix R01 R11 hb2 R02 R12
  have hfd := field_rules A2 B2 (headsOf rs).length c2 (goodIx rs).length d2
  rw [hlen] at hlc2 ⊢
  have HL := Lib.hid hlen
  have hg20 : (goodIx rs).length ≤ 20 := by omega
  clear hlen hgl
  go_wp2
  go_loopw [5, 7, 13] (fun x _ i wr => ∃ (j : Nat) (xs : List (RuleD × Value)), j ≤ (goodIx rs).length ∧ i = .int .i64 (j : Int) ∧ GrowB wr w2.heap.size hi x xs ∧ xs.map (·.1) = ((goodIx rs).take j).map (ruleAt rs) ∧ Below w2.heap.size w2 wr) (fun _ _ i _ => (goodIx rs).length - (intOf i).toNat)
  case atStart => exact ⟨0, [], by omega, rfl, GrowB.nil _ _ _, rfl, Below.refl _ _⟩
  case round =>
    obtain ⟨j, xs, hj, rfl, hgr, hxs, hbw⟩ := hrel
    rename World => wr
    have hsw := hbw.size
    have HGR := Lib.hid hgr
    obtain ⟨Ax, cx, rfl⟩ := hgr.form
    have hxl : xs.length = j := by have := congrArg List.length hxs; rw [List.length_map, List.length_map, List.length_take] at this; omega
    have HXS := Lib.hid hxs
    have HXL := Lib.hid hxl
    have hx20 : xs.length ≤ 20 := by omega
    have r0 := HR02.out.below hbw (by have := HR02.out.lt; omega)
    have q0 := r0.cell 0
    simp at q0
    have l0 := r0.lt
    clear hgr hxs
    by_cases hlt : j < (goodIx rs).length
    · obtain ⟨b, off, rfl, hbh, hcc⟩ := HC.out (by rw [HL.out]; omega)
      obtain ⟨hn, hhh, d0, d1, u, d2', hB⟩ := hcc j (by rw [HL.out]; exact hlt)
      have d0' := (hbw.cell (p := ⟨b, off + j * 3, none⟩) (by show b < _; omega)).trans d0
      have d1' := (hbw.cell (p := ⟨b, off + j * 3 + 1, none⟩) (by show b < _; omega)).trans d1
      have d2'' := (hbw.cell (p := ⟨b, off + j * 3 + 2, none⟩) (by show b < _; omega)).trans d2'
      obtain ⟨A', c', rfl, -⟩ := hB
      have hnum : (rnl rs (goodIx rs))[j]'(by rw [HL.out]; exact hlt) = rn rs (goodIx rs)[j] := by simp [rnl]
      rw [hnum] at d0' d1' d2'' hn
      have hnum2 : (rn rs (goodIx rs)[j]).num = (goodIx rs)[j] := rfl
      rw [hnum2] at d0' hn
      have hil := goodIx_lt _ (List.getElem_mem hlt)
      have HNX : Hid (((goodIx rs).take (j + 1)).map (ruleAt rs) = ((goodIx rs).take j).map (ruleAt rs) ++ [rs[(goodIx rs)[j]]]) := Lib.hid (by rw [List.take_succ_eq_append_getElem hlt, List.map_append, ← ruleAt_eq hil]; rfl)
      have hbA := HB2.out.trans (hbw.mono HB2.out.size)
      obtain ⟨br, offr, rfl, hbrh, _, _, hhs, k0, Br, dr, k1, hst⟩ := (HV.out.below hbA (by omega)).at hil
      have hbrw : br < wr.heap.size := by omega
      have hbwr : b < wr.heap.size := by omega
      have HST := Lib.hid hst
      have HO : Hid (wr.ownsRow w2.heap.size 45 2 (.slice Ax xs.length cx) xs.length (flatY xs)) := Lib.hid HGR.out.1
      generalize (rn rs (goodIx rs)[j]).body.length = bl at d2''
      generalize (rn rs (goodIx rs)[j]).head = rh at d1'
      clear hcc d0 d1 d2' hnum hnum2 hhh hst hbA hxl
      have R3 := Row.made1 wr (.cells #[.int .i64 ((goodIx rs)[j] : Int), .int .u32 (rh : Int), .slice A' bl c'] 147) 45 #[.string rs[(goodIx rs)[j]].head, .slice Br rs[(goodIx rs)[j]].body.length dr]
      have HR3 := Lib.hid R3
      clear R3
      go_wp2_with (at_builtin; refine wpList_append_own _ rfl _ _ 23 rfl w2.heap.size 45 j0 _ 2 40 Tryz.underlying23 hj0 hy0 hy1 hy2 rfl (by decide) _ _ _ rfl (World.ownsRow.alloc (World.ownsRow.alloc HO.out _) _) ⟨wr.heap.size + 1, 0, none⟩ 1 1 [.string rs[(goodIx rs)[j]].head, .slice Br rs[(goodIx rs)[j]].body.length dr] rfl rfl (two_row HR3.out) (two_one4 _ _ _ _) (by unfold maxLen; omega) (by omega) (by simp; omega) ?_)
      intro v1 w3 hown1 hg1 _
      have A3 := al2 wr (.cells #[.int .i64 ((goodIx rs)[j] : Int), .int .u32 (rh : Int), .slice A' bl c'] 147) (.cells #[.string rs[(goodIx rs)[j]].head, .slice Br rs[(goodIx rs)[j]].body.length dr] 45)
      have G3 := (HGR.out.below A3 (by omega)).snoc (r := rs[(goodIx rs)[j]]) hown1 hg1 (by omega) (by simp; omega) hhs (HST.out.below A3 (by omega))
      have B3 : Below w2.heap.size w2 w3 := Tx.below_grown (hbw.trans ((al2 wr _ _).mono hbw.size)) (World.ownsRow.alloc (World.ownsRow.alloc HO.out _) _) hg1 (by simp; omega) (by omega)
      have HG3 := Lib.hid G3
      have HB3 := Lib.hid B3
      clear hown1 hg1 A3 G3 B3 hbw
      go_wp2
      go_roundw
      case rel => exact ⟨j + 1, _, by omega, by go_num, HG3.out, by rw [List.map_append, HXS.out, HNX.out]; rfl, HB3.out⟩
      case measure => simp [intOf]; omega
    · have hje : j = (goodIx rs).length := by omega
      have hfr : xs.map (·.1) = frs rs := by rw [HXS.out, hje, List.take_length]; rfl
      have hlx : xs.length = (frs rs).length := by rw [← hfr, List.length_map]
      have hrl := HGR.out.rules (hi := wr.heap.size) (by omega) (fun g hg => HGR.out.lt hg)
      rw [hfr] at hrl
      rw [hlx]
      rw [hlx] at hrl
      have HRL := Lib.hid hrl
      have HFR := Lib.hid hfr
      have HLX := Lib.hid hlx
      have hbA := HB2.out.trans (hbw.mono HB2.out.size)
      have hW := (HW.out.below hbA (by omega)).more (Nat.le_refl _) (hi' := wr.heap.size) (by omega)
      have HWR := Lib.hid hW
      have r1 := HR12.out.below hbw (by have := HR12.out.lt; omega)
      have HR1 := Lib.hid r1
      have HBA := Lib.hid hbA
      have hmq := mostTo_le HF.out (frs rs).length (Nat.le_refl _)
      have hm3 := al3 wr (.map #[] 0) (.map #[] 0) (.map #[] 0)
      have HM3 := Lib.hid hm3
      have hs3 : (((wr.alloc (.map #[] 0)).alloc (.map #[] 0)).alloc (.map #[] 0)).heap.size = wr.heap.size + 3 := by simp
      have HS3 := Lib.hid hs3
      clear hfr hrl hlx hbA hW r1 hm3 hs3 hje hxl
      go_wp2_with fail
      refine (mostLooks_int (frs rs) _ (t.length + 1) _ (by omega) 0 wr.heap.size _ (HRL.out.below HM3.out (Nat.le_refl _)) (by rw [HS3.out]; omega) (by omega) hf20 HF.out.len).mono ?_
      rintro _ w7 ⟨rfl, b7⟩
      have hmk := mkQueue (mostTo (frs rs) (t.length + 1) (frs rs).length) (by omega) w7
      have B7 := HM3.out.trans (b7.mono (by rw [HS3.out]; omega))
      have r7 := (HR1.out.below B7 HR1.out.lt).alloc (.chan (mostTo (frs rs) (t.length + 1) (frs rs).length) #[] false 0 0 false)
      have l7 := r7.lt
      have f0 := r7.free 0
      have f1 := r7.free 1
      have f2 := r7.free 2
      have f3 := r7.free 3
      have f4 := r7.free 4
      have f5 := r7.free 5
      obtain ⟨p0, p1, p2, p3, p4, p5⟩ := r7.six
      have HB7 := Lib.hid b7
      have HBB7 := Lib.hid B7
      have HR7 := Lib.hid r7
      have z7 := b7.size
      rw [HS3.out] at z7
      clear b7 B7 r7
      go_wp2
      have hdst : ∀ k, w.heap.size + 2 ≤ k → (((((((w7.alloc (.chan (mostTo (frs rs) (t.length + 1) (frs rs).length) #[] false 0 0 false)).setCell ⟨w.heap.size + 1, 0, none⟩ (.slice Ax (frs rs).length cx)).setCell ⟨w.heap.size + 1, 1, none⟩ (.slice B t.length d)).setCell ⟨w.heap.size + 1, 2, none⟩ (.map (some wr.heap.size))).setCell ⟨w.heap.size + 1, 3, none⟩ (.map (some (wr.heap.size + 1)))).setCell ⟨w.heap.size + 1, 4, none⟩ (.map (some (wr.heap.size + 1 + 1)))).setCell ⟨w.heap.size + 1, 5, none⟩ (.chan (some w7.heap.size))).heap[k]? = (w7.alloc (.chan (mostTo (frs rs) (t.length + 1) (frs rs).length) #[] false 0 0 false)).heap[k]? := fun k hk => by
        rw [Below.heap_setCell _ _ _ _ (by show k ≠ w.heap.size + 1; omega), Below.heap_setCell _ _ _ _ (by show k ≠ w.heap.size + 1; omega), Below.heap_setCell _ _ _ _ (by show k ≠ w.heap.size + 1; omega), Below.heap_setCell _ _ _ _ (by show k ≠ w.heap.size + 1; omega), Below.heap_setCell _ _ _ _ (by show k ≠ w.heap.size + 1; omega), Below.heap_setCell _ _ _ _ (by show k ≠ w.heap.size + 1; omega)]
      have B8 := HBB7.out.trans ((al1 w7 (.chan (mostTo (frs rs) (t.length + 1) (frs rs).length) #[] false 0 0 false)).mono (by omega))
      have G8 := ((((((HGR.out.below B8 (by omega)).away (p := ⟨w.heap.size + 1, 0, none⟩) (by show hi ≤ w.heap.size + 1; omega) (by show w.heap.size + 1 < w2.heap.size; omega) (.slice Ax (frs rs).length cx)).away (p := ⟨w.heap.size + 1, 1, none⟩) (by show hi ≤ w.heap.size + 1; omega) (by show w.heap.size + 1 < w2.heap.size; omega) (.slice B t.length d)).away (p := ⟨w.heap.size + 1, 2, none⟩) (by show hi ≤ w.heap.size + 1; omega) (by show w.heap.size + 1 < w2.heap.size; omega) (.map (some wr.heap.size))).away (p := ⟨w.heap.size + 1, 3, none⟩) (by show hi ≤ w.heap.size + 1; omega) (by show w.heap.size + 1 < w2.heap.size; omega) (.map (some (wr.heap.size + 1)))).away (p := ⟨w.heap.size + 1, 4, none⟩) (by show hi ≤ w.heap.size + 1; omega) (by show w.heap.size + 1 < w2.heap.size; omega) (.map (some (wr.heap.size + 1 + 1)))).away (p := ⟨w.heap.size + 1, 5, none⟩) (by show hi ≤ w.heap.size + 1; omega) (by show w.heap.size + 1 < w2.heap.size; omega) (.chan (some w7.heap.size))
      have hrl8 := G8.rules (hi := wr.heap.size) (by omega) (fun g hg => HGR.out.lt hg)
      rw [HFR.out, HLX.out] at hrl8
      have BF := ((((((HBA.out.trans (B8.mono (by omega))).setCell (p := ⟨w.heap.size + 1, 0, none⟩) (by show w.heap.size ≤ w.heap.size + 1; omega) (.slice Ax (frs rs).length cx)).setCell (p := ⟨w.heap.size + 1, 1, none⟩) (by show w.heap.size ≤ w.heap.size + 1; omega) (.slice B t.length d)).setCell (p := ⟨w.heap.size + 1, 2, none⟩) (by show w.heap.size ≤ w.heap.size + 1; omega) (.map (some wr.heap.size))).setCell (p := ⟨w.heap.size + 1, 3, none⟩) (by show w.heap.size ≤ w.heap.size + 1; omega) (.map (some (wr.heap.size + 1)))).setCell (p := ⟨w.heap.size + 1, 4, none⟩) (by show w.heap.size ≤ w.heap.size + 1; omega) (.map (some (wr.heap.size + 1 + 1)))).setCell (p := ⟨w.heap.size + 1, 5, none⟩) (by show w.heap.size ≤ w.heap.size + 1; omega) (.chan (some w7.heap.size))
      have hW8 := (HW.out.below BF hh2).more (Nat.le_refl _) (hi' := wr.heap.size) (by omega)
      have HFIN := Lib.hid (And.intro (Sea.made HF.out hrl8 hW8 HB7.out (fun k hk => hdst k (by omega))) BF)
      exact bodyPost_ret (v := .agg #[.slice Ax (frs rs).length cx, .slice B t.length d, .map (some wr.heap.size), .map (some (wr.heap.size + 1)), .map (some (wr.heap.size + 1 + 1)), .chan (some w7.heap.size)]) (by simp [results, Tryz.results64, go_sem, p0, p1, p2, p3, p4, p5]) rfl ⟨_, rfl, HFIN.out.1, by show w.heap.size ≤ wr.heap.size; omega, HFIN.out.2⟩
end Go.Proofs.YtokdhgocgicdnaaGreatDoor

/- What a search that has come to its end tells. No program stands in this text. -/
namespace Go.Proofs.YtokdhgocgicdnaaGreatDoor
open Go.RowKit Go.Maps Go.Conc

section
variable {rs : List RuleD} {t : List ByteArray}
/-- what is known while looks are followed -/
structure On (rs : List RuleD) (t : List ByteArray) (S0 S : St) : Prop where
  inv : Inv rs t S
  done : Done rs t S S.rc
  more : ∀ l ∈ S0.known, l ∈ S.known
theorem followS_more (S : St) (l : Look) : ∀ x ∈ S.known, x ∈ (followS rs t S l).known := by
  intro x hx
  unfold followS
  split
  · unfold findS
    split
    · exact hx
    · exact putAll_mem.2 (.inl hx)
  · split
    · unfold waitS askS
      exact putAll_mem.2 (.inl (putAll_mem.2 (.inl hx)))
    · split
      · exact putS_mem.2 (.inl hx)
      · exact hx
theorem On.step {S0 S : St} (O : On rs t S0 S) (hh : ∀ i (h : i < rs.length), headB rs[i].head = true) (hlt : S.rc < S.known.length) : On rs t S0 (followS rs t (takeS S) S.known[S.rc]) := by
  have I := O.inv.take hlt
  have hm : S.known[S.rc] ∈ (takeS S).known := List.getElem_mem hlt
  refine ⟨I.follow hh hm (Nat.lt_succ_of_le O.inv.nw) (Nat.lt_succ_of_le O.inv.fl), ?_, fun l hl => followS_more _ _ l (O.more l hl)⟩
  rw [followS_rc]
  exact O.done.taken.follow I hlt
theorem Runs.on {S0 S : St} (h : Runs rs t S0 S) (hh : ∀ i (h : i < rs.length), headB rs[i].head = true) (I : Inv rs t S0) (D : Done rs t S0 S0.rc) : On rs t S0 S := by
  induction h with
  | refl => exact ⟨I, D, fun _ h => h⟩
  | step _ hlt ih => exact ih.step hh hlt
theorem Runs.from {S0 S : St} (h : Runs rs t S0 S) (hh : ∀ i (h : i < rs.length), headB rs[i].head = true) (I : Inv rs t S0) (D : Done rs t S0 S0.rc) {st : ByteArray} (F : FromS rs t st S0) : FromS rs t st S := by
  induction h with
  | refl => exact F
  | step h hlt ih =>
    have O := Runs.on h hh I D
    exact FromS.follow (S := takeS _) ⟨ih.ctx⟩ (O.inv.take hlt) (List.getElem_mem hlt)
/-- all was followed that was asked for -/
structure Fin4 (rs : List RuleD) (t : List ByteArray) (S0 S : St) : Prop where
  inv : Inv rs t S
  closed : Closed rs t (· ∈ S.known) (fun h i k => (h, i, k) ∈ S.found)
  more : ∀ l ∈ S0.known, l ∈ S.known
theorem Runs.fin {S0 S : St} (h : Runs rs t S0 S) (hh : ∀ i (h : i < rs.length), headB rs[i].head = true) (I : Inv rs t S0) (D : Done rs t S0 S0.rc) (he : S.rc = S.known.length) : Fin4 rs t S0 S := by
  have O := Runs.on h hh I D
  have d := O.done
  rw [he] at d
  exact ⟨O.inv, d.closed, O.more⟩
/-- what was asked for at a place is found, just if it is come to -/
theorem Fin4.found {S0 S : St} (F : Fin4 rs t S0 S) (hh : ∀ i (h : i < rs.length), headB rs[i].head = true) (ht : ∀ s ∈ t, tokB s = true) {h : ByteArray} (hb : headB h = true) {i : Nat} (ha : ∀ l ∈ asks rs h i, l ∈ S0.known) (k : Nat) : (h, i, k) ∈ S.found ↔ Der (· ∈ rs) t [h] i k := by
  constructor
  · exact fun hm => (F.inv.found h i k hm).2.2
  · exact fun d => F.closed.all hh ht hb (fun r hr e => F.more _ (ha _ (asks_mem.2 ⟨r, hr, e, rfl⟩))) d
/-- where looks end, beginnings end -/
theorem Fin4.ends {S0 S : St} (F : Fin4 rs t S0 S) (hh : ∀ i (h : i < rs.length), headB rs[i].head = true) (ht : ∀ s ∈ t, tokB s = true) {st : ByteArray} (ha : ∀ l ∈ asks rs st 0, l ∈ S0.known) (G : FromS rs t st S) (m : Nat) : (∃ l ∈ S.known, l.at' = m) ↔ Beg (· ∈ rs) t m st 0 := by
  constructor
  · rintro ⟨l, hl, rfl⟩
    exact G.beg F.inv hl
  · intro b
    obtain ⟨l, h1, h2⟩ := F.closed.beg hh ht b (fun r hr e => F.more _ (ha _ (asks_mem.2 ⟨r, hr, e, rfl⟩)))
    exact ⟨l, h1, h2⟩
theorem Done.asked (S : St) (h : ByteArray) (i : Nat) (D : Done rs t S 0) : Done rs t (askS rs S h i) 0 := D.putAll (Nat.zero_le _) _
theorem ctx_start (st : ByteArray) : Ctx rs t st st 0 := fun _ b => b
end
/-- what is come to by fruitful rules is come to by all -/
theorem der_frs {rs : List RuleD} {t : List ByteArray} (ht : ∀ s ∈ t, tokB s = true) {l : List ByteArray} {i k : Nat} : Der (· ∈ frs rs) t l i k ↔ Der (· ∈ rs) t l i k := by
  constructor
  · exact fun d => d.mono fun r hr => (frs_mem.1 hr).1
  · exact fun d => (d.good ht).mono fun r hr => frs_mem.2 hr
/-- a search from the start on that has come to its end -/
def Started (rs : List RuleD) (t : List ByteArray) (S : St) : Prop := Fin4 (frs rs) t (askS (frs rs) St.none (ruleAt rs 0).head 0) S ∧ FromS (frs rs) t (ruleAt rs 0).head S
theorem Started.of {rs : List RuleD} {t : List ByteArray} (F : Fits (frs rs) t) {S : St} (h : Runs (frs rs) t (askS (frs rs) St.none (ruleAt rs 0).head 0) S) (he : S.rc = S.known.length) : Started rs t S := by
  have I : Inv (frs rs) t (askS (frs rs) St.none (ruleAt rs 0).head 0) := Inv.none.ask (Nat.zero_le _)
  have D : Done (frs rs) t (askS (frs rs) St.none (ruleAt rs 0).head 0) (askS (frs rs) St.none (ruleAt rs 0).head 0).rc := by
    unfold askS
    rw [(putAll_rest _ _).1]
    exact Done.none.asked St.none _ _
  exact ⟨h.fin F.head I D he, h.from F.head I D (FromS.none.ask (ctx_start _))⟩
theorem asks_in {rs : List RuleD} {h : ByteArray} {T : St} : ∀ l ∈ asks rs h 0, l ∈ (askS rs T h 0).known := fun _ hl => putAll_mem.2 (.inr hl)
section
variable {rs : List RuleD} {t : List ByteArray} {S : St} (F : Fits (frs rs) t) (h : Started rs t S) (hb : headB (ruleAt rs 0).head = true)
include F h
include hb
theorem Started.found (k : Nat) : ((ruleAt rs 0).head, 0, k) ∈ S.found ↔ Der (· ∈ rs) t [(ruleAt rs 0).head] 0 k :=
  (h.1.found F.head F.tok hb asks_in k).trans (der_frs F.tok)
omit hb in
theorem Started.ends (m : Nat) : (∃ l ∈ S.known, l.at' = m) ↔ Beg (· ∈ frs rs) t m (ruleAt rs 0).head 0 := h.1.ends F.head F.tok asks_in h.2 m
end
end Go.Proofs.YtokdhgocgicdnaaGreatDoor
