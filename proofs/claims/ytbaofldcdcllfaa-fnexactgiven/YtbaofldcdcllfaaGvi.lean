/- The Mades of the useful Rules: impl.given, impl.Given. -/
import Derived.Test.YtbaofldcdcllfaaJGvd
import Derived.Test.YtbaofldcdcllfaaRnm
namespace Go.Proofs.Ytbaofldcdcllfaa
open Go.RowKit

theorem givenOf_len (rs : List RuleD) : (givenOf rs).length = (useOf rs).length := by simp [givenOf]
theorem givenOf_at (rs : List RuleD) (k : Nat) (h : k < (useOf rs).length) : (givenOf rs)[k]'(by rw [givenOf_len]; exact h) = givenD rs (useOf rs)[k] := by simp [givenOf]
theorem useOf_lt {rs : List RuleD} : ∀ i ∈ useOf rs, i < rs.length := fun i hi => by
  cases hq : gramB rs
  · rw [useOf_f hq] at hi; simp at hi
  · rw [useOf_t hq] at hi; exact useIx_lt i hi
theorem rule_len5 {rs : List RuleD} {n : Nat} (h : n ∈ useOf rs) : (ruleAt rs n).body.length ≤ 5 := by
  cases hq : gramB rs
  · rw [useOf_f hq] at h; simp at h
  · have := (Rt.of hq).len n (useOf_lt n h)
    rw [ruleAt_eq (useOf_lt n h)]
    exact this

set_option maxRecDepth 100000 in
set_option maxHeartbeats 8000000 in
theorem given_any (v : Value) (rs : List RuleD) (lo hi : Nat) (w : World) (h : Rules w lo hi v rs) (hhi : hi ≤ w.heap.size) :
    Calls Try.prog 40 #[.agg #[v]] w fun e w' => ∃ u, e = .returned u ∧ DM true w' 0 w'.heap.size u (givenOf rs) ∧ Below w.heap.size w w' := by
  obtain ⟨i0, hi0, hz0, hz1, hz2⟩ := info_parts Try.infoMadeR
  obtain ⟨j0, hj0, hy0, hy1, hy2⟩ := info_parts Try.infoTermR
  have HV := Lib.hid h
  obtain ⟨A, c, rfl, hlc, hc, hcell⟩ := h
  have HC := Lib.hid hcell
  unfold maxLen at hc
  clear hcell
  have ha := al1 w (.cells #[.slice A rs.length c] 41)
  have R0 := Row.made w 41 #[.slice A rs.length c]
  go_enter Try.func40, Try.ntmps40
  go_wp2_with fail
  refine (implUseful_any rs _ lo hi _ (HV.out.below ha hhi) (by simp; omega)).mono ?_
  rintro e w1 ⟨x, gI, rfl, hown, hgI, b1⟩
  have z1 : w.heap.size < w1.heap.size := by have := b1.size; simp at this; omega
  have B1 : Below w.heap.size w w1 := ha.trans (b1.mono (by simp))
  have R1 := R0.below b1 (by simp)
  have hIA : IntsAt w1 0 w1.heap.size x (usefulOf rs) := hown.strs fun hn => ⟨Nat.zero_le _, (hgI hn).2⟩
  have hUL : (usefulOf rs).length = (useOf rs).length := by unfold usefulOf; rw [List.length_map]
  have hU20 := useOf_few rs
  obtain ⟨Ax, cx, rfl, hlx, hcx, hxc⟩ := hIA
  rw [hUL] at hlx ⊢
  have HXC : Hid (∀ k (hk : k < (useOf rs).length), ∃ b off, Ax = some ⟨b, off, none⟩ ∧ b < w1.heap.size ∧ w1.cell? ⟨b, off + k, none⟩ = some (.int .i64 ((useOf rs)[k] : Int))) := Lib.hid fun k hk => by
    obtain ⟨b, off, e, _, hb, hcc⟩ := hxc (by rw [hUL]; omega)
    refine ⟨b, off, e, hb, ?_⟩
    rw [hcc k (by rw [hUL]; exact hk)]
    simp [usefulOf]
  unfold maxLen at hcx
  have HB1 := Lib.hid B1
  have HR1 := Lib.hid R1
  clear hown hgI b1 R0 ha hxc hUL B1 R1
  go_wp2
  go_loopw [3, 5, 6, 7, 8, 12, 26] (fun v3 _ _ _ _ i _ wr => ∃ (k : Nat) (xs : List Gx), k ≤ (useOf rs).length ∧ i = .int .i64 k ∧ xs.map (·.m) = (givenOf rs).take k ∧ GrowF wr w1.heap.size v3 xs ∧ Below w1.heap.size w1 wr) (fun _ _ _ _ _ i _ _ => (useOf rs).length - (intOf i).toNat)
  case atStart => exact ⟨0, [], by omega, rfl, rfl, GrowF.nil _ _, Below.refl _ _⟩
  case round =>
    obtain ⟨k, xs, hk, rfl, hxs, hG, hbw⟩ := hrel
    have hsw := hbw.size
    by_cases hlt : k < (useOf rs).length
    · obtain ⟨bx, offx, rfl, hbx, hxc⟩ := HXC.out k hlt
      have hn := useOf_lt _ (List.getElem_mem hlt)
      have h5 := rule_len5 (List.getElem_mem hlt)
      obtain ⟨b, off, rfl, _, hbh, hcc⟩ := HC.out (by omega)
      obtain ⟨hhs, d0, u, d1, hst⟩ := hcc (useOf rs)[k] hn
      have HGV := Lib.hid (givenOf_at rs k hlt)
      have hRA := ruleAt_eq hn
      rw [hRA] at h5
      have hxn := (hbw.cell (p := ⟨bx, offx + k, none⟩) hbx).trans hxc
      have hbW := HB1.out.trans (hbw.mono (by omega))
      have e0 := (hbW.cell (p := ⟨b, off + (useOf rs)[k] * 2, none⟩) (by show b < _; omega)).trans d0
      have e1 := (hbW.cell (p := ⟨b, off + (useOf rs)[k] * 2 + 1, none⟩) (by show b < _; omega)).trans d1
      have cG := (HR1.out.below hbw z1).cell 0
      simp at cG
      have HST := Lib.hid (hst.below hbW hhi)
      have HRA := Lib.hid hRA
      generalize hR : rs[(useOf rs)[k]] = r at e0 e1 HST h5 HRA hhs hst
      generalize hI : (useOf rs)[k] = n at hxn e0 e1 hn HRA HGV
      obtain ⟨Ar, cr, rfl, -⟩ := hst
      have q1 : (k : Int) < ((useOf rs).length : Int) := by omega
      have q2 : (n : Int) < (rs.length : Int) := by omega
      have a6 := al2 wr (.cells #[.string r.head, .slice Ar r.body.length cr] 101) (.cells #[.int .i64 1, .int .i64 (n : Int), .slice none 0 0] 69)
      have R6 : Row ((wr.alloc (.cells #[.string r.head, .slice Ar r.body.length cr] 101)).alloc (.cells #[.int .i64 1, .int .i64 (n : Int), .slice none 0 0] 69)) wr.heap.size 101 #[.string r.head, .slice Ar r.body.length cr] := (Row.made wr _ _).alloc _
      have R7 : Row ((wr.alloc (.cells #[.string r.head, .slice Ar r.body.length cr] 101)).alloc (.cells #[.int .i64 1, .int .i64 (n : Int), .slice none 0 0] 69)) (wr.heap.size + 1) 69 #[.int .i64 1, .int .i64 (n : Int), .slice none 0 0] := by
        simpa using Row.made (wr.alloc (.cells #[.string r.head, .slice Ar r.body.length cr] 101)) 69 #[.int .i64 1, .int .i64 (n : Int), .slice none 0 0]
      have HGX := Lib.hid (hG.below hsw a6)
      have HBX := Lib.hid (hbw.trans (a6.mono hsw))
      have HSX := Lib.hid (HST.out.below a6 (by omega))
      have HG9 : Hid (∀ q, u3.ownBlock = some q → q < wr.heap.size) := Lib.hid fun q hq => (hG.row.lt q hq).2
      have HG8 : Hid (∀ y ∈ xs, y.h ≤ wr.heap.size) := Lib.hid fun y hy => (hG.each y hy).ord.2.2.2
      have hzz : ((wr.alloc (.cells #[.string r.head, .slice Ar r.body.length cr] 101)).alloc (.cells #[.int .i64 1, .int .i64 (n : Int), .slice none 0 0] 69)).heap.size = wr.heap.size + 2 := by simp
      clear d0 d1 hcc hxc hG hbw a6 hRA
      go_wp2
      generalize (wr.alloc (.cells #[.string r.head, .slice Ar r.body.length cr] 101)).alloc (.cells #[.int .i64 1, .int .i64 (n : Int), .slice none 0 0] 69) = wx at R6 R7 HGX HBX HSX hzz ⊢
      have HZZ := Lib.hid hzz
      generalize hp : wr.heap.size = p6 at *
      have HXX := Lib.hid hxs
      clear hzz hxn e0 e1 cG hxs
      go_loopw [8, 26] (fun _ i wr' => ∃ (j : Nat) (Bv : Option Addr) (dv : Nat), j ≤ r.body.length ∧ i = .int .i64 j ∧ Row wr' (p6 + 1) 69 #[.int .i64 1, .int .i64 (n : Int), .slice Bv j dv] ∧ wr'.ownsRow wx.heap.size 69 3 (.slice Bv j dv) j (flatV j) ∧ Mid (p6 + 1) (p6 + 1 + 1) wx wr') (fun _ i _ => r.body.length - (intOf i).toNat)
      case atStart => exact ⟨0, none, 0, by omega, rfl, R7, World.ownsRow_nil _ _ _ _, Mid.refl _ _ _⟩
      case round =>
        obtain ⟨j, Bv, dv, hj, rfl, RG, stb, hmid⟩ := hrel
        have hsz2 := hmid.size
        have hzx := HZZ.out
        by_cases hjl : j < r.body.length
        · have HOC : Hid (∀ wc : World, Below wr.heap.size wr wc → wc.ownsRow wx.heap.size 69 3 (.slice Bv j dv) j (flatV j) ∧ Row wc (p6 + 1) 69 #[.int .i64 1, .int .i64 (n : Int), .slice Bv j dv]) :=
            Lib.hid fun wc bb => ⟨own_keep stb fun q hq => bb.block q (stb.lt q hq).2, RG.below bb (by omega)⟩
          have HRG := Lib.hid RG
          have HST2 := Lib.hid stb
          have HMI := Lib.hid hmid
          have lg1 : p6 + 1 < wr.heap.size := by omega
          have lg2 : p6 + 1 < wr.drew.heap.size := lg1
          have gc1 := RG.cell 2
          simp at gc1
          have gc2 : wr.drew.cell? ⟨p6 + 1, 2, none⟩ = some (.slice Bv j dv) := gc1
          have hjn : (0 : Int) ≤ (j : Int) := by omega
          clear stb RG hmid hzx
          go_wp2
          go_region_law (first
            | (refine step_append_lies _ (by rfl) _ _ _ (by rfl) wx.heap.size 69 j0 _ 3 40 Try.underlying67 hj0 hy0 hy1 hy2 rfl (by omega) (.slice Bv j dv) j (flatV j) (by rfl) (World.ownsRow.alloc (HOC.out wc bd).1 _) ⟨wc.heap.size, 0, none⟩ 1 1 [.int .i64 2, .int .i64 (j : Int), .slice none 0 0] (by rfl) (by rfl) (term_news _ _ _ _) (term_one _ _ _ _ _) (by omega) (by unfold maxLen; omega) (by omega) (by simp; omega) (wc.heap.size + 1) (by simp) ?_; intro gg capg w6 hown6 hg6 hat6 hlt6; have R9 : Row w6 (p6 + 1) 69 #[.int .i64 1, .int .i64 (n : Int), .slice Bv j dv] := ((HOC.out wc bd).2.alloc (.cells #[.int .i64 2, .int .i64 (j : Int), .slice none 0 0] 69)).same (hg6.block _ (by simp; omega) (fun e => by have := ((HOC.out wc bd).1.lt _ e.symm).1; have := HZZ.out; omega)); have c6 := R9.cell 2; have f6 := R9.free 2; simp at c6)
            | (go_simp; go_at_call 69; refine (variable_any (j : Int) _ hjn (by omega)).mono ?_; rintro e wc ⟨rfl, bc⟩; have bd : Below wr.heap.size wr wc := ⟨bc.os, bc.tape, bc.output, bc.size, bc.block⟩; have lgc := (HOC.out wc bd).2.lt; have gc3 := (HOC.out wc bd).2.cell 2; simp at gc3; have zwc : wx.heap.size ≤ wc.heap.size := by have := bd.size; omega))
          all_goals
            have FIN := Lib.hid (OneV.step (by have := HZZ.out; omega) HRG.out HST2.out HMI.out bd hown6 ⟨hg6.os, hg6.tape, hg6.output, hg6.size, hg6.block⟩)
            clear hown6 hg6 hat6 hlt6 R9 c6 f6 bc bd
            go_wp2
            go_roundw
            case rel => exact ⟨j + 1, _, _, by omega, by go_num, FIN.out.1, FIN.out.2.1, FIN.out.2.2⟩
            case measure => simp [intOf]; omega
        · have hjk : j = r.body.length := by omega
          subst hjk
          have hkv := (vars_oi stb (by omega)).more (show p6 + 2 ≤ wx.heap.size by omega) (Nat.le_refl _)
          have k7 := RG.cell 0
          have k8 := RG.cell 1
          have k9 := RG.cell 2
          have R6w := R6.same (w' := wr) (hmid.block p6 (by omega) (by omega))
          have k5 := R6w.cell 0
          have k6 := R6w.cell 1
          simp at k5 k6 k7 k8 k9
          have hGr : GrowF wr w1.heap.size u3 xs := HGX.out.move hsz2 (fun q hq => hmid.block q (HGX.out.row.lt q hq).2 (by have := HG9.out q hq; omega)) (fun y hy p p1 p2 => hmid.block p (by have := (HGX.out.each y hy).ord; omega) (by have := HG8.out y hy; omega)) fun p _ p2 => hmid.block p (by omega) (by omega)
          have hgd : givenD rs n = ⟨r.head, r.body, .node 1 (n : Int) (varsD r.body.length)⟩ := by unfold givenD; rw [HRA.out]
          have hgx : GyAt wr w1.heap.size ⟨givenD rs n, .slice Ar r.body.length cr, .slice Bv r.body.length dv, 0, p6 + 2, wr.heap.size, wr.heap.size⟩ := by
            rw [hgd]
            refine ⟨hhs, ?_, ⟨lo, hi, HSX.out.keep fun p _ p2 => hmid.block p (by omega) (by omega), .inl (by omega)⟩, hkv, by show w1.heap.size ≤ p6 + 2 ∧ p6 + 2 ≤ wr.heap.size ∧ wr.heap.size ≤ wr.heap.size ∧ wr.heap.size ≤ wr.heap.size; omega⟩
            show TopM (.node 1 (n : Int) (varsD r.body.length))
            unfold TopM
            simp only [TermD.num, TermD.kind]
            omega
          have ga := al1 wr (.cells #[.string r.head, .slice Ar r.body.length cr, .int .i64 1, .int .i64 (n : Int), .slice Bv r.body.length dv] 71)
          have HGA := Lib.hid (hGr.below (by omega) ga)
          have HGY := Lib.hid (hgx.keep (w' := wr.alloc (.cells #[.string r.head, .slice Ar r.body.length cr, .int .i64 1, .int .i64 (n : Int), .slice Bv r.body.length dv] 71)) (by simp) (fun p _ p2 => ga.block p (by omega)) fun p p1 p2 => ga.block p p2)
          have hxl : xs.length ≤ 20 := by have := congrArg List.length HXX.out; rw [List.length_map, List.length_take, givenOf_len] at this; omega
          have hw1 : w1.heap.size ≤ wr.heap.size := by omega
          have HMI := Lib.hid hmid
          have HGD := Lib.hid hgd
          clear hGr hgx ga hmid RG stb hkv R6w hzx hgd
          go_wp2_with (at_builtin; refine wpList_append_lies _ rfl _ _ 37 rfl w1.heap.size 71 i0 _ 5 80 Try.underlying37 hi0 hz0 hz1 hz2 rfl (by decide) u3 xs.length (flatD xs) rfl HGA.out.row ⟨wr.heap.size, 0, none⟩ 1 1 [.string r.head, .slice Ar r.body.length cr, .int .i64 1, .int .i64 (n : Int), .slice Bv r.body.length dv] rfl rfl (made_news _ _ _ _ _ _) (made_one _ _ _ _ _ _ _ _ _) (by omega) (by unfold maxLen; omega) (by omega) (by simp; omega) (wr.heap.size + 1) (by simp) ?_)
          intro gg capg w6 hown6 hg6 hat6 hlt6
          have FIN : Hid (GrowF w6 w1.heap.size (.slice (some ⟨gg, 0, none⟩) (xs.length + 1) capg) (xs ++ [⟨givenD rs n, .slice Ar r.body.length cr, .slice Bv r.body.length dv, 0, p6 + 2, wr.heap.size, wr.heap.size⟩]) ∧ Below w1.heap.size w1 w6) := Lib.hid (by
            refine ⟨HGA.out.snoc HGY.out (fun y hy => by have := HG8.out y hy; show y.h ≤ p6 + 2; omega) (fun q hq => by have := HG9.out q hq; show q < p6 + 2; omega) (by unfold Gx.cells; rw [HGD.out]; exact hown6) hg6 (by rw [show (wr.alloc (.cells #[.string r.head, .slice Ar r.body.length cr, .int .i64 1, .int .i64 (n : Int), .slice Bv r.body.length dv] 71)).heap.size = wr.heap.size + 1 by simp]; exact hat6), ?_⟩
            have hzx := HZZ.out
            have b1 : Below w1.heap.size w1 wr := HBX.out.trans ((HMI.out.below (by omega)).mono (by omega))
            exact Tx.below_grown (b1.trans ((al1 wr _).mono (by omega))) HGA.out.row hg6 (by simp; omega) (Nat.le_refl _))
          have HX2 : Hid ((xs ++ [(⟨givenD rs n, .slice Ar r.body.length cr, .slice Bv r.body.length dv, 0, p6 + 2, wr.heap.size, wr.heap.size⟩ : Gx)]).map (·.m) = (givenOf rs).take (k + 1)) := Lib.hid (by
            rw [List.map_append, HXX.out, List.take_succ_eq_append_getElem (by rw [givenOf_len]; exact hlt), HGV.out]; rfl)
          clear hown6 hg6 hat6 hlt6
          go_wp2
          go_roundw
          case rel => exact ⟨k + 1, _, by omega, by go_num, HX2.out, FIN.out.1, FIN.out.2⟩
          case measure => simp [intOf]; omega
    · have hks : k = (useOf rs).length := by omega
      subst hks
      rw [← givenOf_len, List.take_length] at hxs
      have FIN := Lib.hid (And.intro (hxs ▸ hG.dm) (HB1.out.trans (hbw.mono (by omega))))
      have hv3 : ∃ A c, u3 = .slice A xs.length c := by
        rcases hG.row.2 with ⟨rfl, h0⟩ | ⟨g, cap, cur, rfl, _⟩
        · exact ⟨_, _, by rw [h0]⟩
        · exact ⟨_, _, rfl⟩
      obtain ⟨A3, c3, rfl⟩ := hv3
      clear hG hbw hxs
      go_wp2
      go_ret
      exact ⟨_, rfl, FIN.out.1, FIN.out.2⟩

theorem given_bulk (rs : List RuleD) : bulkDs (givenOf rs) ≤ 2097152 := by
  have h1 : ∀ n ∈ useOf rs, bulkD (givenD rs n) ≤ 5 + ((ruleAt rs n).head.size + bulkS (ruleAt rs n).body) := fun n hn => by
    have := rule_len5 hn
    show (ruleAt rs n).head.size + bulkS (ruleAt rs n).body + sizeMs (varsD (ruleAt rs n).body.length) ≤ _
    rw [varsD_size]
    omega
  have h2 : ∀ n ∈ useOf rs, bulkD (givenD rs n) ≤ 40 := fun n hn => by
    cases hq : gramB rs
    · rw [useOf_f hq] at hn; simp at hn
    · have hl := useOf_lt n hn
      have hs := Tx.short_of (((gramB_iff rs).1 hq).2.2 n hl)
      have h3 := h1 n hn
      rw [ruleAt_eq hl] at h3
      obtain ⟨s1, s2, s3⟩ := hs
      have h4 := Tx.symsT_len s3 rs[n].body.length (Nat.le_refl _)
      rw [List.take_length] at h4
      have h5 : (Tx.symsT rs[n].body).length = bulkS rs[n].body := by
        clear h4 s3 s2 s1 h3
        induction rs[n].body with
        | nil => rfl
        | cons s ss ih =>
          have e : (s.data.toList).length = s.size := rfl
          unfold Tx.symsT at ih ⊢
          unfold bulkS sizes at ih ⊢
          simp only [List.flatMap_cons, List.length_append, List.length_cons, List.map_cons, List.sum_cons, ih, e]
          omega
      omega
  have h3 : ∀ l : List Nat, (∀ n ∈ l, bulkD (givenD rs n) ≤ 40) → ((l.map (givenD rs)).map bulkD).sum ≤ 40 * l.length := fun l hl => by
    induction l with
    | nil => simp
    | cons n l ih =>
      have a := hl n List.mem_cons_self
      have b := ih fun m hm => hl m (List.mem_cons_of_mem _ hm)
      simp only [List.map_cons, List.sum_cons, List.length_cons]
      omega
  have h4 := h3 (useOf rs) h2
  have h5 := useOf_few rs
  unfold bulkDs
  rw [givenOf_len]
  unfold givenOf
  omega
set_option maxRecDepth 100000 in
set_option maxHeartbeats 1000000 in
theorem implGiven_any (v : Value) (rs : List RuleD) (lo hi : Nat) (w : World) (h : Rules w lo hi v rs) (hhi : hi ≤ w.heap.size) :
    Calls Try.prog 15 #[.agg #[v]] w fun e w' => ∃ u xs b0, e = .returned u ∧ xs.map (·.m) = givenOf rs ∧ GrowD w' b0 u xs ∧ w.heap.size ≤ b0 ∧ b0 ≤ w'.heap.size ∧ Below w.heap.size w w' := by
  have HV := Lib.hid h
  obtain ⟨A, c, rfl, -⟩ := h
  have ha := al1 w (.cells #[.slice A rs.length c] 41)
  go_enter Try.func15, Try.ntmps15
  go_wp2_with fail
  refine (given_any _ rs lo hi _ (HV.out.below ha hhi) (by simp; omega)).mono ?_
  rintro e w1 ⟨u, rfl, hdm, b1⟩
  have B1 : Below w.heap.size w w1 := ha.trans (b1.mono (by simp))
  have z1 := B1.size
  have HDM := Lib.hid hdm
  obtain ⟨A1, c1, rfl, -⟩ := hdm
  clear ha b1
  go_wp2_with fail
  refine (renewMades_any _ (givenOf rs) 0 _ _ HDM.out (Nat.le_refl _) (given_bulk rs)).mono ?_
  rintro e w2 ⟨u2, xs, rfl, hxs, hG, hz, b2⟩
  have FIN := Lib.hid (And.intro hxs (And.intro hG (B1.trans (b2.mono z1))))
  have hv : ∃ A c, u2 = .slice A xs.length c := by
    rcases hG.row.2 with ⟨rfl, h0⟩ | ⟨g, cap, cur, rfl, _⟩
    · exact ⟨_, _, by rw [h0]⟩
    · exact ⟨_, _, rfl⟩
  obtain ⟨A2, c2, rfl⟩ := hv
  clear hG hxs b2
  go_wp2
  go_ret
  exact ⟨_, xs, _, rfl, FIN.out.1, FIN.out.2.1, by omega, by omega, FIN.out.2.2⟩
end Go.Proofs.Ytbaofldcdcllfaa
