/- The Mades of the useful Rules, of the model: l07Given, Given. -/
import Derived.Test.YtbaofldcdcllfaaGvi
import Derived.Test.YtbaofldcdcllfaaJSortS
import Derived.Test.YtbaofldcdcllfaaUseS
namespace Go.Proofs.Ytbaofldcdcllfaa
open Go.RowKit

set_option maxRecDepth 100000 in
set_option maxHeartbeats 8000000 in
theorem l07Given_any (v : Value) (rs : List RuleD) (lo hi : Nat) (w : World) (h : Rules w lo hi v rs) (hhi : hi ≤ w.heap.size) (hq : gramB rs = true) :
    Calls Try.prog 37 #[.agg #[v]] w fun e w' => ∃ u, e = .returned u ∧ DM true w' 0 w'.heap.size u (givenOf rs) ∧ Below w.heap.size w w' := by
  obtain ⟨i0, hi0, hz0, hz1, hz2⟩ := info_parts Try.infoMadeR
  obtain ⟨j0, hj0, hy0, hy1, hy2⟩ := info_parts Try.infoTermR
  obtain ⟨s0, hs0, hx0, hx1, hx2⟩ := info_parts Try.infoStr
  have HV := Lib.hid h
  obtain ⟨A, c, rfl, hlc, hc, hcell⟩ := h
  have HC := Lib.hid hcell
  unfold maxLen at hc
  clear hcell
  have ha := al2 w (.cells #[.slice A rs.length c] 41) (.cells #[] 71)
  have R0 : Row ((w.alloc (.cells #[.slice A rs.length c] 41)).alloc (.cells #[] 71)) w.heap.size 41 #[.slice A rs.length c] := (Row.made w _ _).alloc _
  have HO0 : Hid (((w.alloc (.cells #[.slice A rs.length c] 41)).alloc (.cells #[] 71)).ownsRow (w.heap.size + 1) 71 5 (.slice (some ⟨w.heap.size + 1, 0, none⟩) 0 0) 0 []) := Lib.hid (by
    have := World.ownsRow_lit (w.alloc (.cells #[.slice A rs.length c] 41)) (base := w.heap.size + 1) (e := 71) (size := 5) #[] 0 (by simp) (by unfold maxLen; omega) rfl
    simpa using this)
  go_enter Try.func37, Try.ntmps37
  go_wp2_with fail
  refine (specL03Useful_any rs _ lo hi _ (HV.out.below ha hhi) (by simp; omega) hq).mono ?_
  rintro e w1 ⟨x, gI, rfl, hown, hgI, b1⟩
  have z1 : w.heap.size + 2 ≤ w1.heap.size := by have := b1.size; simpa using this
  have B1 : Below w.heap.size w w1 := ha.trans (b1.mono (by simp; omega))
  have R1 := R0.below b1 (by simp; omega)
  have HO1 : Hid (w1.ownsRow (w.heap.size + 1) 71 5 (.slice (some ⟨w.heap.size + 1, 0, none⟩) 0 0) 0 []) := Lib.hid (own_keep HO0.out fun q hq' => b1.block q (HO0.out.lt q hq').2)
  have hrow1 : ∃ cur, Row w1 (w.heap.size + 1) 71 cur := by
    rcases HO1.out.2 with ⟨hh, _⟩ | ⟨g, cap, cur, hh, _, hc2, _⟩
    · cases hh
    · injection hh with hh _ _
      injection hh with hh
      injection hh with hh _
      exact ⟨cur, by rw [hh]; exact hc2⟩
  have hUL : (usefulOf rs).length = (useOf rs).length := by unfold usefulOf; rw [List.length_map]
  have hU20 := useOf_few rs
  obtain ⟨Ax, cx, rfl, hlx, hcx, hxc⟩ := hown
  rw [hUL] at hlx ⊢
  have HXC : Hid (∀ k (hk : k < (useOf rs).length), ∃ b off, Ax = some ⟨b, off, none⟩ ∧ b < w1.heap.size ∧ b ≠ w.heap.size + 1 ∧ w1.cell? ⟨b, off + k, none⟩ = some (.int .i64 ((useOf rs)[k] : Int))) := Lib.hid fun k hk => by
    obtain ⟨off, curx, e, hrx, hcc⟩ := hxc (by rw [hUL]; omega)
    obtain ⟨cur1, hr1⟩ := hrow1
    refine ⟨gI, off, e, hrx.lt, hrx.apart hr1 (by decide), ?_⟩
    rw [hrx.cell, hcc k (by rw [hUL]; exact hk)]
    simp [usefulOf]
  unfold maxLen at hcx
  have HB1 := Lib.hid B1
  have HR1 := Lib.hid R1
  clear hgI b1 R0 ha hxc hUL B1 R1 hrow1
  go_wp2
  go_loopw [3, 5, 6, 7, 8] (fun v3 i _ _ _ wr => ∃ (k : Nat) (xs : List Gx), k ≤ (useOf rs).length ∧ i = .int .i64 k ∧ xs.map (·.m) = (givenOf rs).take k ∧ GrowF wr (w.heap.size + 1) v3 xs ∧ (∀ q, v3.ownBlock = some q → q = w.heap.size + 1 ∨ w1.heap.size ≤ q) ∧ (∀ y ∈ xs, w1.heap.size ≤ y.l) ∧ Mid (w.heap.size + 1) (w.heap.size + 1 + 1) w1 wr) (fun _ i _ _ _ _ => (useOf rs).length - (intOf i).toNat)
  case atStart => exact ⟨0, [], by omega, rfl, rfl, ⟨HO1.out, by simp, List.Pairwise.nil, by simp⟩, (fun q hq => .inl (by simpa [Value.ownBlock] using hq.symm)), by simp, Mid.refl _ _ _⟩
  case round =>
    obtain ⟨k, xs, hk, rfl, hxs, hG, hvo, hyl, hbm⟩ := hrel
    have hsw := hbm.size
    by_cases hlt : k < (useOf rs).length
    · obtain ⟨bx, offx, rfl, hbx, hbn, hxc⟩ := HXC.out k hlt
      have hn := useOf_lt _ (List.getElem_mem hlt)
      have h5 := rule_len5 (List.getElem_mem hlt)
      obtain ⟨b, off, rfl, _, hbh, hcc⟩ := HC.out (by omega)
      obtain ⟨hhs, d0, u, d1, hst⟩ := hcc (useOf rs)[k] hn
      have HGV := Lib.hid (givenOf_at rs k hlt)
      have hRA := ruleAt_eq hn
      rw [hRA] at h5
      have hxn := (World.cell?_of_block (a := ⟨bx, offx + k, none⟩) (hbm.block bx hbx (by omega))).trans hxc
      have hbW : Below w.heap.size w wr := HB1.out.trans ((hbm.below (by omega)).mono (by omega))
      have e0 := (hbW.cell (p := ⟨b, off + (useOf rs)[k] * 2, none⟩) (by show b < _; omega)).trans d0
      have e1 := (hbW.cell (p := ⟨b, off + (useOf rs)[k] * 2 + 1, none⟩) (by show b < _; omega)).trans d1
      have cG := (HR1.out.same (hbm.block w.heap.size (by omega) (by omega))).cell 0
      simp at cG
      have HST := Lib.hid (hst.below hbW hhi)
      have HRA := Lib.hid hRA
      generalize hR : rs[(useOf rs)[k]] = r at e0 e1 HST h5 HRA hhs hst
      generalize hI : (useOf rs)[k] = n at hxn e0 e1 hn HRA HGV
      obtain ⟨Ar, cr, rfl, -⟩ := hst
      have q1 : (k : Int) < ((useOf rs).length : Int) := by omega
      have q2 : (n : Int) < (rs.length : Int) := by omega
      have q3 : b < wr.heap.size := by omega
      have q4 : bx < wr.heap.size := by omega
      have q5 : w.heap.size < wr.heap.size := by omega
      have HGW := Lib.hid hG
      have HBM := Lib.hid hbm
      have HXX := Lib.hid hxs
      have HVO := Lib.hid hvo
      have HYL := Lib.hid hyl
      clear d0 d1 hcc hxc hG hbm hRA hxs hvo hyl hbW
      go_wp2
      go_region
      have a6 : Below wr.heap.size wr (((wr.alloc (.cells #[.string r.head, .slice Ar r.body.length cr] 101)).alloc (.cells #[.int .i64 1, .int .i64 (n : Int), .slice none 0 0] 69)).drew) := (al2 wr _ _).drew
      have R6 : Row (((wr.alloc (.cells #[.string r.head, .slice Ar r.body.length cr] 101)).alloc (.cells #[.int .i64 1, .int .i64 (n : Int), .slice none 0 0] 69)).drew) wr.heap.size 101 #[.string r.head, .slice Ar r.body.length cr] := (Row.made wr _ _).alloc _
      have R7 : Row (((wr.alloc (.cells #[.string r.head, .slice Ar r.body.length cr] 101)).alloc (.cells #[.int .i64 1, .int .i64 (n : Int), .slice none 0 0] 69)).drew) (wr.heap.size + 1) 69 #[.int .i64 1, .int .i64 (n : Int), .slice none 0 0] := by
        have h := Row.made (wr.alloc (.cells #[.string r.head, .slice Ar r.body.length cr] 101)) 69 #[.int .i64 1, .int .i64 (n : Int), .slice none 0 0]
        rw [show (wr.alloc (.cells #[.string r.head, .slice Ar r.body.length cr] 101)).heap.size = wr.heap.size + 1 by simp] at h
        exact h
      have hzz : (((wr.alloc (.cells #[.string r.head, .slice Ar r.body.length cr] 101)).alloc (.cells #[.int .i64 1, .int .i64 (n : Int), .slice none 0 0] 69)).drew).heap.size = wr.heap.size + 2 := by show ((wr.alloc _).alloc _).heap.size = _; simp
      have hxn2 : ((wr.alloc (.cells #[.string r.head, .slice Ar r.body.length cr] 101)).drew).cell? ⟨bx, offx + k, none⟩ = some (.int .i64 (n : Int)) := ((al1 wr _).cell (p := ⟨bx, offx + k, none⟩) q4).trans hxn
      have HGX := Lib.hid (HGW.out.below (by omega) a6)
      have HSX := Lib.hid (HST.out.below a6 (by omega))
      have HBY : Hid (∀ p, p < w1.heap.size → p ≠ w.heap.size + 1 → (((wr.alloc (.cells #[.string r.head, .slice Ar r.body.length cr] 101)).alloc (.cells #[.int .i64 1, .int .i64 (n : Int), .slice none 0 0] 69)).drew).heap[p]? = w1.heap[p]?) := Lib.hid fun p h1 h2 => (a6.block p (by omega)).trans (HBM.out.block p h1 (by omega))
      have HBO := Lib.hid (And.intro (a6.os.trans HBM.out.os) (And.intro (a6.tape.trans HBM.out.tape) (a6.output.trans HBM.out.output)))
      have HG9 : Hid (∀ q, u3.ownBlock = some q → q < wr.heap.size) := Lib.hid fun q hq => (HGW.out.row.lt q hq).2
      have HG8 : Hid (∀ y ∈ xs, y.h ≤ wr.heap.size) := Lib.hid fun y hy => (HGW.out.each y hy).ord.2.2.2
      clear a6 hxn e0 e1 cG q3 q5
      go_wp2
      generalize ((wr.alloc (.cells #[.string r.head, .slice Ar r.body.length cr] 101)).alloc (.cells #[.int .i64 1, .int .i64 (n : Int), .slice none 0 0] 69)).drew = wx at R6 R7 HGX HBY HSX HBO hzz ⊢
      have HZZ := Lib.hid hzz
      have hw6 : w1.heap.size ≤ wr.heap.size := hsw
      generalize hp : wr.heap.size = p6 at *
      clear hzz hxn2
      go_loopw [8] (fun i wr' => ∃ (j : Nat) (Bv : Option Addr) (dv : Nat), j ≤ r.body.length ∧ i = .int .i64 j ∧ Row wr' (p6 + 1) 69 #[.int .i64 1, .int .i64 (n : Int), .slice Bv j dv] ∧ wr'.ownsRow wx.heap.size 69 3 (.slice Bv j dv) j (flatV j) ∧ Mid (p6 + 1) (p6 + 1 + 1) wx wr') (fun i _ => r.body.length - (intOf i).toNat)
      case atStart => exact ⟨0, none, 0, by omega, rfl, R7, World.ownsRow_nil _ _ _ _, Mid.refl _ _ _⟩
      case round =>
        obtain ⟨j, Bv, dv, hj, rfl, RG, stb, hmid⟩ := hrel
        have hsz2 := hmid.size
        have hzx := HZZ.out
        have R6w := R6.same (w' := wr) (hmid.block p6 (by omega) (by omega))
        have k5 := R6w.cell 0
        have k6 := R6w.cell 1
        simp at k5 k6
        by_cases hjl : j < r.body.length
        · have HOC : Hid (∀ wc : World, Below wr.heap.size wr wc → wc.ownsRow wx.heap.size 69 3 (.slice Bv j dv) j (flatV j) ∧ Row wc (p6 + 1) 69 #[.int .i64 1, .int .i64 (n : Int), .slice Bv j dv]) :=
            Lib.hid fun wc bb => ⟨own_keep stb fun q hq => bb.block q (stb.lt q hq).2, RG.below bb (by omega)⟩
          have HRG := Lib.hid RG
          have HST2 := Lib.hid stb
          have HMI := Lib.hid hmid
          have lg1 : p6 + 1 < wr.heap.size := by omega
          have lg2 : p6 + 1 < wr.drew.heap.size := lg1
          have gc1 := RG.cell 2
          simp at gc1
          have gc2 : wr.drew.cell? ⟨p6 + 1, 2, none⟩ = some (.slice Bv j dv) := gc1
          clear stb RG hmid hzx R6w
          go_wp2
          go_region_law (first
            | (refine step_append_lies _ (by rfl) _ _ _ (by rfl) wx.heap.size 69 j0 _ 3 40 Try.underlying67 hj0 hy0 hy1 hy2 rfl (by omega) (.slice Bv j dv) j (flatV j) (by rfl) (World.ownsRow.alloc (HOC.out wc bd).1 _) ⟨wc.heap.size, 0, none⟩ 1 1 [.int .i64 2, .int .i64 (j : Int), .slice none 0 0] (by rfl) (by rfl) (term_news _ _ _ _) (term_one _ _ _ _ _) (by omega) (by unfold maxLen; omega) (by omega) (by simp; omega) (wc.heap.size + 1) (by simp) ?_; intro gg capg w6 hown6 hg6 hat6 hlt6; have R9 : Row w6 (p6 + 1) 69 #[.int .i64 1, .int .i64 (n : Int), .slice Bv j dv] := ((HOC.out wc bd).2.alloc (.cells #[.int .i64 2, .int .i64 (j : Int), .slice none 0 0] 69)).same (hg6.block _ (by simp; omega) (fun e => by have := ((HOC.out wc bd).1.lt _ e.symm).1; have := HZZ.out; omega)); have c6 := R9.cell 2; have f6 := R9.free 2; simp at c6)
            | (go_simp; go_at_call 65; refine (l07Var_any (j : Int) _).mono ?_; rintro e wc ⟨rfl, bc⟩; have bd : Below wr.heap.size wr wc := ⟨bc.os, bc.tape, bc.output, bc.size, bc.block⟩; have lgc := (HOC.out wc bd).2.lt; have gc3 := (HOC.out wc bd).2.cell 2; simp at gc3; have zwc : wx.heap.size ≤ wc.heap.size := by have := bd.size; omega))
          all_goals
            have FIN := Lib.hid (OneV.step (by have := HZZ.out; omega) HRG.out HST2.out HMI.out bd hown6 ⟨hg6.os, hg6.tape, hg6.output, hg6.size, hg6.block⟩)
            clear hown6 hg6 hat6 hlt6 R9 c6 f6 bc bd
            go_wp2
            go_roundw
            case rel => exact ⟨j + 1, _, _, by omega, by go_num, FIN.out.1, FIN.out.2.1, FIN.out.2.2⟩
            case measure => simp [intOf]; omega
        · have hjk : j = r.body.length := by omega
          subst hjk
          have HKV := Lib.hid ((vars_oi stb (by omega)).more (show p6 + 2 ≤ wx.heap.size by omega) (Nat.le_refl _))
          have k7 := RG.cell 0
          have k8 := RG.cell 1
          have k9 := RG.cell 2
          simp at k7 k8 k9
          have HGr : Hid (GrowF wr (w.heap.size + 1) u3 xs) := Lib.hid (HGX.out.move hsz2 (fun q hq => hmid.block q (HGX.out.row.lt q hq).2 (by have := HG9.out q hq; omega)) (fun y hy p p1 p2 => hmid.block p (by have := (HGX.out.each y hy).ord; omega) (by have := HG8.out y hy; omega)) fun p _ p2 => hmid.block p (by omega) (by omega))
          have hgd : givenD rs n = ⟨r.head, r.body, .node 1 (n : Int) (varsD r.body.length)⟩ := by unfold givenD; rw [HRA.out]
          have HGD := Lib.hid hgd
          have HSW : Hid (Strs wr lo hi (.slice Ar r.body.length cr) r.body) := Lib.hid (HSX.out.keep fun p _ p2 => hmid.block p (by omega) (by omega))
          have HLOW : Hid (∀ p, p < w1.heap.size → p ≠ w.heap.size + 1 → wr.heap[p]? = w1.heap[p]?) := Lib.hid fun p h1 h2 => (hmid.block p (by omega) (by omega)).trans (HBY.out p h1 h2)
          have HBO2 := Lib.hid (And.intro (hmid.os.trans HBO.out.1) (And.intro (hmid.tape.trans HBO.out.2.1) (hmid.output.trans HBO.out.2.2)))
          have HWB : Hid (∀ w2 : World, Mid wr.heap.size (wr.heap.size + 1) (wr.drew.alloc (.cells #[] 9)) w2 → Below wr.heap.size wr w2) := Lib.hid fun w2 m => ⟨m.os, m.tape, m.output, by have := m.size; simp at this; omega, fun p hp => by
            rw [m.block p (by simp; omega) (by omega), Below.heap_alloc _ _ _ (by exact hp)]; rfl⟩
          have HE : Hid ((wr.drew.alloc (.cells #[] 9)).ownsRow wr.heap.size 9 1 (.slice (some ⟨wr.heap.size, 0, none⟩) 0 0) 0 []) := Lib.hid (World.ownsRow_lit wr.drew #[] 0 (Nat.le_refl _) (by unfold maxLen; omega) rfl)
          have HSE : Hid (Strs (wr.drew.alloc (.cells #[] 9)) lo hi (.slice Ar r.body.length cr) r.body) := Lib.hid (HSW.out.keep fun p _ p2 => Below.heap_alloc _ _ _ (by show p < wr.heap.size; omega))
          have HP : Hid (∀ w2 : World, Below wr.heap.size wr w2 → Row w2 p6 101 #[.string r.head, .slice Ar r.body.length cr] ∧ Row w2 (p6 + 1) 69 #[.int .i64 1, .int .i64 (n : Int), .slice Bv r.body.length dv]) := Lib.hid fun w2 b2 => ⟨R6w.below b2 (by omega), RG.below b2 (by omega)⟩
          have hxl : xs.length ≤ 20 := by have := congrArg List.length HXX.out; rw [List.length_map, List.length_take, givenOf_len] at this; omega
          have HF : Hid (∀ (B1 : Option Addr) (d1 gg capg : Nat) (wb w6 : World), wb.ownsRow wr.heap.size 9 1 (.slice B1 r.body.length d1) r.body.length (r.body.map Value.string) → Mid wr.heap.size (wr.heap.size + 1) (wr.drew.alloc (.cells #[] 9)) wb →
              w6.ownsRow (w.heap.size + 1) 71 5 (.slice (some ⟨gg, 0, none⟩) (xs.length + 1) capg) (xs.length + 1) (flatD xs ++ [.string r.head, .slice B1 r.body.length d1, .int .i64 1, .int .i64 (n : Int), .slice Bv r.body.length dv]) →
              (wb.alloc (.cells #[.string r.head, .slice B1 r.body.length d1, .int .i64 1, .int .i64 (n : Int), .slice Bv r.body.length dv] 71)).grownBy w6 u3.ownBlock → (u3.ownBlock = some gg ∨ gg = wb.heap.size + 1) →
              ∃ ys : List Gx, ys.map (·.m) = (givenOf rs).take (k + 1) ∧ GrowF w6 (w.heap.size + 1) (.slice (some ⟨gg, 0, none⟩) (xs.length + 1) capg) ys ∧ (∀ q, (Value.slice (some ⟨gg, 0, none⟩) (xs.length + 1) capg).ownBlock = some q → q = w.heap.size + 1 ∨ w1.heap.size ≤ q) ∧ (∀ y ∈ ys, w1.heap.size ≤ y.l) ∧ Mid (w.heap.size + 1) (w.heap.size + 1 + 1) w1 w6) := Lib.hid fun B1 d1 gg capg wb w6 hown1 hm1 hown6 hg6 hat6 => by
            have bb := HWB.out wb hm1
            have zb := bb.size
            have ga := al1 wb (.cells #[.string r.head, .slice B1 r.body.length d1, .int .i64 1, .int .i64 (n : Int), .slice Bv r.body.length dv] 71)
            have hsz : ∀ s ∈ r.body, s.size ≤ maxLen := by obtain ⟨_, _, _, _, _, hh, _⟩ := HSW.out; exact hh
            have hgx : GyAt wb (w.heap.size + 1) ⟨givenD rs n, .slice B1 r.body.length d1, .slice Bv r.body.length dv, 0, p6 + 2, wr.heap.size, wb.heap.size⟩ := by
              rw [HGD.out]
              refine ⟨hhs, ?_, ⟨wr.heap.size, wb.heap.size, (show Sts wb wr.heap.size (.slice B1 r.body.length d1) r.body from hown1).strs hsz, .inr ⟨Nat.le_refl _, Nat.le_refl _⟩⟩, HKV.out.under bb (Nat.le_refl _), by show w.heap.size + 1 ≤ p6 + 2 ∧ p6 + 2 ≤ wr.heap.size ∧ wr.heap.size ≤ wb.heap.size ∧ wb.heap.size ≤ wb.heap.size; omega⟩
              show TopM (.node 1 (n : Int) (varsD r.body.length))
              unfold TopM
              simp only [TermD.num, TermD.kind]
              omega
            have hgy := hgx.keep (w' := wb.alloc (.cells #[.string r.head, .slice B1 r.body.length d1, .int .i64 1, .int .i64 (n : Int), .slice Bv r.body.length dv] 71)) (by simp) (fun p _ p2 => ga.block p (by omega)) fun p p1 p2 => ga.block p p2
            have hga := (HGr.out.below (by omega) bb).below (by omega) ga
            refine ⟨_, ?_, hga.snoc hgy (fun y hy => by have := HG8.out y hy; show y.h ≤ p6 + 2; omega) (fun q hq => by have := HG9.out q hq; show q < p6 + 2; omega) (by unfold Gx.cells; rw [HGD.out]; exact hown6) hg6 (by rw [show (wb.alloc (.cells #[.string r.head, .slice B1 r.body.length d1, .int .i64 1, .int .i64 (n : Int), .slice Bv r.body.length dv] 71)).heap.size = wb.heap.size + 1 by simp]; exact hat6), ?_, ?_, ?_⟩
            · rw [List.map_append, HXX.out, List.take_succ_eq_append_getElem (by rw [givenOf_len]; exact hlt), HGV.out]; rfl
            · intro q hq
              obtain rfl : gg = q := by simpa [Value.ownBlock] using hq
              rcases hat6 with e | rfl
              · exact HVO.out _ e
              · exact .inr (by omega)
            · intro y hy
              rw [List.mem_append, List.mem_singleton] at hy
              rcases hy with hy | rfl
              · exact HYL.out y hy
              · show w1.heap.size ≤ p6 + 2; omega
            · refine ⟨hg6.os.trans (bb.os.trans HBO2.out.1), hg6.tape.trans (bb.tape.trans HBO2.out.2.1), hg6.output.trans (bb.output.trans HBO2.out.2.2), by have := hg6.size; simp at this; omega, fun p h1 h2 => ?_⟩
              rw [hg6.block p (by simp; omega) (fun e => by have := HVO.out p e.symm; omega), Below.heap_alloc _ _ _ (by omega), bb.block p (by omega)]
              exact HLOW.out p h1 (by omega)
          have lp6 : p6 < wr.heap.size := by omega
          have lp7 : p6 + 1 < wr.heap.size := by omega
          have lp6d : p6 < wr.drew.heap.size := lp6
          have lp7d : p6 + 1 < wr.drew.heap.size := lp7
          have k5d : wr.drew.cell? ⟨p6, 0, none⟩ = some (.string r.head) := k5
          have k6d : wr.drew.cell? ⟨p6, 1, none⟩ = some (.slice Ar r.body.length cr) := k6
          have k7d : wr.drew.cell? ⟨p6 + 1, 0, none⟩ = some (.int .i64 1) := k7
          have k8d : wr.drew.cell? ⟨p6 + 1, 1, none⟩ = some (.int .i64 (n : Int)) := k8
          have k9d : wr.drew.cell? ⟨p6 + 1, 2, none⟩ = some (.slice Bv r.body.length dv) := k9
          have hw1 : w1.heap.size ≤ wr.heap.size := by omega
          have hbase : w.heap.size + 1 ≤ wr.heap.size := by omega
          clear hmid RG stb R6w hzx hgd
          go_wp2
          go_region_law (first
            | (refine step_append_body (by rfl) _ _ (by rfl) s0 hs0 hx0 hx1 hx2 wr.heap.size wr.heap.size lo hi HE.out Ar cr r.body HSE.out (by rfl) (by rfl) (by omega) (by simp) ?_; intro B1 d1 wb hown1 hm1; have bb := HWB.out wb hm1; have zb := bb.size; have rp := (HP.out wb bb).1; have rq := (HP.out wb bb).2; have n5 := rp.cell 0; have n6 := rp.cell 1; have n7 := rq.cell 0; have n8 := rq.cell 1; have n9 := rq.cell 2; simp at n5 n6 n7 n8 n9; have lb6 := rp.lt; have lb7 := rq.lt; clear rp rq)
            | (refine step_append_lies _ (by rfl) _ _ _ (by rfl) (w.heap.size + 1) 71 i0 _ 5 80 Try.underlying37 hi0 hz0 hz1 hz2 rfl (by omega) u3 xs.length (flatD xs) (by rfl) (World.ownsRow.alloc (HGr.out.below (by omega) bb).row _) ⟨wb.heap.size, 0, none⟩ 1 1 [.string r.head, .slice B1 r.body.length d1, .int .i64 1, .int .i64 (n : Int), .slice Bv r.body.length dv] (by rfl) (by rfl) (made_news _ _ _ _ _ _) (made_one _ _ _ _ _ _ _ _ _) (by omega) (by unfold maxLen; omega) (by omega) (by simp; omega) (wb.heap.size + 1) (by simp) ?_; intro gg capg w6 hown6 hg6 hat6 hlt6))
          all_goals
            have FIN := Lib.hid (HF.out B1 d1 gg capg wb w6 hown1 hm1 hown6 hg6 hat6)
            clear hown1 hm1 hown6 hg6 hat6 hlt6 bb n5 n6 n7 n8 n9
            obtain ⟨ys, y1, y2, y3, y4, y5⟩ := FIN.out
            go_wp2
            go_roundw
            case rel => exact ⟨k + 1, ys, by omega, by go_num, y1, y2, y3, y4, y5⟩
            case measure => simp [intOf]; omega
    · have hks : k = (useOf rs).length := by omega
      subst hks
      rw [← givenOf_len, List.take_length] at hxs
      have FIN := Lib.hid (And.intro (hxs ▸ hG.dm) (HB1.out.trans ((hbm.below (by omega)).mono (by omega))))
      have hv3 : ∃ A c, u3 = .slice A xs.length c := by
        rcases hG.row.2 with ⟨rfl, h0⟩ | ⟨g, cap, cur, rfl, _⟩
        · exact ⟨_, _, by rw [h0]⟩
        · exact ⟨_, _, rfl⟩
      obtain ⟨A3, c3, rfl⟩ := hv3
      clear hG hbm hxs hvo hyl
      go_wp2
      go_ret
      exact ⟨_, rfl, FIN.out.1, FIN.out.2⟩
end Go.Proofs.Ytbaofldcdcllfaa
