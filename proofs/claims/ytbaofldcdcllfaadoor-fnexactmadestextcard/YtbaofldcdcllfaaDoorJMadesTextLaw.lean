import Derived.Test.YtbaofldcdcllfaaDoorJTrz
import Derived.Test.YtbaofldcdcllfaaDoorEq
import Derived.Test.YtbaofldcdcllfaaDoorJSz
import Derived.Test.YtbaofldcdcllfaaDoorMts
import Derived.Test.YtbaofldcdcllfaaDoorMti
import Derived.Test.YtbaofldcdcllfaaDoorJTmt
import Derived.Test.YtbaofldcdcllfaaDoorMab
/- Two lists of the same terms are told to be alike: eqTermS, eqTerm. -/
namespace Go.Proofs.YtbaofldcdcllfaaDoor
open Go.RowKit

def EqM (ts : List TermD) : Prop := ∀ (z : Bool) (v u : Value) (lo hi lo' hi' : Nat) (w : World), KM z w lo hi v ts → KM z w lo' hi' u ts → hi ≤ w.heap.size → hi' ≤ w.heap.size →
  Calls Tryd.prog 54 #[v, u] w fun e w' => e = .returned (.bool true) ∧ Below w.heap.size w w'

set_option maxHeartbeats 1000000 in
theorem eqTerm_of (t : TermD) (ih : EqM t.kids) (z : Bool) (v u : Value) (lo hi lo' hi' : Nat) (w : World) (h : KM z w lo hi v t.kids) (h' : KM z w lo' hi' u t.kids) (hh : hi ≤ w.heap.size) (hh' : hi' ≤ w.heap.size) :
    Calls Tryd.prog 44 #[tmV t v, tmV t u] w fun e w' => e = .returned (.bool true) ∧ Below w.heap.size w w' := by
  unfold tmV
  have d1 : (t.num != t.num) = false := by simp
  have d2 : (t.kind != t.kind) = false := by simp
  have hb : Below w.heap.size w ((w.alloc (.cells #[.int .i64 t.kind, .int .i64 t.num, v] 60)).alloc (.cells #[.int .i64 t.kind, .int .i64 t.num, u] 60)) := al2 _ _ _
  go_enter Tryd.func44, Tryd.ntmps44
  go_wp2_with fail
  refine (ih z v u lo hi lo' hi' _ (h.under hb hh) (h'.under hb hh') (by simp; omega) (by simp; omega)).mono ?_
  rintro e w1 ⟨rfl, hb1⟩
  have hb2 : Below w.heap.size w w1 := hb.trans (hb1.mono (by simp; omega))
  clear hb hb1
  go_wp2
  go_ret
  exact ⟨rfl, hb2⟩

set_option maxRecDepth 100000 in
set_option maxHeartbeats 1000000 in
theorem eqTermS_of (ts : List TermD) (ih : ∀ i (h : i < ts.length), EqM ts[i].kids) : EqM ts := by
  intro z v u lo hi lo' hi' w h h' hh hh'
  obtain ⟨A, c, U, rfl, hlc, hc, hs, hcell, hsub⟩ := h.parts
  obtain ⟨A', c', U', rfl, hlc', hc', hs', hcell', hsub'⟩ := h'.parts
  unfold maxLen at hc hc'
  have HC := Lib.hid hcell
  have HC' := Lib.hid hcell'
  have HB := Lib.hid hsub
  have HB' := Lib.hid hsub'
  clear hcell hcell' hsub hsub' h h' hs hs'
  go_enter Tryd.func54, Tryd.ntmps54
  go_wp2
  go_loopw [5] (fun i wr => ∃ k : Nat, k ≤ ts.length ∧ i = .int .i64 k ∧ Below w.heap.size w wr) (fun i _ => ts.length - (intOf i).toNat)
  case atStart => exact ⟨0, by omega, rfl, Below.refl _ _⟩
  case round =>
    obtain ⟨k, hk, rfl, hbw⟩ := hrel
    have hsw := hbw.size
    by_cases hlt : k < ts.length
    · obtain ⟨b, off, rfl, _, hbh, _, hcc⟩ := HC.out (by omega)
      obtain ⟨b', off', rfl, _, hbh', _, hcc'⟩ := HC'.out (by omega)
      obtain ⟨hc0, hc1, hc2⟩ := hcc k hlt
      obtain ⟨hd0, hd1, hd2⟩ := hcc' k hlt
      have k0 := (hbw.cell (p := ⟨b, off + k * 3, none⟩) (by show b < _; omega)).trans hc0
      have k1 := (hbw.cell (p := ⟨b, off + k * 3 + 1, none⟩) (by show b < _; omega)).trans hc1
      have k2 := (hbw.cell (p := ⟨b, off + k * 3 + 2, none⟩) (by show b < _; omega)).trans hc2
      have m0 := (hbw.cell (p := ⟨b', off' + k * 3, none⟩) (by show b' < _; omega)).trans hd0
      have m1 := (hbw.cell (p := ⟨b', off' + k * 3 + 1, none⟩) (by show b' < _; omega)).trans hd1
      have m2 := (hbw.cell (p := ⟨b', off' + k * 3 + 2, none⟩) (by show b' < _; omega)).trans hd2
      have g1 := (HB.out k hlt).under hbw hh
      have g2 := (HB'.out k hlt).under hbw hh'
      have i1 : (k : Int) < (ts.length : Int) := by omega
      have n1 : (0 : Int) ≤ (k : Int) := by omega
      clear hcc hcc' hc0 hc1 hc2 hd0 hd1 hd2
      have hbw2 : Below w.heap.size w wr.drew := hbw.drew
      have g1d : KM z wr.drew lo hi (U k) ts[k].kids := g1.drewN 1
      have g2d : KM z wr.drew lo' hi' (U' k) ts[k].kids := g2.drewN 1
      have hswd : w.heap.size ≤ wr.drew.heap.size := hsw
      go_wp2
      go_still_tail 8, (by kernel_rfl)
      change wpList _ _ _ _ _ wr.drew
      generalize wr.drew = w2 at hbw2 g1d g2d hswd ⊢
      go_wp2_with fail
      refine (eqTerm_of ts[k] (ih k hlt) z (U k) (U' k) lo hi lo' hi' _ g1d g2d (by omega) (by omega)).mono ?_
      rintro e w1 ⟨rfl, hb1⟩
      go_wp2
      go_roundw
      case rel => exact ⟨k + 1, by omega, by go_num, hbw2.trans (hb1.mono hswd)⟩
      case measure => simp [intOf]; omega
    · go_wp2
      go_ret
      exact ⟨rfl, hbw⟩
theorem eqTermS_any (ts : List TermD) : EqM ts := terms_ind eqTermS_of ts
theorem eqTerm_any (t : TermD) (z : Bool) (v u : Value) (lo hi lo' hi' : Nat) (w : World) (h : KM z w lo hi v t.kids) (h' : KM z w lo' hi' u t.kids) (hh : hi ≤ w.heap.size) (hh' : hi' ≤ w.heap.size) :
    Calls Tryd.prog 44 #[tmV t v, tmV t u] w fun e w' => e = .returned (.bool true) ∧ Below w.heap.size w w' :=
  eqTerm_of t (eqTermS_any _) z v u lo hi lo' hi' w h h' hh hh'
end Go.Proofs.YtbaofldcdcllfaaDoor

/- Two lists of the same Mades are told to be alike: eqMade, eqMadeS. -/
namespace Go.Proofs.YtbaofldcdcllfaaDoor
open Go.RowKit

set_option maxRecDepth 100000 in
set_option maxHeartbeats 1000000 in
theorem eqMade_any (m : MadeD) (z : Bool) (v u x y : Value) (lo hi lo' hi' : Nat) (w : World) (h : Strs w lo hi v m.body) (h' : Strs w lo' hi' u m.body) (k : KM z w lo hi x m.term.kids) (k' : KM z w lo' hi' y m.term.kids) (hh : hi ≤ w.heap.size) (hh' : hi' ≤ w.heap.size) :
    Calls Tryd.prog 28 #[mdV m v x, mdV m u y] w fun e w' => e = .returned (.bool true) ∧ Below w.heap.size w w' := by
  unfold mdV
  have d2 : (m.head.toList == m.head.toList) = true := by simp
  have hb : Below w.heap.size w ((w.alloc (.cells #[.string m.head, v, .int .i64 m.term.kind, .int .i64 m.term.num, x] 62)).alloc (.cells #[.string m.head, u, .int .i64 m.term.kind, .int .i64 m.term.num, y] 62)) := al2 _ _ _
  have hv := h.below hb hh
  have hu := h'.below hb hh'
  have R0 : Row ((w.alloc (.cells #[.string m.head, v, .int .i64 m.term.kind, .int .i64 m.term.num, x] 62)).alloc (.cells #[.string m.head, u, .int .i64 m.term.kind, .int .i64 m.term.num, y] 62)) w.heap.size 62 #[.string m.head, v, .int .i64 m.term.kind, .int .i64 m.term.num, x] := (Row.made w _ _).alloc _
  have R1 : Row ((w.alloc (.cells #[.string m.head, v, .int .i64 m.term.kind, .int .i64 m.term.num, x] 62)).alloc (.cells #[.string m.head, u, .int .i64 m.term.kind, .int .i64 m.term.num, y] 62)) (w.heap.size + 1) 62 #[.string m.head, u, .int .i64 m.term.kind, .int .i64 m.term.num, y] := by
    simpa using Row.made (w.alloc (.cells #[.string m.head, v, .int .i64 m.term.kind, .int .i64 m.term.num, x] 62)) 62 #[.string m.head, u, .int .i64 m.term.kind, .int .i64 m.term.num, y]
  have HKX := Lib.hid (k.under hb hh)
  have HKY := Lib.hid (k'.under hb hh')
  obtain ⟨Ax, cx, Ux, rfl, -⟩ := k.parts
  obtain ⟨Ay, cy, Uy, rfl, -⟩ := k'.parts
  clear k k' h h'
  go_enter Tryd.func28, Tryd.ntmps28
  go_wp2_with fail
  refine (eqStringS_any v u m.body m.body lo hi lo' hi' _ hv hu).mono ?_
  rintro e w1 ⟨rfl, n, rfl⟩
  rw [eqSs_t rfl]
  have c02 := R0.cell 2
  have c03 := R0.cell 3
  have c04 := R0.cell 4
  have c12 := R1.cell 2
  have c13 := R1.cell 3
  have c14 := R1.cell 4
  simp at c02 c03 c04 c12 c13 c14
  have bw : Below w.heap.size w (((w.alloc (.cells #[.string m.head, v, .int .i64 m.term.kind, .int .i64 m.term.num, .slice Ax m.term.kids.length cx] 62)).alloc (.cells #[.string m.head, u, .int .i64 m.term.kind, .int .i64 m.term.num, .slice Ay m.term.kids.length cy] 62)).drewN n) := ⟨hb.os, hb.tape, hb.output, hb.size, hb.block⟩
  have HX2 := Lib.hid (HKX.out.drewN n)
  have HY2 := Lib.hid (HKY.out.drewN n)
  have HB := Lib.hid bw
  clear hb hv hu R0 R1 bw
  go_wp2_with fail
  refine (eqTerm_any m.term z _ _ lo hi lo' hi' _ HX2.out HY2.out (by simp [World.drewN]; omega) (by simp [World.drewN]; omega)).mono ?_
  rintro e w2 ⟨rfl, b2⟩
  go_wp2
  go_ret
  exact ⟨rfl, HB.out.trans (b2.mono HB.out.size)⟩

set_option maxRecDepth 100000 in
set_option maxHeartbeats 2000000 in
theorem eqMadeS_any (ms : List MadeD) (z : Bool) (v u : Value) (lo hi lo' hi' : Nat) (w : World) (h : DM z w lo hi v ms) (h' : DM z w lo' hi' u ms) (hh : hi ≤ w.heap.size) (hh' : hi' ≤ w.heap.size) :
    Calls Tryd.prog 14 #[v, u] w fun e w' => e = .returned (.bool true) ∧ Below w.heap.size w w' := by
  obtain ⟨A, c, rfl, hlc, hc, hcell⟩ := h
  obtain ⟨A', c', rfl, hlc', hc', hcell'⟩ := h'
  unfold maxLen at hc hc'
  have HC := Lib.hid hcell
  have HC' := Lib.hid hcell'
  clear hcell hcell'
  go_enter Tryd.func14, Tryd.ntmps14
  go_wp2
  go_loopw [5] (fun i wr => ∃ k : Nat, k ≤ ms.length ∧ i = .int .i64 k ∧ Below w.heap.size w wr) (fun i _ => ms.length - (intOf i).toNat)
  case atStart => exact ⟨0, by omega, rfl, Below.refl _ _⟩
  case round =>
    obtain ⟨k, hk, rfl, hbw⟩ := hrel
    have hsw := hbw.size
    by_cases hlt : k < ms.length
    · obtain ⟨b, off, rfl, _, hbh, _, hcc⟩ := HC.out (by omega)
      obtain ⟨b', off', rfl, _, hbh', _, hcc'⟩ := HC'.out (by omega)
      obtain ⟨_, _, hc0, x1, x4, hc1, hc2, hc3, hc4, hst, hkm⟩ := hcc k hlt
      obtain ⟨_, _, hd0, y1, y4, hd1, hd2, hd3, hd4, hst', hkm'⟩ := hcc' k hlt
      have k0 := (hbw.cell (p := ⟨b, off + k * 5, none⟩) (by show b < _; omega)).trans hc0
      have k1 := (hbw.cell (p := ⟨b, off + k * 5 + 1, none⟩) (by show b < _; omega)).trans hc1
      have k2 := (hbw.cell (p := ⟨b, off + k * 5 + 2, none⟩) (by show b < _; omega)).trans hc2
      have k3 := (hbw.cell (p := ⟨b, off + k * 5 + 3, none⟩) (by show b < _; omega)).trans hc3
      have k4 := (hbw.cell (p := ⟨b, off + k * 5 + 4, none⟩) (by show b < _; omega)).trans hc4
      have m0 := (hbw.cell (p := ⟨b', off' + k * 5, none⟩) (by show b' < _; omega)).trans hd0
      have m1 := (hbw.cell (p := ⟨b', off' + k * 5 + 1, none⟩) (by show b' < _; omega)).trans hd1
      have m2 := (hbw.cell (p := ⟨b', off' + k * 5 + 2, none⟩) (by show b' < _; omega)).trans hd2
      have m3 := (hbw.cell (p := ⟨b', off' + k * 5 + 3, none⟩) (by show b' < _; omega)).trans hd3
      have m4 := (hbw.cell (p := ⟨b', off' + k * 5 + 4, none⟩) (by show b' < _; omega)).trans hd4
      have g1 := hst.below hbw hh
      have g2 := hst'.below hbw hh'
      have g3 := hkm.under hbw hh
      have g4 := hkm'.under hbw hh'
      have i1 : (k : Int) < (ms.length : Int) := by omega
      have n1 : (0 : Int) ≤ (k : Int) := by omega
      clear hcc hcc' hc0 hc1 hc2 hc3 hc4 hd0 hd1 hd2 hd3 hd4 hst hst' hkm hkm'
      have hbw2 : Below w.heap.size w wr.drew := hbw.drew
      have g1d : Strs wr.drew lo hi x1 ms[k].body := g1.drewN 1
      have g2d : Strs wr.drew lo' hi' y1 ms[k].body := g2.drewN 1
      have g3d : KM z wr.drew lo hi x4 ms[k].term.kids := g3.drewN 1
      have g4d : KM z wr.drew lo' hi' y4 ms[k].term.kids := g4.drewN 1
      have hswd : w.heap.size ≤ wr.drew.heap.size := hsw
      go_wp2
      go_still_tail 8, (by kernel_rfl)
      change wpList _ _ _ _ _ wr.drew
      generalize wr.drew = w2 at hbw2 g1d g2d g3d g4d hswd ⊢
      go_wp2_with fail
      refine (eqMade_any ms[k] z x1 y1 x4 y4 lo hi lo' hi' _ g1d g2d g3d g4d (by omega) (by omega)).mono ?_
      rintro e w1 ⟨rfl, hb1⟩
      go_wp2
      go_roundw
      case rel => exact ⟨k + 1, by omega, by go_num, hbw2.trans (hb1.mono hswd)⟩
      case measure => simp [intOf]; omega
    · go_wp2
      go_ret
      exact ⟨rfl, hbw⟩
end Go.Proofs.YtbaofldcdcllfaaDoor

/- The walk of the law FnExactMadesText. -/
namespace Go.Proofs.YtbaofldcdcllfaaDoor.fnExactMadesText
open Go.RowKit
set_option maxRecDepth 100000 in
set_option maxHeartbeats 2000000 in
theorem walk (ms : List MadeD) (v : Value) (w : World) (h : DM false w 0 w.heap.size v ms) (htn : Tens w.heap.size w) :
    Calls Tryd.prog 4 #[v] w fun e w' => e = .returned (.bool true) ∧ Below w.heap.size w w' := by
  have HV := Lib.hid h
  have HTN := Lib.hid htn
  obtain ⟨Av, cv, rfl, -⟩ := h
  clear htn
  by_cases hbig : (1048576 : Int) < bulkDs ms
  · have HS := Lib.hid (szOut_neg hbig)
    go_enter Tryd.func4, Tryd.ntmps4
    go_wp2_with fail
    refine (szMadeS_any _ ms 0 w.heap.size _ _ HV.out (Nat.le_refl _) (by omega) (by omega)).mono ?_
    rintro e w1 ⟨rfl, b1⟩
    rw [HS.out]
    go_wp2
    go_ret
    exact ⟨rfl, b1⟩
  have HS := Lib.hid (szOut_pos hbig)
  have d0 : decide ((1048576 : Int) - (bulkDs ms : Int) < 0) = false := decide_eq_false (by omega)
  go_enter Tryd.func4, Tryd.ntmps4
  go_wp2_with fail
  refine (szMadeS_any _ ms 0 w.heap.size _ _ HV.out (Nat.le_refl _) (by omega) (by omega)).mono ?_
  rintro e w1 ⟨rfl, b1⟩
  rw [HS.out]
  have z1 := b1.size
  have H1 := Lib.hid b1
  go_wp2_with fail
  refine (toMadeS_any _ ms 0 w.heap.size _ (HV.out.under b1 (Nat.le_refl _)) z1 (by omega)).mono ?_
  rintro e w2 ⟨x2, rfl, O2, b2⟩
  have B2 := H1.out.trans (b2.mono z1)
  have z2 := B2.size
  have HO2 := Lib.hid O2
  obtain ⟨A2, c2, rfl, -⟩ := O2
  clear b1 b2
  go_wp2_with fail
  refine (specMadesText_any _ ms _ _ _ HO2.out.dm (Nat.le_refl _) (by omega)).mono ?_
  rintro e w3 ⟨rfl, b3⟩
  have B3 := B2.trans (b3.mono z2)
  have z3 := B3.size
  clear B2 b3
  go_wp2_with fail
  refine (toMadeS_any _ ms 0 w.heap.size _ (HV.out.under B3 (Nat.le_refl _)) z3 (by omega)).mono ?_
  rintro e w4 ⟨x4, rfl, O4, b4⟩
  have B4 := B3.trans (b4.mono z3)
  have z4 := B4.size
  have HO4 := Lib.hid O4
  obtain ⟨A4, c4, rfl, -⟩ := O4
  clear B3 b4
  go_wp2_with fail
  refine (implMadesText_any _ ms _ _ _ HO4.out.dm (Nat.le_refl _) (by omega) w.heap.size (HTN.out.on B4) z4).mono ?_
  rintro e w5 ⟨rfl, b5⟩
  have B5 := B4.trans (b5.mono z4)
  have z5 := B5.size
  have HO5 := Lib.hid ((HO4.out.dm.loose).under b5 (Nat.le_refl _))
  have zz : w4.heap.size ≤ w5.heap.size := b5.size
  have deq : ((tb (madesText ms)).toList == (tb (madesText ms)).toList) = true := by simp
  clear B4 b5
  go_wp2_with fail
  refine (toMadeS_any _ ms 0 w.heap.size _ (HV.out.under B5 (Nat.le_refl _)) z5 (by omega)).mono ?_
  rintro e w6 ⟨x6, rfl, O6, b6⟩
  have B6 := B5.trans (b6.mono z5)
  have HO6 := Lib.hid O6
  obtain ⟨A6, c6, rfl, -⟩ := O6
  have HX := Lib.hid (HO5.out.under b6 zz)
  have z6 : w5.heap.size ≤ w6.heap.size := b6.size
  clear B5 b6
  go_wp2_with fail
  refine (eqMadeS_any ms false _ _ _ _ _ _ _ HX.out HO6.out.dm.loose (by omega) (Nat.le_refl _)).mono ?_
  rintro e w7 ⟨rfl, b7⟩
  have B7 := B6.trans (b7.mono B6.size)
  clear B6 b7
  go_wp2
  go_ret
  exact ⟨rfl, B7⟩
end Go.Proofs.YtbaofldcdcllfaaDoor.fnExactMadesText
