import Derived.Test.YtbaofldcdcllfaaJTmz
import Derived.Test.YtbaofldcdcllfaaEq
import Derived.Test.YtbaofldcdcllfaaJGmd
import Derived.Test.YtbaofldcdcllfaaMarkc
/- Two lists of the same terms are told to be alike: eqTermS, eqTerm. -/
namespace Go.Proofs.Ytbaofldcdcllfaa
open Go.RowKit

def EqM (ts : List TermD) : Prop := ∀ (z : Bool) (v u : Value) (lo hi lo' hi' : Nat) (w : World), KM z w lo hi v ts → KM z w lo' hi' u ts → hi ≤ w.heap.size → hi' ≤ w.heap.size →
  Calls Try.prog 102 #[v, u] w fun e w' => e = .returned (.bool true) ∧ Below w.heap.size w w'

set_option maxHeartbeats 1000000 in
theorem eqTerm_of (t : TermD) (ih : EqM t.kids) (z : Bool) (v u : Value) (lo hi lo' hi' : Nat) (w : World) (h : KM z w lo hi v t.kids) (h' : KM z w lo' hi' u t.kids) (hh : hi ≤ w.heap.size) (hh' : hi' ≤ w.heap.size) :
    Calls Try.prog 71 #[tmV t v, tmV t u] w fun e w' => e = .returned (.bool true) ∧ Below w.heap.size w w' := by
  unfold tmV
  have d1 : (t.num != t.num) = false := by simp
  have d2 : (t.kind != t.kind) = false := by simp
  have hb : Below w.heap.size w ((w.alloc (.cells #[.int .i64 t.kind, .int .i64 t.num, v] 69)).alloc (.cells #[.int .i64 t.kind, .int .i64 t.num, u] 69)) := al2 _ _ _
  go_enter Try.func71, Try.ntmps71
  go_wp2_with fail
  refine (ih z v u lo hi lo' hi' _ (h.under hb hh) (h'.under hb hh') (by simp; omega) (by simp; omega)).mono ?_
  rintro e w1 ⟨rfl, hb1⟩
  have hb2 : Below w.heap.size w w1 := hb.trans (hb1.mono (by simp; omega))
  clear hb hb1
  go_wp2
  go_ret
  exact ⟨rfl, hb2⟩

set_option maxRecDepth 100000 in
set_option maxHeartbeats 1000000 in
theorem eqTermS_of (ts : List TermD) (ih : ∀ i (h : i < ts.length), EqM ts[i].kids) : EqM ts := by
  intro z v u lo hi lo' hi' w h h' hh hh'
  obtain ⟨A, c, U, rfl, hlc, hc, hs, hcell, hsub⟩ := h.parts
  obtain ⟨A', c', U', rfl, hlc', hc', hs', hcell', hsub'⟩ := h'.parts
  unfold maxLen at hc hc'
  have HC := Lib.hid hcell
  have HC' := Lib.hid hcell'
  have HB := Lib.hid hsub
  have HB' := Lib.hid hsub'
  clear hcell hcell' hsub hsub' h h' hs hs'
  go_enter Try.func102, Try.ntmps102
  go_wp2
  go_loopw [5] (fun i wr => ∃ k : Nat, k ≤ ts.length ∧ i = .int .i64 k ∧ Below w.heap.size w wr) (fun i _ => ts.length - (intOf i).toNat)
  case atStart => exact ⟨0, by omega, rfl, Below.refl _ _⟩
  case round =>
    obtain ⟨k, hk, rfl, hbw⟩ := hrel
    have hsw := hbw.size
    by_cases hlt : k < ts.length
    · obtain ⟨b, off, rfl, _, hbh, _, hcc⟩ := HC.out (by omega)
      obtain ⟨b', off', rfl, _, hbh', _, hcc'⟩ := HC'.out (by omega)
      obtain ⟨hc0, hc1, hc2⟩ := hcc k hlt
      obtain ⟨hd0, hd1, hd2⟩ := hcc' k hlt
      have k0 := (hbw.cell (p := ⟨b, off + k * 3, none⟩) (by show b < _; omega)).trans hc0
      have k1 := (hbw.cell (p := ⟨b, off + k * 3 + 1, none⟩) (by show b < _; omega)).trans hc1
      have k2 := (hbw.cell (p := ⟨b, off + k * 3 + 2, none⟩) (by show b < _; omega)).trans hc2
      have m0 := (hbw.cell (p := ⟨b', off' + k * 3, none⟩) (by show b' < _; omega)).trans hd0
      have m1 := (hbw.cell (p := ⟨b', off' + k * 3 + 1, none⟩) (by show b' < _; omega)).trans hd1
      have m2 := (hbw.cell (p := ⟨b', off' + k * 3 + 2, none⟩) (by show b' < _; omega)).trans hd2
      have g1 := (HB.out k hlt).under hbw hh
      have g2 := (HB'.out k hlt).under hbw hh'
      have i1 : (k : Int) < (ts.length : Int) := by omega
      have n1 : (0 : Int) ≤ (k : Int) := by omega
      clear hcc hcc' hc0 hc1 hc2 hd0 hd1 hd2
      have hbw2 : Below w.heap.size w wr.drew := hbw.drew
      have g1d : KM z wr.drew lo hi (U k) ts[k].kids := g1.drewN 1
      have g2d : KM z wr.drew lo' hi' (U' k) ts[k].kids := g2.drewN 1
      have hswd : w.heap.size ≤ wr.drew.heap.size := hsw
      go_wp2
      go_still_tail 8, (by kernel_rfl)
      change wpList _ _ _ _ _ wr.drew
      generalize wr.drew = w2 at hbw2 g1d g2d hswd ⊢
      go_wp2_with fail
      refine (eqTerm_of ts[k] (ih k hlt) z (U k) (U' k) lo hi lo' hi' _ g1d g2d (by omega) (by omega)).mono ?_
      rintro e w1 ⟨rfl, hb1⟩
      go_wp2
      go_roundw
      case rel => exact ⟨k + 1, by omega, by go_num, hbw2.trans (hb1.mono hswd)⟩
      case measure => simp [intOf]; omega
    · go_wp2
      go_ret
      exact ⟨rfl, hbw⟩
theorem eqTermS_any (ts : List TermD) : EqM ts := terms_ind eqTermS_of ts
theorem eqTerm_any (t : TermD) (z : Bool) (v u : Value) (lo hi lo' hi' : Nat) (w : World) (h : KM z w lo hi v t.kids) (h' : KM z w lo' hi' u t.kids) (hh : hi ≤ w.heap.size) (hh' : hi' ≤ w.heap.size) :
    Calls Try.prog 71 #[tmV t v, tmV t u] w fun e w' => e = .returned (.bool true) ∧ Below w.heap.size w w' :=
  eqTerm_of t (eqTermS_any _) z v u lo hi lo' hi' w h h' hh hh'
end Go.Proofs.Ytbaofldcdcllfaa

/- Two lists of the same Mades are told to be alike: eqMade, eqMadeS. -/
namespace Go.Proofs.Ytbaofldcdcllfaa
open Go.RowKit

set_option maxRecDepth 100000 in
set_option maxHeartbeats 1000000 in
theorem eqMade_any (m : MadeD) (z : Bool) (v u x y : Value) (lo hi lo' hi' : Nat) (w : World) (h : Strs w lo hi v m.body) (h' : Strs w lo' hi' u m.body) (k : KM z w lo hi x m.term.kids) (k' : KM z w lo' hi' y m.term.kids) (hh : hi ≤ w.heap.size) (hh' : hi' ≤ w.heap.size) :
    Calls Try.prog 41 #[mdV m v x, mdV m u y] w fun e w' => e = .returned (.bool true) ∧ Below w.heap.size w w' := by
  unfold mdV
  have d2 : (m.head.toList == m.head.toList) = true := by simp
  have hb : Below w.heap.size w ((w.alloc (.cells #[.string m.head, v, .int .i64 m.term.kind, .int .i64 m.term.num, x] 71)).alloc (.cells #[.string m.head, u, .int .i64 m.term.kind, .int .i64 m.term.num, y] 71)) := al2 _ _ _
  have hv := h.below hb hh
  have hu := h'.below hb hh'
  have R0 : Row ((w.alloc (.cells #[.string m.head, v, .int .i64 m.term.kind, .int .i64 m.term.num, x] 71)).alloc (.cells #[.string m.head, u, .int .i64 m.term.kind, .int .i64 m.term.num, y] 71)) w.heap.size 71 #[.string m.head, v, .int .i64 m.term.kind, .int .i64 m.term.num, x] := (Row.made w _ _).alloc _
  have R1 : Row ((w.alloc (.cells #[.string m.head, v, .int .i64 m.term.kind, .int .i64 m.term.num, x] 71)).alloc (.cells #[.string m.head, u, .int .i64 m.term.kind, .int .i64 m.term.num, y] 71)) (w.heap.size + 1) 71 #[.string m.head, u, .int .i64 m.term.kind, .int .i64 m.term.num, y] := by
    simpa using Row.made (w.alloc (.cells #[.string m.head, v, .int .i64 m.term.kind, .int .i64 m.term.num, x] 71)) 71 #[.string m.head, u, .int .i64 m.term.kind, .int .i64 m.term.num, y]
  have HKX := Lib.hid (k.under hb hh)
  have HKY := Lib.hid (k'.under hb hh')
  obtain ⟨Ax, cx, Ux, rfl, -⟩ := k.parts
  obtain ⟨Ay, cy, Uy, rfl, -⟩ := k'.parts
  clear k k' h h'
  go_enter Try.func41, Try.ntmps41
  go_wp2_with fail
  refine (eqStringS_any v u m.body m.body lo hi lo' hi' _ hv hu).mono ?_
  rintro e w1 ⟨rfl, n, rfl⟩
  rw [eqSs_t rfl]
  have c02 := R0.cell 2
  have c03 := R0.cell 3
  have c04 := R0.cell 4
  have c12 := R1.cell 2
  have c13 := R1.cell 3
  have c14 := R1.cell 4
  simp at c02 c03 c04 c12 c13 c14
  have bw : Below w.heap.size w (((w.alloc (.cells #[.string m.head, v, .int .i64 m.term.kind, .int .i64 m.term.num, .slice Ax m.term.kids.length cx] 71)).alloc (.cells #[.string m.head, u, .int .i64 m.term.kind, .int .i64 m.term.num, .slice Ay m.term.kids.length cy] 71)).drewN n) := ⟨hb.os, hb.tape, hb.output, hb.size, hb.block⟩
  have HX2 := Lib.hid (HKX.out.drewN n)
  have HY2 := Lib.hid (HKY.out.drewN n)
  have HB := Lib.hid bw
  clear hb hv hu R0 R1 bw
  go_wp2_with fail
  refine (eqTerm_any m.term z _ _ lo hi lo' hi' _ HX2.out HY2.out (by simp [World.drewN]; omega) (by simp [World.drewN]; omega)).mono ?_
  rintro e w2 ⟨rfl, b2⟩
  go_wp2
  go_ret
  exact ⟨rfl, HB.out.trans (b2.mono HB.out.size)⟩

set_option maxRecDepth 100000 in
set_option maxHeartbeats 2000000 in
theorem eqMadeS_any (ms : List MadeD) (z : Bool) (v u : Value) (lo hi lo' hi' : Nat) (w : World) (h : DM z w lo hi v ms) (h' : DM z w lo' hi' u ms) (hh : hi ≤ w.heap.size) (hh' : hi' ≤ w.heap.size) :
    Calls Try.prog 16 #[v, u] w fun e w' => e = .returned (.bool true) ∧ Below w.heap.size w w' := by
  obtain ⟨A, c, rfl, hlc, hc, hcell⟩ := h
  obtain ⟨A', c', rfl, hlc', hc', hcell'⟩ := h'
  unfold maxLen at hc hc'
  have HC := Lib.hid hcell
  have HC' := Lib.hid hcell'
  clear hcell hcell'
  go_enter Try.func16, Try.ntmps16
  go_wp2
  go_loopw [5] (fun i wr => ∃ k : Nat, k ≤ ms.length ∧ i = .int .i64 k ∧ Below w.heap.size w wr) (fun i _ => ms.length - (intOf i).toNat)
  case atStart => exact ⟨0, by omega, rfl, Below.refl _ _⟩
  case round =>
    obtain ⟨k, hk, rfl, hbw⟩ := hrel
    have hsw := hbw.size
    by_cases hlt : k < ms.length
    · obtain ⟨b, off, rfl, _, hbh, _, hcc⟩ := HC.out (by omega)
      obtain ⟨b', off', rfl, _, hbh', _, hcc'⟩ := HC'.out (by omega)
      obtain ⟨_, _, hc0, x1, x4, hc1, hc2, hc3, hc4, hst, hkm⟩ := hcc k hlt
      obtain ⟨_, _, hd0, y1, y4, hd1, hd2, hd3, hd4, hst', hkm'⟩ := hcc' k hlt
      have k0 := (hbw.cell (p := ⟨b, off + k * 5, none⟩) (by show b < _; omega)).trans hc0
      have k1 := (hbw.cell (p := ⟨b, off + k * 5 + 1, none⟩) (by show b < _; omega)).trans hc1
      have k2 := (hbw.cell (p := ⟨b, off + k * 5 + 2, none⟩) (by show b < _; omega)).trans hc2
      have k3 := (hbw.cell (p := ⟨b, off + k * 5 + 3, none⟩) (by show b < _; omega)).trans hc3
      have k4 := (hbw.cell (p := ⟨b, off + k * 5 + 4, none⟩) (by show b < _; omega)).trans hc4
      have m0 := (hbw.cell (p := ⟨b', off' + k * 5, none⟩) (by show b' < _; omega)).trans hd0
      have m1 := (hbw.cell (p := ⟨b', off' + k * 5 + 1, none⟩) (by show b' < _; omega)).trans hd1
      have m2 := (hbw.cell (p := ⟨b', off' + k * 5 + 2, none⟩) (by show b' < _; omega)).trans hd2
      have m3 := (hbw.cell (p := ⟨b', off' + k * 5 + 3, none⟩) (by show b' < _; omega)).trans hd3
      have m4 := (hbw.cell (p := ⟨b', off' + k * 5 + 4, none⟩) (by show b' < _; omega)).trans hd4
      have g1 := hst.below hbw hh
      have g2 := hst'.below hbw hh'
      have g3 := hkm.under hbw hh
      have g4 := hkm'.under hbw hh'
      have i1 : (k : Int) < (ms.length : Int) := by omega
      have n1 : (0 : Int) ≤ (k : Int) := by omega
      clear hcc hcc' hc0 hc1 hc2 hc3 hc4 hd0 hd1 hd2 hd3 hd4 hst hst' hkm hkm'
      have hbw2 : Below w.heap.size w wr.drew := hbw.drew
      have g1d : Strs wr.drew lo hi x1 ms[k].body := g1.drewN 1
      have g2d : Strs wr.drew lo' hi' y1 ms[k].body := g2.drewN 1
      have g3d : KM z wr.drew lo hi x4 ms[k].term.kids := g3.drewN 1
      have g4d : KM z wr.drew lo' hi' y4 ms[k].term.kids := g4.drewN 1
      have hswd : w.heap.size ≤ wr.drew.heap.size := hsw
      go_wp2
      go_still_tail 8, (by kernel_rfl)
      change wpList _ _ _ _ _ wr.drew
      generalize wr.drew = w2 at hbw2 g1d g2d g3d g4d hswd ⊢
      go_wp2_with fail
      refine (eqMade_any ms[k] z x1 y1 x4 y4 lo hi lo' hi' _ g1d g2d g3d g4d (by omega) (by omega)).mono ?_
      rintro e w1 ⟨rfl, hb1⟩
      go_wp2
      go_roundw
      case rel => exact ⟨k + 1, by omega, by go_num, hbw2.trans (hb1.mono hswd)⟩
      case measure => simp [intOf]; omega
    · go_wp2
      go_ret
      exact ⟨rfl, hbw⟩
end Go.Proofs.Ytbaofldcdcllfaa

/- The marks from 1 on, their numbers behind a name. -/
namespace Go.Proofs.Ytbaofldcdcllfaa
open Go.RowKit

theorem cnt_bulk (rs : List RuleD) : cntTo rs rs.length ≤ bulkR rs := by
  unfold cntTo bulkR
  rw [List.take_length]
  induction rs with
  | nil => simp
  | cons r rs ih =>
    simp only [List.length_cons, List.map_cons, List.sum_cons] at ih ⊢
    unfold bulkS at ih ⊢
    omega
theorem markGram_one (v : Value) (rs : List RuleD) (lo hi : Nat) (w : World) (h : OwnR w lo hi v rs) (hh : hi ≤ w.heap.size) (h2 : cntTo rs rs.length ≤ 2000000) :
    Calls Try.prog 18 #[.agg #[v], .int .i64 1] w fun e w' => ∃ K : Int, e = .returned (.int .i64 K) ∧ 0 ≤ K ∧ OwnR w' lo hi v (markR 1 rs) ∧ Mid lo hi w w' :=
  Calls.mono (markGram_any v rs lo hi 1 w h hh (Nat.le_refl _) (by omega)) fun _ _ ⟨h1, h2⟩ => ⟨_, h1, by omega, h2⟩
theorem markStringS_one (v : Value) (ss : List ByteArray) (g : Nat) (w : World) (h : OwnS w g v ss) (h2 : ss.length ≤ 2000000) :
    Calls Try.prog 45 #[v, .int .i64 1] w fun e w' => ∃ K : Int, e = .returned (.int .i64 K) ∧ 0 ≤ K ∧ K = ((1 + ss.length : Nat) : Int) ∧ OwnS w' g v (marks 1 ss.length) ∧ Mid g (g + 1) w w' :=
  Calls.mono (markStringS_any v ss g 1 w h (Nat.le_refl _) (by omega)) fun _ _ ⟨h1, h2⟩ => ⟨_, h1, by omega, rfl, h2⟩
end Go.Proofs.Ytbaofldcdcllfaa
