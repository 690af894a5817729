import Derived.Test.YtiochjagolijfaaJGmd
import Derived.Test.YtiochjagolijfaaJTo
import Derived.Test.YtiochjagolijfaaEq
/- The law's own measure of Mades that came in: szMade, szMadeS. -/
namespace Go.Proofs.Ytiochjagolijfaa
open Go.RowKit

set_option maxHeartbeats 1000000 in
theorem szMade_any (m : MadeD) (u x : Value) (lo hi : Nat) (left : Int) (w : World) (hh : m.head.size ≤ maxLen) (h : Strs w lo hi u m.body) (hk : KM false w lo hi x m.term.kids) (hhi : hi ≤ w.heap.size) (h0 : 0 ≤ left) (h1 : left ≤ 1048576) :
    Calls Try.prog 26 #[mdV m u x, .int .i64 left] w fun e w' => e = .returned (.int .i64 (szOut left (bulkD m))) ∧ Below w.heap.size w w' := by
  unfold maxLen at hh
  unfold mdV
  have hb : Below w.heap.size w (w.alloc (.cells #[.string m.head, u, .int .i64 m.term.kind, .int .i64 m.term.num, x] 65)) := (Below.refl _ _).alloc (Nat.le_refl _) _
  by_cases hn : left < m.head.size
  · go_enter Try.func26, Try.ntmps26
    go_wp2
    go_ret
    exact ⟨ret_int (by rw [szOut_neg]; unfold bulkD; omega), hb⟩
  have d0 : decide (left - (m.head.size : Int) < 0) = false := decide_eq_false (by omega)
  by_cases ht : left - (m.head.size : Int) < bulkS m.body
  · have e1 : szOut (left - (m.head.size : Int)) (bulkS m.body) = -1 := szOut_neg ht
    have E1 := Lib.hid e1
    clear e1
    go_enter Try.func26, Try.ntmps26
    go_wp2_with (go_at_call 66; refine (szStringS_any u m.body lo hi _ _ (h.below hb hhi) (by omega) (by omega)).mono ?_; rintro e w' ⟨rfl, rfl⟩; rw [E1.out])
    go_ret
    exact ⟨ret_int (by rw [szOut_neg]; unfold bulkD; omega), hb⟩
  · have e1 : szOut (left - (m.head.size : Int)) (bulkS m.body) = left - (m.head.size : Int) - (bulkS m.body : Int) := szOut_pos ht
    have E1 := Lib.hid e1
    clear e1
    have d1 : decide (left - (m.head.size : Int) - (bulkS m.body : Int) < 0) = false := decide_eq_false (by omega)
    have HK := Lib.hid (hk.under hb hhi)
    by_cases hv : left - (m.head.size : Int) - (bulkS m.body : Int) < sizeMs m.term.kids
    · have e2 := szOut_neg hv
      have E2 := Lib.hid e2
      clear e2
      go_enter Try.func26, Try.ntmps26
      go_wp2_with fail
      refine (szStringS_any u m.body lo hi _ _ (h.below hb hhi) (by omega) (by omega)).mono ?_
      rintro e w' ⟨rfl, rfl⟩
      rw [E1.out]
      go_wp2_with fail
      refine (szTerm_of m.term (szTermS_any _) x lo hi _ _ HK.out (by simp; omega) (by omega) (by omega)).mono ?_
      rintro e w' ⟨rfl, hb2⟩
      rw [E2.out]
      go_wp2
      go_ret
      exact ⟨ret_int (by rw [szOut_neg]; unfold bulkD; omega), hb.trans (hb2.mono (by simp))⟩
    · have e2 := szOut_pos hv
      have E2 := Lib.hid e2
      clear e2
      have d2 : decide (left - (m.head.size : Int) - (bulkS m.body : Int) - (sizeMs m.term.kids : Int) < 0) = false := decide_eq_false (by omega)
      go_enter Try.func26, Try.ntmps26
      go_wp2_with fail
      refine (szStringS_any u m.body lo hi _ _ (h.below hb hhi) (by omega) (by omega)).mono ?_
      rintro e w' ⟨rfl, rfl⟩
      rw [E1.out]
      go_wp2_with fail
      refine (szTerm_of m.term (szTermS_any _) x lo hi _ _ HK.out (by simp; omega) (by omega) (by omega)).mono ?_
      rintro e w' ⟨rfl, hb2⟩
      rw [E2.out]
      go_wp2
      go_ret
      exact ⟨ret_int (by rw [szOut_pos (by unfold bulkD; omega)]; unfold bulkD; omega), hb.trans (hb2.mono (by simp))⟩

set_option maxHeartbeats 1000000 in
theorem szMadeS_any (v : Value) (ms : List MadeD) (lo hi : Nat) (left : Int) (w : World) (h : DM false w lo hi v ms) (hhi : hi ≤ w.heap.size) (h0 : 0 ≤ left) (h1 : left ≤ 1048576) :
    Calls Try.prog 7 #[v, .int .i64 left] w fun e w' => e = .returned (.int .i64 (szOut left (bulkDs ms))) ∧ Below w.heap.size w w' := by
  obtain ⟨A, c, rfl, hlc, hc, hcell⟩ := h
  unfold maxLen at hc
  have HC := Lib.hid hcell
  clear hcell
  by_cases hn : left < ms.length
  · go_enter Try.func7, Try.ntmps7
    go_wp2
    go_ret
    exact ⟨ret_int (by rw [szOut_neg]; unfold bulkDs; omega), Below.refl _ _⟩
  have d0 : decide (left - (ms.length : Int) < 0) = false := decide_eq_false (by omega)
  go_enter Try.func7, Try.ntmps7
  go_wp2
  go_loopw [1, 5] (fun l i wr => ∃ k : Nat, k ≤ ms.length ∧ i = .int .i64 k ∧ l = .int .i64 (left - (ms.length : Int) - (madesTo ms k : Int)) ∧ 0 ≤ left - (ms.length : Int) - (madesTo ms k : Int) ∧ Below w.heap.size w wr) (fun _ i _ => ms.length - (intOf i).toNat)
  case atStart => exact ⟨0, by omega, rfl, by simp [madesTo], by simp [madesTo]; omega, Below.refl _ _⟩
  case round =>
    obtain ⟨k, hk, rfl, rfl, hle, hbw⟩ := hrel
    have hsw := hbw.size
    by_cases hlt : k < ms.length
    · obtain ⟨b, off, rfl, _, hbh, _, hcc⟩ := HC.out (by omega)
      obtain ⟨hhs, _, hc0, u, x, hc1, hc2, hc3, hc4, hst, hkm⟩ := hcc k hlt
      have hs := madesTo_succ ms k hlt
      have HS := Lib.hid hs
      have k0 := (hbw.cell (p := ⟨b, off + k * 5, none⟩) (by show b < _; omega)).trans hc0
      have k1 := (hbw.cell (p := ⟨b, off + k * 5 + 1, none⟩) (by show b < _; omega)).trans hc1
      have k2 := (hbw.cell (p := ⟨b, off + k * 5 + 2, none⟩) (by show b < _; omega)).trans hc2
      have k3 := (hbw.cell (p := ⟨b, off + k * 5 + 3, none⟩) (by show b < _; omega)).trans hc3
      have k4 := (hbw.cell (p := ⟨b, off + k * 5 + 4, none⟩) (by show b < _; omega)).trans hc4
      have hst' := hst.below hbw hhi
      have hkm' := hkm.under hbw hhi
      clear hs hcc hc0 hc1 hc2 hc3 hc4 hst hkm
      by_cases ht : left - (ms.length : Int) - (madesTo ms k : Int) < ((bulkD ms[k] : Nat) : Int)
      · have e1 := szOut_neg ht
        have E1 := Lib.hid e1
        clear e1
        go_wp2_with fail
        refine (szMade_any ms[k] u x lo hi _ _ hhs hst' hkm' (by omega) (by omega) (by omega)).mono ?_
        rintro e w' ⟨rfl, hb2⟩
        rw [E1.out]
        go_wp2
        go_ret
        exact ⟨ret_int (by rw [szOut_neg]; have := madesTo_le ms (k + 1); have := HS.out; omega), hbw.trans (hb2.mono hsw)⟩
      · have e1 := szOut_pos ht
        have E1 := Lib.hid e1
        clear e1
        have d1 : decide (left - (ms.length : Int) - (madesTo ms k : Int) - ((bulkD ms[k] : Nat) : Int) < 0) = false := decide_eq_false (by omega)
        go_wp2_with fail
        refine (szMade_any ms[k] u x lo hi _ _ hhs hst' hkm' (by omega) (by omega) (by omega)).mono ?_
        rintro e w' ⟨rfl, hb2⟩
        rw [E1.out]
        go_wp2
        go_roundw
        case rel => exact ⟨k + 1, by omega, by go_num, by rw [HS.out]; go_num, by rw [HS.out]; omega, hbw.trans (hb2.mono hsw)⟩
        case measure => simp [intOf]; omega
    · have hks : k = ms.length := by omega
      have HK := Lib.hid hks
      clear hks
      go_wp2
      go_ret
      refine ⟨ret_int ?_, hbw⟩
      have e := HK.out
      subst e
      have := madesTo_all ms
      rw [szOut_pos (by omega)]
      omega
end Go.Proofs.Ytiochjagolijfaa

/- Two lists of the same terms are told to be alike: eqTermS, eqTerm. -/
namespace Go.Proofs.Ytiochjagolijfaa
open Go.RowKit

def EqM (ts : List TermD) : Prop := ∀ (z : Bool) (v u : Value) (lo hi lo' hi' : Nat) (w : World), KM z w lo hi v ts → KM z w lo' hi' u ts → hi ≤ w.heap.size → hi' ≤ w.heap.size →
  Calls Try.prog 87 #[v, u] w fun e w' => e = .returned (.bool true) ∧ Below w.heap.size w w'

set_option maxHeartbeats 1000000 in
theorem eqTerm_of (t : TermD) (ih : EqM t.kids) (z : Bool) (v u : Value) (lo hi lo' hi' : Nat) (w : World) (h : KM z w lo hi v t.kids) (h' : KM z w lo' hi' u t.kids) (hh : hi ≤ w.heap.size) (hh' : hi' ≤ w.heap.size) :
    Calls Try.prog 59 #[tmV t v, tmV t u] w fun e w' => e = .returned (.bool true) ∧ Below w.heap.size w w' := by
  unfold tmV
  have d1 : (t.num != t.num) = false := by simp
  have d2 : (t.kind != t.kind) = false := by simp
  have hb : Below w.heap.size w ((w.alloc (.cells #[.int .i64 t.kind, .int .i64 t.num, v] 47)).alloc (.cells #[.int .i64 t.kind, .int .i64 t.num, u] 47)) := al2 _ _ _
  go_enter Try.func59, Try.ntmps59
  go_wp2_with fail
  refine (ih z v u lo hi lo' hi' _ (h.under hb hh) (h'.under hb hh') (by simp; omega) (by simp; omega)).mono ?_
  rintro e w1 ⟨rfl, hb1⟩
  have hb2 : Below w.heap.size w w1 := hb.trans (hb1.mono (by simp; omega))
  clear hb hb1
  go_wp2
  go_ret
  exact ⟨rfl, hb2⟩

set_option maxRecDepth 100000 in
set_option maxHeartbeats 1000000 in
theorem eqTermS_of (ts : List TermD) (ih : ∀ i (h : i < ts.length), EqM ts[i].kids) : EqM ts := by
  intro z v u lo hi lo' hi' w h h' hh hh'
  obtain ⟨A, c, U, rfl, hlc, hc, hs, hcell, hsub⟩ := h.parts
  obtain ⟨A', c', U', rfl, hlc', hc', hs', hcell', hsub'⟩ := h'.parts
  unfold maxLen at hc hc'
  have HC := Lib.hid hcell
  have HC' := Lib.hid hcell'
  have HB := Lib.hid hsub
  have HB' := Lib.hid hsub'
  clear hcell hcell' hsub hsub' h h' hs hs'
  go_enter Try.func87, Try.ntmps87
  go_wp2
  go_loopw [5] (fun i wr => ∃ k : Nat, k ≤ ts.length ∧ i = .int .i64 k ∧ Below w.heap.size w wr) (fun i _ => ts.length - (intOf i).toNat)
  case atStart => exact ⟨0, by omega, rfl, Below.refl _ _⟩
  case round =>
    obtain ⟨k, hk, rfl, hbw⟩ := hrel
    have hsw := hbw.size
    by_cases hlt : k < ts.length
    · obtain ⟨b, off, rfl, _, hbh, _, hcc⟩ := HC.out (by omega)
      obtain ⟨b', off', rfl, _, hbh', _, hcc'⟩ := HC'.out (by omega)
      obtain ⟨hc0, hc1, hc2⟩ := hcc k hlt
      obtain ⟨hd0, hd1, hd2⟩ := hcc' k hlt
      have k0 := (hbw.cell (p := ⟨b, off + k * 3, none⟩) (by show b < _; omega)).trans hc0
      have k1 := (hbw.cell (p := ⟨b, off + k * 3 + 1, none⟩) (by show b < _; omega)).trans hc1
      have k2 := (hbw.cell (p := ⟨b, off + k * 3 + 2, none⟩) (by show b < _; omega)).trans hc2
      have m0 := (hbw.cell (p := ⟨b', off' + k * 3, none⟩) (by show b' < _; omega)).trans hd0
      have m1 := (hbw.cell (p := ⟨b', off' + k * 3 + 1, none⟩) (by show b' < _; omega)).trans hd1
      have m2 := (hbw.cell (p := ⟨b', off' + k * 3 + 2, none⟩) (by show b' < _; omega)).trans hd2
      have g1 := (HB.out k hlt).under hbw hh
      have g2 := (HB'.out k hlt).under hbw hh'
      have i1 : (k : Int) < (ts.length : Int) := by omega
      have n1 : (0 : Int) ≤ (k : Int) := by omega
      clear hcc hcc' hc0 hc1 hc2 hd0 hd1 hd2
      have hbw2 : Below w.heap.size w wr.drew := hbw.drew
      have g1d : KM z wr.drew lo hi (U k) ts[k].kids := g1.drewN 1
      have g2d : KM z wr.drew lo' hi' (U' k) ts[k].kids := g2.drewN 1
      have hswd : w.heap.size ≤ wr.drew.heap.size := hsw
      go_wp2
      go_still_tail 8, (by kernel_rfl)
      change wpList _ _ _ _ _ wr.drew
      generalize wr.drew = w2 at hbw2 g1d g2d hswd ⊢
      go_wp2_with fail
      refine (eqTerm_of ts[k] (ih k hlt) z (U k) (U' k) lo hi lo' hi' _ g1d g2d (by omega) (by omega)).mono ?_
      rintro e w1 ⟨rfl, hb1⟩
      go_wp2
      go_roundw
      case rel => exact ⟨k + 1, by omega, by go_num, hbw2.trans (hb1.mono hswd)⟩
      case measure => simp [intOf]; omega
    · go_wp2
      go_ret
      exact ⟨rfl, hbw⟩
theorem eqTermS_any (ts : List TermD) : EqM ts := terms_ind eqTermS_of ts
theorem eqTerm_any (t : TermD) (z : Bool) (v u : Value) (lo hi lo' hi' : Nat) (w : World) (h : KM z w lo hi v t.kids) (h' : KM z w lo' hi' u t.kids) (hh : hi ≤ w.heap.size) (hh' : hi' ≤ w.heap.size) :
    Calls Try.prog 59 #[tmV t v, tmV t u] w fun e w' => e = .returned (.bool true) ∧ Below w.heap.size w w' :=
  eqTerm_of t (eqTermS_any _) z v u lo hi lo' hi' w h h' hh hh'
end Go.Proofs.Ytiochjagolijfaa

/- Two lists of the same Mades are told to be alike: eqMade, eqMadeS. -/
namespace Go.Proofs.Ytiochjagolijfaa
open Go.RowKit

set_option maxRecDepth 100000 in
set_option maxHeartbeats 1000000 in
theorem eqMade_any (m : MadeD) (z : Bool) (v u x y : Value) (lo hi lo' hi' : Nat) (w : World) (h : Strs w lo hi v m.body) (h' : Strs w lo' hi' u m.body) (k : KM z w lo hi x m.term.kids) (k' : KM z w lo' hi' y m.term.kids) (hh : hi ≤ w.heap.size) (hh' : hi' ≤ w.heap.size) :
    Calls Try.prog 32 #[mdV m v x, mdV m u y] w fun e w' => e = .returned (.bool true) ∧ Below w.heap.size w w' := by
  unfold mdV
  have d2 : (m.head.toList == m.head.toList) = true := by simp
  have hb : Below w.heap.size w ((w.alloc (.cells #[.string m.head, v, .int .i64 m.term.kind, .int .i64 m.term.num, x] 67)).alloc (.cells #[.string m.head, u, .int .i64 m.term.kind, .int .i64 m.term.num, y] 67)) := al2 _ _ _
  have hv := h.below hb hh
  have hu := h'.below hb hh'
  have R0 : Row ((w.alloc (.cells #[.string m.head, v, .int .i64 m.term.kind, .int .i64 m.term.num, x] 67)).alloc (.cells #[.string m.head, u, .int .i64 m.term.kind, .int .i64 m.term.num, y] 67)) w.heap.size 67 #[.string m.head, v, .int .i64 m.term.kind, .int .i64 m.term.num, x] := (Row.made w _ _).alloc _
  have R1 : Row ((w.alloc (.cells #[.string m.head, v, .int .i64 m.term.kind, .int .i64 m.term.num, x] 67)).alloc (.cells #[.string m.head, u, .int .i64 m.term.kind, .int .i64 m.term.num, y] 67)) (w.heap.size + 1) 67 #[.string m.head, u, .int .i64 m.term.kind, .int .i64 m.term.num, y] := by
    simpa using Row.made (w.alloc (.cells #[.string m.head, v, .int .i64 m.term.kind, .int .i64 m.term.num, x] 67)) 67 #[.string m.head, u, .int .i64 m.term.kind, .int .i64 m.term.num, y]
  have HKX := Lib.hid (k.under hb hh)
  have HKY := Lib.hid (k'.under hb hh')
  obtain ⟨Ax, cx, Ux, rfl, -⟩ := k.parts
  obtain ⟨Ay, cy, Uy, rfl, -⟩ := k'.parts
  clear k k' h h'
  go_enter Try.func32, Try.ntmps32
  go_wp2_with fail
  refine (eqStringS_any v u m.body m.body lo hi lo' hi' _ hv hu).mono ?_
  rintro e w1 ⟨rfl, n, rfl⟩
  rw [eqSs_t rfl]
  have c02 := R0.cell 2
  have c03 := R0.cell 3
  have c04 := R0.cell 4
  have c12 := R1.cell 2
  have c13 := R1.cell 3
  have c14 := R1.cell 4
  simp at c02 c03 c04 c12 c13 c14
  have bw : Below w.heap.size w (((w.alloc (.cells #[.string m.head, v, .int .i64 m.term.kind, .int .i64 m.term.num, .slice Ax m.term.kids.length cx] 67)).alloc (.cells #[.string m.head, u, .int .i64 m.term.kind, .int .i64 m.term.num, .slice Ay m.term.kids.length cy] 67)).drewN n) := ⟨hb.os, hb.tape, hb.output, hb.size, hb.block⟩
  have HX2 := Lib.hid (HKX.out.drewN n)
  have HY2 := Lib.hid (HKY.out.drewN n)
  have HB := Lib.hid bw
  clear hb hv hu R0 R1 bw
  go_wp2_with fail
  refine (eqTerm_any m.term z _ _ lo hi lo' hi' _ HX2.out HY2.out (by simp [World.drewN]; omega) (by simp [World.drewN]; omega)).mono ?_
  rintro e w2 ⟨rfl, b2⟩
  go_wp2
  go_ret
  exact ⟨rfl, HB.out.trans (b2.mono HB.out.size)⟩

set_option maxRecDepth 100000 in
set_option maxHeartbeats 2000000 in
theorem eqMadeS_any (ms : List MadeD) (z : Bool) (v u : Value) (lo hi lo' hi' : Nat) (w : World) (h : DM z w lo hi v ms) (h' : DM z w lo' hi' u ms) (hh : hi ≤ w.heap.size) (hh' : hi' ≤ w.heap.size) :
    Calls Try.prog 11 #[v, u] w fun e w' => e = .returned (.bool true) ∧ Below w.heap.size w w' := by
  obtain ⟨A, c, rfl, hlc, hc, hcell⟩ := h
  obtain ⟨A', c', rfl, hlc', hc', hcell'⟩ := h'
  unfold maxLen at hc hc'
  have HC := Lib.hid hcell
  have HC' := Lib.hid hcell'
  clear hcell hcell'
  go_enter Try.func11, Try.ntmps11
  go_wp2
  go_loopw [5] (fun i wr => ∃ k : Nat, k ≤ ms.length ∧ i = .int .i64 k ∧ Below w.heap.size w wr) (fun i _ => ms.length - (intOf i).toNat)
  case atStart => exact ⟨0, by omega, rfl, Below.refl _ _⟩
  case round =>
    obtain ⟨k, hk, rfl, hbw⟩ := hrel
    have hsw := hbw.size
    by_cases hlt : k < ms.length
    · obtain ⟨b, off, rfl, _, hbh, _, hcc⟩ := HC.out (by omega)
      obtain ⟨b', off', rfl, _, hbh', _, hcc'⟩ := HC'.out (by omega)
      obtain ⟨_, _, hc0, x1, x4, hc1, hc2, hc3, hc4, hst, hkm⟩ := hcc k hlt
      obtain ⟨_, _, hd0, y1, y4, hd1, hd2, hd3, hd4, hst', hkm'⟩ := hcc' k hlt
      have k0 := (hbw.cell (p := ⟨b, off + k * 5, none⟩) (by show b < _; omega)).trans hc0
      have k1 := (hbw.cell (p := ⟨b, off + k * 5 + 1, none⟩) (by show b < _; omega)).trans hc1
      have k2 := (hbw.cell (p := ⟨b, off + k * 5 + 2, none⟩) (by show b < _; omega)).trans hc2
      have k3 := (hbw.cell (p := ⟨b, off + k * 5 + 3, none⟩) (by show b < _; omega)).trans hc3
      have k4 := (hbw.cell (p := ⟨b, off + k * 5 + 4, none⟩) (by show b < _; omega)).trans hc4
      have m0 := (hbw.cell (p := ⟨b', off' + k * 5, none⟩) (by show b' < _; omega)).trans hd0
      have m1 := (hbw.cell (p := ⟨b', off' + k * 5 + 1, none⟩) (by show b' < _; omega)).trans hd1
      have m2 := (hbw.cell (p := ⟨b', off' + k * 5 + 2, none⟩) (by show b' < _; omega)).trans hd2
      have m3 := (hbw.cell (p := ⟨b', off' + k * 5 + 3, none⟩) (by show b' < _; omega)).trans hd3
      have m4 := (hbw.cell (p := ⟨b', off' + k * 5 + 4, none⟩) (by show b' < _; omega)).trans hd4
      have g1 := hst.below hbw hh
      have g2 := hst'.below hbw hh'
      have g3 := hkm.under hbw hh
      have g4 := hkm'.under hbw hh'
      have i1 : (k : Int) < (ms.length : Int) := by omega
      have n1 : (0 : Int) ≤ (k : Int) := by omega
      clear hcc hcc' hc0 hc1 hc2 hc3 hc4 hd0 hd1 hd2 hd3 hd4 hst hst' hkm hkm'
      have hbw2 : Below w.heap.size w wr.drew := hbw.drew
      have g1d : Strs wr.drew lo hi x1 ms[k].body := g1.drewN 1
      have g2d : Strs wr.drew lo' hi' y1 ms[k].body := g2.drewN 1
      have g3d : KM z wr.drew lo hi x4 ms[k].term.kids := g3.drewN 1
      have g4d : KM z wr.drew lo' hi' y4 ms[k].term.kids := g4.drewN 1
      have hswd : w.heap.size ≤ wr.drew.heap.size := hsw
      go_wp2
      go_still_tail 8, (by kernel_rfl)
      change wpList _ _ _ _ _ wr.drew
      generalize wr.drew = w2 at hbw2 g1d g2d g3d g4d hswd ⊢
      go_wp2_with fail
      refine (eqMade_any ms[k] z x1 y1 x4 y4 lo hi lo' hi' _ g1d g2d g3d g4d (by omega) (by omega)).mono ?_
      rintro e w1 ⟨rfl, hb1⟩
      go_wp2
      go_roundw
      case rel => exact ⟨k + 1, by omega, by go_num, hbw2.trans (hb1.mono hswd)⟩
      case measure => simp [intOf]; omega
    · go_wp2
      go_ret
      exact ⟨rfl, hbw⟩
end Go.Proofs.Ytiochjagolijfaa
