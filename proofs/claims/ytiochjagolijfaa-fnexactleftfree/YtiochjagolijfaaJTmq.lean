import Derived.Test.YtiochjagolijfaaJLfc
import Derived.Test.YtiochjagolijfaaLfs
import Derived.Test.YtiochjagolijfaaJGmd
import Derived.Test.YtiochjagolijfaaJOi
import Derived.Test.YtiochjagolijfaaJSz
import Derived.Test.YtiochjagolijfaaJEq
/- LeftFree, of the program. -/
namespace Go.Proofs.Ytiochjagolijfaa
open Go.RowKit

set_option maxRecDepth 100000 in
set_option maxHeartbeats 4000000 in
theorem implLeftFree_any (v : Value) (ms : List MadeD) (lo hi : Nat) (w : World) (h : DM true w lo hi v ms) (hhi : hi ≤ w.heap.size) :
    Calls Try.prog 15 #[v] w fun e w' => e = .returned (.bool (freeB ms)) ∧ Below w.heap.size w w' := by
  have HV := Lib.hid h
  obtain ⟨A, c, rfl, -⟩ := h
  by_cases hbig : 400 < ms.length
  · have i1 : (400 : Int) < (ms.length : Int) := by omega
    have HE := Lib.hid (freeB_big hbig)
    go_enter Try.func15, Try.ntmps15
    go_wp2
    go_ret
    exact ⟨ret_bool HE.out.symm, Below.refl _ _⟩
  have i0 : ¬ (400 : Int) < (ms.length : Int) := by omega
  have hml : ms.length ≤ 400 := by omega
  have hmf : ∀ (fn : Fn) (first cap : Array Value) (w : World), (Instr.makeFunc fn first cap).run Try.prog w = .ok (.func fn first cap) w := fun _ _ _ _ => rfl
  go_enter Try.func15, Try.ntmps15
  go_wp2_with fail
  refine (cloneMades_any _ ms lo hi _ HV.out hhi (by omega)).mono ?_
  rintro e w1 ⟨u1, xs1, rfl, G1, hx1, b1⟩
  have HG1 := Lib.hid G1
  have HX1 := Lib.hid hx1
  have HB1 := Lib.hid b1
  obtain ⟨A1, c1, rfl, -⟩ := G1.form
  clear G1 hx1 b1
  go_wp2
  go_loopg [3, 4, 5] (ms.length + 1) (fun gk v3 v4 _ wr => ∃ (bf : Int) (xs : List Gx) (ls : List MadeD), v4 = .int .i64 bf ∧ ((bf = -1 ∧ gk = ms.length + 1) ∨ (bf = (gk : Int) ∧ gk ≤ ms.length)) ∧ ls.length ≤ gk ∧ ls.length ≤ ms.length ∧ GrowH wr w.heap.size v3 xs ∧ xs.map (·.m) = ls ∧ LfI ms ls ∧ (bf = (ls.length : Int) → (nextL ls).length = ls.length) ∧ Below w.heap.size w wr)
  case atStart => exact ⟨-1, xs1, ms, rfl, .inl ⟨rfl, rfl⟩, by omega, Nat.le_refl _, HG1.out, HX1.out, LfI.start ms, (fun e => by omega), HB1.out⟩
  case round =>
    clear HG1 HX1 HB1
    obtain ⟨bf, xs, ls, rfl, hgk, hlg, hlm, hG, hx, hL, hfix, hbw⟩ := hrel
    have hzw := hbw.size
    have hxl : xs.length = ls.length := by rw [← hx, List.length_map]
    have HG := Lib.hid hG
    have HX := Lib.hid hx
    have HL := Lib.hid hL
    have HBW := Lib.hid hbw
    have HDM := Lib.hid (hx ▸ hG.dm hzw)
    have HAP : Hid (∀ g, u3.ownBlock = some g → g < wr.heap.size) := Lib.hid fun g hg => (hG.row.lt g hg).2
    obtain ⟨A3, c3, e3, -⟩ := hG.form
    rw [hxl] at e3
    subst e3
    by_cases hbf : bf = (ls.length : Int)
    · have HFX := Lib.hid (hfix hbf)
      clear hfix hG hx hL hbw hgk
      subst hbf
      by_cases h0 : ls.length = 0
      · have HE : Hid (freeB ms = true) := Lib.hid (freeB_yes hml (by
          have := HL.out
          rw [List.eq_nil_of_length_eq_zero h0] at this
          exact this.free))
        have d0 : ((ls.length : Int) == 0) = true := by rw [h0]; rfl
        go_wp2
        go_ret
        exact ⟨ret_bool HE.out.symm, HBW.out⟩
      · have HE : Hid (freeB ms = false) := Lib.hid (freeB_no (HL.out.round HFX.out fun e => h0 (by rw [e]; rfl)))
        have d0 : ((ls.length : Int) == 0) = false := by rw [beq_eq_false_iff_ne]; omega
        go_wp2
        go_ret
        exact ⟨ret_bool HE.out.symm, HBW.out⟩
    · have HGK : Hid (ls.length < gk) := Lib.hid (by omega)
      clear hfix hG hx hL hbw hgk
      go_wp2_with fail
      refine (byHead_any _ ls 0 wr.heap.size _ HDM.out (Nat.le_refl _) (by omega)).mono ?_
      rintro e w2 ⟨f, rfl, BH, b2⟩
      have z2 := b2.size
      have ha := al1 w2 (.cells #[.map (some wr.heap.size)] 78)
      have R2 := Row.made w2 78 #[.map (some wr.heap.size)]
      have hbl := BH.lt
      have HGN : Hid (GnI (w2.alloc (.cells #[.map (some wr.heap.size)] 78)) w2.heap.size wr.heap.size ls f) := Lib.hid ⟨BH.byL.keep (ha.block _ hbl), R2, by omega⟩
      have HG2 := Lib.hid ((HG.out.below hzw b2).below (by omega) ha)
      have HB2 := Lib.hid ((HBW.out.trans (b2.mono hzw)).trans (ha.mono (by omega)))
      clear BH b2 ha R2
      go_wp2_with fail
      refine (deleteFunc_any _ xs w.heap.size w2.heap.size wr.heap.size ls f _ HG2.out (by simp; omega) HGN.out (fun g hg => by have := HAP.out g hg; omega) (by omega)).mono ?_
      rintro e w3 ⟨u, rfl, G3, _, b3⟩
      have FIN : Hid (GrowH w3 w.heap.size u (stays ls xs) ∧ (stays ls xs).map (·.m) = nextL ls ∧ LfI ms (nextL ls) ∧ Below w.heap.size w w3) := Lib.hid ⟨G3, by rw [stays_mades, HX.out]; rfl, HL.out.next, HB2.out.trans b3⟩
      have hnl := nextL_len ls
      obtain ⟨A4, c4, e4, -⟩ := G3.form
      subst e4
      clear G3 b3
      go_wp2
      go_roundg ls.length
      case rel => exact ⟨(ls.length : Int), _, nextL ls, rfl, .inr ⟨rfl, hlm⟩, hnl, by omega, FIN.out.1, FIN.out.2.1, FIN.out.2.2.1, (fun e => by
          have e2 : (nextL ls).length = ls.length := by omega
          have : nextL ls = ls := List.filter_eq_self.2 (by
            intro m hm
            rw [nextL_same e2 m hm]; rfl)
          rw [this, this]), FIN.out.2.2.2⟩
      case measure => exact HGK.out
end Go.Proofs.Ytiochjagolijfaa

/- The law's own measure of Mades that came in: szMade, szMadeS. -/
namespace Go.Proofs.Ytiochjagolijfaa
open Go.RowKit

set_option maxHeartbeats 1000000 in
theorem szMade_any (m : MadeD) (u x : Value) (lo hi : Nat) (left : Int) (w : World) (hh : m.head.size ≤ maxLen) (h : Strs w lo hi u m.body) (hk : KM false w lo hi x m.term.kids) (hhi : hi ≤ w.heap.size) (h0 : 0 ≤ left) (h1 : left ≤ 1048576) :
    Calls Try.prog 26 #[mdV m u x, .int .i64 left] w fun e w' => e = .returned (.int .i64 (szOut left (bulkD m))) ∧ Below w.heap.size w w' := by
  unfold maxLen at hh
  unfold mdV
  have hb : Below w.heap.size w (w.alloc (.cells #[.string m.head, u, .int .i64 m.term.kind, .int .i64 m.term.num, x] 65)) := (Below.refl _ _).alloc (Nat.le_refl _) _
  by_cases hn : left < m.head.size
  · go_enter Try.func26, Try.ntmps26
    go_wp2
    go_ret
    exact ⟨ret_int (by rw [szOut_neg]; unfold bulkD; omega), hb⟩
  have d0 : decide (left - (m.head.size : Int) < 0) = false := decide_eq_false (by omega)
  by_cases ht : left - (m.head.size : Int) < bulkS m.body
  · have e1 : szOut (left - (m.head.size : Int)) (bulkS m.body) = -1 := szOut_neg ht
    have E1 := Lib.hid e1
    clear e1
    go_enter Try.func26, Try.ntmps26
    go_wp2_with (go_at_call 66; refine (szStringS_any u m.body lo hi _ _ (h.below hb hhi) (by omega) (by omega)).mono ?_; rintro e w' ⟨rfl, rfl⟩; rw [E1.out])
    go_ret
    exact ⟨ret_int (by rw [szOut_neg]; unfold bulkD; omega), hb⟩
  · have e1 : szOut (left - (m.head.size : Int)) (bulkS m.body) = left - (m.head.size : Int) - (bulkS m.body : Int) := szOut_pos ht
    have E1 := Lib.hid e1
    clear e1
    have d1 : decide (left - (m.head.size : Int) - (bulkS m.body : Int) < 0) = false := decide_eq_false (by omega)
    have HK := Lib.hid (hk.under hb hhi)
    by_cases hv : left - (m.head.size : Int) - (bulkS m.body : Int) < sizeMs m.term.kids
    · have e2 := szOut_neg hv
      have E2 := Lib.hid e2
      clear e2
      go_enter Try.func26, Try.ntmps26
      go_wp2_with fail
      refine (szStringS_any u m.body lo hi _ _ (h.below hb hhi) (by omega) (by omega)).mono ?_
      rintro e w' ⟨rfl, rfl⟩
      rw [E1.out]
      go_wp2_with fail
      refine (szTerm_of m.term (szTermS_any _) x lo hi _ _ HK.out (by simp; omega) (by omega) (by omega)).mono ?_
      rintro e w' ⟨rfl, hb2⟩
      rw [E2.out]
      go_wp2
      go_ret
      exact ⟨ret_int (by rw [szOut_neg]; unfold bulkD; omega), hb.trans (hb2.mono (by simp))⟩
    · have e2 := szOut_pos hv
      have E2 := Lib.hid e2
      clear e2
      have d2 : decide (left - (m.head.size : Int) - (bulkS m.body : Int) - (sizeMs m.term.kids : Int) < 0) = false := decide_eq_false (by omega)
      go_enter Try.func26, Try.ntmps26
      go_wp2_with fail
      refine (szStringS_any u m.body lo hi _ _ (h.below hb hhi) (by omega) (by omega)).mono ?_
      rintro e w' ⟨rfl, rfl⟩
      rw [E1.out]
      go_wp2_with fail
      refine (szTerm_of m.term (szTermS_any _) x lo hi _ _ HK.out (by simp; omega) (by omega) (by omega)).mono ?_
      rintro e w' ⟨rfl, hb2⟩
      rw [E2.out]
      go_wp2
      go_ret
      exact ⟨ret_int (by rw [szOut_pos (by unfold bulkD; omega)]; unfold bulkD; omega), hb.trans (hb2.mono (by simp))⟩

set_option maxHeartbeats 1000000 in
theorem szMadeS_any (v : Value) (ms : List MadeD) (lo hi : Nat) (left : Int) (w : World) (h : DM false w lo hi v ms) (hhi : hi ≤ w.heap.size) (h0 : 0 ≤ left) (h1 : left ≤ 1048576) :
    Calls Try.prog 7 #[v, .int .i64 left] w fun e w' => e = .returned (.int .i64 (szOut left (bulkDs ms))) ∧ Below w.heap.size w w' := by
  obtain ⟨A, c, rfl, hlc, hc, hcell⟩ := h
  unfold maxLen at hc
  have HC := Lib.hid hcell
  clear hcell
  by_cases hn : left < ms.length
  · go_enter Try.func7, Try.ntmps7
    go_wp2
    go_ret
    exact ⟨ret_int (by rw [szOut_neg]; unfold bulkDs; omega), Below.refl _ _⟩
  have d0 : decide (left - (ms.length : Int) < 0) = false := decide_eq_false (by omega)
  go_enter Try.func7, Try.ntmps7
  go_wp2
  go_loopw [1, 5] (fun l i wr => ∃ k : Nat, k ≤ ms.length ∧ i = .int .i64 k ∧ l = .int .i64 (left - (ms.length : Int) - (madesTo ms k : Int)) ∧ 0 ≤ left - (ms.length : Int) - (madesTo ms k : Int) ∧ Below w.heap.size w wr) (fun _ i _ => ms.length - (intOf i).toNat)
  case atStart => exact ⟨0, by omega, rfl, by simp [madesTo], by simp [madesTo]; omega, Below.refl _ _⟩
  case round =>
    obtain ⟨k, hk, rfl, rfl, hle, hbw⟩ := hrel
    have hsw := hbw.size
    by_cases hlt : k < ms.length
    · obtain ⟨b, off, rfl, _, hbh, _, hcc⟩ := HC.out (by omega)
      obtain ⟨hhs, _, hc0, u, x, hc1, hc2, hc3, hc4, hst, hkm⟩ := hcc k hlt
      have hs := madesTo_succ ms k hlt
      have HS := Lib.hid hs
      have k0 := (hbw.cell (p := ⟨b, off + k * 5, none⟩) (by show b < _; omega)).trans hc0
      have k1 := (hbw.cell (p := ⟨b, off + k * 5 + 1, none⟩) (by show b < _; omega)).trans hc1
      have k2 := (hbw.cell (p := ⟨b, off + k * 5 + 2, none⟩) (by show b < _; omega)).trans hc2
      have k3 := (hbw.cell (p := ⟨b, off + k * 5 + 3, none⟩) (by show b < _; omega)).trans hc3
      have k4 := (hbw.cell (p := ⟨b, off + k * 5 + 4, none⟩) (by show b < _; omega)).trans hc4
      have hst' := hst.below hbw hhi
      have hkm' := hkm.under hbw hhi
      clear hs hcc hc0 hc1 hc2 hc3 hc4 hst hkm
      by_cases ht : left - (ms.length : Int) - (madesTo ms k : Int) < ((bulkD ms[k] : Nat) : Int)
      · have e1 := szOut_neg ht
        have E1 := Lib.hid e1
        clear e1
        go_wp2_with fail
        refine (szMade_any ms[k] u x lo hi _ _ hhs hst' hkm' (by omega) (by omega) (by omega)).mono ?_
        rintro e w' ⟨rfl, hb2⟩
        rw [E1.out]
        go_wp2
        go_ret
        exact ⟨ret_int (by rw [szOut_neg]; have := madesTo_le ms (k + 1); have := HS.out; omega), hbw.trans (hb2.mono hsw)⟩
      · have e1 := szOut_pos ht
        have E1 := Lib.hid e1
        clear e1
        have d1 : decide (left - (ms.length : Int) - (madesTo ms k : Int) - ((bulkD ms[k] : Nat) : Int) < 0) = false := decide_eq_false (by omega)
        go_wp2_with fail
        refine (szMade_any ms[k] u x lo hi _ _ hhs hst' hkm' (by omega) (by omega) (by omega)).mono ?_
        rintro e w' ⟨rfl, hb2⟩
        rw [E1.out]
        go_wp2
        go_roundw
        case rel => exact ⟨k + 1, by omega, by go_num, by rw [HS.out]; go_num, by rw [HS.out]; omega, hbw.trans (hb2.mono hsw)⟩
        case measure => simp [intOf]; omega
    · have hks : k = ms.length := by omega
      have HK := Lib.hid hks
      clear hks
      go_wp2
      go_ret
      refine ⟨ret_int ?_, hbw⟩
      have e := HK.out
      subst e
      have := madesTo_all ms
      rw [szOut_pos (by omega)]
      omega
end Go.Proofs.Ytiochjagolijfaa

/- Two lists of the same terms are told to be alike: eqTermS, eqTerm. -/
namespace Go.Proofs.Ytiochjagolijfaa
open Go.RowKit

def EqM (ts : List TermD) : Prop := ∀ (z : Bool) (v u : Value) (lo hi lo' hi' : Nat) (w : World), KM z w lo hi v ts → KM z w lo' hi' u ts → hi ≤ w.heap.size → hi' ≤ w.heap.size →
  Calls Try.prog 87 #[v, u] w fun e w' => e = .returned (.bool true) ∧ Below w.heap.size w w'

set_option maxHeartbeats 1000000 in
theorem eqTerm_of (t : TermD) (ih : EqM t.kids) (z : Bool) (v u : Value) (lo hi lo' hi' : Nat) (w : World) (h : KM z w lo hi v t.kids) (h' : KM z w lo' hi' u t.kids) (hh : hi ≤ w.heap.size) (hh' : hi' ≤ w.heap.size) :
    Calls Try.prog 59 #[tmV t v, tmV t u] w fun e w' => e = .returned (.bool true) ∧ Below w.heap.size w w' := by
  unfold tmV
  have d1 : (t.num != t.num) = false := by simp
  have d2 : (t.kind != t.kind) = false := by simp
  have hb : Below w.heap.size w ((w.alloc (.cells #[.int .i64 t.kind, .int .i64 t.num, v] 47)).alloc (.cells #[.int .i64 t.kind, .int .i64 t.num, u] 47)) := al2 _ _ _
  go_enter Try.func59, Try.ntmps59
  go_wp2_with fail
  refine (ih z v u lo hi lo' hi' _ (h.under hb hh) (h'.under hb hh') (by simp; omega) (by simp; omega)).mono ?_
  rintro e w1 ⟨rfl, hb1⟩
  have hb2 : Below w.heap.size w w1 := hb.trans (hb1.mono (by simp; omega))
  clear hb hb1
  go_wp2
  go_ret
  exact ⟨rfl, hb2⟩

set_option maxRecDepth 100000 in
set_option maxHeartbeats 1000000 in
theorem eqTermS_of (ts : List TermD) (ih : ∀ i (h : i < ts.length), EqM ts[i].kids) : EqM ts := by
  intro z v u lo hi lo' hi' w h h' hh hh'
  obtain ⟨A, c, U, rfl, hlc, hc, hs, hcell, hsub⟩ := h.parts
  obtain ⟨A', c', U', rfl, hlc', hc', hs', hcell', hsub'⟩ := h'.parts
  unfold maxLen at hc hc'
  have HC := Lib.hid hcell
  have HC' := Lib.hid hcell'
  have HB := Lib.hid hsub
  have HB' := Lib.hid hsub'
  clear hcell hcell' hsub hsub' h h' hs hs'
  go_enter Try.func87, Try.ntmps87
  go_wp2
  go_loopw [5] (fun i wr => ∃ k : Nat, k ≤ ts.length ∧ i = .int .i64 k ∧ Below w.heap.size w wr) (fun i _ => ts.length - (intOf i).toNat)
  case atStart => exact ⟨0, by omega, rfl, Below.refl _ _⟩
  case round =>
    obtain ⟨k, hk, rfl, hbw⟩ := hrel
    have hsw := hbw.size
    by_cases hlt : k < ts.length
    · obtain ⟨b, off, rfl, _, hbh, _, hcc⟩ := HC.out (by omega)
      obtain ⟨b', off', rfl, _, hbh', _, hcc'⟩ := HC'.out (by omega)
      obtain ⟨hc0, hc1, hc2⟩ := hcc k hlt
      obtain ⟨hd0, hd1, hd2⟩ := hcc' k hlt
      have k0 := (hbw.cell (p := ⟨b, off + k * 3, none⟩) (by show b < _; omega)).trans hc0
      have k1 := (hbw.cell (p := ⟨b, off + k * 3 + 1, none⟩) (by show b < _; omega)).trans hc1
      have k2 := (hbw.cell (p := ⟨b, off + k * 3 + 2, none⟩) (by show b < _; omega)).trans hc2
      have m0 := (hbw.cell (p := ⟨b', off' + k * 3, none⟩) (by show b' < _; omega)).trans hd0
      have m1 := (hbw.cell (p := ⟨b', off' + k * 3 + 1, none⟩) (by show b' < _; omega)).trans hd1
      have m2 := (hbw.cell (p := ⟨b', off' + k * 3 + 2, none⟩) (by show b' < _; omega)).trans hd2
      have g1 := (HB.out k hlt).under hbw hh
      have g2 := (HB'.out k hlt).under hbw hh'
      have i1 : (k : Int) < (ts.length : Int) := by omega
      have n1 : (0 : Int) ≤ (k : Int) := by omega
      clear hcc hcc' hc0 hc1 hc2 hd0 hd1 hd2
      have hbw2 : Below w.heap.size w wr.drew := hbw.drew
      have g1d : KM z wr.drew lo hi (U k) ts[k].kids := g1.drewN 1
      have g2d : KM z wr.drew lo' hi' (U' k) ts[k].kids := g2.drewN 1
      have hswd : w.heap.size ≤ wr.drew.heap.size := hsw
      go_wp2
      go_still_tail 8, (by kernel_rfl)
      change wpList _ _ _ _ _ wr.drew
      generalize wr.drew = w2 at hbw2 g1d g2d hswd ⊢
      go_wp2_with fail
      refine (eqTerm_of ts[k] (ih k hlt) z (U k) (U' k) lo hi lo' hi' _ g1d g2d (by omega) (by omega)).mono ?_
      rintro e w1 ⟨rfl, hb1⟩
      go_wp2
      go_roundw
      case rel => exact ⟨k + 1, by omega, by go_num, hbw2.trans (hb1.mono hswd)⟩
      case measure => simp [intOf]; omega
    · go_wp2
      go_ret
      exact ⟨rfl, hbw⟩
theorem eqTermS_any (ts : List TermD) : EqM ts := terms_ind eqTermS_of ts
theorem eqTerm_any (t : TermD) (z : Bool) (v u : Value) (lo hi lo' hi' : Nat) (w : World) (h : KM z w lo hi v t.kids) (h' : KM z w lo' hi' u t.kids) (hh : hi ≤ w.heap.size) (hh' : hi' ≤ w.heap.size) :
    Calls Try.prog 59 #[tmV t v, tmV t u] w fun e w' => e = .returned (.bool true) ∧ Below w.heap.size w w' :=
  eqTerm_of t (eqTermS_any _) z v u lo hi lo' hi' w h h' hh hh'
end Go.Proofs.Ytiochjagolijfaa
