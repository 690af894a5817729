import Derived.Test.YtbaofldcdcllfaaDoorJSz
import Derived.Test.YtbaofldcdcllfaaDoorJTrz
import Derived.Test.YtbaofldcdcllfaaDoorOwns
import Derived.WalkKit
import Derived.WalkSpells
import Derived.WalkLawsBesides
import Derived.Deep.OwnRows
/- The law's own measure of Mades that came in: szMade, szMadeS. -/
namespace Go.Proofs.YtbaofldcdcllfaaDoor
open Go.RowKit

set_option maxHeartbeats 1000000 in
theorem szMade_any (m : MadeD) (u x : Value) (lo hi : Nat) (left : Int) (w : World) (hh : m.head.size ≤ maxLen) (h : Strs w lo hi u m.body) (hk : KM false w lo hi x m.term.kids) (hhi : hi ≤ w.heap.size) (h0 : 0 ≤ left) (h1 : left ≤ 1048576) :
    Calls Tryd.prog 23 #[mdV m u x, .int .i64 left] w fun e w' => e = .returned (.int .i64 (szOut left (bulkD m))) ∧ Below w.heap.size w w' := by
  unfold maxLen at hh
  unfold mdV
  have hb : Below w.heap.size w (w.alloc (.cells #[.string m.head, u, .int .i64 m.term.kind, .int .i64 m.term.num, x] 57)) := (Below.refl _ _).alloc (Nat.le_refl _) _
  by_cases hn : left < m.head.size
  · go_enter Tryd.func23, Tryd.ntmps23
    go_wp2
    go_ret
    exact ⟨ret_int (by rw [szOut_neg]; unfold bulkD; omega), hb⟩
  have d0 : decide (left - (m.head.size : Int) < 0) = false := decide_eq_false (by omega)
  by_cases ht : left - (m.head.size : Int) < bulkS m.body
  · have e1 : szOut (left - (m.head.size : Int)) (bulkS m.body) = -1 := szOut_neg ht
    have E1 := Lib.hid e1
    clear e1
    go_enter Tryd.func23, Tryd.ntmps23
    go_wp2_with (go_at_call 34; refine (szStringS_any u m.body lo hi _ _ (h.below hb hhi) (by omega) (by omega)).mono ?_; rintro e w' ⟨rfl, rfl⟩; rw [E1.out])
    go_ret
    exact ⟨ret_int (by rw [szOut_neg]; unfold bulkD; omega), hb⟩
  · have e1 : szOut (left - (m.head.size : Int)) (bulkS m.body) = left - (m.head.size : Int) - (bulkS m.body : Int) := szOut_pos ht
    have E1 := Lib.hid e1
    clear e1
    have d1 : decide (left - (m.head.size : Int) - (bulkS m.body : Int) < 0) = false := decide_eq_false (by omega)
    have HK := Lib.hid (hk.under hb hhi)
    by_cases hv : left - (m.head.size : Int) - (bulkS m.body : Int) < sizeMs m.term.kids
    · have e2 := szOut_neg hv
      have E2 := Lib.hid e2
      clear e2
      go_enter Tryd.func23, Tryd.ntmps23
      go_wp2_with fail
      refine (szStringS_any u m.body lo hi _ _ (h.below hb hhi) (by omega) (by omega)).mono ?_
      rintro e w' ⟨rfl, rfl⟩
      rw [E1.out]
      go_wp2_with fail
      refine (szTerm_of m.term (szTermS_any _) x lo hi _ _ HK.out (by simp; omega) (by omega) (by omega)).mono ?_
      rintro e w' ⟨rfl, hb2⟩
      rw [E2.out]
      go_wp2
      go_ret
      exact ⟨ret_int (by rw [szOut_neg]; unfold bulkD; omega), hb.trans (hb2.mono (by simp))⟩
    · have e2 := szOut_pos hv
      have E2 := Lib.hid e2
      clear e2
      have d2 : decide (left - (m.head.size : Int) - (bulkS m.body : Int) - (sizeMs m.term.kids : Int) < 0) = false := decide_eq_false (by omega)
      go_enter Tryd.func23, Tryd.ntmps23
      go_wp2_with fail
      refine (szStringS_any u m.body lo hi _ _ (h.below hb hhi) (by omega) (by omega)).mono ?_
      rintro e w' ⟨rfl, rfl⟩
      rw [E1.out]
      go_wp2_with fail
      refine (szTerm_of m.term (szTermS_any _) x lo hi _ _ HK.out (by simp; omega) (by omega) (by omega)).mono ?_
      rintro e w' ⟨rfl, hb2⟩
      rw [E2.out]
      go_wp2
      go_ret
      exact ⟨ret_int (by rw [szOut_pos (by unfold bulkD; omega)]; unfold bulkD; omega), hb.trans (hb2.mono (by simp))⟩

set_option maxHeartbeats 1000000 in
theorem szMadeS_any (v : Value) (ms : List MadeD) (lo hi : Nat) (left : Int) (w : World) (h : DM false w lo hi v ms) (hhi : hi ≤ w.heap.size) (h0 : 0 ≤ left) (h1 : left ≤ 1048576) :
    Calls Tryd.prog 10 #[v, .int .i64 left] w fun e w' => e = .returned (.int .i64 (szOut left (bulkDs ms))) ∧ Below w.heap.size w w' := by
  obtain ⟨A, c, rfl, hlc, hc, hcell⟩ := h
  unfold maxLen at hc
  have HC := Lib.hid hcell
  clear hcell
  by_cases hn : left < ms.length
  · go_enter Tryd.func10, Tryd.ntmps10
    go_wp2
    go_ret
    exact ⟨ret_int (by rw [szOut_neg]; unfold bulkDs; omega), Below.refl _ _⟩
  have d0 : decide (left - (ms.length : Int) < 0) = false := decide_eq_false (by omega)
  go_enter Tryd.func10, Tryd.ntmps10
  go_wp2
  go_loopw [1, 5] (fun l i wr => ∃ k : Nat, k ≤ ms.length ∧ i = .int .i64 k ∧ l = .int .i64 (left - (ms.length : Int) - (madesTo ms k : Int)) ∧ 0 ≤ left - (ms.length : Int) - (madesTo ms k : Int) ∧ Below w.heap.size w wr) (fun _ i _ => ms.length - (intOf i).toNat)
  case atStart => exact ⟨0, by omega, rfl, by simp [madesTo], by simp [madesTo]; omega, Below.refl _ _⟩
  case round =>
    obtain ⟨k, hk, rfl, rfl, hle, hbw⟩ := hrel
    have hsw := hbw.size
    by_cases hlt : k < ms.length
    · obtain ⟨b, off, rfl, _, hbh, _, hcc⟩ := HC.out (by omega)
      obtain ⟨hhs, _, hc0, u, x, hc1, hc2, hc3, hc4, hst, hkm⟩ := hcc k hlt
      have hs := madesTo_succ ms k hlt
      have HS := Lib.hid hs
      have k0 := (hbw.cell (p := ⟨b, off + k * 5, none⟩) (by show b < _; omega)).trans hc0
      have k1 := (hbw.cell (p := ⟨b, off + k * 5 + 1, none⟩) (by show b < _; omega)).trans hc1
      have k2 := (hbw.cell (p := ⟨b, off + k * 5 + 2, none⟩) (by show b < _; omega)).trans hc2
      have k3 := (hbw.cell (p := ⟨b, off + k * 5 + 3, none⟩) (by show b < _; omega)).trans hc3
      have k4 := (hbw.cell (p := ⟨b, off + k * 5 + 4, none⟩) (by show b < _; omega)).trans hc4
      have hst' := hst.below hbw hhi
      have hkm' := hkm.under hbw hhi
      clear hs hcc hc0 hc1 hc2 hc3 hc4 hst hkm
      by_cases ht : left - (ms.length : Int) - (madesTo ms k : Int) < ((bulkD ms[k] : Nat) : Int)
      · have e1 := szOut_neg ht
        have E1 := Lib.hid e1
        clear e1
        go_wp2_with fail
        refine (szMade_any ms[k] u x lo hi _ _ hhs hst' hkm' (by omega) (by omega) (by omega)).mono ?_
        rintro e w' ⟨rfl, hb2⟩
        rw [E1.out]
        go_wp2
        go_ret
        exact ⟨ret_int (by rw [szOut_neg]; have := madesTo_le ms (k + 1); have := HS.out; omega), hbw.trans (hb2.mono hsw)⟩
      · have e1 := szOut_pos ht
        have E1 := Lib.hid e1
        clear e1
        have d1 : decide (left - (ms.length : Int) - (madesTo ms k : Int) - ((bulkD ms[k] : Nat) : Int) < 0) = false := decide_eq_false (by omega)
        go_wp2_with fail
        refine (szMade_any ms[k] u x lo hi _ _ hhs hst' hkm' (by omega) (by omega) (by omega)).mono ?_
        rintro e w' ⟨rfl, hb2⟩
        rw [E1.out]
        go_wp2
        go_roundw
        case rel => exact ⟨k + 1, by omega, by go_num, by rw [HS.out]; go_num, by rw [HS.out]; omega, hbw.trans (hb2.mono hsw)⟩
        case measure => simp [intOf]; omega
    · have hks : k = ms.length := by omega
      have HK := Lib.hid hks
      clear hks
      go_wp2
      go_ret
      refine ⟨ret_int ?_, hbw⟩
      have e := HK.out
      subst e
      have := madesTo_all ms
      rw [szOut_pos (by omega)]
      omega
end Go.Proofs.YtbaofldcdcllfaaDoor

/- What came in, laid anew: toStringS, toRule, toRuleS, toGram. -/
namespace Go.Proofs.YtbaofldcdcllfaaDoor
open Go.RowKit

theorem Tryd.infoStr : (Tryd.prog.info? 9).map (fun i => (i.zero, i.size, i.bytes)) = some (some (.string ByteArray.empty), 1, 16) := by kernel_rfl

set_option maxHeartbeats 1000000 in
theorem toStringS_any (v : Value) (ss : List ByteArray) (lo hi : Nat) (w : World) (h : Strs w lo hi v ss) (hhi : hi ≤ w.heap.size) (hn : ss.length ≤ 1048576) :
    Calls Tryd.prog 38 #[v] w fun e w' => ∃ u, e = .returned u ∧ OwnS w' w.heap.size u ss ∧ w.heap.size < w'.heap.size ∧ Below w.heap.size w w' := by
  obtain ⟨A, c, rfl, hlc, hc, hsz, hcell⟩ := h
  have hmk := run_make_row' (P := Tryd.prog) 52 9 (.string ByteArray.empty) 16 Tryd.underlying52 Tryd.infoStr rfl .i64 .i64 ss.length (by omega) (by omega)
  have HC := Lib.hid hcell
  have HZ := Lib.hid hsz
  clear hcell hsz
  go_enter Tryd.func38, Tryd.ntmps38
  go_wp2
  go_loopw [4] (fun i wr => ∃ (k : Nat) (cur : Array Value), k ≤ ss.length ∧ i = .int .i64 k ∧ Row wr w.heap.size 9 cur ∧ cur.size = ss.length ∧ (∀ j (h : j < ss.length), j < k → cur[j]? = some (.string ss[j])) ∧ Below w.heap.size w wr) (fun i _ => ss.length - (intOf i).toNat)
  case atStart => exact ⟨0, _, by omega, rfl, Row.made w _ _, size_madeCells _ _, fun j _ hj => by omega, (Below.refl _ _).alloc (Nat.le_refl _) _⟩
  case round =>
    obtain ⟨k, cur, hk, rfl, hrow, hcs, hall, hbw⟩ := hrel
    have HR := Lib.hid hrow
    have HS := Lib.hid hcs
    have HA := Lib.hid hall
    by_cases hlt : k < ss.length
    · obtain ⟨b, off, rfl, _, hbh, hcc⟩ := HC.out (by omega)
      have hck := (hbw.cell (p := ⟨b, off + k, none⟩) (by show b < _; omega)).trans (hcc k hlt)
      obtain ⟨u0, hdst⟩ := hrow.there (show k < cur.size by omega)
      have hfr := hrow.free k
      clear hcc hrow hcs hall
      go_wp2
      go_roundw
      case rel =>
        refine ⟨k + 1, _, by omega, by go_num, HR.out.put k _, by simp [HS.out], fun j hj hjk => ?_, hbw.setCell (Nat.le_refl _) _⟩
        by_cases hjk2 : j = k
        · subst hjk2; rw [Array.getElem?_setIfInBounds_self_of_lt (by rw [HS.out]; exact hj)]
        · rw [Array.getElem?_setIfInBounds_ne (by omega)]; exact HA.out j hj (by omega)
      case measure => simp [intOf]; omega
    · have hks : k = ss.length := by omega
      clear hrow hcs hall
      go_wp2
      go_ret
      exact ⟨_, rfl, ⟨_, _, rfl, Nat.le_refl _, by unfold maxLen; omega, HZ.out, fun hp => ⟨0, cur, rfl, HR.out, fun i hi => by rw [Nat.zero_add]; exact HA.out i hi (by omega)⟩⟩, HR.out.lt, hbw⟩
end Go.Proofs.YtbaofldcdcllfaaDoor

/- A term that came in, laid anew: toTermS, toTerm. -/
namespace Go.Proofs.YtbaofldcdcllfaaDoor
open Go.RowKit

/-- a list of terms in memory of the call's own -/
def OwnM (w : World) (lo hi : Nat) (v : Value) (ts : List TermD) : Prop := KM true w lo hi v ts ∧ ShM w lo hi v ts
theorem OwnM.keep {w w' : World} {lo hi : Nat} {v : Value} {ts : List TermD} (h : OwnM w lo hi v ts) (k : Keeps lo hi w w') : OwnM w' lo hi v ts := ⟨h.1.keep k, h.2.keep k⟩
theorem OwnM.more {w : World} {lo hi lo' hi' : Nat} {v : Value} {ts : List TermD} (h : OwnM w lo hi v ts) (g1 : lo' ≤ lo) (g2 : hi ≤ hi') : OwnM w lo' hi' v ts := ⟨h.1.more g1 g2, h.2.more g1 g2⟩

def ToM (ts : List TermD) : Prop := ∀ (v : Value) (lo hi : Nat) (w : World), KM false w lo hi v ts → hi ≤ w.heap.size → sizeMs ts ≤ 1048576 →
  Calls Tryd.prog 51 #[v] w fun e w' => ∃ u, e = .returned u ∧ OwnM w' w.heap.size w'.heap.size u ts ∧ Below w.heap.size w w'

set_option maxHeartbeats 1000000 in
theorem toTerm_of (t : TermD) (ih : ToM t.kids) (u : Value) (lo hi : Nat) (w : World) (h : KM false w lo hi u t.kids) (hhi : hi ≤ w.heap.size) (hn : sizeMs t.kids ≤ 1048576) :
    Calls Tryd.prog 39 #[tmV t u] w fun e w' => ∃ x, e = .returned (tmV t x) ∧ OwnM w' w.heap.size w'.heap.size x t.kids ∧ Below w.heap.size w w' := by
  unfold tmV
  go_enter Tryd.func39, Tryd.ntmps39
  go_wp2_with fail
  refine (ih u lo hi _ (h.under (B := w.heap.size) (al3 _ _ _ _) hhi) (by simp; omega) (by omega)).mono ?_
  rintro e w1 ⟨x, rfl, hown, hb⟩
  have hb0 : Below w.heap.size w w1 := (al3 _ _ _ _).trans (hb.mono (by simp; omega))
  have R1 : Row w1 (w.heap.size + 1) 60 #[.int .i64 0, .int .i64 0, .slice none 0 0] := by
    refine Row.below (Row.alloc ?_ _) hb (by simp)
    simpa using Row.made (w.alloc (.cells #[.int .i64 t.kind, .int .i64 t.num, u] 55)) 60 #[.int .i64 0, .int .i64 0, .slice none 0 0]
  have R2 : Row w1 (w.heap.size + 1 + 1) 60 #[.int .i64 t.kind, .int .i64 t.num, .slice none 0 0] := by
    refine Row.below ?_ hb (by simp)
    simpa using Row.made ((w.alloc (.cells #[.int .i64 t.kind, .int .i64 t.num, u] 55)).alloc (.cells #[.int .i64 0, .int .i64 0, .slice none 0 0] 60)) 60 #[.int .i64 t.kind, .int .i64 t.num, .slice none 0 0]
  have hown' : OwnM w1 (w.heap.size + 1 + 1 + 1) w1.heap.size x t.kids := by simpa using hown
  clear hb hown
  have c10 := R1.cell 0
  have c11 := R1.cell 1
  have c12 := R1.cell 2
  have c20 := R2.cell 0
  have c21 := R2.cell 1
  have c22 := R2.cell 2
  simp at c10 c11 c12 c20 c21 c22
  have f10 := R1.free 0
  have f11 := R1.free 1
  have f12 := R1.free 2
  have f20 := R2.free 0
  have f21 := R2.free 1
  have f22 := R2.free 2
  clear R1 R2
  have HO := Lib.hid hown'
  obtain ⟨A, c, U, rfl, -⟩ := hown'.1.parts
  clear hown' h
  go_wp2
  refine bodyPost_ret (v := .agg #[.int .i64 t.kind, .int .i64 t.num, .slice A t.kids.length c]) (by simp [results, Tryd.results39, go_sem, c10, c11, c12]) rfl ⟨_, rfl, ?_, ?_⟩
  · refine (HO.out.keep ?_).more (by omega) (by simp [World.setCell])
    intro k h1 h2
    rw [Below.heap_setCell _ _ _ _ (by simp; omega), Below.heap_setCell _ _ _ _ (by simp; omega), Below.heap_setCell _ _ _ _ (by simp; omega), Below.heap_setCell _ _ _ _ (by simp; omega)]
  · exact (((hb0.setCell (by simp; omega) _).setCell (by simp) _).setCell (by simp) _).setCell (by simp) _
end Go.Proofs.YtbaofldcdcllfaaDoor
