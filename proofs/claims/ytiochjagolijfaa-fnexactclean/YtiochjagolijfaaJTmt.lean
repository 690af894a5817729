import Derived.Test.YtiochjagolijfaaJOis
import Derived.Test.YtiochjagolijfaaJHeld
import Derived.Deep.RegionHeld3
import Derived.Test.YtiochjagolijfaaGvs
import Derived.Test.YtiochjagolijfaaJRightb
import Derived.Test.YtiochjagolijfaaJClw
import Derived.Test.YtiochjagolijfaaJGvi
import Derived.Test.YtiochjagolijfaaJGmd
/- Marks that were laid into Mades are found again: laws.heldMadeS. -/
namespace Go.Proofs.Ytiochjagolijfaa
open Go.RowKit

set_option maxRecDepth 100000 in
set_option maxHeartbeats 4000000 in
theorem heldMadeS_any (v : Value) (ms : List MadeD) (lo hi k : Nat) (w : World) (h : DM false w lo hi v (marksD k ms)) (hh : hi ≤ w.heap.size) (hk1 : 1 ≤ k) (hk2 : k + cntDs ms ≤ 1000000000) :
    Calls Try.prog 13 #[v, .int .i64 (k : Int)] w fun e w' => e = .returned (.int .i64 ((k + cntDs ms : Nat) : Int)) ∧ Below w.heap.size w w' := by
  obtain ⟨A, c, rfl, hlc, hc, hcell⟩ := h
  have hml := marksD_len k ms
  rw [hml] at hlc ⊢
  unfold maxLen at hc
  have HC := Lib.hid hcell
  have HML := Lib.hid hml
  clear hcell hml
  go_enter Try.func13, Try.ntmps13
  go_wp2
  go_loopg [1, 5] ms.length (fun gk s1 s5 wr => ∃ j m : Nat, j ≤ ms.length ∧ s5 = .int .i64 j ∧ s1 = .int .i64 (m : Int) ∧ m = k + cntDs (ms.take j) ∧ Below w.heap.size w wr ∧ gk = ms.length - j)
  case atStart => exact ⟨0, k, by omega, rfl, rfl, by simp [cntDs], Below.refl _ _, rfl⟩
  case round =>
    obtain ⟨j, m, hj, rfl, rfl, hm, hbw, rfl⟩ := hrel
    have hsw := hbw.size
    by_cases hlt : j < ms.length
    · have hct := cntDs_take ms j hlt
      have hcl := cntDs_take_le ms (j + 1)
      have hjl : j < (marksD k ms).length := by rw [HML.out]; exact hlt
      obtain ⟨b, off, rfl, hb1, hb2, _, hcc⟩ := HC.out (by omega)
      obtain ⟨_, _, hc0, u, x, hc1, hc2, hc3, hc4, hst, hkm⟩ := hcc j hjl
      rw [marksD_at k ms j hjl, ← hm] at hc0 hc2 hc3 hst hkm
      have hcd : cntD ms[j] = 3 + ms[j].body.length + 2 * sizeMs ms[j].term.kids := rfl
      have hm1 : 1 ≤ m := by omega
      have hm9 : m + cntD ms[j] ≤ 1000000000 := by omega
      have HM2 : Hid (m + cntD ms[j] = k + cntDs (ms.take (j + 1))) := Lib.hid (by omega)
      have hkind : (markD m ms[j]).term.kind = (m : Int) + 1 + (ms[j].body.length : Int) := by show ((m + 1 + ms[j].body.length : Nat) : Int) = _; omega
      have hnum : (markD m ms[j]).term.num = (m : Int) + 1 + (ms[j].body.length : Int) + 1 := by show ((m + 2 + ms[j].body.length : Nat) : Int) = _; omega
      rw [hkind] at hc2
      rw [hnum] at hc3
      have k0 : wr.cell? ⟨b, off + j * 5, none⟩ = some (.string (mt m)) := (hbw.cell (p := ⟨b, off + j * 5, none⟩) (by show b < _; omega)).trans hc0
      have HQ1 := Lib.hid hc1
      have HQ2 := Lib.hid hc2
      have HQ3 := Lib.hid hc3
      have HQ4 := Lib.hid hc4
      have hst' : Strs wr lo hi u (marks (m + 1) ms[j].body.length) := hst.below hbw hh
      have hkm' : KM false wr lo hi x (markMs (m + 3 + ms[j].body.length) ms[j].term.kids) := hkm.under hbw hh
      have HST := Lib.hid hst'
      have HKM := Lib.hid hkm'
      obtain ⟨Au, cu, hu, -⟩ := (show ∃ A c, u = .slice A (marks (m + 1) ms[j].body.length).length c ∧ True by obtain ⟨A, c, e, _⟩ := hst'; exact ⟨A, c, e, trivial⟩)
      obtain ⟨Ax, cx, Ux, hx, -⟩ := hkm'.parts
      have HBW := Lib.hid hbw
      have i1 : (j : Int) < (ms.length : Int) := by omega
      have d1 : decide ((m : Int) + 1 + (ms[j].body.length : Int) < 0) = false := decide_eq_false (by omega)
      have d2 : decide ((m + 3 + ms[j].body.length + 2 * sizeMs ms[j].term.kids : Nat) < (0 : Int)) = false := decide_eq_false (by omega)
      clear hm hct hcl hcc hc0 hc1 hc2 hc3 hc4 hst hkm hst' hkm' hbw hkind hnum
      go_wp2_with fail
      go_region_held3 (fun w' => w'.cell? ⟨b, off + j * 5, none⟩ = some (.string (mt m)))
        (first | go_keep | (rw [b1.cell (by show b < _; simp; omega)]; assumption))
        (first | (go_at_call 33; refine (markText_any m _ (by omega) (by omega)).mono ?_; rintro e w1 ⟨rfl, b1⟩))
      have b1' : Below wr.heap.size wr w1 := ⟨b1.os, b1.tape, b1.output, b1.size, b1.block⟩
      have hb2' := HBW.out.trans (b1'.mono hsw)
      have z1 := hb2'.size
      have q1 := (hb2'.cell (p := ⟨b, off + j * 5 + 1, none⟩) (by show b < _; omega)).trans HQ1.out
      have hs2 := HST.out.below b1' (by omega)
      have HK2 := Lib.hid (HKM.out.under b1' (by omega))
      have HB2 := Lib.hid hb2'
      rw [hu] at q1 hs2
      clear b1 b1' hb2' k0
      go_wp2_with fail
      have step := heldStringS_any (.slice Au (marks (m + 1) ms[j].body.length).length cu) ms[j].body.length lo hi (m + 1) w1 hs2 (by omega) (by omega) (by omega)
      rw [show ((m + 1 : Nat) : Int) = (m : Int) + 1 by omega] at step
      refine step.mono ?_
      rintro e w3 ⟨rfl, b3⟩
      clear step
      have hb3 := HB2.out.trans (b3.mono z1)
      have z3 := hb3.size
      have q2 := (hb3.cell (p := ⟨b, off + j * 5 + 2, none⟩) (by show b < _; omega)).trans HQ2.out
      have q3 := (hb3.cell (p := ⟨b, off + j * 5 + 3, none⟩) (by show b < _; omega)).trans HQ3.out
      have q4 := (hb3.cell (p := ⟨b, off + j * 5 + 4, none⟩) (by show b < _; omega)).trans HQ4.out
      have HK3 := Lib.hid (HK2.out.under b3 (by omega))
      have HB3 := Lib.hid hb3
      rw [hx] at q4 HK3
      clear b3 hb3
      go_wp2_with fail
      have step := heldTermS_any ms[j].term.kids _ (m + 3 + ms[j].body.length) lo hi w3 HK3.out (by omega) (by omega) (by omega)
      rw [show ((m + 3 + ms[j].body.length : Nat) : Int) = (m : Int) + 1 + (ms[j].body.length : Int) + 1 + 1 by omega] at step
      refine step.mono ?_
      rintro e w4 ⟨rfl, rfl⟩
      clear step
      go_wp2
      go_roundg (ms.length - (j + 1))
      case rel => exact ⟨j + 1, m + 3 + ms[j].body.length + 2 * sizeMs ms[j].term.kids, by omega, by go_num, rfl, by have := HM2.out; omega, HB3.out, rfl⟩
      case measure => omega
    · have hje : j = ms.length := by omega
      subst hje
      rw [List.take_length] at hm
      have HM := Lib.hid hm
      clear hm
      go_wp2
      go_ret
      exact ⟨ret_int (by have := HM.out; omega), hbw⟩
end Go.Proofs.Ytiochjagolijfaa

/- The Mades of the useful Rules, of the model: Given; the marks of Mades from 1 on. -/
namespace Go.Proofs.Ytiochjagolijfaa
open Go.RowKit

theorem cntDs_bulk (ms : List MadeD) : cntDs ms ≤ 3 * bulkDs ms := by
  have h : cntDs ms ≤ 3 * ms.length + 2 * (ms.map bulkD).sum := by
    induction ms with
    | nil => simp [cntDs]
    | cons m ms ih =>
      have e : cntDs (m :: ms) = cntD m + cntDs ms := by simp [cntDs]
      have e2 : bulkD m = m.head.size + bulkS m.body + sizeMs m.term.kids := rfl
      have e3 : cntD m = 3 + m.body.length + 2 * sizeMs m.term.kids := rfl
      have e4 : bulkS m.body = m.body.length + sizes m.body := rfl
      rw [e]
      simp only [List.map_cons, List.sum_cons, List.length_cons]
      omega
  unfold bulkDs
  omega
theorem markMadeS_one (v : Value) (xs : List Gx) (base : Nat) (ms : List MadeD) (w : World) (h : GrowD w base v xs) (hm : xs.map (·.m) = ms) (hb : bulkDs ms ≤ 3000000) :
    Calls Try.prog 12 #[v, .int .i64 1] w fun e w' => ∃ K : Int, e = .returned (.int .i64 K) ∧ K = ((1 + cntDs ms : Nat) : Int) ∧ 0 ≤ K ∧ (∃ ys, GrowD w' base v ys ∧ ys.map (·.m) = marksD 1 ms) ∧ Mid base w.heap.size w w' := by
  subst hm
  have := cntDs_bulk (xs.map (·.m))
  exact Calls.mono (markMadeS_any v xs base 1 w h (Nat.le_refl _) (by omega)) fun _ _ ⟨h1, h2, h3⟩ => ⟨_, h1, rfl, by omega, h2, h3⟩
theorem heldMadeS_one (v : Value) (ms : List MadeD) (lo hi : Nat) (w : World) (h : DM false w lo hi v (marksD 1 ms)) (hh : hi ≤ w.heap.size) (hb : bulkDs ms ≤ 3000000) :
    Calls Try.prog 13 #[v, .int .i64 1] w fun e w' => ∃ K : Int, e = .returned (.int .i64 K) ∧ K = ((1 + cntDs ms : Nat) : Int) ∧ Below w.heap.size w w' := by
  have := cntDs_bulk ms
  exact Calls.mono (heldMadeS_any v ms lo hi 1 w h hh (Nat.le_refl _) (by omega)) fun _ _ ⟨h1, h2⟩ => ⟨_, h1, rfl, h2⟩
theorem growD_form {w : World} {base : Nat} {v : Value} {xs : List Gx} (h : GrowD w base v xs) : ∃ A c, v = .slice A xs.length c := by
  rcases h.row.2 with ⟨rfl, h0⟩ | ⟨g, cap, cur, rfl, _⟩
  · exact ⟨_, _, by rw [h0]⟩
  · exact ⟨_, _, rfl⟩
end Go.Proofs.Ytiochjagolijfaa

/- Clean, of the program. -/
namespace Go.Proofs.Ytiochjagolijfaa
open Go.RowKit

theorem bulk_clean (ms : List MadeD) (start : ByteArray) : bulkDs (cleanOf ms start) ≤ bulkDs ms := by
  have key : ∀ (p : MadeD → Bool) (l : List MadeD), (l.filter p).length + ((l.filter p).map bulkD).sum ≤ l.length + (l.map bulkD).sum := by
    intro p l
    induction l with
    | nil => simp
    | cons a l ih =>
      rw [List.filter_cons]
      split
      · simp only [List.length_cons, List.map_cons, List.sum_cons]; omega
      · simp only [List.length_cons, List.map_cons, List.sum_cons]; omega
  exact key _ ms
theorem bulk_cleanD (ms : List MadeD) (start : ByteArray) : bulkDs (cleanD ms start) ≤ bulkDs ms := by
  by_cases h : ms.length ≤ 400 ∧ start.size ≤ 8000
  · rw [cleanD_in h]; exact bulk_clean ms start
  · rw [cleanD_out h]; simp [bulkDs]
set_option maxRecDepth 100000 in
set_option maxHeartbeats 2000000 in
theorem implClean_any (v : Value) (ms : List MadeD) (start : ByteArray) (lo hi : Nat) (w : World) (h : DM true w lo hi v ms) (hhi : hi ≤ w.heap.size) (hn : bulkDs ms ≤ 1048576) (hss : start.size ≤ maxLen) :
    Calls Try.prog 10 #[v, .string start] w fun e w' => ∃ u xs p, e = .returned u ∧ xs.map (·.m) = cleanD ms start ∧ GrowD w' p u xs ∧ w.heap.size ≤ p ∧ p ≤ w'.heap.size ∧ Below w.heap.size w w' := by
  have HV := Lib.hid h
  have hml : ms.length ≤ 1048576 := by unfold bulkDs at hn; omega
  have hbc := bulk_clean ms start
  obtain ⟨A, c, rfl, -⟩ := h
  by_cases hin : ms.length ≤ 400 ∧ start.size ≤ 8000
  · have HD := Lib.hid (decide_eq_true hin)
    have HE := Lib.hid (cleanD_in hin)
    clear hin
    go_enter Try.func10, Try.ntmps10
    go_wp2_with fail
    refine (handedIn_any A ms.length c start _ hml hss).mono ?_
    rintro e w1 ⟨rfl, rfl⟩
    rw [HD.out]
    go_wp2_with fail
    refine (clean_any _ ms start lo hi _ HV.out hhi hn hss).mono ?_
    rintro e w1 ⟨u1, rfl, D1, b1⟩
    have z1 := b1.size
    have H1 := Lib.hid b1
    have HD1 := Lib.hid D1
    obtain ⟨A1, c1, rfl, -⟩ := D1
    clear b1
    go_wp2_with fail
    refine (renewMades_any _ (cleanOf ms start) 0 w1.heap.size _ HD1.out (Nat.le_refl _) (by omega)).mono ?_
    rintro e w2 ⟨u2, xs, rfl, hx, G2, hlt, b2⟩
    have FIN : Hid (xs.map (·.m) = cleanD ms start ∧ GrowD w2 (w1.heap.size + 1) u2 xs ∧ w.heap.size ≤ w1.heap.size + 1 ∧ w1.heap.size + 1 ≤ w2.heap.size ∧ Below w.heap.size w w2) := Lib.hid ⟨hx.trans HE.out.symm, G2, by omega, by omega, H1.out.trans (b2.mono z1)⟩
    obtain ⟨A2, c2, rfl⟩ := growD_form G2
    clear hx G2 b2
    go_wp2
    go_ret
    exact ⟨_, xs, _, rfl, FIN.out⟩
  · have HD := Lib.hid (decide_eq_false hin)
    have HE := Lib.hid (cleanD_out hin)
    clear hin
    go_enter Try.func10, Try.ntmps10
    go_wp2_with fail
    refine (handedIn_any A ms.length c start _ hml hss).mono ?_
    rintro e w1 ⟨rfl, rfl⟩
    rw [HD.out]
    go_wp2
    go_ret
    exact ⟨_, [], w.heap.size, rfl, HE.out.symm, GrowD.nil _ _, Nat.le_refl _, Nat.le_refl _, Below.refl _ _⟩
end Go.Proofs.Ytiochjagolijfaa

/- A term that came in, laid anew: toTermS, toTerm. -/
namespace Go.Proofs.Ytiochjagolijfaa
open Go.RowKit

/-- a list of terms in memory of the call's own -/
def OwnM (w : World) (lo hi : Nat) (v : Value) (ts : List TermD) : Prop := KM true w lo hi v ts ∧ ShM w lo hi v ts ∧ OI w lo hi v ts
theorem OwnM.keep {w w' : World} {lo hi : Nat} {v : Value} {ts : List TermD} (h : OwnM w lo hi v ts) (k : Keeps lo hi w w') : OwnM w' lo hi v ts := ⟨h.1.keep k, h.2.1.keep k, h.2.2.keep k⟩
theorem OwnM.more {w : World} {lo hi lo' hi' : Nat} {v : Value} {ts : List TermD} (h : OwnM w lo hi v ts) (g1 : lo' ≤ lo) (g2 : hi ≤ hi') : OwnM w lo' hi' v ts := ⟨h.1.more g1 g2, h.2.1.more g1 g2, h.2.2.more g1 g2⟩

def ToM (ts : List TermD) : Prop := ∀ (v : Value) (lo hi : Nat) (w : World), KM false w lo hi v ts → hi ≤ w.heap.size → sizeMs ts ≤ 1048576 →
  Calls Try.prog 81 #[v] w fun e w' => ∃ u, e = .returned u ∧ OwnM w' w.heap.size w'.heap.size u ts ∧ Below w.heap.size w w'

set_option maxHeartbeats 1000000 in
theorem toTerm_of (t : TermD) (ih : ToM t.kids) (u : Value) (lo hi : Nat) (w : World) (h : KM false w lo hi u t.kids) (hhi : hi ≤ w.heap.size) (hn : sizeMs t.kids ≤ 1048576) :
    Calls Try.prog 51 #[tmV t u] w fun e w' => ∃ x, e = .returned (tmV t x) ∧ OwnM w' w.heap.size w'.heap.size x t.kids ∧ Below w.heap.size w w' := by
  unfold tmV
  go_enter Try.func51, Try.ntmps51
  go_wp2_with fail
  refine (ih u lo hi _ (h.under (B := w.heap.size) (al3 _ _ _ _) hhi) (by simp; omega) (by omega)).mono ?_
  rintro e w1 ⟨x, rfl, hown, hb⟩
  have hb0 : Below w.heap.size w w1 := (al3 _ _ _ _).trans (hb.mono (by simp; omega))
  have R1 : Row w1 (w.heap.size + 1) 47 #[.int .i64 0, .int .i64 0, .slice none 0 0] := by
    refine Row.below (Row.alloc ?_ _) hb (by simp)
    simpa using Row.made (w.alloc (.cells #[.int .i64 t.kind, .int .i64 t.num, u] 37)) 47 #[.int .i64 0, .int .i64 0, .slice none 0 0]
  have R2 : Row w1 (w.heap.size + 1 + 1) 47 #[.int .i64 t.kind, .int .i64 t.num, .slice none 0 0] := by
    refine Row.below ?_ hb (by simp)
    simpa using Row.made ((w.alloc (.cells #[.int .i64 t.kind, .int .i64 t.num, u] 37)).alloc (.cells #[.int .i64 0, .int .i64 0, .slice none 0 0] 47)) 47 #[.int .i64 t.kind, .int .i64 t.num, .slice none 0 0]
  have hown' : OwnM w1 (w.heap.size + 1 + 1 + 1) w1.heap.size x t.kids := by simpa using hown
  clear hb hown
  have c10 := R1.cell 0
  have c11 := R1.cell 1
  have c12 := R1.cell 2
  have c20 := R2.cell 0
  have c21 := R2.cell 1
  have c22 := R2.cell 2
  simp at c10 c11 c12 c20 c21 c22
  have f10 := R1.free 0
  have f11 := R1.free 1
  have f12 := R1.free 2
  have f20 := R2.free 0
  have f21 := R2.free 1
  have f22 := R2.free 2
  clear R1 R2
  have HO := Lib.hid hown'
  obtain ⟨A, c, U, rfl, -⟩ := hown'.1.parts
  clear hown' h
  go_wp2
  refine bodyPost_ret (v := .agg #[.int .i64 t.kind, .int .i64 t.num, .slice A t.kids.length c]) (by simp [results, Try.results51, go_sem, c10, c11, c12]) rfl ⟨_, rfl, ?_, ?_⟩
  · refine (HO.out.keep ?_).more (by omega) (by simp [World.setCell])
    intro k h1 h2
    rw [Below.heap_setCell _ _ _ _ (by simp; omega), Below.heap_setCell _ _ _ _ (by simp; omega), Below.heap_setCell _ _ _ _ (by simp; omega), Below.heap_setCell _ _ _ _ (by simp; omega)]
  · exact (((hb0.setCell (by simp; omega) _).setCell (by simp) _).setCell (by simp) _).setCell (by simp) _
end Go.Proofs.Ytiochjagolijfaa
