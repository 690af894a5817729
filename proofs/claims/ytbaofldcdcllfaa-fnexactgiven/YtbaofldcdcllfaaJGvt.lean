import Derived.Test.YtbaofldcdcllfaaJOi
import Derived.Test.YtbaofldcdcllfaaJTmz
import Derived.Deep.LoopGhost
import Derived.Test.YtbaofldcdcllfaaJMarkb
import Derived.Test.YtbaofldcdcllfaaJOis
import Derived.Deep.RegionHeld3
import Derived.Test.YtbaofldcdcllfaaGvs
import Derived.Test.YtbaofldcdcllfaaGmk
import Derived.Test.YtbaofldcdcllfaaJHeadsS
/- Numbers that were laid into terms are found again: laws.heldTermS. -/
namespace Go.Proofs.Ytbaofldcdcllfaa
open Go.RowKit

def HdI (ts : List TermD) : Prop := ∀ (v : Value) (k lo hi : Nat) (w : World), KM false w lo hi v (markMs k ts) → hi ≤ w.heap.size → 1 ≤ k → k + 2 * sizeMs ts ≤ 1000000000 →
  Calls Try.prog 48 #[v, .int .i64 (k : Int)] w fun e w' => e = .returned (.int .i64 ((k + 2 * sizeMs ts : Nat) : Int)) ∧ w' = w

set_option maxRecDepth 100000 in
set_option maxHeartbeats 4000000 in
theorem heldTermS_of (ts : List TermD) (ih : ∀ i (h : i < ts.length), HdI ts[i].kids) : HdI ts := by
  intro v k lo hi w h hh hk1 hk2
  obtain ⟨A, c, U, rfl, hlc, hc, hs, hcell, hsub⟩ := h.parts
  have hml := markMs_len k ts
  rw [hml] at hlc ⊢
  unfold maxLen at hc
  have HC := Lib.hid hcell
  have HB := Lib.hid hsub
  have hlen := length_sizeMs ts
  have HML := Lib.hid hml
  clear h hcell hsub hs hml
  go_enter Try.func48, Try.ntmps48
  go_wp2
  go_loopg [1, 5] ts.length (fun gk s1 s5 wr => ∃ j m : Nat, j ≤ ts.length ∧ s5 = .int .i64 j ∧ s1 = .int .i64 (m : Int) ∧ m = k + 2 * sizeMs (ts.take j) ∧ wr = w ∧ gk = ts.length - j)
  case atStart => exact ⟨0, k, by omega, rfl, rfl, by simp [sizeMs], rfl, rfl⟩
  case round =>
    obtain ⟨j, m, hj, rfl, rfl, hm, rfl, rfl⟩ := hrel
    have hle := sizeMs_take_le ts j
    by_cases hlt : j < ts.length
    · have hsj := sizeMs_take ts j hlt
      have hst1 := sizeM_eq ts[j]
      have hle1 := sizeMs_take_le ts (j + 1)
      have hjl : j < (markMs k ts).length := by rw [HML.out]; exact hlt
      obtain ⟨b, off, rfl, hb1, hb2, _, hcc⟩ := HC.out (by rw [HML.out]; omega)
      obtain ⟨q0, q1, q2⟩ := hcc j hjl
      have hsub := HB.out j hjl
      rw [markMs_at k ts j hjl, ← hm] at q0 q1 hsub
      rw [markM_kind] at q0
      rw [markM_num, show ((m + 1 : Nat) : Int) = (m : Int) + 1 by omega] at q1
      rw [markM_kids] at hsub
      have HM := Lib.hid hm
      have hm9 : m + 2 + 2 * sizeMs ts[j].kids ≤ 1000000000 := by omega
      have HM2 : Hid (m + 2 + 2 * sizeMs ts[j].kids = k + 2 * sizeMs (ts.take (j + 1))) := Lib.hid (by omega)
      have HSB := Lib.hid hsub
      have i1 : (j : Int) < (ts.length : Int) := by omega
      have d1 : decide (m + 2 + 2 * sizeMs ts[j].kids < 0) = false := decide_eq_false (by omega)
      obtain ⟨A2, c2, U2, e2, -⟩ := hsub.parts
      clear hm hsj hst1 hle1 hle hsub hcc
      have step := ih j hlt (U j) (m + 2) lo hi _ HSB.out hh (by omega) hm9
      rw [show ((m + 2 : Nat) : Int) = (m : Int) + 1 + 1 by omega] at step
      rw [e2] at q2 step
      go_wp2_with fail
      refine step.mono ?_
      rintro e4 w4 ⟨rfl, rfl⟩
      clear step
      go_wp2
      go_roundg (ts.length - (j + 1))
      case rel => exact ⟨j + 1, m + 2 + 2 * sizeMs ts[j].kids, by omega, by go_num, rfl, HM2.out, rfl, rfl⟩
      case measure => omega
    · have hje : j = ts.length := by omega
      subst hje
      rw [List.take_length] at hm
      have HM := Lib.hid hm
      clear hm
      go_wp2
      go_ret
      exact ⟨ret_int (by rw [HM.out]), rfl⟩
theorem heldTermS_any (ts : List TermD) : HdI ts := terms_ind heldTermS_of ts
end Go.Proofs.Ytbaofldcdcllfaa

/- The walk of heldStringS, and its marks from 1 on. -/
namespace Go.Proofs.Ytbaofldcdcllfaa
open Go.RowKit

set_option maxRecDepth 100000 in
set_option maxHeartbeats 1000000 in
theorem heldStringS_any (v : Value) (n lo hi k : Nat) (w : World) (h : Strs w lo hi v (marks k n)) (hh : hi ≤ w.heap.size) (h1 : 1 ≤ k) (h2 : k + n ≤ 1000000000) :
    Calls Try.prog 47 #[v, .int .i64 (k : Int)] w fun e w' => e = .returned (.int .i64 ((k + n : Nat) : Int)) ∧ Below w.heap.size w w' := by
  obtain ⟨A, c, rfl, hlc, hc, hsz, hcell⟩ := h
  rw [marks_len] at hlc ⊢
  have HC := Lib.hid hcell
  clear hcell hsz
  go_enter Try.func47, Try.ntmps47
  go_wp2
  go_loopw [1, 5] (fun x i wr => ∃ (j : Nat), j ≤ n ∧ i = .int .i64 (j : Int) ∧ x = .int .i64 ((k + j : Nat) : Int) ∧ Below w.heap.size w wr) (fun _ i _ => n - (intOf i).toNat)
  case atStart => exact ⟨0, by omega, rfl, rfl, Below.refl _ _⟩
  case round =>
    obtain ⟨j, hj, rfl, rfl, hbw⟩ := hrel
    have hsw := hbw.size
    by_cases hlt : j < n
    · obtain ⟨b, off, rfl, _, hbh, hcc⟩ := HC.out (by rw [marks_len]; omega)
      have hck := hcc j (by rw [marks_len]; exact hlt)
      rw [marks_at] at hck
      have hck' := (hbw.cell (p := ⟨b, off + j, none⟩) (by show b < _; omega)).trans hck
      have i1 : (j : Int) < (n : Int) := by omega
      clear hcc hck
      go_wp2_with fail
      go_region_held3 (fun w' => w'.cell? ⟨b, off + j, none⟩ = some (.string (mt (k + j))))
        (first | go_keep | (rw [b1.cell (by show b < _; simp; omega)]; assumption))
        (first | (go_at_call 44; refine (markText_any (k + j) _ (by omega) (by omega)).mono ?_; rintro e w1 ⟨rfl, b1⟩))
      have z1 : wr.heap.size ≤ w1.heap.size := b1.size
      have hb2 : Below w.heap.size w w1 := hbw.drew.trans (b1.mono hsw)
      go_wp2
      go_roundw
      case rel => exact ⟨j + 1, by omega, by go_num, by go_num, hb2⟩
      case measure => simp [intOf]; omega
    · have hjs : j = n := by omega
      subst hjs
      go_wp2
      go_ret
      exact ⟨rfl, hbw⟩
theorem heldStringS_one (v : Value) (n lo hi : Nat) (w : World) (h : Strs w lo hi v (marks 1 n)) (hh : hi ≤ w.heap.size) (h2 : n ≤ 2000000) :
    Calls Try.prog 47 #[v, .int .i64 1] w fun e w' => ∃ K : Int, e = .returned (.int .i64 K) ∧ K = ((1 + n : Nat) : Int) ∧ Below w.heap.size w w' :=
  Calls.mono (heldStringS_any v n lo hi 1 w h hh (Nat.le_refl _) (by omega)) fun _ _ ⟨h1, h2⟩ => ⟨_, h1, rfl, h2⟩
end Go.Proofs.Ytbaofldcdcllfaa

/- Marks that were laid into Mades are found again: laws.heldMadeS. -/
namespace Go.Proofs.Ytbaofldcdcllfaa
open Go.RowKit

set_option maxRecDepth 100000 in
set_option maxHeartbeats 4000000 in
theorem heldMadeS_any (v : Value) (ms : List MadeD) (lo hi k : Nat) (w : World) (h : DM false w lo hi v (marksD k ms)) (hh : hi ≤ w.heap.size) (hk1 : 1 ≤ k) (hk2 : k + cntDs ms ≤ 1000000000) :
    Calls Try.prog 20 #[v, .int .i64 (k : Int)] w fun e w' => e = .returned (.int .i64 ((k + cntDs ms : Nat) : Int)) ∧ Below w.heap.size w w' := by
  obtain ⟨A, c, rfl, hlc, hc, hcell⟩ := h
  have hml := marksD_len k ms
  rw [hml] at hlc ⊢
  unfold maxLen at hc
  have HC := Lib.hid hcell
  have HML := Lib.hid hml
  clear hcell hml
  go_enter Try.func20, Try.ntmps20
  go_wp2
  go_loopg [1, 5] ms.length (fun gk s1 s5 wr => ∃ j m : Nat, j ≤ ms.length ∧ s5 = .int .i64 j ∧ s1 = .int .i64 (m : Int) ∧ m = k + cntDs (ms.take j) ∧ Below w.heap.size w wr ∧ gk = ms.length - j)
  case atStart => exact ⟨0, k, by omega, rfl, rfl, by simp [cntDs], Below.refl _ _, rfl⟩
  case round =>
    obtain ⟨j, m, hj, rfl, rfl, hm, hbw, rfl⟩ := hrel
    have hsw := hbw.size
    by_cases hlt : j < ms.length
    · have hct := cntDs_take ms j hlt
      have hcl := cntDs_take_le ms (j + 1)
      have hjl : j < (marksD k ms).length := by rw [HML.out]; exact hlt
      obtain ⟨b, off, rfl, hb1, hb2, _, hcc⟩ := HC.out (by omega)
      obtain ⟨_, _, hc0, u, x, hc1, hc2, hc3, hc4, hst, hkm⟩ := hcc j hjl
      rw [marksD_at k ms j hjl, ← hm] at hc0 hc2 hc3 hst hkm
      have hcd : cntD ms[j] = 3 + ms[j].body.length + 2 * sizeMs ms[j].term.kids := rfl
      have hm1 : 1 ≤ m := by omega
      have hm9 : m + cntD ms[j] ≤ 1000000000 := by omega
      have HM2 : Hid (m + cntD ms[j] = k + cntDs (ms.take (j + 1))) := Lib.hid (by omega)
      have hkind : (markD m ms[j]).term.kind = (m : Int) + 1 + (ms[j].body.length : Int) := by show ((m + 1 + ms[j].body.length : Nat) : Int) = _; omega
      have hnum : (markD m ms[j]).term.num = (m : Int) + 1 + (ms[j].body.length : Int) + 1 := by show ((m + 2 + ms[j].body.length : Nat) : Int) = _; omega
      rw [hkind] at hc2
      rw [hnum] at hc3
      have k0 : wr.cell? ⟨b, off + j * 5, none⟩ = some (.string (mt m)) := (hbw.cell (p := ⟨b, off + j * 5, none⟩) (by show b < _; omega)).trans hc0
      have HQ1 := Lib.hid hc1
      have HQ2 := Lib.hid hc2
      have HQ3 := Lib.hid hc3
      have HQ4 := Lib.hid hc4
      have hst' : Strs wr lo hi u (marks (m + 1) ms[j].body.length) := hst.below hbw hh
      have hkm' : KM false wr lo hi x (markMs (m + 3 + ms[j].body.length) ms[j].term.kids) := hkm.under hbw hh
      have HST := Lib.hid hst'
      have HKM := Lib.hid hkm'
      obtain ⟨Au, cu, hu, -⟩ := (show ∃ A c, u = .slice A (marks (m + 1) ms[j].body.length).length c ∧ True by obtain ⟨A, c, e, _⟩ := hst'; exact ⟨A, c, e, trivial⟩)
      obtain ⟨Ax, cx, Ux, hx, -⟩ := hkm'.parts
      have HBW := Lib.hid hbw
      have i1 : (j : Int) < (ms.length : Int) := by omega
      have d1 : decide ((m : Int) + 1 + (ms[j].body.length : Int) < 0) = false := decide_eq_false (by omega)
      have d2 : decide ((m + 3 + ms[j].body.length + 2 * sizeMs ms[j].term.kids : Nat) < (0 : Int)) = false := decide_eq_false (by omega)
      clear hm hct hcl hcc hc0 hc1 hc2 hc3 hc4 hst hkm hst' hkm' hbw hkind hnum
      go_wp2_with fail
      go_region_held3 (fun w' => w'.cell? ⟨b, off + j * 5, none⟩ = some (.string (mt m)))
        (first | go_keep | (rw [b1.cell (by show b < _; simp; omega)]; assumption))
        (first | (go_at_call 44; refine (markText_any m _ (by omega) (by omega)).mono ?_; rintro e w1 ⟨rfl, b1⟩))
      have b1' : Below wr.heap.size wr w1 := ⟨b1.os, b1.tape, b1.output, b1.size, b1.block⟩
      have hb2' := HBW.out.trans (b1'.mono hsw)
      have z1 := hb2'.size
      have q1 := (hb2'.cell (p := ⟨b, off + j * 5 + 1, none⟩) (by show b < _; omega)).trans HQ1.out
      have hs2 := HST.out.below b1' (by omega)
      have HK2 := Lib.hid (HKM.out.under b1' (by omega))
      have HB2 := Lib.hid hb2'
      rw [hu] at q1 hs2
      clear b1 b1' hb2' k0
      go_wp2_with fail
      have step := heldStringS_any (.slice Au (marks (m + 1) ms[j].body.length).length cu) ms[j].body.length lo hi (m + 1) w1 hs2 (by omega) (by omega) (by omega)
      rw [show ((m + 1 : Nat) : Int) = (m : Int) + 1 by omega] at step
      refine step.mono ?_
      rintro e w3 ⟨rfl, b3⟩
      clear step
      have hb3 := HB2.out.trans (b3.mono z1)
      have z3 := hb3.size
      have q2 := (hb3.cell (p := ⟨b, off + j * 5 + 2, none⟩) (by show b < _; omega)).trans HQ2.out
      have q3 := (hb3.cell (p := ⟨b, off + j * 5 + 3, none⟩) (by show b < _; omega)).trans HQ3.out
      have q4 := (hb3.cell (p := ⟨b, off + j * 5 + 4, none⟩) (by show b < _; omega)).trans HQ4.out
      have HK3 := Lib.hid (HK2.out.under b3 (by omega))
      have HB3 := Lib.hid hb3
      rw [hx] at q4 HK3
      clear b3 hb3
      go_wp2_with fail
      have step := heldTermS_any ms[j].term.kids _ (m + 3 + ms[j].body.length) lo hi w3 HK3.out (by omega) (by omega) (by omega)
      rw [show ((m + 3 + ms[j].body.length : Nat) : Int) = (m : Int) + 1 + (ms[j].body.length : Int) + 1 + 1 by omega] at step
      refine step.mono ?_
      rintro e w4 ⟨rfl, rfl⟩
      clear step
      go_wp2
      go_roundg (ms.length - (j + 1))
      case rel => exact ⟨j + 1, m + 3 + ms[j].body.length + 2 * sizeMs ms[j].term.kids, by omega, by go_num, rfl, by have := HM2.out; omega, HB3.out, rfl⟩
      case measure => omega
    · have hje : j = ms.length := by omega
      subst hje
      rw [List.take_length] at hm
      have HM := Lib.hid hm
      clear hm
      go_wp2
      go_ret
      exact ⟨ret_int (by have := HM.out; omega), hbw⟩
end Go.Proofs.Ytbaofldcdcllfaa

/- The Mades of the useful Rules, of the model: Given; the marks of Mades from 1 on. -/
namespace Go.Proofs.Ytbaofldcdcllfaa
open Go.RowKit

set_option maxRecDepth 100000 in
set_option maxHeartbeats 1000000 in
theorem specGiven_any (v : Value) (rs : List RuleD) (lo hi : Nat) (w : World) (h : Rules w lo hi v rs) (hhi : hi ≤ w.heap.size) :
    Calls Try.prog 13 #[.agg #[v]] w fun e w' => ∃ u, e = .returned u ∧ DM true w' 0 w'.heap.size u (givenOf rs) ∧ Below w.heap.size w w' := by
  have HV := Lib.hid h
  obtain ⟨A, c, rfl, -⟩ := h
  have ha := al1 w (.cells #[.slice A rs.length c] 41)
  have R0 := Row.made w 41 #[.slice A rs.length c]
  cases hq : gramB rs
  · have HQ := Lib.hid hq
    have HE : Hid (givenOf rs = []) := Lib.hid (by unfold givenOf; rw [useOf_f hq]; rfl)
    clear hq
    go_enter Try.func13, Try.ntmps13
    go_wp2_with fail
    refine (specGramRight_any rs _ lo hi _ (HV.out.below ha hhi) (by simp; omega)).mono ?_
    rintro e w1 ⟨rfl, b1⟩
    rw [HQ.out]
    have B1 : Below w.heap.size w w1 := ha.trans (b1.mono (by simp))
    have FIN : Hid (DM true (w1.alloc (.cells #[] 71)) 0 (w1.alloc (.cells #[] 71)).heap.size (.slice (some ⟨w1.heap.size, 0, none⟩) 0 0) (givenOf rs) ∧ Below w.heap.size w (w1.alloc (.cells #[] 71))) := Lib.hid ⟨by rw [HE.out]; exact ⟨_, 0, rfl, Nat.le_refl _, by unfold maxLen; omega, fun h => by simp at h⟩, B1.trans ((al1 w1 _).mono B1.size)⟩
    clear b1 B1
    go_wp2
    go_ret
    exact ⟨_, rfl, FIN.out.1, FIN.out.2⟩
  · have HQ := Lib.hid hq
    clear hq
    go_enter Try.func13, Try.ntmps13
    go_wp2_with fail
    refine (specGramRight_any rs _ lo hi _ (HV.out.below ha hhi) (by simp; omega)).mono ?_
    rintro e w1 ⟨rfl, b1⟩
    rw [HQ.out]
    have c1 := (R0.below b1 (by simp)).cell 0
    simp at c1
    have B1 : Below w.heap.size w w1 := ha.trans (b1.mono (by simp))
    have z1 := B1.size
    clear b1 R0 ha
    go_wp2_with fail
    refine (l07Given_any _ rs lo hi _ (HV.out.below B1 hhi) (by omega) HQ.out).mono ?_
    rintro e w2 ⟨u, rfl, hdm, b2⟩
    have FIN := Lib.hid (And.intro hdm (B1.trans (b2.mono z1)))
    obtain ⟨A2, c2, rfl, -⟩ := hdm
    clear b2 B1
    go_wp2
    go_ret
    exact ⟨_, rfl, FIN.out.1, FIN.out.2⟩

theorem cntDs_bulk (ms : List MadeD) : cntDs ms ≤ 3 * bulkDs ms := by
  have h : cntDs ms ≤ 3 * ms.length + 2 * (ms.map bulkD).sum := by
    induction ms with
    | nil => simp [cntDs]
    | cons m ms ih =>
      have e : cntDs (m :: ms) = cntD m + cntDs ms := by simp [cntDs]
      have e2 : bulkD m = m.head.size + bulkS m.body + sizeMs m.term.kids := rfl
      have e3 : cntD m = 3 + m.body.length + 2 * sizeMs m.term.kids := rfl
      have e4 : bulkS m.body = m.body.length + sizes m.body := rfl
      rw [e]
      simp only [List.map_cons, List.sum_cons, List.length_cons]
      omega
  unfold bulkDs
  omega
theorem markMadeS_one (v : Value) (xs : List Gx) (base : Nat) (ms : List MadeD) (w : World) (h : GrowD w base v xs) (hm : xs.map (·.m) = ms) (hb : bulkDs ms ≤ 3000000) :
    Calls Try.prog 19 #[v, .int .i64 1] w fun e w' => ∃ K : Int, e = .returned (.int .i64 K) ∧ K = ((1 + cntDs ms : Nat) : Int) ∧ 0 ≤ K ∧ (∃ ys, GrowD w' base v ys ∧ ys.map (·.m) = marksD 1 ms) ∧ Mid base w.heap.size w w' := by
  subst hm
  have := cntDs_bulk (xs.map (·.m))
  exact Calls.mono (markMadeS_any v xs base 1 w h (Nat.le_refl _) (by omega)) fun _ _ ⟨h1, h2, h3⟩ => ⟨_, h1, rfl, by omega, h2, h3⟩
theorem heldMadeS_one (v : Value) (ms : List MadeD) (lo hi : Nat) (w : World) (h : DM false w lo hi v (marksD 1 ms)) (hh : hi ≤ w.heap.size) (hb : bulkDs ms ≤ 3000000) :
    Calls Try.prog 20 #[v, .int .i64 1] w fun e w' => ∃ K : Int, e = .returned (.int .i64 K) ∧ K = ((1 + cntDs ms : Nat) : Int) ∧ Below w.heap.size w w' := by
  have := cntDs_bulk ms
  exact Calls.mono (heldMadeS_any v ms lo hi 1 w h hh (Nat.le_refl _) (by omega)) fun _ _ ⟨h1, h2⟩ => ⟨_, h1, rfl, h2⟩
theorem growD_form {w : World} {base : Nat} {v : Value} {xs : List Gx} (h : GrowD w base v xs) : ∃ A c, v = .slice A xs.length c := by
  rcases h.row.2 with ⟨rfl, h0⟩ | ⟨g, cap, cur, rfl, _⟩
  · exact ⟨_, _, by rw [h0]⟩
  · exact ⟨_, _, rfl⟩
end Go.Proofs.Ytbaofldcdcllfaa
