import Derived.Test.YtiochjagolijfaaJOis
import Derived.Test.YtiochjagolijfaaJMarkc
import Derived.Test.YtiochjagolijfaaJGmd
import Derived.Test.YtiochjagolijfaaJTo
import Derived.Deep.LoopGhost
import Derived.Test.YtiochjagolijfaaJMark
/- Marks are laid into Mades of a call's own: laws.markMadeS. -/
namespace Go.Proofs.Ytiochjagolijfaa
open Go.RowKit

/-- the first j of these are marked -/
def UpD (k : Nat) (xs : List Gx) (j : Nat) (ys : List Gx) : Prop :=
  ∃ h : ys.length = xs.length, ∀ i (hi : i < xs.length), (ys[i]'(by omega)).m = if i < j then markD (k + cntDs ((xs.map (·.m)).take i)) xs[i].m else xs[i].m
theorem UpD.zero (k : Nat) (xs : List Gx) : UpD k xs 0 xs := ⟨rfl, fun i hi => by rw [if_neg (by omega)]⟩
theorem UpD.all {k : Nat} {xs ys : List Gx} (h : UpD k xs xs.length ys) : ys.map (·.m) = marksD k (xs.map (·.m)) := by
  obtain ⟨h1, h2⟩ := h
  refine List.ext_getElem (by rw [List.length_map, marksD_len, List.length_map, h1]) fun i a b => ?_
  have hi : i < xs.length := by rw [List.length_map] at a; omega
  rw [List.getElem_map, h2 i hi, if_pos hi, marksD_at]
  simp
theorem UpD.step {k j : Nat} {xs ys : List Gx} {y : Gx} (h : UpD k xs j ys) (hj : j < xs.length) (hy : y.m = markD (k + cntDs ((xs.map (·.m)).take j)) xs[j].m) : UpD k xs (j + 1) (ys.set j y) := by
  obtain ⟨h1, h2⟩ := h
  refine ⟨by rw [List.length_set]; exact h1, fun i hi => ?_⟩
  rw [List.getElem_set]
  by_cases e : j = i
  · subst e
    rw [if_pos rfl, if_pos (by omega)]
    exact hy
  · rw [if_neg e, h2 i hi]
    by_cases q : i < j
    · rw [if_pos q, if_pos (by omega)]
    · rw [if_neg q, if_neg (by omega)]

set_option maxRecDepth 100000 in
set_option maxHeartbeats 4000000 in
theorem markMadeS_any (v : Value) (xs : List Gx) (base k : Nat) (w : World) (h : GrowD w base v xs) (hk1 : 1 ≤ k) (hk2 : k + cntDs (xs.map (·.m)) ≤ 1000000000) :
    Calls Try.prog 12 #[v, .int .i64 (k : Int)] w fun e w' => e = .returned (.int .i64 ((k + cntDs (xs.map (·.m)) : Nat) : Int)) ∧ (∃ ys, GrowD w' base v ys ∧ ys.map (·.m) = marksD k (xs.map (·.m))) ∧ Mid base w.heap.size w w' := by
  have hform : ∃ A c, v = .slice A xs.length c ∧ xs.length ≤ c ∧ c ≤ maxLen := by
    rcases h.row.2 with ⟨rfl, h0⟩ | ⟨g, cap, cur, rfl, _, _, hc, hm, _⟩
    · exact ⟨none, 0, by rw [h0], by omega, by unfold maxLen; omega⟩
    · exact ⟨_, _, rfl, hc, hm⟩
  obtain ⟨A, c, rfl, hlc, hc⟩ := hform
  unfold maxLen at hc
  have H := Lib.hid h
  clear h
  go_enter Try.func12, Try.ntmps12
  go_wp2
  go_loopg [1, 5] xs.length (fun gk s1 s5 wr => ∃ (j m : Nat) (ys : List Gx), j ≤ xs.length ∧ s5 = .int .i64 j ∧ s1 = .int .i64 (m : Int) ∧ m = k + cntDs ((xs.map (·.m)).take j) ∧ GrowD wr base (.slice A xs.length c) ys ∧ UpD k xs j ys ∧ Mid base w.heap.size w wr ∧ gk = xs.length - j)
  case atStart => exact ⟨0, k, xs, by omega, rfl, rfl, by simp [cntDs], H.out, UpD.zero k xs, Mid.refl _ _ _, rfl⟩
  case round =>
    obtain ⟨j, m, ys, hj, rfl, rfl, hm, hG, hU, hmid, rfl⟩ := hrel
    by_cases hlt : j < xs.length
    · have hlm : j < (xs.map (·.m)).length := by rw [List.length_map]; exact hlt
      have hct := cntDs_take (xs.map (·.m)) j hlm
      have hcl := cntDs_take_le (xs.map (·.m)) (j + 1)
      rw [List.getElem_map] at hct
      obtain ⟨hyl, hye⟩ := hU
      have hyj : j < ys.length := by omega
      have hym := hye j hlt
      rw [if_neg (Nat.lt_irrefl j)] at hym
      obtain ⟨g, c9, cur, e9, hb1, hrow, hcs, hcell, hat, hsep, hturn⟩ := hG.turn hyj
      rw [hyl] at e9 hcs
      injection e9 with e91 e92 e93
      subst e91 e93
      clear e92
      have HT := Lib.hid hturn
      have HM := Lib.hid hm
      have HMM := Lib.hid hmid
      have HUP : Hid (∀ y : Gx, y.m = markD m xs[j].m → UpD k xs (j + 1) (ys.set j y)) := Lib.hid (fun y hy => UpD.step ⟨hyl, hye⟩ hlt (by rw [← hm]; exact hy))
      generalize hy0 : ys[j] = y0 at hcell hat hsep HT hym
      have c0 := hcell 0 (by omega)
      have c1 := hcell 1 (by omega)
      have c2 := hcell 2 (by omega)
      have c3 := hcell 3 (by omega)
      have c4 := hcell 4 (by omega)
      simp only [Gx.cells, List.getElem?_cons_zero, List.getElem?_cons_succ, Nat.add_zero] at c0 c1 c2 c3 c4
      rw [hym] at c0 c2 c3
      have hgl := hrow.lt
      have hsz := hmid.size
      have hcd : cntD xs[j].m = 3 + xs[j].m.body.length + 2 * sizeMs xs[j].m.term.kids := rfl
      have hbody := hat.body
      rw [hym] at hbody
      obtain ⟨gb, hob, hgb1, hgb2⟩ := hbody.pick
      have hkids := hat.kids
      rw [hym] at hkids
      have HAT := Lib.hid hat
      have HOB := Lib.hid hob
      have HKI := Lib.hid hkids
      obtain ⟨Au, cu, hu, -⟩ := (show ∃ A c, y0.u = .slice A xs[j].m.body.length c ∧ True by obtain ⟨A, c, e, _⟩ := hob; exact ⟨A, c, e, trivial⟩)
      obtain ⟨Ax, cx, Ux, Lx, Ex, hx, -⟩ := hkids.parts
      rw [hu] at c1
      rw [hx] at c4
      have hinb := hat.inb
      rw [hym] at hinb
      have HIN := Lib.hid hinb
      have hord := hat.ord
      have i1 : (j : Int) < (xs.length : Int) := by omega
      have HR := Lib.hid hrow
      have hm1 : 1 ≤ m := by omega
      have hm9 : m + cntD xs[j].m ≤ 1000000000 := by omega
      have HM2 : Hid (m + cntD xs[j].m = k + cntDs ((xs.map (·.m)).take (j + 1))) := Lib.hid (by omega)
      clear hm hcl hlm hcell hG hturn hye hct hmid hat hob hkids hbody hinb hrow
      go_wp2_with fail
      have step := markText_any m wr (by omega) (by omega)
      refine step.mono ?_
      rintro e w1 ⟨rfl, b1⟩
      have r1 := HR.out.below b1 hgl
      obtain ⟨z0, q0⟩ := r1.there (i := j * 5) (by omega)
      have f0 := r1.free (j * 5)
      have R1 := r1.put (j * 5) (.string (mt m))
      have k1 := R1.cell (j * 5 + 1)
      rw [Array.getElem?_setIfInBounds_ne (by omega), c1] at k1
      have zz1 : wr.heap.size ≤ w1.heap.size := b1.size
      have hz1 : (w1.setCell ⟨g, j * 5, none⟩ (.string (mt m))).heap.size = w1.heap.size := by simp [World.setCell]
      have ho1 : ∀ p, p ≠ g → p < wr.heap.size → (w1.setCell ⟨g, j * 5, none⟩ (.string (mt m))).heap[p]? = wr.heap[p]? := fun p h1 h2 => by
        rw [Below.heap_setCell _ _ _ _ (by exact h1)]; exact b1.block p h2
      obtain ⟨g2, hob2, hp1, hp2⟩ := (HOB.out.keep (w' := w1.setCell ⟨g, j * 5, none⟩ (.string (mt m))) fun hn => ho1 gb (by have := HIN.out hn; have := hgb1 hn; omega) (by have := HIN.out hn; have := hgb1 hn; omega)).pick
      have M1 : Mid base w.heap.size w (w1.setCell ⟨g, j * 5, none⟩ (.string (mt m))) := ⟨b1.os.trans HMM.out.os, b1.tape.trans HMM.out.tape, b1.output.trans HMM.out.output, by rw [hz1]; omega, fun p h1 h2 => by
        rw [Below.heap_setCell _ _ _ _ (by show p ≠ g; omega), b1.block p (by omega)]; exact HMM.out.block p h1 h2⟩
      have HR1 := Lib.hid R1
      have HO1 := Lib.hid ho1
      have HMM1 := Lib.hid M1
      have HB2 := Lib.hid hob2
      clear step b1 r1 R1 ho1 M1 hob2 c0 c1
      rw [hu] at HB2
      go_wp2_with fail
      have step := markStringS_any _ xs[j].m.body g2 (m + 1) (w1.setCell ⟨g, j * 5, none⟩ (.string (mt m))) HB2.out (by omega) (by omega)
      rw [show ((m + 1 : Nat) : Int) = (m : Int) + 1 by omega] at step
      refine step.mono ?_
      rintro e w2 ⟨rfl, hob3, hmid2⟩
      clear step
      have hs2 := hmid2.size
      rw [hz1] at hs2
      have hg2 : g ≠ g2 := by
        by_cases hn : xs[j].m.body = []
        · have := hp2 hn; rw [hz1] at this; omega
        · have := hp1 hn; have := hgb1 hn; have := HIN.out hn; omega
      have r2 := HR1.out.same (w' := w2) (hmid2.block g (by rw [hz1]; omega) (by omega))
      obtain ⟨z2, q2⟩ := r2.there (i := j * 5 + 2) (by simp; omega)
      have f2 := r2.free (j * 5 + 2)
      have R2 := r2.put (j * 5 + 2) (.int .i64 ((m : Int) + 1 + (xs[j].m.body.length : Int)))
      obtain ⟨z3, q3⟩ := R2.there (i := j * 5 + 3) (by simp; omega)
      have f3 := R2.free (j * 5 + 3)
      have R3 := R2.put (j * 5 + 3) (.int .i64 ((m : Int) + 1 + (xs[j].m.body.length : Int) + 1))
      have k4 := R3.cell (j * 5 + 4)
      rw [Array.getElem?_setIfInBounds_ne (by omega), Array.getElem?_setIfInBounds_ne (by omega), Array.getElem?_setIfInBounds_ne (by omega), c4] at k4
      have hz3 : ((w2.setCell ⟨g, j * 5 + 2, none⟩ (.int .i64 ((m : Int) + 1 + (xs[j].m.body.length : Int)))).setCell ⟨g, j * 5 + 3, none⟩ (.int .i64 ((m : Int) + 1 + (xs[j].m.body.length : Int) + 1))).heap.size = w2.heap.size := by simp [World.setCell]
      have ho3 : ∀ p, p ≠ g → ((w2.setCell ⟨g, j * 5 + 2, none⟩ (.int .i64 ((m : Int) + 1 + (xs[j].m.body.length : Int)))).setCell ⟨g, j * 5 + 3, none⟩ (.int .i64 ((m : Int) + 1 + (xs[j].m.body.length : Int) + 1))).heap[p]? = w2.heap[p]? := fun p h1 => by
        rw [Below.heap_setCell _ _ _ _ (by exact h1), Below.heap_setCell _ _ _ _ (by exact h1)]
      have hkeep3 : ∀ p, p ≠ g → p ≠ g2 → p < wr.heap.size → ((w2.setCell ⟨g, j * 5 + 2, none⟩ (.int .i64 ((m : Int) + 1 + (xs[j].m.body.length : Int)))).setCell ⟨g, j * 5 + 3, none⟩ (.int .i64 ((m : Int) + 1 + (xs[j].m.body.length : Int) + 1))).heap[p]? = wr.heap[p]? := fun p h1 h2 h3 => by
        rw [ho3 p h1, hmid2.block p (by rw [hz1]; omega) (by omega)]
        exact HO1.out p h1 h3
      have hg2l : xs[j].m.body = [] → wr.heap.size ≤ g2 := fun hn => by have := hp2 hn; rw [hz1] at this; omega
      have hg2e : xs[j].m.body ≠ [] → y0.e ≤ g2 ∧ g2 < y0.h := fun hn => by have := hp1 hn; have := hgb1 hn; have := HIN.out hn; omega
      have HK3 := Lib.hid (HKI.out.keep (w' := (w2.setCell ⟨g, j * 5 + 2, none⟩ (.int .i64 ((m : Int) + 1 + (xs[j].m.body.length : Int)))).setCell ⟨g, j * 5 + 3, none⟩ (.int .i64 ((m : Int) + 1 + (xs[j].m.body.length : Int) + 1))) fun p p1 p2 => hkeep3 p (by omega) (by
        by_cases hn : xs[j].m.body = []
        · have := hg2l hn; omega
        · have := hg2e hn; omega) (by omega))
      rw [hx] at HK3
      have HK9 := Lib.hid hkeep3
      have HO9 := Lib.hid ho3
      have HR3 := Lib.hid R3
      have HB3 := Lib.hid hob3
      have HM3 := Lib.hid hmid2
      clear r2 R2 R3 ho3 hkeep3 hob3 hmid2 c2 c3 c4
      go_wp2_with fail
      have step := markTermS_any xs[j].m.term.kids _ (m + 1 + xs[j].m.body.length + 1 + 1) y0.l y0.e ((w2.setCell ⟨g, j * 5 + 2, none⟩ (.int .i64 ((m : Int) + 1 + (xs[j].m.body.length : Int)))).setCell ⟨g, j * 5 + 3, none⟩ (.int .i64 ((m : Int) + 1 + (xs[j].m.body.length : Int) + 1))) HK3.out (by rw [hz3]; omega) (by omega) (by omega)
      rw [show ((m + 1 + xs[j].m.body.length + 1 + 1 : Nat) : Int) = (m : Int) + 1 + (xs[j].m.body.length : Int) + 1 + 1 by omega] at step
      refine step.mono ?_
      rintro e w3 ⟨rfl, ho4, hmid4, hs4⟩
      clear step
      rw [hz3] at hs4
      have hW3 : ∀ p, p ≠ g → (p < y0.l ∨ y0.e ≤ p) → p < w2.heap.size → w3.heap[p]? = w2.heap[p]? := fun p h1 h2 h3 => (hmid4.block p (by rw [hz3]; exact h3) h2).trans (HO9.out p h1)
      have hgL : g < y0.l ∨ y0.e ≤ g := by omega
      have hbase2 : ∀ p, p < base → p ≠ g2 := fun p hp => by
        by_cases hn : xs[j].m.body = []
        · have := hg2l hn; omega
        · have := hg2e hn; omega
      have FIN : Hid (GrowD w3 base (.slice (some ⟨g, 0, none⟩) xs.length c) (ys.set j { y0 with m := markD m xs[j].m, gb := g2 }) ∧ Mid base w.heap.size w w3) := Lib.hid (by
        refine ⟨HT.out w3 { y0 with m := markD m xs[j].m, gb := g2 } (by rw [← hy0]) (by rw [← hy0]) (by rw [← hy0]) (by rw [← hy0]) ⟨?_, ?_, ?_, fun hn => hg2e fun h0 => ?_, ?_, ?_⟩ (by omega) ?_ fun p p1 p2 p3 p4 => ?_, ?_⟩
        · have := mt_size m
          show (mt m).size ≤ maxLen
          unfold maxLen; omega
        · show TopM (.node (m + 1 + xs[j].m.body.length : Nat) (m + 2 + xs[j].m.body.length : Nat) _)
          unfold TopM
          simp only [TermD.num, TermD.kind]
          omega
        · show OwnS w3 g2 y0.u (marks (m + 1) xs[j].m.body.length)
          rw [hu]
          refine HB3.out.keep fun hn => ?_
          have hn' : xs[j].m.body ≠ [] := fun h0 => hn (by rw [h0]; rfl)
          have h1 := hg2e hn'
          have h2 := hord
          exact hW3 g2 (fun h => hg2 h.symm) (.inr h1.1) (by omega)
        · exact hn (by show marks (m + 1) xs[j].m.body.length = []; rw [h0]; rfl)
        · show OI w3 y0.l y0.e y0.x (markMs (m + 3 + xs[j].m.body.length) xs[j].m.term.kids)
          rw [hx, show m + 3 + xs[j].m.body.length = m + 1 + xs[j].m.body.length + 1 + 1 by omega]
          exact ho4
        · have := hord
          exact ⟨this.1, this.2.1, this.2.2.1, by show y0.h ≤ _; omega⟩
        · have := HR3.out.same (w' := w3) (hmid4.block g (by rw [hz3]; omega) hgL)
          have e1 : ((markD m xs[j].m).term.kind : Int) = (m : Int) + 1 + (xs[j].m.body.length : Int) := by
            show ((m + 1 + xs[j].m.body.length : Nat) : Int) = _; omega
          have e2 : ((markD m xs[j].m).term.num : Int) = (m : Int) + 1 + (xs[j].m.body.length : Int) + 1 := by
            show ((m + 2 + xs[j].m.body.length : Nat) : Int) = _; omega
          show Row w3 g _ (((cur.setIfInBounds (j * 5) (.string (mt m))).setIfInBounds (j * 5 + 2) (.int .i64 (markD m xs[j].m).term.kind)).setIfInBounds (j * 5 + 3) (.int .i64 (markD m xs[j].m).term.num))
          rw [e1, e2]
          exact this
        · rw [hmid4.block p (by rw [hz3]; omega) (by omega)]
          refine HK9.out p p3 ?_ p2
          by_cases hn : xs[j].m.body = []
          · have := hg2l hn; omega
          · have := hg2e hn; omega
        · refine ⟨hmid4.os.trans (HM3.out.os.trans HMM1.out.os), hmid4.tape.trans (HM3.out.tape.trans HMM1.out.tape), hmid4.output.trans (HM3.out.output.trans HMM1.out.output), by omega, fun p h1 h2 => ?_⟩
          have hpb : p < base := by omega
          have hpg2 := hbase2 p hpb
          have := hord
          rw [hW3 p (by omega) (by omega) (by omega), HM3.out.block p (by rw [hz1]; omega) (by omega)]
          exact HMM1.out.block p h1 h2)
      have HUQ := Lib.hid (HUP.out { y0 with m := markD m xs[j].m, gb := g2 } rfl)
      have HFM : Hid (m + 1 + xs[j].m.body.length + 1 + 1 + 2 * sizeMs xs[j].m.term.kids = k + cntDs ((xs.map (·.m)).take (j + 1))) := Lib.hid (by have := HM2.out; omega)
      clear ho4 hmid4 hs4 hW3
      go_wp2
      go_roundg (xs.length - (j + 1))
      case rel => exact ⟨j + 1, m + 1 + xs[j].m.body.length + 1 + 1 + 2 * sizeMs xs[j].m.term.kids, _, by omega, by go_num, by go_num, HFM.out, FIN.out.1, HUQ.out, FIN.out.2, rfl⟩
      case measure => omega
    · have hje : j = xs.length := by omega
      subst hje
      rw [List.take_of_length_le (by rw [List.length_map]; exact Nat.le_refl _)] at hm
      have HM := Lib.hid hm
      have FIN := Lib.hid (And.intro (⟨ys, hG, hU.all⟩ : ∃ ys, GrowD wr base (.slice A xs.length c) ys ∧ ys.map (·.m) = marksD k (xs.map (·.m))) hmid)
      clear hG hU hmid hm
      go_wp2
      go_ret
      exact ⟨ret_int (by have := HM.out; omega), FIN.out⟩
end Go.Proofs.Ytiochjagolijfaa

/- Numbers that were laid into terms are found again: laws.heldTermS. -/
namespace Go.Proofs.Ytiochjagolijfaa
open Go.RowKit

def HdI (ts : List TermD) : Prop := ∀ (v : Value) (k lo hi : Nat) (w : World), KM false w lo hi v (markMs k ts) → hi ≤ w.heap.size → 1 ≤ k → k + 2 * sizeMs ts ≤ 1000000000 →
  Calls Try.prog 37 #[v, .int .i64 (k : Int)] w fun e w' => e = .returned (.int .i64 ((k + 2 * sizeMs ts : Nat) : Int)) ∧ w' = w

set_option maxRecDepth 100000 in
set_option maxHeartbeats 4000000 in
theorem heldTermS_of (ts : List TermD) (ih : ∀ i (h : i < ts.length), HdI ts[i].kids) : HdI ts := by
  intro v k lo hi w h hh hk1 hk2
  obtain ⟨A, c, U, rfl, hlc, hc, hs, hcell, hsub⟩ := h.parts
  have hml := markMs_len k ts
  rw [hml] at hlc ⊢
  unfold maxLen at hc
  have HC := Lib.hid hcell
  have HB := Lib.hid hsub
  have hlen := length_sizeMs ts
  have HML := Lib.hid hml
  clear h hcell hsub hs hml
  go_enter Try.func37, Try.ntmps37
  go_wp2
  go_loopg [1, 5] ts.length (fun gk s1 s5 wr => ∃ j m : Nat, j ≤ ts.length ∧ s5 = .int .i64 j ∧ s1 = .int .i64 (m : Int) ∧ m = k + 2 * sizeMs (ts.take j) ∧ wr = w ∧ gk = ts.length - j)
  case atStart => exact ⟨0, k, by omega, rfl, rfl, by simp [sizeMs], rfl, rfl⟩
  case round =>
    obtain ⟨j, m, hj, rfl, rfl, hm, rfl, rfl⟩ := hrel
    have hle := sizeMs_take_le ts j
    by_cases hlt : j < ts.length
    · have hsj := sizeMs_take ts j hlt
      have hst1 := sizeM_eq ts[j]
      have hle1 := sizeMs_take_le ts (j + 1)
      have hjl : j < (markMs k ts).length := by rw [HML.out]; exact hlt
      obtain ⟨b, off, rfl, hb1, hb2, _, hcc⟩ := HC.out (by rw [HML.out]; omega)
      obtain ⟨q0, q1, q2⟩ := hcc j hjl
      have hsub := HB.out j hjl
      rw [markMs_at k ts j hjl, ← hm] at q0 q1 hsub
      rw [markM_kind] at q0
      rw [markM_num, show ((m + 1 : Nat) : Int) = (m : Int) + 1 by omega] at q1
      rw [markM_kids] at hsub
      have HM := Lib.hid hm
      have hm9 : m + 2 + 2 * sizeMs ts[j].kids ≤ 1000000000 := by omega
      have HM2 : Hid (m + 2 + 2 * sizeMs ts[j].kids = k + 2 * sizeMs (ts.take (j + 1))) := Lib.hid (by omega)
      have HSB := Lib.hid hsub
      have i1 : (j : Int) < (ts.length : Int) := by omega
      have d1 : decide (m + 2 + 2 * sizeMs ts[j].kids < 0) = false := decide_eq_false (by omega)
      obtain ⟨A2, c2, U2, e2, -⟩ := hsub.parts
      clear hm hsj hst1 hle1 hle hsub hcc
      have step := ih j hlt (U j) (m + 2) lo hi _ HSB.out hh (by omega) hm9
      rw [show ((m + 2 : Nat) : Int) = (m : Int) + 1 + 1 by omega] at step
      rw [e2] at q2 step
      go_wp2_with fail
      refine step.mono ?_
      rintro e4 w4 ⟨rfl, rfl⟩
      clear step
      go_wp2
      go_roundg (ts.length - (j + 1))
      case rel => exact ⟨j + 1, m + 2 + 2 * sizeMs ts[j].kids, by omega, by go_num, rfl, HM2.out, rfl, rfl⟩
      case measure => omega
    · have hje : j = ts.length := by omega
      subst hje
      rw [List.take_length] at hm
      have HM := Lib.hid hm
      clear hm
      go_wp2
      go_ret
      exact ⟨ret_int (by rw [HM.out]), rfl⟩
theorem heldTermS_any (ts : List TermD) : HdI ts := terms_ind heldTermS_of ts
end Go.Proofs.Ytiochjagolijfaa

/- The walk of heldStringS, and its marks from 1 on. -/
namespace Go.Proofs.Ytiochjagolijfaa
open Go.RowKit

set_option maxRecDepth 100000 in
set_option maxHeartbeats 1000000 in
theorem heldStringS_any (v : Value) (n lo hi k : Nat) (w : World) (h : Strs w lo hi v (marks k n)) (hh : hi ≤ w.heap.size) (h1 : 1 ≤ k) (h2 : k + n ≤ 1000000000) :
    Calls Try.prog 36 #[v, .int .i64 (k : Int)] w fun e w' => e = .returned (.int .i64 ((k + n : Nat) : Int)) ∧ Below w.heap.size w w' := by
  obtain ⟨A, c, rfl, hlc, hc, hsz, hcell⟩ := h
  rw [marks_len] at hlc ⊢
  have HC := Lib.hid hcell
  clear hcell hsz
  go_enter Try.func36, Try.ntmps36
  go_wp2
  go_loopw [1, 5] (fun x i wr => ∃ (j : Nat), j ≤ n ∧ i = .int .i64 (j : Int) ∧ x = .int .i64 ((k + j : Nat) : Int) ∧ Below w.heap.size w wr) (fun _ i _ => n - (intOf i).toNat)
  case atStart => exact ⟨0, by omega, rfl, rfl, Below.refl _ _⟩
  case round =>
    obtain ⟨j, hj, rfl, rfl, hbw⟩ := hrel
    have hsw := hbw.size
    by_cases hlt : j < n
    · obtain ⟨b, off, rfl, _, hbh, hcc⟩ := HC.out (by rw [marks_len]; omega)
      have hck := hcc j (by rw [marks_len]; exact hlt)
      rw [marks_at] at hck
      have hck' := (hbw.cell (p := ⟨b, off + j, none⟩) (by show b < _; omega)).trans hck
      have i1 : (j : Int) < (n : Int) := by omega
      clear hcc hck
      go_wp2_with fail
      go_region_held3 (fun w' => w'.cell? ⟨b, off + j, none⟩ = some (.string (mt (k + j))))
        (first | go_keep | (rw [b1.cell (by show b < _; simp; omega)]; assumption))
        (first | (go_at_call 33; refine (markText_any (k + j) _ (by omega) (by omega)).mono ?_; rintro e w1 ⟨rfl, b1⟩))
      have z1 : wr.heap.size ≤ w1.heap.size := b1.size
      have hb2 : Below w.heap.size w w1 := hbw.drew.trans (b1.mono hsw)
      go_wp2
      go_roundw
      case rel => exact ⟨j + 1, by omega, by go_num, by go_num, hb2⟩
      case measure => simp [intOf]; omega
    · have hjs : j = n := by omega
      subst hjs
      go_wp2
      go_ret
      exact ⟨rfl, hbw⟩
theorem heldStringS_one (v : Value) (n lo hi : Nat) (w : World) (h : Strs w lo hi v (marks 1 n)) (hh : hi ≤ w.heap.size) (h2 : n ≤ 2000000) :
    Calls Try.prog 36 #[v, .int .i64 1] w fun e w' => ∃ K : Int, e = .returned (.int .i64 K) ∧ K = ((1 + n : Nat) : Int) ∧ Below w.heap.size w w' :=
  Calls.mono (heldStringS_any v n lo hi 1 w h hh (Nat.le_refl _) (by omega)) fun _ _ ⟨h1, h2⟩ => ⟨_, h1, rfl, h2⟩
end Go.Proofs.Ytiochjagolijfaa
