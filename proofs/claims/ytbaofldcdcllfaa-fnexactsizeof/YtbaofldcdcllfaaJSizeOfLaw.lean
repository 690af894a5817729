import Derived.Test.YtbaofldcdcllfaaJSsz
import Derived.Test.YtbaofldcdcllfaaEq
import Derived.Test.YtbaofldcdcllfaaJTrt
import Derived.Test.YtbaofldcdcllfaaTru
import Derived.Deep.RegionHeld3
/- Two lists of the same trees are told to be alike: eqTreeS, eqTree. -/
namespace Go.Proofs.Ytbaofldcdcllfaa
open Go.RowKit

def EqS (ts : List TreeD) : Prop := ∀ (z : Bool) (v u : Value) (lo hi lo' hi' : Nat) (w : World), Kd z w lo hi v ts → Kd z w lo' hi' u ts → hi ≤ w.heap.size → hi' ≤ w.heap.size →
  Calls Try.prog 34 #[v, u] w fun e w' => e = .returned (.bool true) ∧ Below w.heap.size w w'

set_option maxHeartbeats 1000000 in
theorem eqTree_of (t : TreeD) (ih : EqS t.kids) (z : Bool) (v u : Value) (lo hi lo' hi' : Nat) (w : World) (h : Kd z w lo hi v t.kids) (h' : Kd z w lo' hi' u t.kids) (hh : hi ≤ w.heap.size) (hh' : hi' ≤ w.heap.size) :
    Calls Try.prog 11 #[trV t v, trV t u] w fun e w' => e = .returned (.bool true) ∧ Below w.heap.size w w' := by
  unfold trV
  have d1 : (t.tok.toList == t.tok.toList) = true := by simp
  have d2 : (t.rule != t.rule) = false := by simp
  have hb : Below w.heap.size w ((w.alloc (.cells #[.int .i64 t.rule, .string t.tok, v] 29)).alloc (.cells #[.int .i64 t.rule, .string t.tok, u] 29)) := al2 _ _ _
  go_enter Try.func11, Try.ntmps11
  go_wp2_with fail
  refine (ih z v u lo hi lo' hi' _ (h.under hb hh) (h'.under hb hh') (by simp; omega) (by simp; omega)).mono ?_
  rintro e w1 ⟨rfl, hb1⟩
  have hb2 : Below w.heap.size w w1 := hb.trans (hb1.mono (by simp; omega))
  clear hb hb1
  go_wp2
  go_ret
  exact ⟨rfl, hb2⟩

set_option maxRecDepth 100000 in
set_option maxHeartbeats 1000000 in
theorem eqTreeS_of (ts : List TreeD) (ih : ∀ i (h : i < ts.length), EqS ts[i].kids) : EqS ts := by
  intro z v u lo hi lo' hi' w h h' hh hh'
  obtain ⟨A, c, U, rfl, hlc, hc, hs, hcell, hsub⟩ := h.parts
  obtain ⟨A', c', U', rfl, hlc', hc', hs', hcell', hsub'⟩ := h'.parts
  unfold maxLen at hc hc'
  have HC := Lib.hid hcell
  have HC' := Lib.hid hcell'
  have HB := Lib.hid hsub
  have HB' := Lib.hid hsub'
  clear hcell hcell' hsub hsub' h h' hs hs'
  go_enter Try.func34, Try.ntmps34
  go_wp2
  go_loopw [5] (fun i wr => ∃ k : Nat, k ≤ ts.length ∧ i = .int .i64 k ∧ Below w.heap.size w wr) (fun i _ => ts.length - (intOf i).toNat)
  case atStart => exact ⟨0, by omega, rfl, Below.refl _ _⟩
  case round =>
    obtain ⟨k, hk, rfl, hbw⟩ := hrel
    have hsw := hbw.size
    by_cases hlt : k < ts.length
    · obtain ⟨b, off, rfl, _, hbh, _, hcc⟩ := HC.out (by omega)
      obtain ⟨b', off', rfl, _, hbh', _, hcc'⟩ := HC'.out (by omega)
      obtain ⟨hc0, hc1, hc2⟩ := hcc k hlt
      obtain ⟨hd0, hd1, hd2⟩ := hcc' k hlt
      have k0 := (hbw.cell (p := ⟨b, off + k * 3, none⟩) (by show b < _; omega)).trans hc0
      have k1 := (hbw.cell (p := ⟨b, off + k * 3 + 1, none⟩) (by show b < _; omega)).trans hc1
      have k2 := (hbw.cell (p := ⟨b, off + k * 3 + 2, none⟩) (by show b < _; omega)).trans hc2
      have m0 := (hbw.cell (p := ⟨b', off' + k * 3, none⟩) (by show b' < _; omega)).trans hd0
      have m1 := (hbw.cell (p := ⟨b', off' + k * 3 + 1, none⟩) (by show b' < _; omega)).trans hd1
      have m2 := (hbw.cell (p := ⟨b', off' + k * 3 + 2, none⟩) (by show b' < _; omega)).trans hd2
      have g1 := (HB.out k hlt).under hbw hh
      have g2 := (HB'.out k hlt).under hbw hh'
      have i1 : (k : Int) < (ts.length : Int) := by omega
      have n1 : (0 : Int) ≤ (k : Int) := by omega
      clear hcc hcc' hc0 hc1 hc2 hd0 hd1 hd2
      have hbw2 : Below w.heap.size w wr.drew := hbw.drew
      have g1d : Kd z wr.drew lo hi (U k) ts[k].kids := g1.drewN 1
      have g2d : Kd z wr.drew lo' hi' (U' k) ts[k].kids := g2.drewN 1
      have hswd : w.heap.size ≤ wr.drew.heap.size := hsw
      go_wp2
      go_still_tail 8, (by kernel_rfl)
      change wpList _ _ _ _ _ wr.drew
      generalize wr.drew = w2 at hbw2 g1d g2d hswd ⊢
      go_wp2_with fail
      refine (eqTree_of ts[k] (ih k hlt) z (U k) (U' k) lo hi lo' hi' _ g1d g2d (by omega) (by omega)).mono ?_
      rintro e w1 ⟨rfl, hb1⟩
      go_wp2
      go_roundw
      case rel => exact ⟨k + 1, by omega, by go_num, hbw2.trans (hb1.mono hswd)⟩
      case measure => simp [intOf]; omega
    · go_wp2
      go_ret
      exact ⟨rfl, hbw⟩
theorem eqTreeS_any (ts : List TreeD) : EqS ts := kids_ind eqTreeS_of ts
theorem eqTree_any (t : TreeD) (z : Bool) (v u : Value) (lo hi lo' hi' : Nat) (w : World) (h : Kd z w lo hi v t.kids) (h' : Kd z w lo' hi' u t.kids) (hh : hi ≤ w.heap.size) (hh' : hi' ≤ w.heap.size) :
    Calls Try.prog 11 #[trV t v, trV t u] w fun e w' => e = .returned (.bool true) ∧ Below w.heap.size w w' :=
  eqTree_of t (eqTreeS_any _) z v u lo hi lo' hi' w h h' hh hh'
end Go.Proofs.Ytbaofldcdcllfaa

/- The walk of the law FnExactSizeOf. -/
namespace Go.Proofs.Ytbaofldcdcllfaa.fnExactSizeOf
open Go.RowKit
set_option maxRecDepth 100000 in
set_option maxHeartbeats 2000000 in
theorem walk (t : TreeD) (v : Value) (w : World) (ht : TopOk t) (h : Kd false w 0 w.heap.size v t.kids) :
    Calls Try.prog 3 #[trV t v] w fun e w' => e = .returned (.bool true) ∧ Below w.heap.size w w' := by
  have hb0 := al1 w (.cells #[.int .i64 t.rule, .string t.tok, v] 24)
  have HV := Lib.hid h
  obtain ⟨Av, cv, Uv, rfl, -⟩ := h.parts
  clear h
  have HT := Lib.hid ht
  clear ht
  unfold trV
  by_cases hbig : (1048576 : Int) < bulkT t
  · have HS := Lib.hid (szOut_neg hbig)
    go_enter Try.func3, Try.ntmps3
    go_wp2_with fail
    refine (szTree_any t _ 0 w.heap.size _ _ HT.out (HV.out.under hb0 (Nat.le_refl _)) (by simp) (by omega) (by omega)).mono ?_
    rintro e w1 ⟨rfl, hb1⟩
    rw [HS.out]
    go_wp2
    go_ret
    exact ⟨rfl, hb0.trans (hb1.mono (by simp))⟩
  have HS := Lib.hid (szOut_pos hbig)
  have d0 : decide ((1048576 : Int) - (bulkT t : Int) < 0) = false := decide_eq_false (by omega)
  have R0 := Row.made w 24 #[.int .i64 t.rule, .string t.tok, .slice Av t.kids.length cv]
  go_enter Try.func3, Try.ntmps3
  go_wp2_with fail
  refine (szTree_any t _ 0 w.heap.size _ _ HT.out (HV.out.under hb0 (Nat.le_refl _)) (by simp) (by omega) (by omega)).mono ?_
  rintro e w1 ⟨rfl, hb1⟩
  rw [HS.out]
  have B1 : Below (w.heap.size + 1) (w.alloc (.cells #[.int .i64 t.rule, .string t.tok, .slice Av t.kids.length cv] 24)) w1 := hb1.mono (by simp)
  have z1 : w.heap.size + 1 ≤ w1.heap.size := by have := hb1.size; simpa using this
  have R1 := R0.below B1 (by omega)
  have c10 := R1.cell 0
  have c11 := R1.cell 1
  have c12 := R1.cell 2
  simp at c10 c11 c12
  clear R1
  go_wp2_with fail
  refine (toTree_any t _ 0 w.heap.size _ ((HV.out.under hb0 (Nat.le_refl _)).under B1 (by omega)) (by omega) (by omega)).mono ?_
  rintro e w2 ⟨x2, rfl, O2, b2⟩
  have B2 := B1.trans (b2.mono z1)
  have z2 := b2.size
  go_wp2_with fail
  refine (specSizeOf_t t _ _ _ _ HT.out O2.1 (Nat.le_refl _) (by omega)).mono ?_
  rintro e w3 ⟨rfl, b3⟩
  have B3 := B2.trans (b3.mono (by omega))
  have z3 := b3.size
  have R3 := R0.below B3 (by omega)
  have c30 := R3.cell 0
  have c31 := R3.cell 1
  have c32 := R3.cell 2
  simp at c30 c31 c32
  clear R3
  go_wp2_with fail
  refine (toTree_any t _ 0 w.heap.size _ ((HV.out.under hb0 (Nat.le_refl _)).under B3 (by omega)) (by omega) (by omega)).mono ?_
  rintro e w4 ⟨x4, rfl, O4, b4⟩
  have B4 := B3.trans (b4.mono (by omega))
  have z4 := b4.size
  have HO4 := Lib.hid O4
  obtain ⟨A4, c4, U4, rfl, -⟩ := O4.1.parts
  clear O4
  have ha := al1 w4 (.cells #[.int .i64 t.rule, .string t.tok, .slice A4 t.kids.length c4] 29)
  have R4 := Row.made w4 29 #[.int .i64 t.rule, .string t.tok, .slice A4 t.kids.length c4]
  unfold trV
  go_wp2_with fail
  refine (implSizeOf_t t _ _ _ _ HT.out (HO4.out.1.under ha (Nat.le_refl _)) (by simp) (by omega)).mono ?_
  rintro e w5 ⟨rfl, b5⟩
  have k4 : Keeps w3.heap.size w4.heap.size w4 w5 := (Keeps.below ha (Nat.le_refl _)).trans (Keeps.below b5 (by simp))
  have B5 : Below (w.heap.size + 1) (w.alloc (.cells #[.int .i64 t.rule, .string t.tok, .slice Av t.kids.length cv] 24)) w5 := (B4.trans (ha.mono (by omega))).trans (b5.mono (by simp; omega))
  have z5 : w4.heap.size + 1 ≤ w5.heap.size := by have := b5.size; simpa using this
  have R5 := R0.below B5 (by omega)
  have c50 := R5.cell 0
  have c51 := R5.cell 1
  have c52 := R5.cell 2
  have R6 := R4.below b5 (by simp)
  have c60 := R6.cell 0
  have c61 := R6.cell 1
  have c62 := R6.cell 2
  simp at c50 c51 c52 c60 c61 c62
  clear R5 R6
  have O5 := HO4.out.keep k4
  have V5 : Kd false w5.drew 0 w.heap.size (.slice Av t.kids.length cv) t.kids := ((HV.out.under hb0 (Nat.le_refl _)).under (B := w.heap.size + 1) B5 (by omega)).drewN 1
  have X5 : Kd false w5.drew w3.heap.size w4.heap.size (.slice A4 t.kids.length c4) t.kids := O5.1.loose.drewN 1
  go_wp2_with fail
  go_region_held3 (fun w' => (w'.cell? ⟨w4.heap.size, 0, none⟩ = some (.int .i64 t.rule) ∧ w'.cell? ⟨w4.heap.size, 1, none⟩ = some (.string t.tok) ∧ w'.cell? ⟨w4.heap.size, 2, none⟩ = some (.slice A4 t.kids.length c4)) ∧ w'.cell? ⟨w.heap.size, 0, none⟩ = some (.int .i64 t.rule) ∧ w'.cell? ⟨w.heap.size, 1, none⟩ = some (.string t.tok) ∧ w'.cell? ⟨w.heap.size, 2, none⟩ = some (.slice Av t.kids.length cv))
    (first | go_keep | (refine ⟨⟨?_, ?_, ?_⟩, ?_, ?_, ?_⟩ <;> (rw [b6.cell (by simp; omega)]; assumption)) | (refine ⟨⟨?_, ?_, ?_⟩, ?_, ?_, ?_⟩ <;> (rw [b7.cell (by simp; omega), b6.cell (by simp; omega)]; assumption)))
    (first
      | (go_at_call 9; refine (toTree_any t _ 0 w.heap.size w5.drew V5 (by simp; omega) (by omega)).mono ?_; rintro e w6 ⟨x6, rfl, O6, b6⟩; have z6 : w5.heap.size ≤ w6.heap.size := b6.size; unfold trV)
      | (go_at_call 11; refine (eqTree_any t false _ _ w3.heap.size w4.heap.size w5.heap.size w6.heap.size _ (X5.under b6 (by simp; omega)) O6.1.loose (by omega) (Nat.le_refl _)).mono ?_; rintro e w7 ⟨rfl, b7⟩))
  go_wp2
  go_ret
  exact ⟨rfl, (hb0.trans (B5.mono (by omega))).trans (((Below.refl _ _).drew.trans (b6.mono (by simp; omega))).trans (b7.mono (by omega)))⟩
end Go.Proofs.Ytbaofldcdcllfaa.fnExactSizeOf
