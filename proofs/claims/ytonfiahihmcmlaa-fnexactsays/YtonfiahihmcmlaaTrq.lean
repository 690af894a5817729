/- Two lists of the same trees are told to be alike: eqTreeS, eqTree. -/
import Derived.Test.YtonfiahihmcmlaaTrz
import Derived.Test.YtonfiahihmcmlaaEq
namespace Go.Proofs.Ytonfiahihmcmlaa
open Go.RowKit

def EqS (ts : List TreeD) : Prop := ∀ (z : Bool) (v u : Value) (lo hi lo' hi' : Nat) (w : World), Kd z w lo hi v ts → Kd z w lo' hi' u ts → hi ≤ w.heap.size → hi' ≤ w.heap.size →
  Calls Try.prog 107 #[v, u] w fun e w' => e = .returned (.bool true) ∧ Below w.heap.size w w'

set_option maxHeartbeats 1000000 in
theorem eqTree_of (t : TreeD) (ih : EqS t.kids) (z : Bool) (v u : Value) (lo hi lo' hi' : Nat) (w : World) (h : Kd z w lo hi v t.kids) (h' : Kd z w lo' hi' u t.kids) (hh : hi ≤ w.heap.size) (hh' : hi' ≤ w.heap.size) :
    Calls Try.prog 47 #[trV t v, trV t u] w fun e w' => e = .returned (.bool true) ∧ Below w.heap.size w w' := by
  unfold trV
  have d1 : (t.tok.toList == t.tok.toList) = true := by simp
  have d2 : (t.rule != t.rule) = false := by simp
  have hb : Below w.heap.size w ((w.alloc (.cells #[.int .i64 t.rule, .string t.tok, v] 62)).alloc (.cells #[.int .i64 t.rule, .string t.tok, u] 62)) := al2 _ _ _
  go_enter Try.func47, Try.ntmps47
  go_wp2_with fail
  refine (ih z v u lo hi lo' hi' _ (h.under hb hh) (h'.under hb hh') (by simp; omega) (by simp; omega)).mono ?_
  rintro e w1 ⟨rfl, hb1⟩
  have hb2 : Below w.heap.size w w1 := hb.trans (hb1.mono (by simp; omega))
  clear hb hb1
  go_wp2
  go_ret
  exact ⟨rfl, hb2⟩

set_option maxRecDepth 100000 in
set_option maxHeartbeats 1000000 in
theorem eqTreeS_of (ts : List TreeD) (ih : ∀ i (h : i < ts.length), EqS ts[i].kids) : EqS ts := by
  intro z v u lo hi lo' hi' w h h' hh hh'
  obtain ⟨A, c, U, rfl, hlc, hc, hs, hcell, hsub⟩ := h.parts
  obtain ⟨A', c', U', rfl, hlc', hc', hs', hcell', hsub'⟩ := h'.parts
  unfold maxLen at hc hc'
  have HC := Lib.hid hcell
  have HC' := Lib.hid hcell'
  have HB := Lib.hid hsub
  have HB' := Lib.hid hsub'
  clear hcell hcell' hsub hsub' h h' hs hs'
  go_enter Try.func107, Try.ntmps107
  go_wp2
  go_loopw [5] (fun i wr => ∃ k : Nat, k ≤ ts.length ∧ i = .int .i64 k ∧ Below w.heap.size w wr) (fun i _ => ts.length - (intOf i).toNat)
  case atStart => exact ⟨0, by omega, rfl, Below.refl _ _⟩
  case round =>
    obtain ⟨k, hk, rfl, hbw⟩ := hrel
    have hsw := hbw.size
    by_cases hlt : k < ts.length
    · obtain ⟨b, off, rfl, _, hbh, _, hcc⟩ := HC.out (by omega)
      obtain ⟨b', off', rfl, _, hbh', _, hcc'⟩ := HC'.out (by omega)
      obtain ⟨hc0, hc1, hc2⟩ := hcc k hlt
      obtain ⟨hd0, hd1, hd2⟩ := hcc' k hlt
      have k0 := (hbw.cell (p := ⟨b, off + k * 3, none⟩) (by show b < _; omega)).trans hc0
      have k1 := (hbw.cell (p := ⟨b, off + k * 3 + 1, none⟩) (by show b < _; omega)).trans hc1
      have k2 := (hbw.cell (p := ⟨b, off + k * 3 + 2, none⟩) (by show b < _; omega)).trans hc2
      have m0 := (hbw.cell (p := ⟨b', off' + k * 3, none⟩) (by show b' < _; omega)).trans hd0
      have m1 := (hbw.cell (p := ⟨b', off' + k * 3 + 1, none⟩) (by show b' < _; omega)).trans hd1
      have m2 := (hbw.cell (p := ⟨b', off' + k * 3 + 2, none⟩) (by show b' < _; omega)).trans hd2
      have g1 := (HB.out k hlt).under hbw hh
      have g2 := (HB'.out k hlt).under hbw hh'
      have i1 : (k : Int) < (ts.length : Int) := by omega
      have n1 : (0 : Int) ≤ (k : Int) := by omega
      clear hcc hcc' hc0 hc1 hc2 hd0 hd1 hd2
      have hbw2 : Below w.heap.size w wr.drew := hbw.drew
      have g1d : Kd z wr.drew lo hi (U k) ts[k].kids := g1.drewN 1
      have g2d : Kd z wr.drew lo' hi' (U' k) ts[k].kids := g2.drewN 1
      have hswd : w.heap.size ≤ wr.drew.heap.size := hsw
      go_wp2
      go_still_tail 8, (by kernel_rfl)
      change wpList _ _ _ _ _ wr.drew
      generalize wr.drew = w2 at hbw2 g1d g2d hswd ⊢
      go_wp2_with fail
      refine (eqTree_of ts[k] (ih k hlt) z (U k) (U' k) lo hi lo' hi' _ g1d g2d (by omega) (by omega)).mono ?_
      rintro e w1 ⟨rfl, hb1⟩
      go_wp2
      go_roundw
      case rel => exact ⟨k + 1, by omega, by go_num, hbw2.trans (hb1.mono hswd)⟩
      case measure => simp [intOf]; omega
    · go_wp2
      go_ret
      exact ⟨rfl, hbw⟩
theorem eqTreeS_any (ts : List TreeD) : EqS ts := kids_ind eqTreeS_of ts
theorem eqTree_any (t : TreeD) (z : Bool) (v u : Value) (lo hi lo' hi' : Nat) (w : World) (h : Kd z w lo hi v t.kids) (h' : Kd z w lo' hi' u t.kids) (hh : hi ≤ w.heap.size) (hh' : hi' ≤ w.heap.size) :
    Calls Try.prog 47 #[trV t v, trV t u] w fun e w' => e = .returned (.bool true) ∧ Below w.heap.size w w' :=
  eqTree_of t (eqTreeS_any _) z v u lo hi lo' hi' w h h' hh hh'
end Go.Proofs.Ytonfiahihmcmlaa
