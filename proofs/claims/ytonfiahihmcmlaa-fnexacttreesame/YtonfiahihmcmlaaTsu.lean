/- Two lists of trees, alike but for what is in the Kids: slices.EqualFunc, impl.sameTops. -/
import Derived.Test.YtonfiahihmcmlaaTst
namespace Go.Proofs.Ytonfiahihmcmlaa
open Go.RowKit

set_option maxRecDepth 100000 in
set_option maxHeartbeats 4000000 in
theorem equalFunc_any (x y : List TreeD) (z : Bool) (v u : Value) (lo hi : Nat) (w : World) (hv : Kd z w lo hi v x) (hu : Kd z w lo hi u y) (hh : hi ≤ w.heap.size) :
    Calls Try.prog 147 #[v, u, .func (.func 148) #[] #[]] w fun e w' => ∃ a, e = .returned (.bool a) ∧ (a = true ↔ TopsEq x y) ∧ Below w.heap.size w w' := by
  obtain ⟨A, c, U, rfl, hlc, hc, _, hcell, hsub⟩ := hv.parts
  obtain ⟨B, d, V, rfl, hld, hd, _, hcell', hsub'⟩ := hu.parts
  have HC := Lib.hid hcell
  have HC' := Lib.hid hcell'
  have HB := Lib.hid hsub
  have HB' := Lib.hid hsub'
  unfold maxLen at hc hd
  clear hcell hcell' hsub hsub' hv hu
  by_cases hn : x.length = y.length
  · have n0 : ((x.length : Int) != (y.length : Int)) = false := by rw [bne_eq_false_iff_eq]; omega
    have HN := Lib.hid hn
    clear hn
    go_enter Try.func147, Try.ntmps147
    go_wp2
    go_loopg [17] x.length (fun gk i wr => ∃ k : Nat, k ≤ x.length ∧ i = .int .i64 k ∧ Below w.heap.size w wr ∧ (∀ j (h : j < x.length) (h' : j < y.length), j < k → TopEq x[j] y[j]) ∧ gk = x.length - k)
    case atStart => exact ⟨0, by omega, rfl, Below.refl _ _, (fun j _ _ hj => by omega), rfl⟩
    case round =>
      obtain ⟨k, hk, rfl, hbw, hall, rfl⟩ := hrel
      have HA := Lib.hid hall
      clear hall
      have hsw := hbw.size
      by_cases hlt : k < x.length
      · have hlt' : k < y.length := by have := HN.out; omega
        obtain ⟨b, off, rfl, _, hbh, _, hcc⟩ := HC.out (by omega)
        obtain ⟨hc0, hc1, hc2⟩ := hcc k hlt
        obtain ⟨b', off', rfl, _, hbh', _, hcc'⟩ := HC'.out (by omega)
        obtain ⟨hd0, hd1, hd2⟩ := hcc' k hlt'
        obtain ⟨A2, c2, U2, e2, -⟩ := (HB.out k hlt).parts
        obtain ⟨B2, d2, V2, f2, -⟩ := (HB'.out k hlt').parts
        rw [e2] at hc2
        rw [f2] at hd2
        have k0 := (hbw.cell (p := ⟨b, off + k * 3, none⟩) (by show b < _; omega)).trans hc0
        have k1 := (hbw.cell (p := ⟨b, off + k * 3 + 1, none⟩) (by show b < _; omega)).trans hc1
        have k2 := (hbw.cell (p := ⟨b, off + k * 3 + 2, none⟩) (by show b < _; omega)).trans hc2
        have m0 := (hbw.cell (p := ⟨b', off' + k * 3, none⟩) (by show b' < _; omega)).trans hd0
        have m1 := (hbw.cell (p := ⟨b', off' + k * 3 + 1, none⟩) (by show b' < _; omega)).trans hd1
        have m2 := (hbw.cell (p := ⟨b', off' + k * 3 + 2, none⟩) (by show b' < _; omega)).trans hd2
        have i1 : (k : Int) < (x.length : Int) := by omega
        have i2 : (k : Int) < (y.length : Int) := by omega
        have hb1 : b < wr.heap.size := by omega
        have hb2 : b' < wr.heap.size := by omega
        clear hcc hcc' hc0 hc1 hc2 hd0 hd1 hd2 e2 f2
        by_cases ht : TopEq x[k] y[k]
        · have HT := Lib.hid ht
          have HD := Lib.hid (decide_eq_true ht)
          clear ht
          go_wp2_with fail
          refine (sameTop_any x[k] y[k] _ _ _ _ _).mono ?_
          rintro e w1 ⟨rfl, b1⟩
          rw [HD.out]
          have hb3 : Below wr.heap.size wr w1 := (al2 _ _ _).trans (b1.mono (by simp; omega))
          go_wp2
          go_roundg (x.length - (k + 1))
          case rel => exact ⟨k + 1, by omega, by go_num, hbw.trans (hb3.mono hsw), (fun j hj hj' hjk => by
            by_cases e : j = k
            · subst e; exact HT.out
            · exact HA.out j hj hj' (by omega)), rfl⟩
          case measure => omega
        · have HE : Hid (¬ TopsEq x y) := Lib.hid (fun h => ht (h.2 k hlt hlt'))
          have HD := Lib.hid (decide_eq_false ht)
          clear ht
          go_wp2_with fail
          refine (sameTop_any x[k] y[k] _ _ _ _ _).mono ?_
          rintro e w1 ⟨rfl, b1⟩
          rw [HD.out]
          have hb3 : Below wr.heap.size wr w1 := (al2 _ _ _).trans (b1.mono (by simp; omega))
          go_wp2
          go_ret
          exact ⟨false, rfl, ⟨(fun h => by cases h), fun h => absurd h HE.out⟩, hbw.trans (hb3.mono hsw)⟩
      · have HE : Hid (TopsEq x y) := Lib.hid ⟨HN.out, fun i hi hi' => HA.out i hi hi' (by omega)⟩
        go_wp2
        go_ret
        exact ⟨true, rfl, ⟨fun _ => HE.out, fun _ => rfl⟩, hbw⟩
  · have n0 : ((x.length : Int) != (y.length : Int)) = true := by rw [bne_iff_ne]; omega
    go_enter Try.func147, Try.ntmps147
    go_wp2
    go_ret
    exact ⟨false, rfl, ⟨(fun h => by cases h), fun h => absurd h.1 hn⟩, Below.refl _ _⟩

set_option maxRecDepth 100000 in
set_option maxHeartbeats 1000000 in
theorem sameTops_any (x y : List TreeD) (z : Bool) (v u : Value) (lo hi : Nat) (w : World) (hv : Kd z w lo hi v x) (hu : Kd z w lo hi u y) (hh : hi ≤ w.heap.size) :
    Calls Try.prog 116 #[.agg #[v, u]] w fun e w' => ∃ a, e = .returned (.bool a) ∧ (a = true ↔ TopsEq x y) ∧ Below w.heap.size w w' := by
  have hb := al1 w (.cells #[v, u] 157)
  have HV := Lib.hid (hv.under hb hh)
  have HU := Lib.hid (hu.under hb hh)
  obtain ⟨A, c, U, rfl, -⟩ := hv.parts
  obtain ⟨B, d, V, rfl, -⟩ := hu.parts
  clear hv hu
  go_enter Try.func116, Try.ntmps116
  go_wp2_with fail
  refine (equalFunc_any x y z _ _ lo hi _ HV.out HU.out (by simp; omega)).mono ?_
  rintro e w1 ⟨a, rfl, ha, b1⟩
  have HA := Lib.hid ha
  clear ha
  go_wp2
  go_ret
  exact ⟨a, rfl, HA.out, hb.trans (b1.mono (by simp))⟩
end Go.Proofs.Ytonfiahihmcmlaa
