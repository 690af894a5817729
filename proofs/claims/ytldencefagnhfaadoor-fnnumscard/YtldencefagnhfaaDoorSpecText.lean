/- The walk of the model's GetText, and of the law FnExactGetText. -/
import Derived.Test.YtldencefagnhfaaDoorGetText
import Derived.RegionTactic
import Derived.ChangeAlike
namespace Go.Proofs.YtldencefagnhfaaDoor
open Go Go.RowKit

set_option maxRecDepth 100000 in
set_option maxHeartbeats 2000000 in
theorem specGetText_any (s : ByteArray) (at_ : Int) (w : World) (hs : s.size ≤ maxLen) (ha : -9223372036854775808 ≤ at_) (hb : at_ ≤ 9223372036854775807) :
    Calls Tryd.prog 16 #[.string s, .int .i64 at_] w fun e w' => e = .returned (txo (textOf s (numOf s at_))) ∧ Below w.heap.size w w' := by
  have R := Lib.hid (fun w => specGetNum_any s at_ w hs ha hb)
  unfold maxLen at hs
  obtain ⟨n, a, c, hr⟩ : ∃ n a c, numOf s at_ = (n, a, c) := ⟨_, _, _, rfl⟩
  simp only [nout] at R
  rw [hr] at R ⊢
  by_cases hc : c = 0
  · subst hc
    have hsz : s.size ≤ 8000 := by
      rcases Nat.lt_or_ge 8000 s.size with h | h
      · rw [show numOf s at_ = (0, 0, 2) from if_pos h] at hr; simp at hr
      · exact h
    obtain ⟨⟨ha0, ha1⟩, hn0, hn1⟩ := readOf_ok (show readOf s at_ = (n, a, 0) by rw [← hr]; exact (if_neg (by omega)).symm)
    clear hr
    have z0 : ((0 : Int) != 0) = false := rfl
    by_cases h1 : n < 0 ∨ 8000 < n
    · have HT : Hid (textOf s (n, a, 0) = (bs [], 0, 3)) := Lib.hid (textOf_form h1)
      rw [HT.out]
      by_cases h1a : n < 0
      · clear h1
        go_enter Tryd.func16, Tryd.ntmps16
        go_wp2_with fail
        refine (R.out _).mono ?_
        rintro e w1 ⟨rfl, hb1⟩
        rw [World.size_alloc] at hb1
        obtain ⟨⟨c0, c1, c2⟩, ⟨f0, f1, f2⟩, hlt⟩ := keep3 hb1
        go_wp2
        exact bodyPost_ret (v := txo (bs [], 0, 3)) (by simp [results, Tryd.results16, go_sem, txo, bs, c0, c1, c2, hlt]) rfl ⟨rfl, (bel3 hb1).alloc (bel3 hb1).size _⟩
      · have h1b : 8000 < n := by omega
        have d1 : decide (n < 0) = false := decide_eq_false h1a
        clear h1
        go_enter Tryd.func16, Tryd.ntmps16
        go_wp2_with fail
        refine (R.out _).mono ?_
        rintro e w1 ⟨rfl, hb1⟩
        rw [World.size_alloc] at hb1
        obtain ⟨⟨c0, c1, c2⟩, ⟨f0, f1, f2⟩, hlt⟩ := keep3 hb1
        go_wp2
        exact bodyPost_ret (v := txo (bs [], 0, 3)) (by simp [results, Tryd.results16, go_sem, txo, bs, c0, c1, c2, hlt]) rfl ⟨rfl, (bel3 hb1).alloc (bel3 hb1).size _⟩
    · have d1 : decide (n < 0) = false := decide_eq_false (by omega)
      have d2 : decide (8000 < n) = false := decide_eq_false (by omega)
      have g0 : 0 ≤ n := by omega
      have g1 : n ≤ 8000 := by omega
      by_cases h2 : (s.size : Int) - a < n
      · have HT : Hid (textOf s (n, a, 0) = (bs [], 0, 4)) := Lib.hid (textOf_short h1 h2)
        rw [HT.out]
        have h2' : (s.size : Int) - n < a := by omega
        clear h1 h2
        go_enter Tryd.func16, Tryd.ntmps16
        go_wp2_with fail
        refine (R.out _).mono ?_
        rintro e w1 ⟨rfl, hb1⟩
        rw [World.size_alloc] at hb1
        obtain ⟨⟨c0, c1, c2⟩, ⟨f0, f1, f2⟩, hlt⟩ := keep3 hb1
        go_wp2
        exact bodyPost_ret (v := txo (bs [], 0, 4)) (by simp [results, Tryd.results16, go_sem, txo, bs, c0, c1, c2, hlt]) rfl ⟨rfl, (bel3 hb1).alloc (bel3 hb1).size _⟩
      · have HT : Hid (textOf s (n, a, 0) = (s.extract a.toNat (a + n).toNat, a + n, 0)) := Lib.hid (textOf_ok h1 h2)
        rw [HT.out]
        have h2' : a ≤ (s.size : Int) - n := by omega
        clear h1 h2
        go_enter Tryd.func16, Tryd.ntmps16
        go_wp2_with fail
        refine (R.out _).mono ?_
        rintro e w1 ⟨rfl, hb1⟩
        rw [World.size_alloc] at hb1
        obtain ⟨⟨c0, c1, c2⟩, ⟨f0, f1, f2⟩, hlt⟩ := keep3 hb1
        go_wp2
        have k1 : IntKind.i64.wrap (a + n) = a + n := IntWalk.i64_in _ (by omega)
        have k2 : 0 ≤ a + n := by omega
        have k3 : a ≤ a + n := by omega
        have k4 : a + n ≤ (s.size : Int) := by omega
        go_region
        clear k1 k2 k3 k4
        go_wp2
        exact bodyPost_ret (v := txo (s.extract a.toNat (a + n).toNat, a + n, 0)) (by simp [results, Tryd.results16, go_sem, txo, c0, c1, c2, hlt]) rfl ⟨rfl, ((bel3 hb1).alloc (bel3 hb1).size _).drew⟩
  · have HT : Hid (textOf s (n, a, c) = (bs [], 0, c)) := Lib.hid (textOf_err hc)
    rw [HT.out]
    have z0 : (c != 0) = true := by rw [bne_iff_ne]; exact hc
    clear hr
    go_enter Tryd.func16, Tryd.ntmps16
    go_wp2_with fail
    refine (R.out _).mono ?_
    rintro e w1 ⟨rfl, hb1⟩
    rw [World.size_alloc] at hb1
    obtain ⟨⟨c0, c1, c2⟩, ⟨f0, f1, f2⟩, hlt⟩ := keep3 hb1
    go_wp2
    exact bodyPost_ret (v := txo (bs [], 0, c)) (by simp [results, Tryd.results16, go_sem, txo, bs, c0, c1, c2, hlt]) rfl ⟨rfl, (bel3 hb1).alloc (bel3 hb1).size _⟩

set_option maxHeartbeats 400000 in
theorem eqTxo_same (t : ByteArray) (a c : Int) (w : World) :
    Calls Tryd.prog 17 #[.agg #[.string t, .int .i64 a, .int .i64 c], .agg #[.string t, .int .i64 a, .int .i64 c]] w fun e w' => e = .returned (.bool true) ∧ Below w.heap.size w w' := by
  go_enter Tryd.func17, Tryd.ntmps17
  go_wp2
  go_ret
  exact ⟨rfl, ((Below.refl _ _).alloc (Nat.le_refl _) _).alloc (by simp) _⟩
end Go.Proofs.YtldencefagnhfaaDoor
