/- The walk of heldStringS, and its marks from 1 on. -/
import Derived.Test.YtonfiahihmcmlaaMark
namespace Go.Proofs.Ytonfiahihmcmlaa
open Go.RowKit

set_option maxRecDepth 100000 in
set_option maxHeartbeats 1000000 in
theorem heldStringS_any (v : Value) (n lo hi k : Nat) (w : World) (h : Strs w lo hi v (marks k n)) (hh : hi ≤ w.heap.size) (h1 : 1 ≤ k) (h2 : k + n ≤ 1000000000) :
    Calls Try.prog 53 #[v, .int .i64 (k : Int)] w fun e w' => e = .returned (.int .i64 ((k + n : Nat) : Int)) ∧ Below w.heap.size w w' := by
  obtain ⟨A, c, rfl, hlc, hc, hsz, hcell⟩ := h
  rw [marks_len] at hlc ⊢
  have HC := Lib.hid hcell
  clear hcell hsz
  go_enter Try.func53, Try.ntmps53
  go_wp2
  go_loopw [1, 5] (fun x i wr => ∃ (j : Nat), j ≤ n ∧ i = .int .i64 (j : Int) ∧ x = .int .i64 ((k + j : Nat) : Int) ∧ Below w.heap.size w wr) (fun _ i _ => n - (intOf i).toNat)
  case atStart => exact ⟨0, by omega, rfl, rfl, Below.refl _ _⟩
  case round =>
    obtain ⟨j, hj, rfl, rfl, hbw⟩ := hrel
    have hsw := hbw.size
    by_cases hlt : j < n
    · obtain ⟨b, off, rfl, _, hbh, hcc⟩ := HC.out (by rw [marks_len]; omega)
      have hck := hcc j (by rw [marks_len]; exact hlt)
      rw [marks_at] at hck
      have hck' := (hbw.cell (p := ⟨b, off + j, none⟩) (by show b < _; omega)).trans hck
      have i1 : (j : Int) < (n : Int) := by omega
      clear hcc hck
      go_wp2_with fail
      go_region_held3 (fun w' => w'.cell? ⟨b, off + j, none⟩ = some (.string (mt (k + j))))
        (first | go_keep | (rw [b1.cell (by show b < _; simp; omega)]; assumption))
        (first | (go_at_call 112; refine (markText_any (k + j) _ (by omega) (by omega)).mono ?_; rintro e w1 ⟨rfl, b1⟩))
      have z1 : wr.heap.size ≤ w1.heap.size := b1.size
      have hb2 : Below w.heap.size w w1 := hbw.drew.trans (b1.mono hsw)
      go_wp2
      go_roundw
      case rel => exact ⟨j + 1, by omega, by go_num, by go_num, hb2⟩
      case measure => simp [intOf]; omega
    · have hjs : j = n := by omega
      subst hjs
      go_wp2
      go_ret
      exact ⟨rfl, hbw⟩
theorem heldStringS_one (v : Value) (n lo hi : Nat) (w : World) (h : Strs w lo hi v (marks 1 n)) (hh : hi ≤ w.heap.size) (h2 : n ≤ 2000000) :
    Calls Try.prog 53 #[v, .int .i64 1] w fun e w' => ∃ K : Int, e = .returned (.int .i64 K) ∧ K = ((1 + n : Nat) : Int) ∧ Below w.heap.size w w' :=
  Calls.mono (heldStringS_any v n lo hi 1 w h hh (Nat.le_refl _) (by omega)) fun _ _ ⟨h1, h2⟩ => ⟨_, h1, rfl, h2⟩
end Go.Proofs.Ytonfiahihmcmlaa
