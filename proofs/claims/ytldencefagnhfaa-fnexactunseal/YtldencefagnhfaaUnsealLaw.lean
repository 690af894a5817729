/- The walk of the law FnExactUnseal. -/
import Derived.Test.YtldencefagnhfaaUnseal
namespace Go.Proofs.Ytldencefagnhfaa.fnExactUnseal
open Go.RowKit
set_option maxRecDepth 100000 in
set_option maxHeartbeats 1000000 in
theorem walk (a0 : ByteArray) (w0 : a0.size ≤ maxLen) (w : World) :
    Calls Try.prog 10 #[.string a0] w fun e w' => e = .returned (.bool true) ∧ Below w.heap.size w w' := by
  by_cases h : (a0.size : Int) > 1048576
  · go_enter Try.func10, Try.ntmps10
    go_wp2
    go_ret
    exact ⟨rfl, Below.refl _ _⟩
  · obtain ⟨t, c, hu⟩ : ∃ t c, unsealOf a0 = (t, c) := ⟨_, _, rfl⟩
    have S := Lib.hid (fun w => specUnseal_any a0 w w0)
    have I := Lib.hid (fun w => implUnseal_any a0 w w0)
    rw [hu] at S I
    have HT : Hid (tout t 0 c = .agg #[.string t, .int .i64 0, .int .i64 c]) := Lib.hid rfl
    clear hu
    go_enter Try.func10, Try.ntmps10
    go_wp2_with fail
    refine (S.out _).mono ?_
    rintro e w1 ⟨rfl, hb1⟩
    rw [HT.out]
    go_wp2_with fail
    refine (I.out _).mono ?_
    rintro e w2 ⟨rfl, hb2⟩
    rw [HT.out]
    rw [World.size_alloc] at hb2
    obtain ⟨⟨c0, c1, c2⟩, _, hsz⟩ := three_kept hb2
    have E := eqTextOut_same t 0 c
    simp only [tout] at E
    have HE := Lib.hid E
    clear E
    go_wp2_with fail
    refine (HE.out _).mono ?_
    rintro e w3 ⟨rfl, hb3⟩
    go_wp2
    go_ret
    rw [World.size_alloc] at hb3
    have q2 := below_step hb2
    have q3 := below_step hb3
    exact ⟨rfl, hb1.trans ((q2.mono hb1.size).trans (q3.mono (Nat.le_trans hb1.size q2.size)))⟩
end Go.Proofs.Ytldencefagnhfaa.fnExactUnseal
