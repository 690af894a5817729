/- The walk of the law FnExactGetNum. -/
import Derived.Test.YtldencefagnhfaaDoorSpecNum
namespace Go.Proofs.YtldencefagnhfaaDoor
open Go Go.RowKit
set_option maxHeartbeats 400000 in
theorem eqNumOut_same (n a c : Int) (w : World) :
    Calls Tryd.prog 15 #[.agg #[.int .i64 n, .int .i64 a, .int .i64 c], .agg #[.int .i64 n, .int .i64 a, .int .i64 c]] w fun e w' => e = .returned (.bool true) ∧ Below w.heap.size w w' := by
  go_enter Tryd.func15, Tryd.ntmps15
  go_wp2
  go_ret
  exact ⟨rfl, ((Below.refl _ _).alloc (Nat.le_refl _) _).alloc (by simp) _⟩
end Go.Proofs.YtldencefagnhfaaDoor
namespace Go.Proofs.YtldencefagnhfaaDoor.fnExactGetNum
open Go Go.RowKit
set_option maxRecDepth 100000 in
set_option maxHeartbeats 1000000 in
theorem walk (a0 : ByteArray) (w0 : a0.size ≤ maxLen) (a1 : Int) (w1 : (Lit.int .i64 a1).wf = true) (w : World) (hl : Laid w) :
    Calls Tryd.prog 4 #[.string a0, .int .i64 a1] w fun e w' => e = .returned (.bool true) ∧ Below w.heap.size w w' := by
  have hb : -9223372036854775808 ≤ a1 ∧ a1 ≤ 9223372036854775807 := by simpa [Lit.wf, IntKind.min, IntKind.max, IntKind.signed, IntKind.bits] using w1
  have HL := Lib.hid hl
  clear hl w1
  by_cases h : (a0.size : Int) > 1048576
  · go_enter Tryd.func4, Tryd.ntmps4
    go_wp2
    go_ret
    exact ⟨rfl, Below.refl _ _⟩
  · have S := Lib.hid (fun w => specGetNum_any a0 a1 w w0 hb.1 hb.2)
    have I := Lib.hid (fun w => implGetNum_any a0 a1 w w0 hb.1 hb.2)
    simp only [nout] at S I
    generalize (numOf a0 a1).1 = n at S I
    generalize (numOf a0 a1).2.1 = a at S I
    generalize (numOf a0 a1).2.2 = c at S I
    have HE := Lib.hid (eqNumOut_same n a c)
    clear hb
    go_enter Tryd.func4, Tryd.ntmps4
    go_wp2_with fail
    refine (S.out _).mono ?_
    rintro e w1 ⟨rfl, hb1⟩
    have HL1 := Lib.hid ((HL.out.later hb1 HL.out.lt).alloc (.cells #[.int .i64 n, .int .i64 a, .int .i64 c] 26))
    go_wp2_with fail
    refine (I.out _ HL1.out).mono ?_
    rintro e w2 ⟨rfl, hb2⟩
    rw [World.size_alloc] at hb2
    obtain ⟨⟨c0, c1, c2⟩, _, hsz⟩ := keep3 hb2
    go_wp2_with fail
    refine (HE.out _).mono ?_
    rintro e w3 ⟨rfl, hb3⟩
    go_wp2
    go_ret
    rw [World.size_alloc] at hb3
    have q2 := bel1 hb2
    have q3 := bel1 hb3
    exact ⟨rfl, hb1.trans ((q2.mono hb1.size).trans (q3.mono (Nat.le_trans hb1.size q2.size)))⟩
end Go.Proofs.YtldencefagnhfaaDoor.fnExactGetNum
