/- The walk of the law FnExactGetText. -/
import Derived.Test.YtldencefagnhfaaDoorSpecText
namespace Go.Proofs.YtldencefagnhfaaDoor.fnExactGetText
open Go Go.RowKit
set_option maxRecDepth 100000 in
set_option maxHeartbeats 1000000 in
theorem walk (a0 : ByteArray) (w0 : a0.size ≤ maxLen) (a1 : Int) (w1 : (Lit.int .i64 a1).wf = true) (w : World) (hl : Laid w) :
    Calls Tryd.prog 5 #[.string a0, .int .i64 a1] w fun e w' => e = .returned (.bool true) ∧ Below w.heap.size w w' := by
  have hb : -9223372036854775808 ≤ a1 ∧ a1 ≤ 9223372036854775807 := by simpa [Lit.wf, IntKind.min, IntKind.max, IntKind.signed, IntKind.bits] using w1
  have HL := Lib.hid hl
  clear hl w1
  by_cases h : (a0.size : Int) > 1048576
  · go_enter Tryd.func5, Tryd.ntmps5
    go_wp2
    go_ret
    exact ⟨rfl, Below.refl _ _⟩
  · have S := Lib.hid (fun w => specGetText_any a0 a1 w w0 hb.1 hb.2)
    have I := Lib.hid (fun w => implGetText_any a0 a1 w w0 hb.1 hb.2)
    simp only [txo] at S I
    generalize (textOf a0 (numOf a0 a1)).1 = t at S I
    generalize (textOf a0 (numOf a0 a1)).2.1 = a at S I
    generalize (textOf a0 (numOf a0 a1)).2.2 = c at S I
    have HE := Lib.hid (eqTxo_same t a c)
    clear hb
    go_enter Tryd.func5, Tryd.ntmps5
    go_wp2_with fail
    refine (S.out _).mono ?_
    rintro e w1 ⟨rfl, hb1⟩
    have HL1 := Lib.hid ((HL.out.later hb1 HL.out.lt).alloc (.cells #[.string t, .int .i64 a, .int .i64 c] 31))
    go_wp2_with fail
    refine (I.out _ HL1.out).mono ?_
    rintro e w2 ⟨rfl, hb2⟩
    rw [World.size_alloc] at hb2
    obtain ⟨⟨c0, c1, c2⟩, _, hsz⟩ := keep3 hb2
    go_wp2_with fail
    refine (HE.out _).mono ?_
    rintro e w3 ⟨rfl, hb3⟩
    go_wp2
    go_ret
    rw [World.size_alloc] at hb3
    have q2 := bel1 hb2
    have q3 := bel1 hb3
    exact ⟨rfl, hb1.trans ((q2.mono hb1.size).trans (q3.mono (Nat.le_trans hb1.size q2.size)))⟩
end Go.Proofs.YtldencefagnhfaaDoor.fnExactGetText
