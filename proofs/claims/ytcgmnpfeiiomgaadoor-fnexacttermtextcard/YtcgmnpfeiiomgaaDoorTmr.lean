/- TermRight, of the program and of the model, as the law's walk takes them. -/
import Derived.Test.YtcgmnpfeiiomgaaDoorImr
namespace Go.Proofs.YtcgmnpfeiiomgaaDoor
open Go.RowKit

theorem upto_fit {n : Nat} {r : Int} (h : Upto n 200 r) : decide (r ≤ 200) = decide (n ≤ 200) := by
  unfold Upto at h
  rw [Bool.eq_iff_iff, decide_eq_true_eq, decide_eq_true_eq]
  omega
set_option maxRecDepth 100000 in
set_option maxHeartbeats 1000000 in
theorem specTermRight_any (t : TermD) (z : Bool) (u : Value) (lo hi : Nat) (w : World) (h : KM z w lo hi u t.kids) (hhi : hi ≤ w.heap.size) (hn : sizeM t ≤ 2097152) :
    Calls Tryd.prog 18 #[tmV t u] w fun e w' => e = .returned (.bool (termB t)) ∧ Below w.heap.size w w' := by
  have hb := al1 w (.cells #[.int .i64 t.kind, .int .i64 t.num, u] 25)
  have HK := Lib.hid (h.under hb hhi)
  have R0 := Row.made w 25 #[.int .i64 t.kind, .int .i64 t.num, u]
  obtain ⟨A, c, U, rfl, -⟩ := h.parts
  clear h
  unfold tmV
  go_enter Tryd.func18, Tryd.ntmps18
  go_wp2_with fail
  refine (specSize6_any t z _ lo hi 200 _ HK.out (by simp; omega) hn (by omega) (by omega)).mono ?_
  rintro e w1 ⟨r, rfl, hup, b1⟩
  have HU := Lib.hid (upto_fit hup)
  have R1 := R0.below b1 R0.lt
  have a0 := R1.cell 0
  have a1 := R1.cell 1
  have a2 := R1.cell 2
  simp at a0 a1 a2
  have HB1 := Lib.hid (hb.trans (b1.mono (by simp)))
  have HK1 := Lib.hid (HK.out.under b1 (by simp; omega))
  have z1 : w.heap.size < w1.heap.size := R1.lt
  clear hup R1 b1 R0 hb
  by_cases hf : sizeM t ≤ 200
  · have q : decide (r ≤ 200) = true := by rw [HU.out, decide_eq_true hf]
    have HE : Hid (partM 30 t = termB t) := Lib.hid (by unfold termB; rw [decide_eq_true hf, Bool.true_and])
    clear hf
    go_wp2_with fail
    refine (specPart6_any 30 (Nat.le_refl _) t z _ lo hi w1 HK1.out (by omega)).mono ?_
    rintro e w2 ⟨rfl, b2⟩
    go_wp2
    go_ret
    exact ⟨ret_boolM HE.out, HB1.out.trans (b2.mono (by omega))⟩
  · have q : decide (r ≤ 200) = false := by rw [HU.out, decide_eq_false hf]
    have HE : Hid (false = termB t) := Lib.hid (by unfold termB; rw [decide_eq_false hf, Bool.false_and])
    clear hf
    go_wp2
    go_ret
    exact ⟨ret_boolM HE.out, HB1.out⟩
theorem specTermRight_t (t : TermD) (u : Value) (lo hi : Nat) (w : World) (_ : TopM t) (h : KM true w lo hi u t.kids) (hhi : hi ≤ w.heap.size) (hn : sizeMs t.kids ≤ 1048576) :
    Calls Tryd.prog 18 #[tmV t u] w fun e w' => e = .returned (.bool (termB t)) ∧ Below w.heap.size w w' := specTermRight_any t true u lo hi w h hhi (by rw [sizeM_eq]; omega)
theorem implTermRight_t (t : TermD) (u : Value) (lo hi : Nat) (w : World) (_ : TopM t) (h : KM true w lo hi u t.kids) (hhi : hi ≤ w.heap.size) (_ : sizeMs t.kids ≤ 1048576) :
    Calls Tryd.prog 17 #[tmV t u] w fun e w' => e = .returned (.bool (termB t)) ∧ Below w.heap.size w w' := implTermRight_any t true u lo hi w h hhi
end Go.Proofs.YtcgmnpfeiiomgaaDoor
