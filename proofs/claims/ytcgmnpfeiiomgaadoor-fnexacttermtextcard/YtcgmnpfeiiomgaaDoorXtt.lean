/- The text of a term: TermText, of the program and of the model. -/
import Derived.Test.YtcgmnpfeiiomgaaDoorXti
import Derived.Test.YtcgmnpfeiiomgaaDoorTmr
import Derived.Test.YtcgmnpfeiiomgaaDoorItt
namespace Go.Proofs.YtcgmnpfeiiomgaaDoor
open Go.RowKit

theorem termB_parts {t : TermD} (h : termB t = true) : sizeM t ≤ 200 ∧ partM 30 t = true := by
  unfold termB at h
  rw [Bool.and_eq_true, decide_eq_true_eq] at h
  exact h
set_option maxRecDepth 100000 in
set_option maxHeartbeats 1000000 in
theorem specTermText_t (t : TermD) (u : Value) (lo hi : Nat) (w : World) (ht : TopM t) (h : KM true w lo hi u t.kids) (hhi : hi ≤ w.heap.size) (hn : sizeMs t.kids ≤ 1048576) :
    Calls Tryd.prog 16 #[tmV t u] w fun e w' => e = .returned (.string (tb (termT t))) ∧ Below w.heap.size w w' := by
  have hb := al1 w (.cells #[.int .i64 t.kind, .int .i64 t.num, u] 25)
  have HK := Lib.hid (h.under hb hhi)
  have R0 := Row.made w 25 #[.int .i64 t.kind, .int .i64 t.num, u]
  have HT := Lib.hid ht
  obtain ⟨A, c, U, rfl, -⟩ := h.parts
  clear h ht
  unfold tmV
  cases hf : termB t
  · have HF := Lib.hid hf
    have HE : Hid (termT t = []) := Lib.hid (by unfold termT; rw [hf]; rfl)
    clear hf
    go_enter Tryd.func16, Tryd.ntmps16
    go_wp2_with fail
    refine (specTermRight_t t _ lo hi _ HT.out HK.out (by simp; omega) hn).mono ?_
    rintro e w1 ⟨rfl, b1⟩
    rw [HF.out]
    go_wp2
    go_ret
    exact ⟨ret_tb (by rw [HE.out]; rfl), hb.trans (b1.mono (by simp))⟩
  · have HF := Lib.hid hf
    have HE : Hid (termT t = textM t) := Lib.hid (by unfold termT; rw [hf]; rfl)
    obtain ⟨hs, hp⟩ := termB_parts hf
    have HP := Lib.hid hp
    clear hf hp
    go_enter Tryd.func16, Tryd.ntmps16
    go_wp2_with fail
    refine (specTermRight_t t _ lo hi _ HT.out HK.out (by simp; omega) hn).mono ?_
    rintro e w1 ⟨rfl, b1⟩
    rw [HF.out]
    have R1 := R0.below b1 R0.lt
    have a0 := R1.cell 0
    have a1 := R1.cell 1
    have a2 := R1.cell 2
    simp at a0 a1 a2
    have HB1 := Lib.hid (hb.trans (b1.mono (by simp)))
    have HK1 := Lib.hid (HK.out.under b1 (by simp; omega))
    have z1 : w.heap.size < w1.heap.size := R1.lt
    clear R1 b1 R0 hb
    go_wp2_with fail
    refine (specText6_any 30 t true _ lo hi w1 HP.out HK1.out (by omega) HT.out hs).mono ?_
    rintro e w2 ⟨rfl, b2⟩
    go_wp2
    go_ret
    exact ⟨ret_tb (by rw [HE.out]), HB1.out.trans (b2.mono (by omega))⟩
set_option maxRecDepth 100000 in
set_option maxHeartbeats 1000000 in
theorem implTermText_t (t : TermD) (u : Value) (lo hi : Nat) (w : World) (ht : TopM t) (h : KM true w lo hi u t.kids) (hhi : hi ≤ w.heap.size) (hn : sizeMs t.kids ≤ 1048576) (B : Nat) (htn : Tens B w) (hB : B ≤ w.heap.size) :
    Calls Tryd.prog 15 #[tmV t u] w fun e w' => e = .returned (.string (tb (termT t))) ∧ Below w.heap.size w w' := by
  have hb := al1 w (.cells #[.int .i64 t.kind, .int .i64 t.num, u] 25)
  have HK := Lib.hid (h.under hb hhi)
  have R0 := Row.made w 25 #[.int .i64 t.kind, .int .i64 t.num, u]
  have hfit : fitsM t := (fitsM_eq t).2 ⟨ht.1.2, h.fits⟩
  have hlen := textM_len t hfit
  have HT := Lib.hid ht
  have HTN := Lib.hid htn
  obtain ⟨A, c, U, rfl, -⟩ := h.parts
  clear h ht htn hfit
  unfold tmV
  cases hf : termB t
  · have HF := Lib.hid hf
    have HE : Hid (termT t = []) := Lib.hid (by unfold termT; rw [hf]; rfl)
    clear hf
    go_enter Tryd.func15, Tryd.ntmps15
    go_wp2_with fail
    refine (implTermRight_t t _ lo hi _ HT.out HK.out (by simp; omega) hn).mono ?_
    rintro e w1 ⟨rfl, b1⟩
    rw [HF.out]
    go_wp2
    go_ret
    exact ⟨ret_tb (by rw [HE.out]; rfl), hb.trans (b1.mono (by simp))⟩
  · have HF := Lib.hid hf
    have HE : Hid (termT t = textM t) := Lib.hid (by unfold termT; rw [hf]; rfl)
    obtain ⟨hs, hp⟩ := termB_parts hf
    have HP := Lib.hid hp
    clear hf hp
    go_enter Tryd.func15, Tryd.ntmps15
    go_wp2_with fail
    refine (implTermRight_t t _ lo hi _ HT.out HK.out (by simp; omega) hn).mono ?_
    rintro e w1 ⟨rfl, b1⟩
    rw [HF.out]
    have R1 := R0.below b1 R0.lt
    have a0 := R1.cell 0
    have a1 := R1.cell 1
    have a2 := R1.cell 2
    simp at a0 a1 a2
    have HB1 := Lib.hid (hb.trans (b1.mono (by simp)))
    have HK1 := Lib.hid (HK.out.under b1 (by simp; omega))
    have z1 : w.heap.size < w1.heap.size := R1.lt
    clear R1 b1 R0 hb
    have a9 := al1 w1 (.cells #[.pointer none, .slice none 0 0] 80)
    have W9 : Hid (Wr w1.heap.size w1.heap.size [] (w1.alloc (.cells #[.pointer none, .slice none 0 0] 80))) := Lib.hid (Lib.IsBuilderF.of (by simpa [Lib.byteCells] using Lib.fresh_isBuilder 80 5 w1))
    have T9 : Hid (Tens w1.heap.size (w1.alloc (.cells #[.pointer none, .slice none 0 0] 80))) := Lib.hid ((Tens.mono (HTN.out.on (HB1.out.mono hB)) (by omega)).on a9)
    have HK9 := Lib.hid (HK1.out.under a9 (by omega))
    go_wp2_with fail
    refine (writeTerm_any 30 t true _ lo hi w1.heap.size w1.heap.size [] _ HP.out HK9.out (by omega) (by simp) W9.out T9.out HT.out (by simp; omega)).mono ?_
    rintro e w2 ⟨rfl, W2, K2⟩
    rw [List.nil_append] at W2
    have b2 : Below w.heap.size w w2 := HB1.out.trans ((a9.mono (by omega)).trans (K2.bel.mono (by omega)))
    have z2 := K2.bel.size
    have z3 : w1.heap.size ≤ w2.heap.size := by simp at z2; omega
    clear K2 a9
    go_wp2_with fail
    refine (Tryd.Builder_String_any_k w1.heap.size w1.heap.size (textM t) _ W2 z3).mono ?_
    rintro e w3 ⟨rfl, _, b3, _⟩
    go_wp2
    go_ret
    exact ⟨ret_tb (by rw [HE.out]; rfl), b2.trans (b3.mono (by omega))⟩
end Go.Proofs.YtcgmnpfeiiomgaaDoor
