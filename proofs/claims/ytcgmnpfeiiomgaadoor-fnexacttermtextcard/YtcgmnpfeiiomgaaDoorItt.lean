/- The text of a tree: the program's TreeText. -/
import Derived.Test.YtcgmnpfeiiomgaaDoorItx
import Derived.Test.YtcgmnpfeiiomgaaDoorIsf
namespace Go.Proofs.YtcgmnpfeiiomgaaDoor
open Go.RowKit

theorem Tens.mono {B B' : Nat} {w : World} (h : Tens B w) (hB : B ≤ B') : Tens B' w := fun w' hb => h w' (hb.mono hB)
theorem specTreeText_t (t : TreeD) (u : Value) (lo hi : Nat) (w : World) (ht : TopOk t) (h : Kd true w lo hi u t.kids) (hhi : hi ≤ w.heap.size) (hn : bulkT t ≤ 1048576) :
    Calls Tryd.prog 21 #[trV t u] w fun e w' => e = .returned (.string (tb (treeT t))) ∧ Below w.heap.size w w' := specTreeText_any t true u lo hi w h hhi ht hn
set_option maxRecDepth 100000 in
set_option maxHeartbeats 1000000 in
theorem implTreeText_t (t : TreeD) (u : Value) (lo hi : Nat) (w : World) (ht : TopOk t) (h : Kd true w lo hi u t.kids) (hhi : hi ≤ w.heap.size) (hn : bulkT t ≤ 1048576) (B : Nat) (htn : Tens B w) (hB : B ≤ w.heap.size) :
    Calls Tryd.prog 23 #[trV t u] w fun e w' => e = .returned (.string (tb (treeT t))) ∧ Below w.heap.size w w' := by
  have hb := al1 w (.cells #[.int .i64 t.rule, .string t.tok, u] 36)
  have HK := Lib.hid (h.under hb hhi)
  have R0 := Row.made w 36 #[.int .i64 t.rule, .string t.tok, u]
  have hsz := sizeT_le_bulkT t
  have hft : fitsT t := (fitsT_eq t).2 ⟨ht.2.2, h.fits⟩
  have hlen := textOf_len t hft
  have HT := Lib.hid ht
  have HTN := Lib.hid htn
  obtain ⟨A, c, U, rfl, -⟩ := h.parts
  clear h hft ht htn
  unfold trV
  go_enter Tryd.func23, Tryd.ntmps23
  go_wp2_with fail
  refine (implSizeOf_any t _ lo hi _ HT.out HK.out (by simp; omega) (by omega)).mono ?_
  rintro e w1 ⟨rfl, b1⟩
  have R1 := R0.below b1 R0.lt
  have a0 := R1.cell 0
  have a1 := R1.cell 1
  have a2 := R1.cell 2
  simp at a0 a1 a2
  have HB1 := Lib.hid (hb.trans (b1.mono (by simp)))
  have HK1 := Lib.hid (HK.out.under b1 (by simp; omega))
  have z1 : w.heap.size < w1.heap.size := R1.lt
  clear R1 b1 R0 hb
  by_cases hf : sizeT t ≤ 200
  · have q : decide ((sizeT t : Int) > 200) = false := decide_eq_false (by omega)
    have HE : Hid (treeT t = textOf t) := Lib.hid (by unfold treeT; rw [if_pos hf])
    have a9 := al1 w1 (.cells #[.pointer none, .slice none 0 0] 80)
    have W9 : Hid (Wr w1.heap.size w1.heap.size [] (w1.alloc (.cells #[.pointer none, .slice none 0 0] 80))) := Lib.hid (Lib.IsBuilderF.of (by simpa [Lib.byteCells] using Lib.fresh_isBuilder 80 5 w1))
    have T9 : Hid (Tens w1.heap.size (w1.alloc (.cells #[.pointer none, .slice none 0 0] 80))) := Lib.hid ((Tens.mono (HTN.out.on (HB1.out.mono hB)) (by omega)).on a9)
    have HK9 := Lib.hid (HK1.out.under a9 (by omega))
    go_wp2_with fail
    refine (writeTree_any t true _ lo hi w1.heap.size w1.heap.size [] _ HK9.out (by omega) (by simp) W9.out T9.out HT.out (by simp; omega)).mono ?_
    rintro e w2 ⟨rfl, W2, K2⟩
    rw [List.nil_append] at W2
    have b2 : Below w.heap.size w w2 := HB1.out.trans ((a9.mono (by omega)).trans (K2.bel.mono (by omega)))
    have z2 := K2.bel.size
    have z3 : w1.heap.size ≤ w2.heap.size := by simp at z2; omega
    clear K2 a9
    go_wp2_with fail
    refine (Tryd.Builder_String_any_k w1.heap.size w1.heap.size (textOf t) _ W2 z3).mono ?_
    rintro e w3 ⟨rfl, _, b3, _⟩
    go_wp2
    go_ret
    exact ⟨ret_tb (by rw [HE.out]; rfl), b2.trans (b3.mono (by omega))⟩
  · have q : decide ((sizeT t : Int) > 200) = true := decide_eq_true (by omega)
    have HE : Hid (treeT t = []) := Lib.hid (by unfold treeT; rw [if_neg hf])
    go_wp2
    go_ret
    exact ⟨ret_tb (by rw [HE.out]; rfl), HB1.out⟩
end Go.Proofs.YtcgmnpfeiiomgaaDoor
