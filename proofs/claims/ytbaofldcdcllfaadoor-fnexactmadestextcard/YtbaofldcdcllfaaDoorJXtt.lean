import Derived.Test.YtbaofldcdcllfaaDoorIso
import Derived.Test.YtbaofldcdcllfaaDoorItx
import Derived.Test.YtbaofldcdcllfaaDoorXti
import Derived.Test.YtbaofldcdcllfaaDoorJPMap
/- How many parts a tree has: impl.SizeOf. -/
namespace Go.Proofs.YtbaofldcdcllfaaDoor
open Go.RowKit

/-- a list of just one tree, in a new block -/
theorem one_kd {z : Bool} {w : World} {lo hi : Nat} {u : Value} {t : TreeD} (h : Kd z w lo hi u t.kids) (ht : TopOk t) (hhi : hi ≤ w.heap.size) :
    Kd z (w.alloc (.cells #[.int .i64 t.rule, .string t.tok, u] 29)) 0 (w.heap.size + 1) (.slice (some ⟨w.heap.size, 0, none⟩) 1 1) [t] := by
  have r := Row.made w 29 #[.int .i64 t.rule, .string t.tok, u]
  refine .mk (some ⟨w.heap.size, 0, none⟩) 1 [t] (fun _ => u) (Nat.le_refl _) (by unfold maxLen; omega) (fun i hi => ?_) (fun _ => ⟨w.heap.size, 0, rfl, Nat.zero_le _, by omega, fun _ => ⟨_, _, r⟩, fun i hi => ?_⟩) (fun i hi => ?_)
  · obtain rfl : i = 0 := by simpa using hi
    exact ht
  · obtain rfl : i = 0 := by simpa using hi
    exact ⟨by rw [r.cell]; rfl, by rw [r.cell]; rfl, by rw [r.cell]; rfl⟩
  · obtain rfl : i = 0 := by simpa using hi
    exact (h.under (B := w.heap.size) (al1 _ _) hhi).more (Nat.zero_le _) (by omega)

set_option maxRecDepth 100000 in
set_option maxHeartbeats 1000000 in
theorem sizeOfTree_any (t : TreeD) (u : Value) (lo hi : Nat) (w : World) (ht : TopOk t) (h : Kd true w lo hi u t.kids) (hhi : hi ≤ w.heap.size) (hn : sizeT t ≤ 2097152) :
    Calls Tryd.prog 30 #[trV t u, ownF] w fun e w' => e = .returned (.int .i64 (sizeT t : Int)) ∧ Below w.heap.size w w' := by
  have b1 := al1 w (.cells #[.int .i64 t.rule, .string t.tok, u] 29)
  have h1 := h.under b1 hhi
  have k := one_kd h1 ht (by simp; omega)
  have hs : sizeTs [t] = sizeT t := by simp [sizeTs]
  have hsz : (w.alloc (.cells #[.int .i64 t.rule, .string t.tok, u] 29)).heap.size = w.heap.size + 1 := by simp
  rw [hsz] at k
  have K := Lib.hid k
  have HS := Lib.hid hs
  clear hs
  have b2 := al2 w (.cells #[.int .i64 t.rule, .string t.tok, u] 29) (.cells #[.int .i64 t.rule, .string t.tok, u] 29)
  have HB := Lib.hid b2
  obtain ⟨A, c, U, rfl, -⟩ := h.parts
  unfold trV
  clear h h1 k b1 b2 hsz
  go_enter Tryd.func30, Tryd.ntmps30
  go_wp2_with fail
  refine (sizeOfAll_any (.slice (some ⟨w.heap.size + 1, 0, none⟩) 1 1) [t] 0 (w.heap.size + 1 + 1) _ K.out (by simp) (by rw [HS.out]; exact hn)).mono ?_
  rintro e w1 ⟨rfl, hb⟩
  rw [HS.out]
  go_wp2
  go_ret
  exact ⟨rfl, HB.out.trans (hb.mono (by simp; omega))⟩
set_option maxRecDepth 100000 in
set_option maxHeartbeats 1000000 in
theorem implSizeOf_any (t : TreeD) (u : Value) (lo hi : Nat) (w : World) (ht : TopOk t) (h : Kd true w lo hi u t.kids) (hhi : hi ≤ w.heap.size) (hn : sizeT t ≤ 2097152) :
    Calls Tryd.prog 19 #[trV t u] w fun e w' => e = .returned (.int .i64 (sizeT t : Int)) ∧ Below w.heap.size w w' := by
  have b1 := al1 w (.cells #[.int .i64 t.rule, .string t.tok, u] 29)
  have K := Lib.hid (h.under b1 hhi)
  obtain ⟨A, c, U, rfl, -⟩ := h.parts
  unfold trV
  clear h
  go_enter Tryd.func19, Tryd.ntmps19
  go_wp2_with fail
  refine (sizeOfTree_any t (.slice A t.kids.length c) lo hi _ ht K.out (by simp; omega) hn).mono ?_
  rintro e w1 ⟨rfl, hb⟩
  go_wp2
  go_ret
  exact ⟨rfl, b1.trans (hb.mono (by simp))⟩
end Go.Proofs.YtbaofldcdcllfaaDoor

/- The text of a tree: the program's TreeText. -/
namespace Go.Proofs.YtbaofldcdcllfaaDoor
open Go.RowKit

theorem Tens.mono {B B' : Nat} {w : World} (h : Tens B w) (hB : B ≤ B') : Tens B' w := fun w' hb => h w' (hb.mono hB)
theorem specTreeText_t (t : TreeD) (u : Value) (lo hi : Nat) (w : World) (ht : TopOk t) (h : Kd true w lo hi u t.kids) (hhi : hi ≤ w.heap.size) (hn : bulkT t ≤ 1048576) :
    Calls Tryd.prog 6 #[trV t u] w fun e w' => e = .returned (.string (tb (treeT t))) ∧ Below w.heap.size w w' := specTreeText_any t true u lo hi w h hhi ht hn
set_option maxRecDepth 100000 in
set_option maxHeartbeats 1000000 in
theorem implTreeText_t (t : TreeD) (u : Value) (lo hi : Nat) (w : World) (ht : TopOk t) (h : Kd true w lo hi u t.kids) (hhi : hi ≤ w.heap.size) (hn : bulkT t ≤ 1048576) (B : Nat) (htn : Tens B w) (hB : B ≤ w.heap.size) :
    Calls Tryd.prog 8 #[trV t u] w fun e w' => e = .returned (.string (tb (treeT t))) ∧ Below w.heap.size w w' := by
  have hb := al1 w (.cells #[.int .i64 t.rule, .string t.tok, u] 29)
  have HK := Lib.hid (h.under hb hhi)
  have R0 := Row.made w 29 #[.int .i64 t.rule, .string t.tok, u]
  have hsz := sizeT_le_bulkT t
  have hft : fitsT t := (fitsT_eq t).2 ⟨ht.2.2, h.fits⟩
  have hlen := textOf_len t hft
  have HT := Lib.hid ht
  have HTN := Lib.hid htn
  obtain ⟨A, c, U, rfl, -⟩ := h.parts
  clear h hft ht htn
  unfold trV
  go_enter Tryd.func8, Tryd.ntmps8
  go_wp2_with fail
  refine (implSizeOf_any t _ lo hi _ HT.out HK.out (by simp; omega) (by omega)).mono ?_
  rintro e w1 ⟨rfl, b1⟩
  have R1 := R0.below b1 R0.lt
  have a0 := R1.cell 0
  have a1 := R1.cell 1
  have a2 := R1.cell 2
  simp at a0 a1 a2
  have HB1 := Lib.hid (hb.trans (b1.mono (by simp)))
  have HK1 := Lib.hid (HK.out.under b1 (by simp; omega))
  have z1 : w.heap.size < w1.heap.size := R1.lt
  clear R1 b1 R0 hb
  by_cases hf : sizeT t ≤ 200
  · have q : decide ((sizeT t : Int) > 200) = false := decide_eq_false (by omega)
    have HE : Hid (treeT t = textOf t) := Lib.hid (by unfold treeT; rw [if_pos hf])
    have a9 := al1 w1 (.cells #[.pointer none, .slice none 0 0] 47)
    have W9 : Hid (Wr w1.heap.size w1.heap.size [] (w1.alloc (.cells #[.pointer none, .slice none 0 0] 47))) := Lib.hid (Lib.IsBuilderF.of (by simpa [Lib.byteCells] using Lib.fresh_isBuilder 47 5 w1))
    have T9 : Hid (Tens w1.heap.size (w1.alloc (.cells #[.pointer none, .slice none 0 0] 47))) := Lib.hid ((Tens.mono (HTN.out.on (HB1.out.mono hB)) (by omega)).on a9)
    have HK9 := Lib.hid (HK1.out.under a9 (by omega))
    go_wp2_with fail
    refine (writeTree_any t true _ lo hi w1.heap.size w1.heap.size [] _ HK9.out (by omega) (by simp) W9.out T9.out HT.out (by simp; omega)).mono ?_
    rintro e w2 ⟨rfl, W2, K2⟩
    rw [List.nil_append] at W2
    have b2 : Below w.heap.size w w2 := HB1.out.trans ((a9.mono (by omega)).trans (K2.bel.mono (by omega)))
    have z2 := K2.bel.size
    have z3 : w1.heap.size ≤ w2.heap.size := by simp at z2; omega
    clear K2 a9
    go_wp2_with fail
    refine (Tryd.Builder_String_any_k w1.heap.size w1.heap.size (textOf t) _ W2 z3).mono ?_
    rintro e w3 ⟨rfl, _, b3, _⟩
    go_wp2
    go_ret
    exact ⟨ret_tb (by rw [HE.out]; rfl), b2.trans (b3.mono (by omega))⟩
  · have q : decide ((sizeT t : Int) > 200) = true := decide_eq_true (by omega)
    have HE : Hid (treeT t = []) := Lib.hid (by unfold treeT; rw [if_neg hf])
    go_wp2
    go_ret
    exact ⟨ret_tb (by rw [HE.out]; rfl), HB1.out⟩
end Go.Proofs.YtbaofldcdcllfaaDoor

/- The text of a term: TermText, of the program and of the model. -/
namespace Go.Proofs.YtbaofldcdcllfaaDoor
open Go.RowKit

theorem termB_parts {t : TermD} (h : termB t = true) : sizeM t ≤ 200 ∧ partM 30 t = true := by
  unfold termB at h
  rw [Bool.and_eq_true, decide_eq_true_eq] at h
  exact h
set_option maxRecDepth 100000 in
set_option maxHeartbeats 1000000 in
theorem specTermText_t (t : TermD) (u : Value) (lo hi : Nat) (w : World) (ht : TopM t) (h : KM true w lo hi u t.kids) (hhi : hi ≤ w.heap.size) (hn : sizeMs t.kids ≤ 1048576) :
    Calls Tryd.prog 24 #[tmV t u] w fun e w' => e = .returned (.string (tb (termT t))) ∧ Below w.heap.size w w' := by
  have hb := al1 w (.cells #[.int .i64 t.kind, .int .i64 t.num, u] 60)
  have HK := Lib.hid (h.under hb hhi)
  have R0 := Row.made w 60 #[.int .i64 t.kind, .int .i64 t.num, u]
  have HT := Lib.hid ht
  obtain ⟨A, c, U, rfl, -⟩ := h.parts
  clear h ht
  unfold tmV
  cases hf : termB t
  · have HF := Lib.hid hf
    have HE : Hid (termT t = []) := Lib.hid (by unfold termT; rw [hf]; rfl)
    clear hf
    go_enter Tryd.func24, Tryd.ntmps24
    go_wp2_with fail
    refine (specTermRight_t t _ lo hi _ HT.out HK.out (by simp; omega) hn).mono ?_
    rintro e w1 ⟨rfl, b1⟩
    rw [HF.out]
    go_wp2
    go_ret
    exact ⟨ret_tb (by rw [HE.out]; rfl), hb.trans (b1.mono (by simp))⟩
  · have HF := Lib.hid hf
    have HE : Hid (termT t = textM t) := Lib.hid (by unfold termT; rw [hf]; rfl)
    obtain ⟨hs, hp⟩ := termB_parts hf
    have HP := Lib.hid hp
    clear hf hp
    go_enter Tryd.func24, Tryd.ntmps24
    go_wp2_with fail
    refine (specTermRight_t t _ lo hi _ HT.out HK.out (by simp; omega) hn).mono ?_
    rintro e w1 ⟨rfl, b1⟩
    rw [HF.out]
    have R1 := R0.below b1 R0.lt
    have a0 := R1.cell 0
    have a1 := R1.cell 1
    have a2 := R1.cell 2
    simp at a0 a1 a2
    have HB1 := Lib.hid (hb.trans (b1.mono (by simp)))
    have HK1 := Lib.hid (HK.out.under b1 (by simp; omega))
    have z1 : w.heap.size < w1.heap.size := R1.lt
    clear R1 b1 R0 hb
    go_wp2_with fail
    refine (specText6_any 30 t true _ lo hi w1 HP.out HK1.out (by omega) HT.out hs).mono ?_
    rintro e w2 ⟨rfl, b2⟩
    go_wp2
    go_ret
    exact ⟨ret_tb (by rw [HE.out]), HB1.out.trans (b2.mono (by omega))⟩
set_option maxRecDepth 100000 in
set_option maxHeartbeats 1000000 in
theorem implTermText_t (t : TermD) (u : Value) (lo hi : Nat) (w : World) (ht : TopM t) (h : KM true w lo hi u t.kids) (hhi : hi ≤ w.heap.size) (hn : sizeMs t.kids ≤ 1048576) (B : Nat) (htn : Tens B w) (hB : B ≤ w.heap.size) :
    Calls Tryd.prog 27 #[tmV t u] w fun e w' => e = .returned (.string (tb (termT t))) ∧ Below w.heap.size w w' := by
  have hb := al1 w (.cells #[.int .i64 t.kind, .int .i64 t.num, u] 60)
  have HK := Lib.hid (h.under hb hhi)
  have R0 := Row.made w 60 #[.int .i64 t.kind, .int .i64 t.num, u]
  have hfit : fitsM t := (fitsM_eq t).2 ⟨ht.1.2, h.fits⟩
  have hlen := textM_len t hfit
  have HT := Lib.hid ht
  have HTN := Lib.hid htn
  obtain ⟨A, c, U, rfl, -⟩ := h.parts
  clear h ht htn hfit
  unfold tmV
  cases hf : termB t
  · have HF := Lib.hid hf
    have HE : Hid (termT t = []) := Lib.hid (by unfold termT; rw [hf]; rfl)
    clear hf
    go_enter Tryd.func27, Tryd.ntmps27
    go_wp2_with fail
    refine (implTermRight_t t _ lo hi _ HT.out HK.out (by simp; omega) hn).mono ?_
    rintro e w1 ⟨rfl, b1⟩
    rw [HF.out]
    go_wp2
    go_ret
    exact ⟨ret_tb (by rw [HE.out]; rfl), hb.trans (b1.mono (by simp))⟩
  · have HF := Lib.hid hf
    have HE : Hid (termT t = textM t) := Lib.hid (by unfold termT; rw [hf]; rfl)
    obtain ⟨hs, hp⟩ := termB_parts hf
    have HP := Lib.hid hp
    clear hf hp
    go_enter Tryd.func27, Tryd.ntmps27
    go_wp2_with fail
    refine (implTermRight_t t _ lo hi _ HT.out HK.out (by simp; omega) hn).mono ?_
    rintro e w1 ⟨rfl, b1⟩
    rw [HF.out]
    have R1 := R0.below b1 R0.lt
    have a0 := R1.cell 0
    have a1 := R1.cell 1
    have a2 := R1.cell 2
    simp at a0 a1 a2
    have HB1 := Lib.hid (hb.trans (b1.mono (by simp)))
    have HK1 := Lib.hid (HK.out.under b1 (by simp; omega))
    have z1 : w.heap.size < w1.heap.size := R1.lt
    clear R1 b1 R0 hb
    have a9 := al1 w1 (.cells #[.pointer none, .slice none 0 0] 47)
    have W9 : Hid (Wr w1.heap.size w1.heap.size [] (w1.alloc (.cells #[.pointer none, .slice none 0 0] 47))) := Lib.hid (Lib.IsBuilderF.of (by simpa [Lib.byteCells] using Lib.fresh_isBuilder 47 5 w1))
    have T9 : Hid (Tens w1.heap.size (w1.alloc (.cells #[.pointer none, .slice none 0 0] 47))) := Lib.hid ((Tens.mono (HTN.out.on (HB1.out.mono hB)) (by omega)).on a9)
    have HK9 := Lib.hid (HK1.out.under a9 (by omega))
    go_wp2_with fail
    refine (writeTerm_any 30 t true _ lo hi w1.heap.size w1.heap.size [] _ HP.out HK9.out (by omega) (by simp) W9.out T9.out HT.out (by simp; omega)).mono ?_
    rintro e w2 ⟨rfl, W2, K2⟩
    rw [List.nil_append] at W2
    have b2 : Below w.heap.size w w2 := HB1.out.trans ((a9.mono (by omega)).trans (K2.bel.mono (by omega)))
    have z2 := K2.bel.size
    have z3 : w1.heap.size ≤ w2.heap.size := by simp at z2; omega
    clear K2 a9
    go_wp2_with fail
    refine (Tryd.Builder_String_any_k w1.heap.size w1.heap.size (textM t) _ W2 z3).mono ?_
    rintro e w3 ⟨rfl, _, b3, _⟩
    go_wp2
    go_ret
    exact ⟨ret_tb (by rw [HE.out]; rfl), b2.trans (b3.mono (by omega))⟩
end Go.Proofs.YtbaofldcdcllfaaDoor
