import Derived.Test.YtbaofldcdcllfaaDoorTre
import Derived.Lib.ItoaNum
import Derived.Lib.ItoaLen
import Derived.Test.YtbaofldcdcllfaaDoorOwns
import Derived.Laws.IdiomStrings
import Derived.WalkKit
import Derived.WalkSpells
import Derived.WalkLawsBesides
/- The text of a tree, as data. No program stands in this text. -/
namespace Go.Proofs.YtbaofldcdcllfaaDoor
open Go.RowKit

/-- a Rule in digits; of one below 0 '-' -/
def ruleT (r : Int) : List UInt8 := if r < 0 then [45] else Lib.decDigits r.toNat
mutual
/-- the text of a tree -/
def textOf : TreeD → List UInt8
  | .node r s ks => if s.size ≠ 0 ∧ ks = [] then s.data.toList else 40 :: ruleT r ++ textsOf ks ++ [41]
/-- a blank and its text, of each -/
def textsOf : List TreeD → List UInt8
  | [] => []
  | t :: ts => (32 :: textOf t) ++ textsOf ts
end
theorem textOf_leaf {t : TreeD} (h1 : t.tok.size ≠ 0) (h2 : t.kids.length = 0) : textOf t = t.tok.data.toList := by
  cases t with | node r s ks =>
  simp only [TreeD.kids, TreeD.tok] at h1 h2 ⊢
  unfold textOf
  rw [if_pos ⟨h1, List.length_eq_zero_iff.1 h2⟩]
theorem textOf_node {t : TreeD} (h : ¬ (t.tok.size ≠ 0 ∧ t.kids.length = 0)) : textOf t = 40 :: ruleT t.rule ++ textsOf t.kids ++ [41] := by
  cases t with | node r s ks =>
  simp only [TreeD.kids, TreeD.tok, TreeD.rule] at h ⊢
  unfold textOf
  rw [if_neg (fun e => h ⟨e.1, by rw [e.2]; rfl⟩)]
theorem textsOf_append (a b : List TreeD) : textsOf (a ++ b) = textsOf a ++ textsOf b := by
  induction a with
  | nil => simp [textsOf]
  | cons t ts ih => simp [textsOf, ih, List.append_assoc]
theorem textsOf_take (ts : List TreeD) (k : Nat) (h : k < ts.length) : textsOf (ts.take (k + 1)) = textsOf (ts.take k) ++ 32 :: textOf ts[k] := by
  rw [List.take_succ_eq_append_getElem h, textsOf_append]; simp [textsOf]
theorem textsOf_take_le (ts : List TreeD) (k : Nat) : (textsOf (ts.take k)).length ≤ (textsOf ts).length := by
  conv => rhs; rw [← List.take_append_drop k ts]
  rw [textsOf_append, List.length_append]; omega
theorem ruleT_len (r : Int) (h : r ≤ 9223372036854775807) : (ruleT r).length ≤ 21 := by
  unfold ruleT
  split
  · simp
  · have := Lib.itoa_length_le r (by omega) h
    unfold Lib.itoa at this
    rw [if_neg (by assumption)] at this
    exact this
mutual
/-- all numbers of it are whole numbers that fit in -/
def fitsT : TreeD → Prop
  | .node r _ ks => r ≤ 9223372036854775807 ∧ fitsTs ks
def fitsTs : List TreeD → Prop
  | [] => True
  | t :: ts => fitsT t ∧ fitsTs ts
end
theorem fitsT_eq (t : TreeD) : fitsT t ↔ t.rule ≤ 9223372036854775807 ∧ fitsTs t.kids := by cases t; simp [fitsT, TreeD.rule, TreeD.kids]
theorem fitsTs_of {ts : List TreeD} (h : ∀ i (h : i < ts.length), fitsT ts[i]) : fitsTs ts := by
  induction ts with
  | nil => trivial
  | cons t ts ih => exact ⟨h 0 (by simp), ih fun i hi => h (i + 1) (by simp; omega)⟩
theorem fitsTs_at {ts : List TreeD} (h : fitsTs ts) (i : Nat) (hi : i < ts.length) : fitsT ts[i] := by
  induction ts generalizing i with
  | nil => simp at hi
  | cons t ts ih =>
    cases i with
    | zero => exact h.1
    | succ i => exact ih h.2 i (by simpa using hi)
theorem Kd.fits {z : Bool} {w : World} {lo hi : Nat} {v : Value} {ts : List TreeD} (h : Kd z w lo hi v ts) : fitsTs ts := by
  induction h with
  | mk A c ts U hl hc hs hcell sub ih => exact fitsTs_of fun i hi => (fitsT_eq _).2 ⟨(hs i hi).2.2, ih i hi⟩
mutual
theorem textOf_len : (t : TreeD) → fitsT t → (textOf t).length ≤ bulkT t + 24 * sizeT t
  | .node r s ks => by
    intro hf
    unfold textOf bulkT sizeT
    unfold fitsT at hf
    have h1 := textsOf_len ks hf.2
    have h2 := ruleT_len r hf.1
    split
    · rw [Array.length_toList]
      have : s.data.size = s.size := rfl
      omega
    · simp only [List.length_append, List.length_cons, List.length_nil]
      omega
theorem textsOf_len : (ts : List TreeD) → fitsTs ts → (textsOf ts).length ≤ bulkTs ts + 24 * sizeTs ts
  | [] => by intro _; simp [textsOf]
  | t :: ts => by
    intro hf
    unfold fitsTs at hf
    unfold textsOf bulkTs sizeTs
    have h1 := textOf_len t hf.1
    have h2 := textsOf_len ts hf.2
    simp only [List.length_append, List.length_cons]
    omega
end
end Go.Proofs.YtbaofldcdcllfaaDoor

/- A number in digits: the model's l01Dec. -/
namespace Go.Proofs.YtbaofldcdcllfaaDoor
open Go.RowKit

theorem dec_more {m : Nat} (h : 10 ≤ m) : Lib.decDigits m = Lib.decDigits (m / 10) ++ [UInt8.ofNat (48 + m % 10)] := by
  conv => lhs; rw [Lib.decDigits]
  rw [dif_neg (by omega)]
theorem dec_one {m : Nat} (h : m < 10) : Lib.decDigits m = [UInt8.ofNat (48 + m % 10)] := by
  rw [Lib.decDigits_one h, Nat.mod_eq_of_lt h]
/-- what is told so far, and what is left to tell, are the number -/
def DecAt (N m : Nat) (o : List UInt8) : Prop := (if m = 0 then o else Lib.decDigits m ++ o) = Lib.decDigits N
theorem DecAt.step {N m : Nat} {o : List UInt8} (h : DecAt N m o) (hm : 0 < m) : DecAt N (m / 10) (UInt8.ofNat (48 + m % 10) :: o) := by
  unfold DecAt at h ⊢
  rw [if_neg (by omega)] at h
  rw [← h]
  by_cases h1 : m < 10
  · rw [if_pos (by omega), dec_one h1]; rfl
  · have e := dec_more (m := m) (by omega)
    rw [if_neg (by omega), e, List.append_assoc]; rfl
theorem DecAt.len {N m : Nat} {o : List UInt8} (h : DecAt N m o) (hN : N ≤ 9223372036854775807) : o.length ≤ 21 := by
  have h1 := Lib.itoa_length_le (N : Int) (by omega) (by omega)
  unfold Lib.itoa at h1
  rw [if_neg (by omega), Int.toNat_natCast, ← h] at h1
  split at h1
  · exact h1
  · rw [List.length_append] at h1; omega
theorem dec_len {N : Nat} (hN : N ≤ 9223372036854775807) : (Lib.decDigits N).length ≤ 21 := by
  have h1 := Lib.itoa_length_le (N : Int) (by omega) (by omega)
  unfold Lib.itoa at h1
  rw [if_neg (by omega), Int.toNat_natCast] at h1
  exact h1
theorem convD_one (w : World) (d : Nat) (hd : d < 10) :
    (convert 45 9 (.slice (some ⟨w.heap.size, 0, none⟩) 1 1)).run Tryd.prog (w.alloc (.cells #[.int .u8 (48 + (d : Int))] 5)) = .ok (.string ⟨#[UInt8.ofNat (48 + d)]⟩) (w.alloc (.cells #[.int .u8 (48 + (d : Int))] 5)) := by
  have R := Row.made w 5 #[.int .u8 (48 + (d : Int))]
  have := run_convert_bytes_back (P := Tryd.prog) (w.alloc (.cells #[.int .u8 (48 + (d : Int))] 5)) 45 9 5 ⟨w.heap.size, 0, none⟩ 1 [UInt8.ofNat (48 + d)] Tryd.underlying45 Tryd.underlying5 Tryd.underlying9 (fun j hj => by
    obtain rfl : j = 0 := by simp at hj; omega
    have c : (w.alloc (.cells #[.int .u8 (48 + (d : Int))] 5)).cell? ⟨w.heap.size, 0, none⟩ = some (.int .u8 (48 + (d : Int))) := (R.cell 0).trans rfl
    show (w.alloc (.cells #[.int .u8 (48 + (d : Int))] 5)).cell? ⟨w.heap.size, 0, none⟩ = _
    rw [c]
    simp only [List.getElem_cons_zero, UInt8.toNat_ofNat']
    congr 2
    omega)
  exact this

set_option maxRecDepth 100000 in
set_option maxHeartbeats 2000000 in
theorem specDec_any (N : Nat) (hN : N ≤ 9223372036854775807) (w : World) :
    Calls Tryd.prog 29 #[.int .i64 (N : Int)] w fun e w' => e = .returned (.string ⟨(Lib.decDigits N).toArray⟩) ∧ Below w.heap.size w w' := by
  by_cases h0 : N = 0
  · subst h0
    have HD : Hid (Lib.decDigits 0 = [48]) := Lib.hid (by rw [Lib.decDigits_one (by omega)]; rfl)
    go_enter Tryd.func29, Tryd.ntmps29
    go_wp2
    go_ret
    exact ⟨by rw [HD.out]; rfl, Below.refl _ _⟩
  have q0 : ((N : Int) == 0) = false := by rw [beq_eq_false_iff_ne]; omega
  have q1 : decide ((N : Int) < 0) = false := decide_eq_false (by omega)
  have HS : Hid (DecAt N N []) := Lib.hid (by unfold DecAt; rw [if_neg h0]; simp)
  go_enter Tryd.func29, Tryd.ntmps29
  go_wp2
  go_loopw [0, 4] (fun n o wr => ∃ (m : Nat) (l : List UInt8), m ≤ 9223372036854775807 ∧ n = .int .i64 (m : Int) ∧ o = .string ⟨l.toArray⟩ ∧ DecAt N m l ∧ Below w.heap.size w wr) (fun n _ _ => (intOf n).toNat)
  case atStart => exact ⟨N, [], hN, rfl, rfl, HS.out, Below.refl _ _⟩
  case round =>
    obtain ⟨m, l, hm, rfl, rfl, hd, hbw⟩ := hrel
    have hl := hd.len hN
    have hsw := hbw.size
    have HD := Lib.hid hd
    clear hd
    by_cases hz : m = 0
    · subst hz
      have HE : Hid (l = Lib.decDigits N) := Lib.hid (by have := HD.out; unfold DecAt at this; rw [if_pos rfl] at this; exact this)
      go_wp2
      go_ret
      exact ⟨by rw [← HE.out]; rfl, hbw⟩
    · have q2 : ((m : Int) != 0) = true := by rw [bne_iff_ne]; omega
      have q3 : decide ((m : Int) % 10 < 0) = false := decide_eq_false (by omega)
      have hcv := convD_one wr (m % 10) (by omega)
      have e1 : ((m % 10 : Nat) : Int) = (m : Int) % 10 := by omega
      rw [e1] at hcv
      have hsz : (⟨l.toArray⟩ : ByteArray).size = l.length := by simp [ByteArray.size]
      have HSZ := Lib.hid hsz
      have hl2 : (⟨l.toArray⟩ : ByteArray).size ≤ 21 := by omega
      have HN := Lib.hid (HD.out.step (by omega))
      clear hsz e1
      have HB := Lib.hid (hbw.alloc hsw (.cells #[.int .u8 (48 + (m : Int) % 10)] 5))
      go_wp2
      refine ⟨⟨m / 10, UInt8.ofNat (48 + m % 10) :: l, by omega, by simp, ?_, HN.out, HB.out⟩, ?_⟩
      · congr 1
        apply ByteArray.ext
        rw [ByteArray.data_append]
        simp
      · simp [intOf]
        omega
end Go.Proofs.YtbaofldcdcllfaaDoor
