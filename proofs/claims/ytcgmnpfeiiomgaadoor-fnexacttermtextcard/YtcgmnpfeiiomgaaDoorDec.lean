/- A number in digits: the model's l01Dec. -/
import Derived.Test.YtcgmnpfeiiomgaaDoorOwns
import Derived.Lib.ItoaNum
import Derived.Lib.ItoaLen
import Derived.Laws.IdiomStrings
import Derived.WalkKit
import Derived.WalkSpells
import Derived.WalkLawsBesides
namespace Go.Proofs.YtcgmnpfeiiomgaaDoor
open Go.RowKit

theorem dec_more {m : Nat} (h : 10 ≤ m) : Lib.decDigits m = Lib.decDigits (m / 10) ++ [UInt8.ofNat (48 + m % 10)] := by
  conv => lhs; rw [Lib.decDigits]
  rw [dif_neg (by omega)]
theorem dec_one {m : Nat} (h : m < 10) : Lib.decDigits m = [UInt8.ofNat (48 + m % 10)] := by
  rw [Lib.decDigits_one h, Nat.mod_eq_of_lt h]
/-- what is told so far, and what is left to tell, are the number -/
def DecAt (N m : Nat) (o : List UInt8) : Prop := (if m = 0 then o else Lib.decDigits m ++ o) = Lib.decDigits N
theorem DecAt.step {N m : Nat} {o : List UInt8} (h : DecAt N m o) (hm : 0 < m) : DecAt N (m / 10) (UInt8.ofNat (48 + m % 10) :: o) := by
  unfold DecAt at h ⊢
  rw [if_neg (by omega)] at h
  rw [← h]
  by_cases h1 : m < 10
  · rw [if_pos (by omega), dec_one h1]; rfl
  · have e := dec_more (m := m) (by omega)
    rw [if_neg (by omega), e, List.append_assoc]; rfl
theorem DecAt.len {N m : Nat} {o : List UInt8} (h : DecAt N m o) (hN : N ≤ 9223372036854775807) : o.length ≤ 21 := by
  have h1 := Lib.itoa_length_le (N : Int) (by omega) (by omega)
  unfold Lib.itoa at h1
  rw [if_neg (by omega), Int.toNat_natCast, ← h] at h1
  split at h1
  · exact h1
  · rw [List.length_append] at h1; omega
theorem dec_len {N : Nat} (hN : N ≤ 9223372036854775807) : (Lib.decDigits N).length ≤ 21 := by
  have h1 := Lib.itoa_length_le (N : Int) (by omega) (by omega)
  unfold Lib.itoa at h1
  rw [if_neg (by omega), Int.toNat_natCast] at h1
  exact h1
theorem conv_one (w : World) (d : Nat) (hd : d < 10) :
    (convert 22 9 (.slice (some ⟨w.heap.size, 0, none⟩) 1 1)).run Tryd.prog (w.alloc (.cells #[.int .u8 (48 + (d : Int))] 5)) = .ok (.string ⟨#[UInt8.ofNat (48 + d)]⟩) (w.alloc (.cells #[.int .u8 (48 + (d : Int))] 5)) := by
  have R := Row.made w 5 #[.int .u8 (48 + (d : Int))]
  have := run_convert_bytes_back (P := Tryd.prog) (w.alloc (.cells #[.int .u8 (48 + (d : Int))] 5)) 22 9 5 ⟨w.heap.size, 0, none⟩ 1 [UInt8.ofNat (48 + d)] Tryd.underlying22 Tryd.underlying5 Tryd.underlying9 (fun j hj => by
    obtain rfl : j = 0 := by simp at hj; omega
    have c : (w.alloc (.cells #[.int .u8 (48 + (d : Int))] 5)).cell? ⟨w.heap.size, 0, none⟩ = some (.int .u8 (48 + (d : Int))) := (R.cell 0).trans rfl
    show (w.alloc (.cells #[.int .u8 (48 + (d : Int))] 5)).cell? ⟨w.heap.size, 0, none⟩ = _
    rw [c]
    simp only [List.getElem_cons_zero, UInt8.toNat_ofNat']
    congr 2
    omega)
  exact this

set_option maxRecDepth 100000 in
set_option maxHeartbeats 2000000 in
theorem specDec_any (N : Nat) (hN : N ≤ 9223372036854775807) (w : World) :
    Calls Tryd.prog 72 #[.int .i64 (N : Int)] w fun e w' => e = .returned (.string ⟨(Lib.decDigits N).toArray⟩) ∧ Below w.heap.size w w' := by
  by_cases h0 : N = 0
  · subst h0
    have HD : Hid (Lib.decDigits 0 = [48]) := Lib.hid (by rw [Lib.decDigits_one (by omega)]; rfl)
    go_enter Tryd.func72, Tryd.ntmps72
    go_wp2
    go_ret
    exact ⟨by rw [HD.out]; rfl, Below.refl _ _⟩
  have q0 : ((N : Int) == 0) = false := by rw [beq_eq_false_iff_ne]; omega
  have q1 : decide ((N : Int) < 0) = false := decide_eq_false (by omega)
  have HS : Hid (DecAt N N []) := Lib.hid (by unfold DecAt; rw [if_neg h0]; simp)
  go_enter Tryd.func72, Tryd.ntmps72
  go_wp2
  go_loopw [0, 4] (fun n o wr => ∃ (m : Nat) (l : List UInt8), m ≤ 9223372036854775807 ∧ n = .int .i64 (m : Int) ∧ o = .string ⟨l.toArray⟩ ∧ DecAt N m l ∧ Below w.heap.size w wr) (fun n _ _ => (intOf n).toNat)
  case atStart => exact ⟨N, [], hN, rfl, rfl, HS.out, Below.refl _ _⟩
  case round =>
    obtain ⟨m, l, hm, rfl, rfl, hd, hbw⟩ := hrel
    have hl := hd.len hN
    have hsw := hbw.size
    have HD := Lib.hid hd
    clear hd
    by_cases hz : m = 0
    · subst hz
      have HE : Hid (l = Lib.decDigits N) := Lib.hid (by have := HD.out; unfold DecAt at this; rw [if_pos rfl] at this; exact this)
      go_wp2
      go_ret
      exact ⟨by rw [← HE.out]; rfl, hbw⟩
    · have q2 : ((m : Int) != 0) = true := by rw [bne_iff_ne]; omega
      have q3 : decide ((m : Int) % 10 < 0) = false := decide_eq_false (by omega)
      have hcv := conv_one wr (m % 10) (by omega)
      have e1 : ((m % 10 : Nat) : Int) = (m : Int) % 10 := by omega
      rw [e1] at hcv
      have hsz : (⟨l.toArray⟩ : ByteArray).size = l.length := by simp [ByteArray.size]
      have HSZ := Lib.hid hsz
      have hl2 : (⟨l.toArray⟩ : ByteArray).size ≤ 21 := by omega
      have HN := Lib.hid (HD.out.step (by omega))
      clear hsz e1
      have HB := Lib.hid (hbw.alloc hsw (.cells #[.int .u8 (48 + (m : Int) % 10)] 5))
      go_wp2
      refine ⟨⟨m / 10, UInt8.ofNat (48 + m % 10) :: l, by omega, by simp, ?_, HN.out, HB.out⟩, ?_⟩
      · congr 1
        apply ByteArray.ext
        rw [ByteArray.data_append]
        simp
      · simp [intOf]
        omega
end Go.Proofs.YtcgmnpfeiiomgaaDoor
