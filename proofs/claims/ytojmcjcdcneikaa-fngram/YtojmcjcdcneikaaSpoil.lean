/- A text that is changed a little: spoil. -/
import Derived.Test.YtojmcjcdcneikaaPick
import Derived.Test.YtojmcjcdcneikaaMark
import Derived.Deep.RegionHeld3
namespace Go.Proofs.Ytojmcjcdcneikaa.Dr
open Go.RowKit

theorem Src.drewN {w : World} {p B : Nat} (h : Src w p B) (n : Nat) : Src (w.drewN n) p B := by
  obtain ⟨hB, a, len, cap, at_, mix, size, S⟩ := h
  exact ⟨hB, a, len, cap, at_, mix, size, S.drewN n⟩
theorem grw_drewN {p : Nat} {w w1 : World} (h : w.grownBy w1 (some p)) (n : Nat) : w.grownBy (w1.drewN n) (some p) := ⟨h.os, h.tape, h.output, h.size, h.block⟩
def DrawS (w : World) (p B M : Nat) (e : Ending) (w' : World) : Prop := ∃ t : ByteArray, e = .returned (.string t) ∧ t.size ≤ M ∧ Src w' p B ∧ w.grownBy w' (some p)

set_option maxRecDepth 100000 in
set_option maxHeartbeats 2000000 in
theorem spoil_any (w : World) (p B : Nat) (t : ByteArray) (ht : t.size ≤ 10000) (hs : Src w p B) :
    Calls Try.prog 48 #[.pointer (some ⟨p, 0, none⟩), .string t] w (DrawS w p B (t.size + 1)) := by
  have hp := hs.lt
  go_enter Try.func48, Try.ntmps48
  go_wp2_with fail
  refine (n_any _ p B ((t.size : Int) + 1) hs (by omega)).mono ?_
  rintro e w1 ⟨r, rfl, hr0, hr1, hs1, ho1⟩
  obtain ⟨k, rfl, hk⟩ : ∃ k : Nat, r = (k : Int) ∧ k ≤ t.size := by
    by_cases h : (1 : Int) < (t.size : Int) + 1
    · obtain ⟨a, b⟩ := hr1 h
      exact ⟨r.toNat, by omega, by omega⟩
    · exact ⟨0, hr0 (by omega), by omega⟩
  clear hr0 hr1
  go_wp2_with fail
  refine (n_any _ p B 17 hs1 (by omega)).mono ?_
  rintro e w2 ⟨r, rfl, _, hr1, hs2, ho2⟩
  obtain ⟨a, b⟩ := hr1 (by omega)
  obtain ⟨m, rfl⟩ := Int.eq_ofNat_of_zero_le a
  clear hr1
  have hm : m < 17 := by omega
  have hp1 : p < w1.heap.size := by have := ho1.size; omega
  have hp2 : p < w2.heap.size := by have := ho2.size; omega
  have hcv : ∀ x : UInt8, (convert 22 9 (.slice (some ⟨w2.heap.size, 0, none⟩) 1 1)).run Try.prog (w2.alloc (.cells #[.int .u8 (x.toNat : Int)] 5)) = .ok (.string (Tx.bs [x])) (w2.alloc (.cells #[.int .u8 (x.toNat : Int)] 5)) := conv_one w2
  have hml : m < ({ data := #[32, 10, 48, 97, 45, 110, 44, 58, 93, 255, 40, 120, 126, 49, 128, 225, 59] } : ByteArray).size := hm
  have hg2 : w.grownBy w2 (some p) := grw_trans ho1.grown ho2.grown
  have hg3 : w.grownBy (w2.alloc (.cells #[.int .u8 (({ data := #[32, 10, 48, 97, 45, 110, 44, 58, 93, 255, 40, 120, 126, 49, 128, 225, 59] } : ByteArray)[m].toNat : Int)] 5)) (some p) := grw_alloc hg2 _
  have hs3 : Src (w2.alloc (.cells #[.int .u8 (({ data := #[32, 10, 48, 97, 45, 110, 44, 58, 93, 255, 40, 120, 126, 49, 128, 225, 59] } : ByteArray)[m].toNat : Int)] 5)) p B := hs2.own (World.grownBy_alloc w2 _ none) hp2 (fun _ e => by cases e)
  have hcs : (Tx.bs [({ data := #[32, 10, 48, 97, 45, 110, 44, 58, 93, 255, 40, 120, 126, 49, 128, 225, 59] } : ByteArray)[m]]).size = 1 := rfl
  have HG3 := Lib.hid hg3
  have HS3 := Lib.hid hs3
  clear ho1 ho2 hg2 hg3 hs hs1 hs3
  by_cases hkt : k = t.size
  · subst hkt
    go_wp2
    go_quiet (fail)
    go_wp2
    go_ret
    exact ⟨_, rfl, by simp [ByteArray.size_append, hcs], HS3.out.drewN _, grw_drewN HG3.out _⟩
  · have dk : ((k : Int) == (t.size : Int)) = false := by simp; omega
    go_wp2_with fail
    refine (one_any _ p B 3 HS3.out (by omega)).mono ?_
    rintro e w4 ⟨b4, rfl, hs4, ho4⟩
    have HG4 := Lib.hid (grw_trans HG3.out ho4.grown)
    have k0 : (0 : Int) ≤ (k : Int) := by omega
    have k1 : (k : Int) ≤ (t.size : Int) := by omega
    have k2 : (k : Int) + 1 ≤ (t.size : Int) := by omega
    clear ho4
    cases b4 with
    | true =>
      go_wp2
      go_quiet (fail)
      go_wp2
      go_ret
      exact ⟨_, rfl, by simp [ByteArray.size_append, ByteArray.size_extract, hcs] <;> omega, hs4.drewN _, grw_drewN HG4.out _⟩
    | false =>
      go_wp2_with fail
      refine (one_any _ p B 2 hs4 (by omega)).mono ?_
      rintro e w5 ⟨b5, rfl, hs5, ho5⟩
      have HG5 := Lib.hid (grw_trans HG4.out ho5.grown)
      clear ho5
      cases b5
      all_goals
        go_wp2
        go_quiet (fail)
        go_wp2
        go_ret
        exact ⟨_, rfl, by simp [ByteArray.size_append, ByteArray.size_extract, hcs] <;> omega, hs5.drewN _, grw_drewN HG5.out _⟩
end Go.Proofs.Ytojmcjcdcneikaa.Dr
