/- The law's own measure of what came in: szStringS, szRule, szRuleS, szGram say how much is left of a number, or -1. -/
import Derived.Test.YtbaofldcdcllfaaDoorWords
import Derived.WalkKit
import Derived.WalkSpells
import Derived.WalkLawsBesides
namespace Go.Proofs.YtbaofldcdcllfaaDoor
open Go.RowKit

theorem ret_int {k : IntKind} {a b : Int} (h : a = b) : Ending.returned (.int k a) = .returned (.int k b) := by rw [h]

set_option maxHeartbeats 1000000 in
theorem szStringS_any (v : Value) (ss : List ByteArray) (lo hi : Nat) (left : Int) (w : World) (h : Strs w lo hi v ss) (h0 : 0 ≤ left) (h1 : left ≤ 1048576) :
    Calls Tryd.prog 34 #[v, .int .i64 left] w fun e w' => e = .returned (.int .i64 (szOut left (bulkS ss))) ∧ w = w' := by
  obtain ⟨A, c, rfl, hlc, hc, hsz, hcell⟩ := h
  unfold maxLen at hc
  have HC := Lib.hid hcell
  have HZ := Lib.hid hsz
  clear hcell hsz
  by_cases hn : left < ss.length
  · go_enter Tryd.func34, Tryd.ntmps34
    go_wp2
    go_ret
    exact ⟨ret_int (by rw [szOut_neg]; unfold bulkS; omega), rfl⟩
  have d0 : decide (left - (ss.length : Int) < 0) = false := decide_eq_false (by omega)
  go_enter Tryd.func34, Tryd.ntmps34
  go_wp2
  go_loop [1, 5] (fun l i => ∃ k : Nat, k ≤ ss.length ∧ i = .int .i64 k ∧ l = .int .i64 (left - (ss.length : Int) - (sizes (ss.take k) : Int)) ∧ 0 ≤ left - (ss.length : Int) - (sizes (ss.take k) : Int)) (fun _ i => ss.length - (intOf i).toNat)
  case atStart => exact ⟨0, by omega, rfl, by simp [sizes], by simp [sizes]; omega⟩
  case round =>
    obtain ⟨k, hk, rfl, rfl, hle⟩ := hrel
    by_cases hlt : k < ss.length
    · obtain ⟨b, off, rfl, _, _, hcc⟩ := HC.out (by omega)
      have hck := hcc k hlt
      have hs := sizes_take_succ ss k hlt
      have hm := HZ.out ss[k] (List.getElem_mem hlt)
      unfold maxLen at hm
      have HS := Lib.hid hs
      clear hs hcc
      by_cases ht : left - (ss.length : Int) - (sizes (ss.take k) : Int) - (ss[k].size : Int) < 0
      · go_wp2
        go_ret
        exact ⟨ret_int (by rw [szOut_neg]; have := sizes_take_le ss (k + 1); have := HS.out; unfold bulkS; omega), rfl⟩
      · go_wp2
        go_round
        case rel => exact ⟨k + 1, by omega, by go_num, by rw [HS.out]; go_num, by rw [HS.out]; omega⟩
        case measure => simp [intOf]; omega
    · have hks : k = ss.length := by omega
      have HK := Lib.hid hks
      clear hks
      go_wp2
      go_ret
      refine ⟨ret_int ?_, rfl⟩
      have e := HK.out
      subst e
      rw [List.take_length] at hle ⊢
      rw [szOut_pos (by unfold bulkS; omega)]
      unfold bulkS; omega

end Go.Proofs.YtbaofldcdcllfaaDoor
