/- The walk of setOf. -/
import Derived.Test.YtmhdbjoljonhdaaSetG
import Derived.Test.YtmhdbjoljonhdaaHeadsS
import Derived.Test.YtmhdbjoljonhdaaJoin
namespace Go.Proofs.Ytmhdbjoljonhdaa
open Go.RowKit

theorem symIdx_hit {hs : List ByteArray} {s : ByteArray} {k : Nat} (ht : tokB s = false) (hk : k < hs.length) (he : hs[k] = s) (hall : ∀ j (h : j < hs.length), j < k → hs[j] ≠ s) : symIdx hs s = k := by
  have hf : hs.findIdx (fun t => decide (t = s)) = k := by
    rw [List.findIdx_eq hk]
    exact ⟨by simpa using he, fun j hj => by simpa using hall j (by omega) hj⟩
  unfold symIdx
  rw [ht, if_neg (by decide), hf, if_pos hk]
theorem symIdx_miss {hs : List ByteArray} {s : ByteArray} (ht : tokB s = false) (hall : ∀ j (h : j < hs.length), hs[j] ≠ s) : symIdx hs s = 21 := by
  have hf : ¬ hs.findIdx (fun t => decide (t = s)) < hs.length := by
    intro h
    have := List.findIdx_getElem (w := h)
    exact hall _ h (by simpa using this)
  unfold symIdx
  rw [ht, if_neg (by decide), if_neg hf]
theorem ret_u32 {a b : Int} (h : a = b) : Ending.returned (.int .u32 a) = .returned (.int .u32 b) := by rw [h]
theorem shl_eq (k : Nat) (h : k < 22) : ((2 : Int) ^ k % 4294967296) = ((2 ^ k : Nat) : Int) := by
  have h1 : 2 ^ k < 2 ^ 22 := Nat.pow_lt_pow_right (a := 2) (by omega) h
  have h2 : ((2 : Int) ^ k) = ((2 ^ k : Nat) : Int) := by simp
  rw [h2]
  generalize 2 ^ k = m at h1 ⊢
  omega
theorem symIdx_tok {hs : List ByteArray} {s : ByteArray} (ht : tokB s = true) : symIdx hs s = 20 := if_pos ht

set_option maxRecDepth 100000 in
set_option maxHeartbeats 1000000 in
theorem setOf_any (hs : List ByteArray) (rv : Value) (rl : List RuleN) (A : Option Addr) (c : Nat) (B : Option Addr) (d : Nat) (s : ByteArray) (hi : Nat) (w : World) (h : Strs w 0 hi (.slice A hs.length c) hs) (hr : rv = .slice B rl.length d) (hh : hi ≤ w.heap.size) (hl : hs.length ≤ 20) :
    Calls Try.prog 60 #[.agg #[.slice A hs.length c, rv], .string s] w fun e w' => e = .returned (.int .u32 ((setN hs s : Nat) : Int)) ∧ Below w.heap.size w w' := by
  subst hr
  obtain ⟨A', c', e', hlc, hc, hsz, hcell⟩ := h
  injection e' with e1 _ e2
  subst e1 e2
  unfold maxLen at hc
  have HC := Lib.hid hcell
  clear hcell hsz
  have hb := al1 w (.cells #[.slice A hs.length c, .slice B rl.length d] 68)
  have R0 := Row.made w 68 #[.slice A hs.length c, .slice B rl.length d]
  cases ht : tokB s
  · have HT := Lib.hid ht
    clear ht
    go_enter Try.func60, Try.ntmps60
    go_wp2_with fail
    refine (implIsToken_any _ _).mono ?_
    rintro e w1 ⟨rfl, b1⟩
    rw [HT.out]
    have R1 := R0.below b1 (by simp)
    have c0 := R1.cell 0
    simp at c0
    have hb1 := hb.trans (b1.mono (by simp))
    have hs1 := hb1.size
    clear R0 R1 b1 hb
    go_wp2
    go_loop [5, 6, 12] (fun _ _ i => ∃ k : Nat, k ≤ hs.length ∧ i = .int .i64 k ∧ ∀ j (h : j < hs.length), j < k → hs[j] ≠ s) (fun _ _ i => hs.length - (intOf i).toNat)
    case atStart => exact ⟨0, by omega, rfl, fun j _ hj => by omega⟩
    case round =>
      obtain ⟨k, hk, rfl, hall⟩ := hrel
      have HA := Lib.hid hall
      clear hall
      by_cases hlt : k < hs.length
      · obtain ⟨b, off, rfl, _, hbh, hcc⟩ := HC.out (by omega)
        have hck := (hb1.cell (p := ⟨b, off + k, none⟩) (by show b < _; omega)).trans (hcc k hlt)
        clear hcc
        by_cases he : hs[k] = s
        · have d1 : (hs[k].toList == s.toList) = true := by rw [list_eqH, decide_eq_true he]
          have HX := Lib.hid (symIdx_hit HT.out hlt he HA.out)
          clear he
          go_wp2
          go_ret
          exact ⟨ret_u32 (by rw [shl_eq k (by omega)]; unfold setN; rw [HX.out]), hb1⟩
        · have d1 : (hs[k].toList == s.toList) = false := by rw [list_eqH, decide_eq_false he]
          go_wp2
          go_round
          case rel => exact ⟨k + 1, by omega, by go_num, fun j hj hjk => by
            by_cases e : j = k
            · subst e; exact he
            · exact HA.out j hj (by omega)⟩
          case measure => simp [intOf]; omega
      · have HX : Hid (symIdx hs s = 21) := Lib.hid (symIdx_miss HT.out fun j hj => HA.out j hj (by omega))
        go_wp2
        go_ret
        exact ⟨by unfold setN; rw [HX.out]; rfl, hb1⟩
  · have HT := Lib.hid ht
    have HX := Lib.hid (symIdx_tok (hs := hs) ht)
    clear ht
    go_enter Try.func60, Try.ntmps60
    go_wp2_with fail
    refine (implIsToken_any _ _).mono ?_
    rintro e w1 ⟨rfl, b1⟩
    rw [HT.out]
    go_wp2
    go_ret
    exact ⟨by unfold setN; rw [HX.out]; rfl, hb.trans (b1.mono (by simp))⟩
end Go.Proofs.Ytmhdbjoljonhdaa
