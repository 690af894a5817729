/- The walks of NameRight, isLower and isNameByte: both programs say of a text whether it is a name by one and the same function, nameOK. -/
import Derived.Test.YtldencefagnhfaaRows
import Derived.WalkKit
import Derived.WalkSpells
import Derived.WalkLawsBesides
import Derived.Lib.Hide
namespace Go.Proofs.Ytldencefagnhfaa
open Go.RowKit

def lowB (c : Int) : Bool := decide (97 ≤ c ∧ c ≤ 122)
def nbB (c : Int) : Bool := decide ((97 ≤ c ∧ c ≤ 122) ∨ (48 ≤ c ∧ c ≤ 57) ∨ c = 95)

theorem lowB_t {c : Int} (h : 97 ≤ c ∧ c ≤ 122) : lowB c = true := by unfold lowB; exact decide_eq_true h
theorem lowB_f {c : Int} (h : ¬ (97 ≤ c ∧ c ≤ 122)) : lowB c = false := by unfold lowB; exact decide_eq_false h
theorem nbB_t {c : Int} (h : (97 ≤ c ∧ c ≤ 122) ∨ (48 ≤ c ∧ c ≤ 57) ∨ c = 95) : nbB c = true := by unfold nbB; exact decide_eq_true h
theorem nbB_f {c : Int} (h : ¬ ((97 ≤ c ∧ c ≤ 122) ∨ (48 ≤ c ∧ c ≤ 57) ∨ c = 95)) : nbB c = false := by unfold nbB; exact decide_eq_false h

theorem ret_bool {a b : Bool} (h : a = b) : Ending.returned (.bool a) = .returned (.bool b) := by rw [h]

set_option maxHeartbeats 400000 in
theorem isLower_any (c : Int) (w : World) :
    Calls Try.prog 42 #[.int .u8 c] w fun e w' => e = .returned (.bool (lowB c)) ∧ w = w' := by
  by_cases h1 : 97 ≤ c
  · go_enter Try.func42, Try.ntmps42
    go_wp2
    go_ret
    exact ⟨ret_bool (by rw [Bool.eq_iff_iff]; simp [lowB]; omega), rfl⟩
  · go_enter Try.func42, Try.ntmps42
    go_wp2
    go_ret
    exact ⟨ret_bool (by rw [lowB_f (by omega)]), rfl⟩

set_option maxHeartbeats 400000 in
theorem isNameByte_any (c : Int) (w : World) :
    Calls Try.prog 43 #[.int .u8 c] w fun e w' => e = .returned (.bool (nbB c)) ∧ w = w' := by
  by_cases h0 : 97 ≤ c ∧ c ≤ 122
  · have hl := lowB_t h0
    go_enter Try.func43, Try.ntmps43
    go_wp2_with (go_at_call 42; refine (isLower_any _ _).mono ?_; rintro e w' ⟨rfl, rfl⟩; rw [hl])
    go_ret
    exact ⟨ret_bool (by rw [nbB_t (by omega)]), rfl⟩
  · have hl := lowB_f h0
    by_cases h1 : 48 ≤ c
    · by_cases h2 : c ≤ 57
      · go_enter Try.func43, Try.ntmps43
        go_wp2_with (go_at_call 42; refine (isLower_any _ _).mono ?_; rintro e w' ⟨rfl, rfl⟩; rw [hl])
        go_ret
        exact ⟨ret_bool (by rw [nbB_t (by omega)]), rfl⟩
      · go_enter Try.func43, Try.ntmps43
        go_wp2_with (go_at_call 42; refine (isLower_any _ _).mono ?_; rintro e w' ⟨rfl, rfl⟩; rw [hl])
        go_ret
        exact ⟨ret_bool (by rw [Bool.eq_iff_iff]; simp [nbB]; omega), rfl⟩
    · go_enter Try.func43, Try.ntmps43
      go_wp2_with (go_at_call 42; refine (isLower_any _ _).mono ?_; rintro e w' ⟨rfl, rfl⟩; rw [hl])
      go_ret
      exact ⟨ret_bool (by rw [Bool.eq_iff_iff]; simp [nbB]; omega), rfl⟩

/-- is the byte at this place one that may stand there in a name? -/
def goodAt (s : ByteArray) (j : Nat) : Bool := if j = 0 then lowB (s.data.toList[j]?.getD 0).toNat else nbB (s.data.toList[j]?.getD 0).toNat
def AllGood (s : ByteArray) (k : Nat) : Prop := ∀ j, j < k → goodAt s j = true
def nameOK (s : ByteArray) : Bool := decide (1 ≤ s.size) && decide (s.size ≤ 20) && (List.range s.size).all (goodAt s)

theorem byteAt (s : ByteArray) (k : Nat) (h : k < s.size) : s.data.toList[k]?.getD 0 = s[k] := by
  rw [List.getElem?_eq_getElem (by simpa using h)]; rfl
theorem nameOK_t {s : ByteArray} (h1 : 1 ≤ s.size) (h2 : s.size ≤ 20) (h : AllGood s s.size) : nameOK s = true := by
  simp only [nameOK, Bool.and_eq_true, decide_eq_true_eq, List.all_eq_true, List.mem_range]; exact ⟨⟨h1, h2⟩, h⟩
theorem nameOK_f {s : ByteArray} {k : Nat} (h1 : k < s.size) (h : goodAt s k = false) : nameOK s = false := by
  rw [Bool.eq_false_iff]; intro e
  simp only [nameOK, Bool.and_eq_true, decide_eq_true_eq, List.all_eq_true, List.mem_range] at e
  rw [e.2 k h1] at h; cases h
theorem nameOK_len {s : ByteArray} (h : ¬ (1 ≤ s.size ∧ s.size ≤ 20)) : nameOK s = false := by
  rw [Bool.eq_false_iff]; intro e
  simp only [nameOK, Bool.and_eq_true, decide_eq_true_eq] at e; exact h e.1
theorem AllGood.succ {s : ByteArray} {k : Nat} (h : AllGood s k) (hk : goodAt s k = true) : AllGood s (k + 1) := by
  intro j hj
  rcases Nat.lt_or_ge j k with h1 | h1
  · exact h j h1
  · have : j = k := by omega
    subst this; exact hk

set_option maxHeartbeats 1000000 in
theorem implNameRight_any (s : ByteArray) (w : World) (hs : s.size ≤ maxLen) :
    Calls Try.prog 25 #[.string s] w fun e w' => e = .returned (.bool (nameOK s)) ∧ w = w' := by
  unfold maxLen at hs
  by_cases h1 : s.size < 1
  · go_enter Try.func25, Try.ntmps25
    go_wp2
    go_ret
    exact ⟨ret_bool (by rw [nameOK_len (by omega)]), rfl⟩
  by_cases h2 : 20 < s.size
  · go_enter Try.func25, Try.ntmps25
    go_wp2
    go_ret
    exact ⟨ret_bool (by rw [nameOK_len (by omega)]), rfl⟩
  have hp : 0 < s.size := by omega
  by_cases h3 : lowB (s[0].toNat : Int) = true
  · have hg : AllGood s 1 := by
      intro j hj
      have : j = 0 := by omega
      subst this
      simp only [goodAt, if_pos, byteAt s 0 hp]; exact h3
    go_enter Try.func25, Try.ntmps25
    go_wp2_with (go_at_call 42; refine (isLower_any _ _).mono ?_; rintro e w' ⟨rfl, rfl⟩; rw [h3])
    go_loop [3] (fun i => ∃ k : Nat, 1 ≤ k ∧ k ≤ s.size ∧ i = .int .i64 k ∧ AllGood s k) (fun i => s.size - (intOf i).toNat)
    case atStart => exact ⟨1, by omega, by omega, rfl, hg⟩
    case round =>
      obtain ⟨k, hk1, hk, rfl, hall⟩ := hrel
      by_cases hlt : k < s.size
      · have hga : goodAt s k = nbB (s[k].toNat : Int) := by simp only [goodAt, if_neg (show ¬ k = 0 by omega), byteAt s k hlt]
        have HG := Lib.hid hga
        have HA := Lib.hid hall
        clear hga hall
        by_cases hn : nbB (s[k].toNat : Int) = true
        · go_wp2_with (go_at_call 43; refine (isNameByte_any _ _).mono ?_; rintro e w' ⟨rfl, rfl⟩; rw [hn])
          go_round
          case rel => exact ⟨k + 1, by omega, by omega, by go_num, HA.out.succ (HG.out.trans hn)⟩
          case measure => simp [intOf]; omega
        · rw [Bool.not_eq_true] at hn
          go_wp2_with (go_at_call 43; refine (isNameByte_any _ _).mono ?_; rintro e w' ⟨rfl, rfl⟩; rw [hn])
          go_ret
          exact ⟨ret_bool (nameOK_f hlt (HG.out.trans hn)).symm, rfl⟩
      · have hks : k = s.size := by omega
        have HA := Lib.hid hall
        have HK := Lib.hid hks
        clear hall hks
        go_wp2
        go_ret
        exact ⟨ret_bool (nameOK_t (by omega) (by omega) (by have := HA.out; rwa [HK.out] at this)).symm, rfl⟩
  · rw [Bool.not_eq_true] at h3
    have hg : goodAt s 0 = false := by simp only [goodAt, if_pos, byteAt s 0 hp]; exact h3
    have HG := Lib.hid hg
    clear hg
    go_enter Try.func25, Try.ntmps25
    go_wp2_with (go_at_call 42; refine (isLower_any _ _).mono ?_; rintro e w' ⟨rfl, rfl⟩; rw [h3])
    go_ret
    exact ⟨ret_bool (nameOK_f hp HG.out).symm, rfl⟩

theorem good_t {b : Bool} {k : Nat} {c : Int} (e : b = if k = 0 then lowB c else nbB c) (h : (97 ≤ c ∧ c ≤ 122) ∨ k ≠ 0 ∧ (48 ≤ c ∧ c ≤ 57 ∨ c = 95)) : b = true := by
  rw [e]; split
  · rw [lowB_t (by omega)]
  · rw [nbB_t (by omega)]
theorem good_f {b : Bool} {k : Nat} {c : Int} (e : b = if k = 0 then lowB c else nbB c) (h : ¬ ((97 ≤ c ∧ c ≤ 122) ∨ k ≠ 0 ∧ (48 ≤ c ∧ c ≤ 57 ∨ c = 95))) : b = false := by
  rw [e]; split
  · rw [lowB_f (by omega)]
  · rw [nbB_f (by omega)]

set_option maxHeartbeats 1000000 in
theorem specNameRight_any (s : ByteArray) (w : World) (hs : s.size ≤ maxLen) :
    Calls Try.prog 24 #[.string s] w fun e w' => e = .returned (.bool (nameOK s)) ∧ w = w' := by
  unfold maxLen at hs
  by_cases h1 : s.size < 1
  · go_enter Try.func24, Try.ntmps24
    go_wp2
    go_ret
    exact ⟨ret_bool (by rw [nameOK_len (by omega)]), rfl⟩
  by_cases h2 : 20 < s.size
  · go_enter Try.func24, Try.ntmps24
    go_wp2
    go_ret
    exact ⟨ret_bool (by rw [nameOK_len (by omega)]), rfl⟩
  go_enter Try.func24, Try.ntmps24
  go_wp2
  go_loop [3] (fun i => ∃ k : Nat, k ≤ s.size ∧ i = .int .i64 k ∧ AllGood s k) (fun i => s.size - (intOf i).toNat)
  case atStart => exact ⟨0, by omega, rfl, fun j hj => by omega⟩
  case round =>
    obtain ⟨k, hk, rfl, hall⟩ := hrel
    have HA := Lib.hid hall
    clear hall
    by_cases hlt : k < s.size
    · have hga : goodAt s k = if k = 0 then lowB (s[k].toNat : Int) else nbB (s[k].toNat : Int) := by simp only [goodAt, byteAt s k hlt]
      have HG := Lib.hid hga
      clear hga
      have hkB : ((k : Int) == 0) = decide (k = 0) := by rw [Bool.eq_iff_iff]; simp
      by_cases c0 : k = 0
      · have e3 : ((k : Int) == 0) = true := by rw [hkB, decide_eq_true c0]
        have HC0 := Lib.hid c0
        clear c0 hkB
        by_cases c1 : (97 : Int) ≤ (s[k].toNat : Int)
        · by_cases c2 : (s[k].toNat : Int) ≤ 122
          · have d2 : decide ((s[k].toNat : Int) ≤ 122) = true := decide_eq_true c2
            go_wp2
            go_round
            case rel => exact ⟨k + 1, by omega, by go_num, HA.out.succ (good_t HG.out (by omega))⟩
            case measure => simp [intOf]; omega
          · have d2 : decide ((s[k].toNat : Int) ≤ 122) = false := decide_eq_false c2
            go_wp2
            go_ret
            exact ⟨ret_bool (nameOK_f hlt (good_f HG.out (by have := HC0.out; omega))).symm, rfl⟩
        · have d1 : decide ((97 : Int) ≤ (s[k].toNat : Int)) = false := decide_eq_false c1
          go_wp2
          go_ret
          exact ⟨ret_bool (nameOK_f hlt (good_f HG.out (by have := HC0.out; omega))).symm, rfl⟩
      · have e3 : ((k : Int) == 0) = false := by rw [hkB, decide_eq_false c0]
        clear hkB
        by_cases c1 : (97 : Int) ≤ (s[k].toNat : Int)
        · by_cases c2 : (s[k].toNat : Int) ≤ 122
          · have d2 : decide ((s[k].toNat : Int) ≤ 122) = true := decide_eq_true c2
            go_wp2
            go_round
            case rel => exact ⟨k + 1, by omega, by go_num, HA.out.succ (good_t HG.out (by omega))⟩
            case measure => simp [intOf]; omega
          · have d2 : decide ((s[k].toNat : Int) ≤ 122) = false := decide_eq_false c2
            have d3 : decide ((s[k].toNat : Int) ≤ 57) = false := decide_eq_false (by omega)
            have d4 : ((s[k].toNat : Int) != 95) = true := by rw [bne_iff_ne]; omega
            go_wp2
            go_ret
            exact ⟨ret_bool (nameOK_f hlt (good_f HG.out (by omega))).symm, rfl⟩
        · have d1 : decide ((97 : Int) ≤ (s[k].toNat : Int)) = false := decide_eq_false c1
          by_cases c3 : (48 : Int) ≤ (s[k].toNat : Int)
          · by_cases c4 : (s[k].toNat : Int) ≤ 57
            · have d3 : decide ((s[k].toNat : Int) ≤ 57) = true := decide_eq_true c4
              go_wp2
              go_round
              case rel => exact ⟨k + 1, by omega, by go_num, HA.out.succ (good_t HG.out (by omega))⟩
              case measure => simp [intOf]; omega
            · have d3 : decide ((s[k].toNat : Int) ≤ 57) = false := decide_eq_false c4
              by_cases c5 : (s[k].toNat : Int) = 95
              · have d4 : ((s[k].toNat : Int) != 95) = false := by rw [bne_eq_false_iff_eq]; exact c5
                have HC5 := Lib.hid c5
                clear c5
                go_wp2
                go_round
                case rel => exact ⟨k + 1, by omega, by go_num, HA.out.succ (good_t HG.out (by have := HC5.out; omega))⟩
                case measure => simp [intOf]; omega
              · have d4 : ((s[k].toNat : Int) != 95) = true := by rw [bne_iff_ne]; exact c5
                go_wp2
                go_ret
                exact ⟨ret_bool (nameOK_f hlt (good_f HG.out (by omega))).symm, rfl⟩
          · have d3 : decide ((48 : Int) ≤ (s[k].toNat : Int)) = false := decide_eq_false c3
            have d4 : ((s[k].toNat : Int) != 95) = true := by rw [bne_iff_ne]; omega
            go_wp2
            go_ret
            exact ⟨ret_bool (nameOK_f hlt (good_f HG.out (by omega))).symm, rfl⟩
    · have hks : k = s.size := by omega
      have HK := Lib.hid hks
      clear hks
      go_wp2
      go_ret
      exact ⟨ret_bool (nameOK_t (by omega) (by omega) (by have := HA.out; rwa [HK.out] at this)).symm, rfl⟩
end Go.Proofs.Ytldencefagnhfaa
