/- The walks of crcByte, CrcMore, Crc (the program's) and l01Crc, CrcMore, Crc (the model's): each hands back crcOf of the text. -/
import Derived.Test.YtldencefagnhfaaReg
import Derived.WalkKit
import Derived.WalkSpells
import Derived.WalkLawsBesides
import Derived.Lib.Hide
namespace Go.Proofs.Ytldencefagnhfaa
open Go.RowKit

theorem ret_int {k : IntKind} {a b : Int} (h : a = b) : Ending.returned (.int k a) = .returned (.int k b) := by rw [h]
theorem val_int {k : IntKind} {a b : Int} (h : a = b) : Value.int k a = .int k b := by rw [h]

set_option maxHeartbeats 400000 in
theorem crcByte_any (r c : Nat) (w : World) (h1 : r < 4294967296) (h2 : c < 256) :
    Calls Try.prog 39 #[.int .u32 (r : Int), .int .u8 (c : Int)] w fun e w' => e = .returned (.int .u32 (byteStep r c : Nat)) ∧ w = w' := by
  have hx := xor_eq r c h1 (by omega)
  have HX := Lib.hid hx
  clear hx
  go_enter Try.func39, Try.ntmps39
  go_wp2
  go_loop [0, 10] (fun x i => ∃ k : Nat, k ≤ 8 ∧ i = .int .i64 k ∧ x = .int .u32 (stepN k (r ^^^ c) : Nat)) (fun _ i => 8 - (intOf i).toNat)
  case atStart => exact ⟨0, by omega, rfl, val_int HX.out⟩
  case round =>
    obtain ⟨k, hk, rfl, rfl⟩ := hrel
    have hlt := stepN_lt (xor_lt h1 (show c < 4294967296 by omega)) k
    have HS : Hid (stepN (k + 1) (r ^^^ c) = step (stepN k (r ^^^ c))) := Lib.hid rfl
    have HE : Hid (k = 8 → byteStep r c = stepN k (r ^^^ c)) := Lib.hid (fun e => by subst e; rfl)
    generalize stepN k (r ^^^ c) = y at *
    have ho := odd_eq y hlt
    by_cases hk8 : k < 8
    · by_cases hy : y % 2 = 1
      · have ho' : (bits .and .u32 (y : Int) 1 == 1) = true := by rw [ho, decide_eq_true hy]
        have HY := Lib.hid hy
        clear ho hy
        go_wp2
        go_round
        case rel => exact ⟨k + 1, by omega, by go_num, val_int (by rw [HS.out]; exact step_odd y hlt HY.out)⟩
        case measure => simp [intOf]; omega
      · have ho' : (bits .and .u32 (y : Int) 1 == 1) = false := by rw [ho, decide_eq_false hy]
        have HY := Lib.hid hy
        clear ho hy
        go_wp2
        go_round
        case rel => exact ⟨k + 1, by omega, by go_num, val_int (by rw [HS.out]; exact step_even y HY.out)⟩
        case measure => simp [intOf]; omega
    · clear ho
      go_wp2
      go_ret
      exact ⟨ret_int (by rw [HE.out (by omega)]), rfl⟩

set_option maxHeartbeats 1000000 in
theorem implCrcMore_any (a : Nat) (s : ByteArray) (w : World) (ha : a < 4294967296) (hs : s.size ≤ 8000) :
    Calls Try.prog 17 #[.int .i64 (a : Int), .string s] w fun e w' => e = .returned (.int .i64 (crcOf a s.data.toList : Nat)) ∧ w = w' := by
  have hn := not_eq a ha
  have HN := Lib.hid hn
  clear hn
  go_enter Try.func17, Try.ntmps17
  go_wp2
  go_loop [5, 6] (fun x i => ∃ k : Nat, k ≤ s.size ∧ i = .int .i64 k ∧ x = .int .u32 (crcReg (a ^^^ 4294967295) (s.data.toList.take k) : Nat)) (fun _ i => s.size - (intOf i).toNat)
  case atStart => exact ⟨0, by omega, rfl, val_int HN.out⟩
  case round =>
    obtain ⟨k, hk, rfl, rfl⟩ := hrel
    have hlt := crcReg_lt (xor_lt ha (show 4294967295 < 4294967296 by omega)) (s.data.toList.take k)
    by_cases hks : k < s.size
    · have HS := Lib.hid (crcReg_take (a ^^^ 4294967295) s k hks)
      generalize crcReg (a ^^^ 4294967295) (s.data.toList.take k) = y at *
      have hb := s[k].toNat_lt
      go_wp2_with (go_at_call 39; refine (crcByte_any _ _ _ (by omega) (by omega)).mono ?_; rintro e w' ⟨rfl, rfl⟩)
      go_round
      case rel => exact ⟨k + 1, by omega, by go_num, val_int (by rw [HS.out])⟩
      case measure => simp [intOf]; omega
    · have HE : Hid (crcOf a s.data.toList = crcReg (a ^^^ 4294967295) (s.data.toList.take k) ^^^ 4294967295) := Lib.hid (by rw [List.take_of_length_le (by simp; omega)]; rfl)
      have hol := crcOf_lt ha s.data.toList
      generalize crcReg (a ^^^ 4294967295) (s.data.toList.take k) = y at *
      have HN2 := Lib.hid (not_eq y hlt)
      go_wp2
      go_ret
      exact ⟨ret_int (by rw [HN2.out, ← HE.out]; exact IntWalk.wrap64_in _ ⟨by omega, by omega⟩), rfl⟩

set_option maxHeartbeats 1000000 in
theorem implCrcMore_bad (a : Int) (s : ByteArray) (w : World) (h : 8000 < s.size ∨ a < 0 ∨ 4294967295 < a) (hs : s.size ≤ maxLen) :
    Calls Try.prog 17 #[.int .i64 a, .string s] w fun e w' => e = .returned (.int .i64 0) ∧ w = w' := by
  unfold maxLen at hs
  by_cases h1 : 8000 < s.size
  · go_enter Try.func17, Try.ntmps17
    go_wp2
    go_ret
    exact ⟨rfl, rfl⟩
  · by_cases h2 : a < 0
    · go_enter Try.func17, Try.ntmps17
      go_wp2
      go_ret
      exact ⟨rfl, rfl⟩
    · have h3 : 4294967295 < a := by omega
      go_enter Try.func17, Try.ntmps17
      go_wp2
      go_ret
      exact ⟨rfl, rfl⟩

set_option maxHeartbeats 1000000 in
theorem l01Crc_any (a : Nat) (s : ByteArray) (w : World) (ha : a < 4294967296) (hs : s.size ≤ maxLen) :
    Calls Try.prog 36 #[.int .i64 (a : Int), .string s] w fun e w' => e = .returned (.int .i64 (crcOf a s.data.toList : Nat)) ∧ w = w' := by
  unfold maxLen at hs
  have hn := not_eq' a ha
  have HN := Lib.hid hn
  clear hn
  go_enter Try.func36, Try.ntmps36
  go_wp2
  go_loop [5, 6, 7] (fun x i _ => ∃ k : Nat, k ≤ s.size ∧ i = .int .i64 k ∧ x = .int .u32 (crcReg (a ^^^ 4294967295) (s.data.toList.take k) : Nat)) (fun _ i _ => s.size - (intOf i).toNat)
  case atStart => exact ⟨0, by omega, rfl, val_int HN.out⟩
  case round =>
    obtain ⟨k, hk, rfl, rfl⟩ := hrel
    have hlt := crcReg_lt (xor_lt ha (show 4294967295 < 4294967296 by omega)) (s.data.toList.take k)
    by_cases hks : k < s.size
    · have HS := Lib.hid (crcReg_take (a ^^^ 4294967295) s k hks)
      generalize crcReg (a ^^^ 4294967295) (s.data.toList.take k) = y at *
      have hb := s[k].toNat_lt
      have HX := Lib.hid (xor_eq y s[k].toNat hlt (by omega))
      have hxl := xor_lt hlt (show s[k].toNat < 4294967296 by omega)
      go_wp2
      go_loop [5, 7] (fun x i => ∃ m : Nat, m ≤ 8 ∧ i = .int .i64 m ∧ x = .int .u32 (stepN m (y ^^^ s[k].toNat) : Nat)) (fun _ i => 8 - (intOf i).toNat)
      case atStart => exact ⟨0, by omega, rfl, val_int HX.out⟩
      case round =>
        obtain ⟨m, hm, rfl, rfl⟩ := hrel
        have hlm := stepN_lt hxl m
        have HT : Hid (stepN (m + 1) (y ^^^ s[k].toNat) = step (stepN m (y ^^^ s[k].toNat))) := Lib.hid rfl
        have HE : Hid (m = 8 → byteStep y s[k].toNat = stepN m (y ^^^ s[k].toNat)) := Lib.hid (fun e => by subst e; rfl)
        generalize stepN m (y ^^^ s[k].toNat) = z at *
        have ho := odd_eq z hlm
        by_cases hm8 : m < 8
        · by_cases hz : z % 2 = 1
          · have ho' : (bits .and .u32 (z : Int) 1 == 1) = true := by rw [ho, decide_eq_true hz]
            have HZ := Lib.hid hz
            clear ho hz
            go_wp2
            go_round
            case rel => exact ⟨m + 1, by omega, by go_num, val_int (by rw [HT.out]; exact step_odd z hlm HZ.out)⟩
            case measure => simp [intOf]; omega
          · have ho' : (bits .and .u32 (z : Int) 1 == 1) = false := by rw [ho, decide_eq_false hz]
            have HZ := Lib.hid hz
            clear ho hz
            go_wp2
            go_round
            case rel => exact ⟨m + 1, by omega, by go_num, val_int (by rw [HT.out]; exact step_even z HZ.out)⟩
            case measure => simp [intOf]; omega
        · clear ho
          go_wp2
          go_round
          case rel => exact ⟨k + 1, by omega, by go_num, val_int (by rw [HS.out, HE.out (by omega)])⟩
          case measure => simp [intOf]; omega
    · have HE : Hid (crcOf a s.data.toList = crcReg (a ^^^ 4294967295) (s.data.toList.take k) ^^^ 4294967295) := Lib.hid (by rw [List.take_of_length_le (by simp; omega)]; rfl)
      have hol := crcOf_lt ha s.data.toList
      generalize crcReg (a ^^^ 4294967295) (s.data.toList.take k) = y at *
      have HN2 := Lib.hid (not_eq' y hlt)
      go_wp2
      go_ret
      exact ⟨ret_int (by rw [HN2.out, ← HE.out]; exact IntWalk.wrap64_in _ ⟨by omega, by omega⟩), rfl⟩

/-- what both programs hand back for a CRC that goes on -/
def crcMoreOf (a : Int) (s : ByteArray) : Int := if 8000 < s.size ∨ a < 0 ∨ 4294967295 < a then 0 else (crcOf a.toNat s.data.toList : Nat)

theorem implCrcMore_all (a : Int) (s : ByteArray) (w : World) (hs : s.size ≤ maxLen) :
    Calls Try.prog 17 #[.int .i64 a, .string s] w fun e w' => e = .returned (.int .i64 (crcMoreOf a s)) ∧ w = w' := by
  by_cases h : 8000 < s.size ∨ a < 0 ∨ 4294967295 < a
  · unfold crcMoreOf; rw [if_pos h]; exact implCrcMore_bad a s w h hs
  · unfold crcMoreOf; rw [if_neg h]
    obtain ⟨n, rfl⟩ := Int.eq_ofNat_of_zero_le (show 0 ≤ a by omega)
    exact implCrcMore_any n s w (by omega) (by omega)

set_option maxHeartbeats 1000000 in
theorem specCrcMore_all (a : Int) (s : ByteArray) (w : World) (hs : s.size ≤ maxLen) :
    Calls Try.prog 18 #[.int .i64 a, .string s] w fun e w' => e = .returned (.int .i64 (crcMoreOf a s)) ∧ w = w' := by
  have hs' := hs
  unfold maxLen at hs
  unfold crcMoreOf
  by_cases h1 : 8000 < s.size
  · rw [if_pos (by omega)]
    go_enter Try.func18, Try.ntmps18
    go_wp2
    go_ret
    exact ⟨rfl, rfl⟩
  · by_cases h2 : a < 0
    · rw [if_pos (by omega)]
      go_enter Try.func18, Try.ntmps18
      go_wp2
      go_ret
      exact ⟨rfl, rfl⟩
    · by_cases h3 : 4294967295 < a
      · rw [if_pos (by omega)]
        go_enter Try.func18, Try.ntmps18
        go_wp2
        go_ret
        exact ⟨rfl, rfl⟩
      · rw [if_neg (by omega)]
        obtain ⟨n, rfl⟩ := Int.eq_ofNat_of_zero_le (show 0 ≤ a by omega)
        rw [Int.toNat_natCast]
        go_enter Try.func18, Try.ntmps18
        go_wp2_with (go_at_call 36; refine (l01Crc_any n s _ (by omega) hs').mono ?_; rintro e w' ⟨rfl, rfl⟩)
        go_ret
        exact ⟨rfl, rfl⟩

set_option maxHeartbeats 400000 in
theorem implCrc_all (s : ByteArray) (w : World) (hs : s.size ≤ maxLen) :
    Calls Try.prog 19 #[.string s] w fun e w' => e = .returned (.int .i64 (crcMoreOf 0 s)) ∧ w = w' := by
  go_enter Try.func19, Try.ntmps19
  go_wp2_with (go_at_call 17; refine (implCrcMore_all 0 s _ hs).mono ?_; rintro e w' ⟨rfl, rfl⟩)
  go_ret
  exact ⟨rfl, rfl⟩

theorem crcMoreOf_long {a : Int} {s : ByteArray} (h : 8000 < s.size) : crcMoreOf a s = 0 := by unfold crcMoreOf; rw [if_pos (by omega)]
theorem crcMoreOf_short {s : ByteArray} (h : ¬ 8000 < s.size) : crcMoreOf 0 s = (crcOf 0 s.data.toList : Nat) := by unfold crcMoreOf; rw [if_neg (by omega)]; rfl

set_option maxHeartbeats 400000 in
theorem specCrc_all (s : ByteArray) (w : World) (hs : s.size ≤ maxLen) :
    Calls Try.prog 26 #[.string s] w fun e w' => e = .returned (.int .i64 (crcMoreOf 0 s)) ∧ w = w' := by
  have hs' := hs
  unfold maxLen at hs
  by_cases h1 : 8000 < s.size
  · rw [crcMoreOf_long h1]
    go_enter Try.func26, Try.ntmps26
    go_wp2
    go_ret
    exact ⟨rfl, rfl⟩
  · rw [crcMoreOf_short h1]
    go_enter Try.func26, Try.ntmps26
    go_wp2_with (go_at_call 36; refine (l01Crc_any 0 s _ (by omega) hs').mono ?_; rintro e w' ⟨rfl, rfl⟩)
    go_ret
    exact ⟨rfl, rfl⟩

end Go.Proofs.Ytldencefagnhfaa
