/- The plain arithmetic of the CRC: the register's step, byte by byte, over natural numbers below 2^32. No program stands in this text. -/
import Derived.Test.YtldencefagnhfaaRows
import Derived.Laws.BitsAllLaws
import Derived.IntWalk
namespace Go.Proofs.Ytldencefagnhfaa
open Go.RowKit

def step (r : Nat) : Nat := if r % 2 = 1 then (r / 2) ^^^ 3988292384 else r / 2
def stepN : Nat → Nat → Nat
  | 0, r => r
  | k + 1, r => step (stepN k r)
def byteStep (r c : Nat) : Nat := stepN 8 (r ^^^ c)
def crcReg (r : Nat) (l : List UInt8) : Nat := l.foldl (fun r c => byteStep r c.toNat) r
def crcOf (a : Nat) (l : List UInt8) : Nat := crcReg (a ^^^ 4294967295) l ^^^ 4294967295

theorem xor_lt {a b : Nat} (ha : a < 4294967296) (hb : b < 4294967296) : a ^^^ b < 4294967296 := Nat.xor_lt_two_pow (n := 32) ha hb
theorem step_lt {r : Nat} (h : r < 4294967296) : step r < 4294967296 := by
  unfold step; split
  · exact xor_lt (by omega) (by omega)
  · omega
theorem stepN_lt {r : Nat} (h : r < 4294967296) (k : Nat) : stepN k r < 4294967296 := by
  induction k with
  | zero => exact h
  | succ k ih => exact step_lt ih
theorem byteStep_lt {r c : Nat} (h : r < 4294967296) (hc : c < 256) : byteStep r c < 4294967296 := stepN_lt (xor_lt h (by omega)) 8
theorem crcReg_lt {r : Nat} (h : r < 4294967296) (l : List UInt8) : crcReg r l < 4294967296 := by
  unfold crcReg
  induction l generalizing r with
  | nil => exact h
  | cons c l ih => exact ih (byteStep_lt h c.toNat_lt)
theorem crcOf_lt {a : Nat} (h : a < 4294967296) (l : List UInt8) : crcOf a l < 4294967296 := xor_lt (crcReg_lt (xor_lt h (by omega)) l) (by omega)
theorem crcReg_snoc (r : Nat) (l : List UInt8) (c : UInt8) : crcReg r (l ++ [c]) = byteStep (crcReg r l) c.toNat := by
  unfold crcReg; rw [List.foldl_append]; rfl
theorem crcReg_append (r : Nat) (l m : List UInt8) : crcReg r (l ++ m) = crcReg (crcReg r l) m := by
  unfold crcReg; rw [List.foldl_append]
theorem crcReg_take (r : Nat) (s : ByteArray) (k : Nat) (h : k < s.size) : crcReg r (s.data.toList.take (k + 1)) = byteStep (crcReg r (s.data.toList.take k)) s[k].toNat := by
  rw [List.take_succ_eq_append_getElem (by simpa using h), crcReg_snoc]; rfl
theorem crcOf_append (a : Nat) (l m : List UInt8) : crcOf (crcOf a l) m = crcOf a (l ++ m) := by
  unfold crcOf; rw [crcReg_append, Nat.xor_assoc, Nat.xor_self, Nat.xor_zero]

/- the walk's own spellings -/
theorem odd_eq (y : Nat) (h : y < 4294967296) : (bits .and .u32 (y : Int) 1 == 1) = decide (y % 2 = 1) := by
  have e := u32_and_nat y 1 h (by omega)
  rw [Nat.and_one_is_mod] at e
  have e' : bits .and .u32 (y : Int) 1 = ((y % 2 : Nat) : Int) := e
  rw [e', Bool.eq_iff_iff]; simp; omega
theorem step_odd (y : Nat) (h : y < 4294967296) (ho : y % 2 = 1) : bits .xor .u32 ((y : Int) / 2) 3988292384 = ((step y : Nat) : Int) := by
  have e := u32_xor_nat (y / 2) 3988292384 (by omega) (by omega)
  unfold step; rw [if_pos ho, ← e]; rfl
theorem step_even (y : Nat) (ho : ¬ y % 2 = 1) : (y : Int) / 2 = ((step y : Nat) : Int) := by
  unfold step; rw [if_neg ho]; omega
theorem not_eq (y : Nat) (h : y < 4294967296) : bits .xor .u32 IntKind.u32.max (y : Int) = ((y ^^^ 4294967295 : Nat) : Int) := by
  have e := u32_xor_nat 4294967295 y (by omega) h
  rw [Nat.xor_comm, ← e]; rfl
theorem not_eq' (y : Nat) (h : y < 4294967296) : bits .xor .u32 (y : Int) 4294967295 = ((y ^^^ 4294967295 : Nat) : Int) := by
  have e := u32_xor_nat y 4294967295 h (by omega)
  rw [← e]; rfl
theorem xor_eq (y c : Nat) (h : y < 4294967296) (hc : c < 4294967296) : bits .xor .u32 (y : Int) (c : Int) = ((y ^^^ c : Nat) : Int) := u32_xor_nat y c h hc
end Go.Proofs.Ytldencefagnhfaa
