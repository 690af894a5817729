/- The plain arithmetic of numbers in bytes: the fold of the sign, and seven bits a byte. No program stands in this text. -/
import Derived.Test.YtldencefagnhfaaDoorRows
import Derived.Laws.BitsAllLaws
import Derived.IntWalk
import Derived.Laws.IdiomStrings
import Derived.Laws.OwnMore
namespace Go.Proofs.YtldencefagnhfaaDoor
open Go.RowKit

/-- a byte as a cell holds it -/
def bv (b : UInt8) : Value := .int .u8 (b.toNat : Int)
/-- a text of these bytes -/
def bs (l : List UInt8) : ByteArray := ⟨l.toArray⟩
theorem bs_data (l : List UInt8) : (bs l).data.toList = l := rfl
theorem bs_size (l : List UInt8) : (bs l).size = l.length := rfl
theorem bs_of (s : ByteArray) : bs s.data.toList = s := rfl
theorem bv_one (l : List UInt8) : ∀ u ∈ l.map bv, u.oneCell' = true := by
  intro u hu
  obtain ⟨b, _, rfl⟩ := List.mem_map.1 hu
  rfl

/-- u: 2 times n, or -2 times n less 1 -/
def foldN (n : Int) : Nat := if n < 0 then (-2 * n - 1).toNat else (2 * n).toNat
theorem foldN_lt {n : Int} (h1 : -9223372036854775808 ≤ n) (h2 : n ≤ 9223372036854775807) : foldN n < 18446744073709551616 := by unfold foldN; split <;> omega

/-- seven bits a byte, the lowest first, 128 more in all bytes but the last one -/
def putF : Nat → Nat → List UInt8
  | 0, u => [UInt8.ofNat u]
  | f + 1, u => if u < 128 then [UInt8.ofNat u] else UInt8.ofNat (u % 128 + 128) :: putF f (u / 128)
def putU (u : Nat) : List UInt8 := putF 10 u
def putN (n : Int) : List UInt8 := putU (foldN n)

theorem putF_small {f u : Nat} (h : u < 128) : putF f u = [UInt8.ofNat u] := by
  cases f with
  | zero => rfl
  | succ f => simp [putF, h]
theorem putF_big {f u : Nat} (h : 128 ≤ u) : putF (f + 1) u = UInt8.ofNat (u % 128 + 128) :: putF f (u / 128) := by
  simp [putF, show ¬ u < 128 by omega]
theorem putF_length (f u : Nat) : 1 ≤ (putF f u).length ∧ (putF f u).length ≤ f + 1 := by
  induction f generalizing u with
  | zero => simp [putF]
  | succ f ih =>
    by_cases h : u < 128
    · rw [putF_small h]; simp
    · rw [putF_big (by omega)]; have := ih (u / 128); simp; omega

/-- where the loop stands: of u the bytes l are written, x is left, and there is room for f bytes more -/
def PutAt (u x f : Nat) (l : List UInt8) : Prop := l.length + f = 10 ∧ x < 128 ^ f ∧ putU u = l ++ putF f x
theorem PutAt.start {u : Nat} (h : u < 18446744073709551616) : PutAt u u 10 [] := ⟨rfl, by omega, rfl⟩
theorem PutAt.go {u x f : Nat} {l : List UInt8} (h : PutAt u x f l) (hx : 128 ≤ x) : ∃ g, f = g + 1 ∧ PutAt u (x / 128) g (l ++ [UInt8.ofNat (x % 128 + 128)]) := by
  obtain ⟨h1, h2, h3⟩ := h
  cases f with
  | zero => simp at h2; omega
  | succ g =>
    refine ⟨g, rfl, by simp; omega, ?_, by rw [h3, putF_big hx]; simp⟩
    rw [Nat.pow_succ] at h2
    exact Nat.div_lt_of_lt_mul (by omega)
theorem PutAt.stop {u x f : Nat} {l : List UInt8} (h : PutAt u x f l) (hx : x < 128) : putU u = l ++ [UInt8.ofNat x] := by rw [h.2.2, putF_small hx]

/- the walk's own spellings -/
theorem byte_hi (x : Nat) : (UInt8.ofNat (x % 128 + 128)).toNat = x % 128 + 128 := by simp; omega
theorem byte_lo {x : Nat} (h : x < 128) : (UInt8.ofNat x).toNat = x := by simp; omega
theorem and127 (x : Nat) (h : x < 18446744073709551616) : bits .and .u64 (x : Int) 127 = ((x % 128 : Nat) : Int) := by
  have e := u64_and_nat x 127 h (by omega)
  rw [show (127 : Nat) = 2 ^ 7 - 1 from rfl, Nat.and_two_pow_sub_one_eq_mod] at e
  exact e
theorem or128 (x : Nat) (h : x < 128) : bits .or .u8 (x : Int) 128 = ((x + 128 : Nat) : Int) := by
  have e := u8_or_nat x 128 (by omega) (by omega)
  have e2 : x ||| 128 = x + 128 := by
    have h2 := Nat.two_pow_add_eq_or_of_lt (i := 7) (b := x) (by omega) 1
    rw [Nat.or_comm]
    have h3 : (2 ^ 7 * 1 : Nat) = 128 := rfl
    rw [h3] at h2
    omega
  rw [e2] at e; exact e
theorem not64 (x : Nat) (h : x < 18446744073709551616) : bits .xor .u64 IntKind.u64.max (x : Int) = ((18446744073709551615 - x : Nat) : Int) := by
  have e := u64_xor_nat 18446744073709551615 x (by omega) h
  have e2 : 18446744073709551615 ^^^ x = 18446744073709551615 - x := by
    have h1 : (BitVec.allOnes 64 ^^^ BitVec.ofNat 64 x) = ~~~ (BitVec.ofNat 64 x) := by rw [BitVec.xor_comm, BitVec.xor_allOnes]
    have h2 := congrArg BitVec.toNat h1
    rw [BitVec.toNat_xor, BitVec.toNat_not, BitVec.toNat_allOnes, BitVec.toNat_ofNat, Nat.mod_eq_of_lt h] at h2
    exact h2
  rw [e2] at e; exact e
end Go.Proofs.YtldencefagnhfaaDoor
