/- The plain arithmetic of promise 1: a number, or a text, is got back from its bytes; of bytes that end too early nothing is got. No program stands in this text. -/
import Derived.Test.YtldencefagnhfaaDoorGetText
namespace Go.Proofs.YtldencefagnhfaaDoor
open Go Go.RowKit

theorem foldN_back {n : Int} (h1 : -9223372036854775808 ≤ n) (h2 : n ≤ 9223372036854775807) : unfoldN (foldN n) = n := by
  unfold unfoldN foldN
  split <;> split <;> omega
theorem putF_len {f u : Nat} (hf : 1 ≤ f) (h : u < 128 ^ f) : (putF f u).length ≤ f := by
  induction f generalizing u with
  | zero => omega
  | succ f ih =>
    by_cases hu : u < 128
    · rw [putF_small hu]; simp
    · rw [putF_big (by omega), List.length_cons]
      have hf' : 1 ≤ f := by
        rcases Nat.eq_zero_or_pos f with rfl | h0
        · simp at h; omega
        · exact h0
      have := ih hf' (u := u / 128) (by rw [Nat.pow_succ] at h; exact Nat.div_lt_of_lt_mul (by omega))
      omega

theorem byteN_bs (l : List UInt8) (k : Nat) : byteN (bs l) k = (l[k]?.getD 0).toNat := rfl

/-- what stands at p in s begins with the bytes L, as far as s goes -/
def Has (s : ByteArray) (p : Nat) (L : List UInt8) : Prop := ∀ j (h : j < L.length), p + j < s.size → byteN s (p + j) = L[j].toNat
theorem Has.tail {s : ByteArray} {p : Nat} {b : UInt8} {L : List UInt8} (h : Has s p (b :: L)) : Has s (p + 1) L := by
  intro j hj hs
  have := h (j + 1) (by simp; omega) (by omega)
  rw [show p + 1 + j = p + (j + 1) by omega, this]; rfl

theorem goN_back {s : ByteArray} {p u : Nat} (hu : u < 18446744073709551616) : ∀ (f k x : Nat), k + f = 10 → 1 ≤ f → x < 128 ^ f → (0 < k → 0 < x) → acc s p k + x * 128 ^ k = u → Has s (p + k) (putF f x) → p + k + (putF f x).length ≤ s.size →
    goN s p f k = (unfoldN u, ((p + k + (putF f x).length : Nat) : Int), 0)
  | 0, _, _, _, h, _, _, _, _, _ => by omega
  | f + 1, k, x, hk, _, hx, hpos, hacc, hhas, hsz => by
    by_cases hs : x < 128
    · rw [putF_small hs] at hhas hsz ⊢
      simp only [List.length_cons, List.length_nil] at hsz
      have hb : byteN s (p + k) = x := by
        have := hhas 0 (by simp) (by omega)
        simpa [Nat.mod_eq_of_lt (show x < 256 by omega)] using this
      have h9 : ¬ (k = 9 ∧ 1 < byteN s (p + k)) := by
        rintro ⟨rfl, h⟩
        rw [hb] at h
        have h2 : 2 * 128 ^ 9 ≤ x * 128 ^ 9 := Nat.mul_le_mul_right _ h
        omega
      have hz : ¬ (byteN s (p + k) = 0 ∧ 0 < k) := by rintro ⟨h0, h1⟩; have := hpos h1; omega
      have ha : acc s p (k + 1) = u := by
        show acc s p k + byteN s (p + k) % 128 * 128 ^ k = u
        rw [hb, Nat.mod_eq_of_lt hs]; exact hacc
      rw [goN_last (by omega) h9 (by omega) hz, ha]; rfl
    · rw [putF_big (by omega)] at hhas hsz ⊢
      simp only [List.length_cons] at hsz
      have hb : byteN s (p + k) = x % 128 + 128 := by
        have := hhas 0 (by simp) (by omega)
        simp at this; omega
      have hf : 1 ≤ f := by
        rcases Nat.eq_zero_or_pos f with rfl | h0
        · simp at hx; omega
        · exact h0
      rw [goN_more (by omega) (by omega) (by omega)]
      rw [goN_back hu f (k + 1) (x / 128) (by omega) hf (by rw [Nat.pow_succ] at hx; exact Nat.div_lt_of_lt_mul (by omega)) (fun _ => by omega) ?_ hhas.tail (by omega)]
      · simp only [List.length_cons]
        rw [show p + (k + 1) + (putF f (x / 128)).length = p + k + ((putF f (x / 128)).length + 1) by omega]
      · show acc s p k + byteN s (p + k) % 128 * 128 ^ k + x / 128 * 128 ^ (k + 1) = u
        rw [hb, show (x % 128 + 128) % 128 = x % 128 by omega, Nat.pow_succ, ← hacc]
        have e : x % 128 * 128 ^ k + x / 128 * (128 ^ k * 128) = x * 128 ^ k := by
          rw [show x / 128 * (128 ^ k * 128) = (x / 128 * 128) * 128 ^ k by rw [Nat.mul_comm (128 ^ k) 128, Nat.mul_assoc], ← Nat.add_mul]
          congr 1; omega
        omega

theorem goN_cut {s : ByteArray} {p : Nat} : ∀ (f k x : Nat), k + f = 10 → 1 ≤ f → x < 128 ^ f → Has s (p + k) (putF f x) → s.size + 1 = p + k + (putF f x).length → goN s p f k = (0, 0, 4)
  | 0, _, _, _, h, _, _, _ => by omega
  | f + 1, k, x, hk, _, hx, hhas, hsz => by
    by_cases hs : x < 128
    · rw [putF_small hs] at hsz
      simp only [List.length_cons, List.length_nil] at hsz
      exact goN_short (by omega)
    · rw [putF_big (by omega)] at hhas hsz
      simp only [List.length_cons] at hsz
      have hf : 1 ≤ f := by
        rcases Nat.eq_zero_or_pos f with rfl | h0
        · simp at hx; omega
        · exact h0
      have hl := (putF_length f (x / 128)).1
      have hb : byteN s (p + k) = x % 128 + 128 := by
        have := hhas 0 (by simp) (by omega)
        simp at this; omega
      rw [goN_more (by omega) (by omega) (by omega)]
      exact goN_cut f (k + 1) (x / 128) (by omega) hf (by rw [Nat.pow_succ] at hx; exact Nat.div_lt_of_lt_mul (by omega)) hhas.tail (by omega)

theorem putN_len {n : Int} (h1 : -9223372036854775808 ≤ n) (h2 : n ≤ 9223372036854775807) : 1 ≤ (putN n).length ∧ (putN n).length ≤ 10 :=
  ⟨(putF_length 10 (foldN n)).1, putF_len (by omega) (by have := foldN_lt h1 h2; omega)⟩

/-- a number comes back from its bytes, wherever they stand -/
theorem num_back {n : Int} (h1 : -9223372036854775808 ≤ n) (h2 : n ≤ 9223372036854775807) (pre post : List UInt8) (hs : (bs (pre ++ putN n ++ post)).size ≤ 8000) :
    numOf (bs (pre ++ putN n ++ post)) (pre.length : Nat) = (n, ((pre.length + (putN n).length : Nat) : Int), 0) := by
  have hu := foldN_lt h1 h2
  have hsz : (bs (pre ++ putN n ++ post)).size = pre.length + (putN n).length + post.length := by rw [bs_size]; simp; omega
  unfold numOf readOf
  rw [if_neg (by omega), if_neg (by omega), Int.toNat_natCast]
  have := goN_back (s := bs (pre ++ putN n ++ post)) (p := pre.length) hu 10 0 (foldN n) rfl (by omega) (by omega) (fun h => by omega) (by simp [acc]) (fun j hj hlt => by
    have hj' : j < (putN n).length := hj
    rw [Nat.add_zero, byteN_bs, List.append_assoc, List.getElem?_append_right (by omega), Nat.add_sub_cancel_left, List.getElem?_append_left hj', List.getElem?_eq_getElem hj']; rfl) (by
      have : (putF 10 (foldN n)).length = (putN n).length := rfl
      omega)
  rw [this, foldN_back h1 h2]; rfl

/-- of a number's bytes that end too early nothing is got -/
theorem num_cut {n : Int} (h1 : -9223372036854775808 ≤ n) (h2 : n ≤ 9223372036854775807) (L : List UInt8) (hL : L = (putN n).take ((putN n).length - 1)) : numOf (bs L) 0 = (0, 0, 4) := by
  have hu := foldN_lt h1 h2
  have hl := putN_len h1 h2
  have hsz : (bs L).size = (putN n).length - 1 := by rw [bs_size, hL, List.length_take]; omega
  unfold numOf readOf
  rw [if_neg (by omega), if_neg (by omega)]
  refine goN_cut (s := bs L) (p := (0 : Int).toNat) 10 0 (foldN n) rfl (by omega) (by omega) (fun j hj hlt => ?_) ?_
  · have hj' : j < (putN n).length := hj
    rw [show (0 : Int).toNat = 0 from rfl] at hlt ⊢
    rw [show 0 + 0 + j = j by omega] at hlt ⊢
    rw [byteN_bs, hL, List.getElem?_take, if_pos (by omega), List.getElem?_eq_getElem hj']; rfl
  · have : (putF 10 (foldN n)).length = (putN n).length := rfl
    rw [hsz, this, show (0 : Int).toNat = 0 from rfl]; omega

theorem ext_bs {s : ByteArray} {l : List UInt8} (h : s.data.toList = l) : s = bs l := by subst h; rfl
/-- a text comes back from its bytes -/
theorem text_back (u : ByteArray) (b : UInt8) (hs : 1 + (putN u.size).length + u.size ≤ 8000) :
    textOf (bs ([b] ++ putN u.size ++ u.data.toList)) (numOf (bs ([b] ++ putN u.size ++ u.data.toList)) 1) = (u, (((putN u.size).length + u.size + 1 : Nat) : Int), 0) := by
  have hn : u.data.toList.length = u.size := rfl
  have hsz : (bs ([b] ++ putN u.size ++ u.data.toList)).size = 1 + (putN u.size).length + u.size := by rw [bs_size, List.length_append, List.length_append, hn]; rfl
  have hb := num_back (n := (u.size : Int)) (by omega) (by omega) [b] u.data.toList (by omega)
  have hb' : numOf (bs ([b] ++ putN u.size ++ u.data.toList)) 1 = ((u.size : Int), ((1 + (putN u.size).length : Nat) : Int), 0) := hb
  rw [hb', textOf_ok (by omega) (by rw [hsz]; omega)]
  have e : (bs ([b] ++ putN u.size ++ u.data.toList)).extract (((1 + (putN u.size).length : Nat) : Int)).toNat ((((1 + (putN u.size).length : Nat) : Int)) + (u.size : Int)).toNat = u := by
    have h1 : ((bs ([b] ++ putN u.size ++ u.data.toList)).extract (((1 + (putN u.size).length : Nat) : Int)).toNat ((((1 + (putN u.size).length : Nat) : Int)) + (u.size : Int)).toNat).data.toList = u.data.toList := by
      rw [Lib.extract_data, bs_data, Int.toNat_natCast, show ((((1 + (putN u.size).length : Nat) : Int)) + (u.size : Int)).toNat = 1 + (putN u.size).length + u.size by omega, Nat.add_sub_cancel_left]
      rw [List.drop_left' (by rw [List.length_append]; rfl), List.take_of_length_le (by rw [hn]; exact Nat.le_refl _)]
    exact ext_bs h1
  rw [e]
  congr 2
  omega
/-- of a text's bytes that end too early nothing is got -/
theorem text_cut (u : ByteArray) (hs : (putN u.size).length + u.size ≤ 8000) (L : List UInt8) (hL : L = (putN u.size ++ u.data.toList).take ((putN u.size).length + u.size - 1)) :
    textOf (bs L) (numOf (bs L) 0) = (bs [], 0, 4) := by
  have hn : u.data.toList.length = u.size := rfl
  have hl := putN_len (n := (u.size : Int)) (by omega) (by omega)
  by_cases h0 : u.size = 0
  · have hu : u.data.toList = [] := List.eq_nil_of_length_eq_zero (by rw [hn]; exact h0)
    have hc := num_cut (n := (u.size : Int)) (by omega) (by omega) L (by rw [hL, hu, List.append_nil, h0, Nat.add_zero])
    rw [hc, textOf_err (by decide)]
  · obtain ⟨m, x, hx⟩ : ∃ m x, u.data.toList = m ++ [x] := by
      rcases List.eq_nil_or_concat u.data.toList with h | ⟨m, x, h⟩
      · rw [h] at hn; simp at hn; omega
      · exact ⟨m, x, by rw [h, List.concat_eq_append]⟩
    have hm : m.length + 1 = u.size := by rw [hx] at hn; simpa using hn
    have hL2 : L = [] ++ putN u.size ++ m := by
      rw [hL, hx, ← List.append_assoc, List.take_append_of_le_length (by rw [List.length_append]; omega), List.take_of_length_le (by rw [List.length_append]; omega)]; rfl
    have hsz : (bs L).size = (putN u.size).length + m.length := by rw [bs_size, hL2, List.length_append]; simp
    have hb := num_back (n := (u.size : Int)) (by omega) (by omega) [] m (by rw [← hL2]; omega)
    rw [← hL2] at hb
    have hb' : numOf (bs L) 0 = ((u.size : Int), ((0 + (putN u.size).length : Nat) : Int), 0) := hb
    rw [hb', textOf_short (by omega) (by rw [hsz]; omega)]
end Go.Proofs.YtldencefagnhfaaDoor
