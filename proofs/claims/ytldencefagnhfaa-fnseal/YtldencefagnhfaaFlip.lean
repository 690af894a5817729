/- The plain arithmetic of promise 2: one byte turned gives another CRC, so a seal with one byte turned is none. No program stands in this text. -/
import Derived.Test.YtldencefagnhfaaUnseal
namespace Go.Proofs.Ytldencefagnhfaa
open Go.RowKit

theorem top_odd {a : Nat} (h : a < 2147483648) : 2147483648 ≤ a ^^^ 3988292384 := by
  have h1 : (a ^^^ 3988292384).testBit 31 = true := by
    rw [Nat.testBit_xor, Nat.testBit_lt_two_pow (x := a) (i := 31) h]
    decide
  exact Nat.ge_two_pow_of_testBit h1
theorem xor_cancel {a b c : Nat} (h : a ^^^ c = b ^^^ c) : a = b := by
  have := congrArg (· ^^^ c) h
  simpa [Nat.xor_assoc] using this
theorem xor_cancel_left {a b c : Nat} (h : c ^^^ a = c ^^^ b) : a = b := by
  rw [Nat.xor_comm c a, Nat.xor_comm c b] at h; exact xor_cancel h
theorem step_inj {a b : Nat} (ha : a < 4294967296) (hb : b < 4294967296) (h : step a = step b) : a = b := by
  unfold step at h
  by_cases oa : a % 2 = 1 <;> by_cases ob : b % 2 = 1
  · rw [if_pos oa, if_pos ob] at h
    have := xor_cancel h; omega
  · rw [if_pos oa, if_neg ob] at h
    have := top_odd (a := a / 2) (by omega); omega
  · rw [if_neg oa, if_pos ob] at h
    have := top_odd (a := b / 2) (by omega); omega
  · rw [if_neg oa, if_neg ob] at h; omega
theorem stepN_inj {a b : Nat} (ha : a < 4294967296) (hb : b < 4294967296) (k : Nat) (h : stepN k a = stepN k b) : a = b := by
  induction k with
  | zero => exact h
  | succ k ih => exact ih (step_inj (stepN_lt ha k) (stepN_lt hb k) h)
theorem byteStep_inj {r r' c : Nat} (h1 : r < 4294967296) (h2 : r' < 4294967296) (hc : c < 256) (h : byteStep r c = byteStep r' c) : r = r' :=
  xor_cancel (stepN_inj (xor_lt h1 (by omega)) (xor_lt h2 (by omega)) 8 h)
theorem byteStep_inj' {r c c' : Nat} (h1 : r < 4294967296) (hc : c < 256) (hc' : c' < 256) (h : byteStep r c = byteStep r c') : c = c' :=
  xor_cancel_left (stepN_inj (xor_lt h1 (by omega)) (xor_lt h1 (by omega)) 8 h)
theorem crcReg_inj {r r' : Nat} (h1 : r < 4294967296) (h2 : r' < 4294967296) (l : List UInt8) (h : crcReg r l = crcReg r' l) : r = r' := by
  induction l generalizing r r' with
  | nil => exact h
  | cons c l ih =>
    have := ih (byteStep_lt h1 c.toNat_lt) (byteStep_lt h2 c.toNat_lt) h
    exact byteStep_inj h1 h2 c.toNat_lt this
theorem crcOf_turn {a : Nat} (ha : a < 4294967296) (l m : List UInt8) (x y : UInt8) (h : crcOf a (l ++ x :: m) = crcOf a (l ++ y :: m)) : x = y := by
  have hr := xor_lt ha (show 4294967295 < 4294967296 by omega)
  have h1 := xor_cancel h
  rw [crcReg_append, crcReg_append] at h1
  have hl := crcReg_lt hr l
  have h2 : crcReg (byteStep (crcReg (a ^^^ 4294967295) l) x.toNat) m = crcReg (byteStep (crcReg (a ^^^ 4294967295) l) y.toNat) m := h1
  have h3 := crcReg_inj (byteStep_lt hl x.toNat_lt) (byteStep_lt hl y.toNat_lt) m h2
  exact UInt8.toNat_inj.1 (byteStep_inj' hl x.toNat_lt y.toNat_lt h3)
theorem four_inj {a b : Nat} (ha : a < 4294967296) (hb : b < 4294967296) (h : four a = four b) : a = b := by
  simp only [four, List.cons.injEq, and_true] at h
  obtain ⟨h0, h1, h2, h3⟩ := h
  have e0 := congrArg UInt8.toNat h0
  have e1 := congrArg UInt8.toNat h1
  have e2 := congrArg UInt8.toNat h2
  have e3 := congrArg UInt8.toNat h3
  simp at e0 e1 e2 e3
  omega

theorem tcut_data (s : ByteArray) : (tcut s).data.toList = s.data.toList.take (s.size - 4) := by
  unfold tcut; rw [Lib.extract_data]; simp
theorem tcut_app (l m : List UInt8) (hm : m.length = 4) : tcut (bs (l ++ m)) = bs l := by
  have h : (tcut (bs (l ++ m))).data.toList = l := by
    rw [tcut_data, bs_data, bs_size, List.length_append, hm, Nat.add_sub_cancel, List.take_left]
  calc tcut (bs (l ++ m)) = bs ((tcut (bs (l ++ m))).data.toList) := rfl
    _ = bs l := by rw [h]

/-- a sealed text comes back -/
theorem unseal_seal (t : ByteArray) (h : ¬ 7996 < t.size) : unsealOf (sealOf t) = (t, 0) := by
  rw [sealOf_short h]
  have hs : (bs (t.data.toList ++ four (crcOf 0 t.data.toList))).size = t.size + 4 := by rw [bs_size, List.length_append]; rfl
  have hc : tcut (bs (t.data.toList ++ four (crcOf 0 t.data.toList))) = t := tcut_app _ _ rfl
  unfold unsealOf
  rw [if_neg (by omega), if_neg (by omega), hc, sealOf_short h, if_pos rfl]

/-- with one byte turned it is refused -/
theorem unseal_turned (t : ByteArray) (h : ¬ 7996 < t.size) (l m : List UInt8) (x y : UInt8) (hxy : x ≠ y) (e : t.data.toList ++ four (crcOf 0 t.data.toList) = l ++ x :: m) :
    unsealOf (bs (l ++ y :: m)) = (bs [], 5) := by
  have hn : t.data.toList.length = t.size := rfl
  have hlen : t.size + 4 = l.length + (m.length + 1) := by
    have := congrArg List.length e
    simpa [four, hn] using this
  have hs : (bs (l ++ y :: m)).size = t.size + 4 := by rw [bs_size, List.length_append, List.length_cons]; omega
  have key : ¬ sealOf (tcut (bs (l ++ y :: m))) = bs (l ++ y :: m) := by
    intro hq
    have ht : (tcut (bs (l ++ y :: m))).data.toList = (l ++ y :: m).take t.size := by rw [tcut_data, hs, bs_data]; rfl
    have hts : (tcut (bs (l ++ y :: m))).size = t.size := by
      have : (tcut (bs (l ++ y :: m))).size = (tcut (bs (l ++ y :: m))).data.toList.length := rfl
      rw [this, ht, List.length_take, List.length_append, List.length_cons]; omega
    rw [sealOf_short (by omega), ht] at hq
    have hq2 : (l ++ y :: m).take t.size ++ four (crcOf 0 ((l ++ y :: m).take t.size)) = l ++ y :: m := congrArg (fun b => b.data.toList) hq
    by_cases hi : l.length < t.size
    · obtain ⟨m1, m2, rfl, hm1⟩ : ∃ m1 m2, m = m1 ++ m2 ∧ l.length + (m1.length + 1) = t.size :=
        ⟨m.take (t.size - l.length - 1), m.drop (t.size - l.length - 1), (List.take_append_drop _ _).symm, by rw [List.length_take]; omega⟩
      have e1 : t.data.toList = l ++ x :: m1 ∧ four (crcOf 0 t.data.toList) = m2 := by
        rw [show l ++ x :: (m1 ++ m2) = (l ++ x :: m1) ++ m2 by simp] at e
        exact List.append_inj e (by rw [hn, List.length_append, List.length_cons]; omega)
      have tk : (l ++ y :: (m1 ++ m2)).take t.size = l ++ y :: m1 := by
        rw [show l ++ y :: (m1 ++ m2) = (l ++ y :: m1) ++ m2 by simp]
        rw [List.take_append_of_le_length (by rw [List.length_append, List.length_cons]; omega), List.take_of_length_le (by rw [List.length_append, List.length_cons]; omega)]
      rw [tk] at hq2
      rw [show l ++ y :: (m1 ++ m2) = (l ++ y :: m1) ++ m2 by simp] at hq2
      have h4 := List.append_cancel_left hq2
      have h5 := h4.trans e1.2.symm
      rw [e1.1] at h5
      have h6 := four_inj (crcOf_lt (by omega) _) (crcOf_lt (by omega) _) h5
      exact hxy (crcOf_turn (by omega) l m1 y x h6).symm
    · obtain ⟨l2, rfl⟩ : ∃ l2, l = t.data.toList ++ l2 := by
        refine ⟨l.drop t.size, ?_⟩
        have h1 := congrArg (List.take t.size) e
        rw [List.take_append_of_le_length (by rw [hn]; exact Nat.le_refl _), List.take_of_length_le (by rw [hn]; exact Nat.le_refl _), List.take_append_of_le_length (by omega)] at h1
        rw [h1, List.take_append_drop]
      rw [List.append_assoc] at e
      have e2 := List.append_cancel_left e
      have tk : (t.data.toList ++ l2 ++ y :: m).take t.size = t.data.toList := by
        rw [List.append_assoc, List.take_append_of_le_length (by rw [hn]; exact Nat.le_refl _), List.take_of_length_le (by rw [hn]; exact Nat.le_refl _)]
      rw [tk, e2, List.append_assoc] at hq2
      have h4 := List.append_cancel_left (List.append_cancel_left hq2)
      injection h4 with h5
      exact hxy h5
  unfold unsealOf
  rw [if_neg (by omega), if_neg (by omega), if_neg key]
end Go.Proofs.Ytldencefagnhfaa
