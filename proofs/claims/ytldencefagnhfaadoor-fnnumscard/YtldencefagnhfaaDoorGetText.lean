/- The walks of readText and GetText, the program's and the model's. -/
import Derived.Test.YtldencefagnhfaaDoorSpecNum
import Derived.Test.YtldencefagnhfaaDoorText
namespace Go.Proofs.YtldencefagnhfaaDoor
open Go Go.RowKit

theorem unfoldN_range {u : Nat} (h : u < 18446744073709551616) : -9223372036854775808 ≤ unfoldN u ∧ unfoldN u ≤ 9223372036854775807 := by unfold unfoldN; split <;> omega
theorem goN_ok {s : ByteArray} {p : Nat} {n a : Int} : ∀ (f k : Nat), k + f = 10 → goN s p f k = (n, a, 0) → (0 ≤ a ∧ a ≤ s.size) ∧ -9223372036854775808 ≤ n ∧ n ≤ 9223372036854775807
  | 0, k, _, h => by simp [goN] at h
  | f + 1, k, hk, h => by
    by_cases h1 : s.size ≤ p + k
    · rw [goN_short h1] at h; simp at h
    by_cases h2 : k = 9 ∧ 1 < byteN s (p + k)
    · rw [goN_tenth h1 h2] at h; simp at h
    by_cases h3 : byteN s (p + k) < 128
    · by_cases h4 : byteN s (p + k) = 0 ∧ 0 < k
      · rw [goN_zero h1 h2 h3 h4] at h; simp at h
      · rw [goN_last h1 h2 h3 h4] at h
        injection h with e1 e2
        injection e2 with e2 _
        have := unfoldN_range (acc_step_lt (s := s) (p := p) (show k ≤ 9 by omega) h2)
        rw [e1] at this
        exact ⟨by omega, this⟩
    · rw [goN_more h1 h2 h3] at h
      exact goN_ok f (k + 1) (by omega) h
theorem readOf_ok {s : ByteArray} {at_ n a : Int} (h : readOf s at_ = (n, a, 0)) : (0 ≤ a ∧ a ≤ s.size) ∧ -9223372036854775808 ≤ n ∧ n ≤ 9223372036854775807 := by
  unfold readOf at h
  split at h
  · simp at h
  · exact goN_ok 10 0 rfl h

/-- the text, the place behind it, the code -/
def textOf (s : ByteArray) (r : Int × Int × Int) : ByteArray × Int × Int :=
  if ¬ r.2.2 = 0 then (bs [], 0, r.2.2) else if r.1 < 0 ∨ 8000 < r.1 then (bs [], 0, 3) else if (s.size : Int) - r.2.1 < r.1 then (bs [], 0, 4) else (s.extract r.2.1.toNat (r.2.1 + r.1).toNat, r.2.1 + r.1, 0)
theorem textOf_err {s : ByteArray} {n a c : Int} (h : ¬ c = 0) : textOf s (n, a, c) = (bs [], 0, c) := if_pos h
theorem textOf_form {s : ByteArray} {n a : Int} (h : n < 0 ∨ 8000 < n) : textOf s (n, a, 0) = (bs [], 0, 3) := by unfold textOf; rw [if_neg (by simp), if_pos h]
theorem textOf_short {s : ByteArray} {n a : Int} (h : ¬ (n < 0 ∨ 8000 < n)) (h2 : (s.size : Int) - a < n) : textOf s (n, a, 0) = (bs [], 0, 4) := by unfold textOf; rw [if_neg (by simp), if_neg h, if_pos h2]
theorem textOf_ok {s : ByteArray} {n a : Int} (h : ¬ (n < 0 ∨ 8000 < n)) (h2 : ¬ (s.size : Int) - a < n) : textOf s (n, a, 0) = (s.extract a.toNat (a + n).toNat, a + n, 0) := by unfold textOf; rw [if_neg (by simp), if_neg h, if_neg h2]

def txt (r : ByteArray × Int × Int) : Value := .tuple #[.string r.1, .int .i64 r.2.1, errOf r.2.2]
theorem errOf_ne {c : Int} (h : ¬ c = 0) : errOf c = .iface 56 (.agg #[.int .i64 c]) := if_neg h

set_option maxRecDepth 100000 in
set_option maxHeartbeats 1000000 in
theorem readText_any (s : ByteArray) (at_ : Int) (w : World) (hs : s.size ≤ 8000) (ha : -9223372036854775808 ≤ at_) (hb : at_ ≤ 9223372036854775807) :
    Calls Tryd.prog 28 #[.string s, .int .i64 at_] w fun e w' => e = .returned (txt (textOf s (readOf s at_))) ∧ Below w.heap.size w w' := by
  obtain ⟨n, a, c, hr⟩ : ∃ n a c, readOf s at_ = (n, a, c) := ⟨_, _, _, rfl⟩
  have R := Lib.hid (fun w => readNum_any s at_ w hs ha hb)
  simp only [rdOf] at R
  rw [hr] at R ⊢
  by_cases hc : c = 0
  · subst hc
    obtain ⟨⟨ha0, ha1⟩, hn0, hn1⟩ := readOf_ok hr
    have HE : Hid (errOf 0 = .nilIface) := Lib.hid rfl
    rw [HE.out] at R
    clear hr
    by_cases h1 : n < 0 ∨ 8000 < n
    · have HT : Hid (textOf s (n, a, 0) = (bs [], 0, 3)) := Lib.hid (textOf_form h1)
      have HX : Hid (txt (bs [], 0, 3) = .tuple #[.string (bs []), .int .i64 0, .iface 56 (.agg #[.int .i64 3])]) := Lib.hid rfl
      rw [HT.out, HX.out]
      by_cases h1a : n < 0
      · clear h1
        go_enter Tryd.func28, Tryd.ntmps28
        go_wp2_with fail
        refine (R.out _).mono ?_
        rintro e w1 ⟨rfl, hb1⟩
        go_wp2
        go_ret3
        exact ⟨rfl, hb1⟩
      · have h1b : 8000 < n := by omega
        have d1 : decide (n < 0) = false := decide_eq_false h1a
        clear h1
        go_enter Tryd.func28, Tryd.ntmps28
        go_wp2_with fail
        refine (R.out _).mono ?_
        rintro e w1 ⟨rfl, hb1⟩
        go_wp2
        go_ret3
        exact ⟨rfl, hb1⟩
    · have d1 : decide (n < 0) = false := decide_eq_false (by omega)
      have d2 : decide (8000 < n) = false := decide_eq_false (by omega)
      have g0 : 0 ≤ n := by omega
      have g1 : n ≤ 8000 := by omega
      by_cases h2 : (s.size : Int) - a < n
      · have HT : Hid (textOf s (n, a, 0) = (bs [], 0, 4)) := Lib.hid (textOf_short h1 h2)
        have HX : Hid (txt (bs [], 0, 4) = .tuple #[.string (bs []), .int .i64 0, .iface 56 (.agg #[.int .i64 4])]) := Lib.hid rfl
        rw [HT.out, HX.out]
        clear h1
        go_enter Tryd.func28, Tryd.ntmps28
        go_wp2_with fail
        refine (R.out _).mono ?_
        rintro e w1 ⟨rfl, hb1⟩
        go_wp2
        go_ret3
        exact ⟨rfl, hb1⟩
      · have HT : Hid (textOf s (n, a, 0) = (s.extract a.toNat (a + n).toNat, a + n, 0)) := Lib.hid (textOf_ok h1 h2)
        have HX : Hid (txt (s.extract a.toNat (a + n).toNat, a + n, 0) = .tuple #[.string (s.extract a.toNat (a + n).toNat), .int .i64 (a + n), .nilIface]) := Lib.hid rfl
        rw [HT.out, HX.out]
        clear h1
        go_enter Tryd.func28, Tryd.ntmps28
        go_wp2_with fail
        refine (R.out _).mono ?_
        rintro e w1 ⟨rfl, hb1⟩
        go_wp2_with fail
        refine (cutText_int _ _ _ _ (by omega) (by omega) (by omega) (by omega)).mono ?_
        rintro e w2 ⟨rfl, hb2⟩
        go_wp2
        go_ret3
        exact ⟨rfl, hb1.trans (hb2.mono hb1.size)⟩
  · have HT : Hid (textOf s (n, a, c) = (bs [], 0, c)) := Lib.hid (textOf_err hc)
    have HX : Hid (txt (bs [], 0, c) = .tuple #[.string (bs []), .int .i64 0, .iface 56 (.agg #[.int .i64 c])]) := Lib.hid (by unfold txt; rw [errOf_ne hc])
    rw [HT.out, HX.out]
    have HE := Lib.hid (errOf_ne hc)
    rw [HE.out] at R
    clear hr
    go_enter Tryd.func28, Tryd.ntmps28
    go_wp2_with fail
    refine (R.out _).mono ?_
    rintro e w1 ⟨rfl, hb1⟩
    go_wp2
    go_ret3
    exact ⟨rfl, hb1⟩

/-- a TextOut as a value -/
def txo (r : ByteArray × Int × Int) : Value := .agg #[.string r.1, .int .i64 r.2.1, .int .i64 r.2.2]

set_option maxRecDepth 100000 in
set_option maxHeartbeats 1000000 in
theorem implGetText_any (s : ByteArray) (at_ : Int) (w : World) (hs : s.size ≤ maxLen) (ha : -9223372036854775808 ≤ at_) (hb : at_ ≤ 9223372036854775807) (hl : Laid w) :
    Calls Tryd.prog 13 #[.string s, .int .i64 at_] w fun e w' => e = .returned (txo (textOf s (numOf s at_))) ∧ Below w.heap.size w w' := by
  unfold maxLen at hs
  have HL := Lib.hid hl
  clear hl
  by_cases h1 : 8000 < s.size
  · have HN : Hid (textOf s (numOf s at_) = (bs [], 0, 2)) := Lib.hid (by rw [show numOf s at_ = (0, 0, 2) from if_pos h1]; exact textOf_err (by decide))
    rw [HN.out]
    go_enter Tryd.func13, Tryd.ntmps13
    go_wp2
    exact bodyPost_ret (v := txo (bs [], 0, 2)) (by simp [results, Tryd.results13, go_sem, txo, bs]) rfl ⟨rfl, (Below.refl _ _).alloc (Nat.le_refl _) _⟩
  · have HN : Hid (numOf s at_ = readOf s at_) := Lib.hid (if_neg h1)
    rw [HN.out]
    have R := Lib.hid (fun w => readText_any s at_ w (by omega) ha hb)
    obtain ⟨t, a, c, hr⟩ : ∃ t a c, textOf s (readOf s at_) = (t, a, c) := ⟨_, _, _, rfl⟩
    rw [hr] at R ⊢
    simp only [txt] at R
    have F := Lib.hid (fun w => faultCode_any c w)
    clear hr
    go_enter Tryd.func13, Tryd.ntmps13
    go_wp2_with fail
    refine (R.out _).mono ?_
    rintro e w1 ⟨rfl, hb1⟩
    rw [World.size_alloc] at hb1
    have HL1 := Lib.hid ((HL.out.alloc (.cells #[.string ⟨#[]⟩, .int .i64 0, .int .i64 0] 31)).later hb1 (by omega))
    generalize errOf c = E at F ⊢
    go_wp2_with fail
    refine (F.out _ HL1.out).mono ?_
    rintro e w2 ⟨rfl, hb2⟩
    have hb := bel2 hb1 hb2
    obtain ⟨⟨c0, c1, c2⟩, ⟨f0, f1, f2⟩, _⟩ := keep3 hb
    go_wp2
    exact bodyPost_ret (v := txo (t, a, c)) (by simp [results, Tryd.results13, go_sem, txo, c0, c1, c2]) rfl ⟨rfl, bel3 hb⟩
end Go.Proofs.YtldencefagnhfaaDoor
