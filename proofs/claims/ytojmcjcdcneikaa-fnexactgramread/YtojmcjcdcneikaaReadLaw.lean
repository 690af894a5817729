/- What the law asks of a grammar and a code: eqGramOut, markGramOut, heldGramOut; and the walk of the law FnExactGramRead. -/
import Derived.Test.YtojmcjcdcneikaaReadSb
import Derived.Test.YtojmcjcdcneikaaMarkOne
import Derived.Test.YtojmcjcdcneikaaEq
namespace Go.Proofs.Ytojmcjcdcneikaa
open Go.RowKit

set_option maxHeartbeats 1000000 in
theorem eqGramOut_same (v u : Value) (rs : List RuleD) (c : Int) (lo hi lo' hi' : Nat) (w : World) (h : Rules w lo hi v rs) (h' : Rules w lo' hi' u rs) (hh : hi ≤ w.heap.size) (hh' : hi' ≤ w.heap.size) :
    Calls Try.prog 34 #[.agg #[v, .int .i64 c], .agg #[u, .int .i64 c]] w fun e w' => e = .returned (.bool true) ∧ Below w.heap.size w w' := by
  have hb := al2 w (.cells #[v, .int .i64 c] 30) (.cells #[u, .int .i64 c] 30)
  have HE := Lib.hid (eqRs_t (rfl : rs = rs))
  have R1 := (Row.made w 30 #[v, .int .i64 c]).alloc (.cells #[u, .int .i64 c] 30)
  have R2 : Row ((w.alloc (.cells #[v, .int .i64 c] 30)).alloc (.cells #[u, .int .i64 c] 30)) (w.heap.size + 1) 30 #[u, .int .i64 c] := by
    simpa using Row.made (w.alloc (.cells #[v, .int .i64 c] 30)) 30 #[u, .int .i64 c]
  go_enter Try.func34, Try.ntmps34
  go_wp2_with fail
  refine (eqGram_any v u rs rs lo hi lo' hi' _ (h.below hb hh) (h'.below hb hh') (by simp; omega) (by simp; omega)).mono ?_
  rintro e w1 ⟨rfl, b1⟩
  rw [HE.out]
  have c1 := (R1.below b1 (by simp; omega)).cell 1
  have c2 := (R2.below b1 (by simp)).cell 1
  simp at c1 c2
  go_wp2
  go_ret
  exact ⟨rfl, hb.trans (b1.mono (by simp; omega))⟩

set_option maxHeartbeats 1000000 in
theorem markGramOut_one (v : Value) (c : Int) (rs : List RuleD) (lo hi : Nat) (w : World) (h : OwnR w lo hi v rs) (hh : hi ≤ w.heap.size) (h2 : cntTo rs rs.length ≤ 2000000) :
    Calls Try.prog 35 #[.agg #[v, .int .i64 c], .int .i64 1] w fun e w' => ∃ K : Int, e = .returned (.int .i64 K) ∧ 0 ≤ K ∧ K = ((1 + cntTo rs rs.length : Nat) : Int) ∧ OwnR w' lo hi v (markR 1 rs) ∧ Mid lo hi w w' := by
  have hb := al1 w (.cells #[v, .int .i64 c] 30)
  go_enter Try.func35, Try.ntmps35
  go_wp2_with fail
  refine (markGram_any v rs lo hi 1 _ (h.keep (Keeps.below hb hh)) (by simp; omega) (Nat.le_refl _) (by omega)).mono ?_
  rintro e w1 ⟨rfl, o1, m1⟩
  go_wp2
  go_ret
  exact ⟨_, rfl, by omega, rfl, o1, (Mid.of_below hb (Nat.le_refl _)).trans m1⟩

set_option maxHeartbeats 1000000 in
theorem heldGramOut_one (v : Value) (c : Int) (rs : List RuleD) (lo hi : Nat) (w : World) (h : Rules w lo hi v (markR 1 rs)) (hh : hi ≤ w.heap.size) (h2 : cntTo rs rs.length ≤ 2000000) :
    Calls Try.prog 36 #[.agg #[v, .int .i64 c], .int .i64 1] w fun e w' => ∃ K : Int, e = .returned (.int .i64 K) ∧ K = ((1 + cntTo rs rs.length : Nat) : Int) ∧ Below w.heap.size w w' := by
  have hb := al1 w (.cells #[v, .int .i64 c] 30)
  go_enter Try.func36, Try.ntmps36
  go_wp2_with fail
  refine (heldGram_any v rs lo hi 1 _ (h.below hb hh) (by simp; omega) (Nat.le_refl _) (by omega)).mono ?_
  rintro e w1 ⟨rfl, b1⟩
  go_wp2
  go_ret
  exact ⟨_, rfl, rfl, hb.trans (b1.mono (by simp))⟩

theorem readOut_cnt (t : ByteArray) : cntTo (readOut t).1 (readOut t).1.length ≤ 2000 := by
  have h : (readOut t).1 = [] ∨ gramB (readOut t).1 = true := by
    unfold readOut
    split
    · exact .inl rfl
    · split
      · exact .inl rfl
      · rename_i rs hp
        exact .inr (parseT_text hp).2
  rcases h with h | h
  · rw [h]; simp [cntTo]
  · obtain ⟨_, h2, h3⟩ := (gramB_iff _).1 h
    have key : ∀ k, k ≤ (readOut t).1.length → cntTo (readOut t).1 k ≤ 6 * k := by
      intro k
      induction k with
      | zero => intro _; simp [cntTo]
      | succ k ih =>
        intro hk
        have h4 := cntTo_succ (rs := (readOut t).1) (j := k) (by omega)
        have h5 := ((ruleB_iff _).1 (h3 k (by omega))).2.1
        have h6 := ih (by omega)
        omega
    have := key _ (Nat.le_refl _)
    omega
end Go.Proofs.Ytojmcjcdcneikaa
namespace Go.Proofs.Ytojmcjcdcneikaa.fnExactGramRead
open Go.RowKit

set_option maxRecDepth 100000 in
set_option maxHeartbeats 4000000 in
theorem walk (a0 : ByteArray) (w0 : a0.size ≤ maxLen) (w : World) :
    Calls Try.prog 8 #[.string a0] w fun e w' => e = .returned (.bool true) ∧ Below w.heap.size w w' := by
  by_cases hbig : (a0.size : Int) > 1048576
  · go_enter Try.func8, Try.ntmps8
    go_wp2
    go_ret
    exact ⟨rfl, Below.refl _ _⟩
  have hcnt := readOut_cnt a0
  go_enter Try.func8, Try.ntmps8
  go_wp2_with fail
  refine (specGramRead_any a0 _ w0).mono ?_
  rintro e w1 ⟨v1, rfl, O1, b1⟩
  have z1 := b1.size
  have HO1 := Lib.hid O1
  obtain ⟨A1, c1, rfl, -⟩ := O1
  generalize hro : readOut a0 = ro at hcnt HO1
  have HRO := Lib.hid hro
  clear hro
  have A2 := al1 w1 (.cells #[.slice A1 ro.1.length c1, .int .i64 ro.2] 30)
  have R2 := Row.made w1 30 #[.slice A1 ro.1.length c1, .int .i64 ro.2]
  go_wp2_with fail
  refine (implGramRead_any a0 _ w0).mono ?_
  rw [HRO.out]
  rintro e w3 ⟨v3, rfl, O3, b3⟩
  have z3 : w1.heap.size + 1 ≤ w3.heap.size := by have := b3.size; simpa using this
  have O3' : OwnR w3 (w1.heap.size + 1) w3.heap.size v3 ro.1 := by simpa using O3
  have HO3 := Lib.hid O3'
  obtain ⟨A3, c3, rfl, -⟩ := O3
  have R2' := R2.below b3 (by simp)
  have A4 := al1 w3 (.cells #[.slice A3 ro.1.length c3, .int .i64 ro.2] 30)
  have R4 := Row.made w3 30 #[.slice A3 ro.1.length c3, .int .i64 ro.2]
  have R24 := R2'.alloc (.cells #[.slice A3 ro.1.length c3, .int .i64 ro.2] 30)
  have T4 : Rules (w3.alloc (.cells #[.slice A3 ro.1.length c3, .int .i64 ro.2] 30)) w.heap.size w1.heap.size (.slice A1 ro.1.length c1) ro.1 := ((HO1.out.rules.below A2 (Nat.le_refl _)).below b3 (by simp)).below A4 (by omega)
  have X4 : OwnR (w3.alloc (.cells #[.slice A3 ro.1.length c3, .int .i64 ro.2] 30)) (w1.heap.size + 1) w3.heap.size (.slice A3 ro.1.length c3) ro.1 := HO3.out.keep (Keeps.below A4 (Nat.le_refl _))
  have B4 : Below w.heap.size w (w3.alloc (.cells #[.slice A3 ro.1.length c3, .int .i64 ro.2] 30)) := ((b1.trans (A2.mono z1)).trans (b3.mono (by simp; omega))).trans (A4.mono (by omega))
  have e20 := R2'.cell 0
  have e21 := R2'.cell 1
  simp at e20 e21
  have HT4 := Lib.hid T4
  have HX4 := Lib.hid X4
  have hlt3 : w1.heap.size < w3.heap.size := by omega
  clear b3 R2 R2' A2 T4 X4 O3' A4
  go_wp2_with fail
  refine (eqGramOut_same _ _ ro.1 ro.2 _ _ _ _ _ HX4.out.rules HT4.out (by simp) (by simp; omega)).mono ?_
  rintro e w5 ⟨rfl, b5⟩
  have z5 : w3.heap.size + 1 ≤ w5.heap.size := by have := b5.size; simpa using this
  have R5 := R4.below b5 (by simp)
  have R25 := R24.below b5 (by simp; omega)
  have X5 := HX4.out.keep (Keeps.below b5 (by simp))
  have T5 := HT4.out.below b5 (by simp; omega)
  have B5 := B4.trans (b5.mono (by simp; omega))
  have e50 := R5.cell 0
  have e51 := R5.cell 1
  simp at e50 e51
  clear b5 R4 R24
  go_wp2_with fail
  refine (markGramOut_one _ ro.2 ro.1 _ _ _ X5 (by omega) (by omega)).mono ?_
  rintro e w6 ⟨K6, rfl, hK6, hK6', X6, m6⟩
  have HK6 := Lib.hid hK6'
  have z6 := m6.size
  have R6 : Row w6 w3.heap.size 30 #[.slice A3 ro.1.length c3, .int .i64 ro.2] := R5.same (m6.block _ (by omega) (by omega))
  have R26 : Row w6 w1.heap.size 30 #[.slice A1 ro.1.length c1, .int .i64 ro.2] := R25.same (m6.block _ (by omega) (by omega))
  have T6 := T5.keep (Keeps.mid m6 (by omega) (by omega))
  have B6 := B5.trans ((m6.below (by omega)).mono (by omega))
  have e60 := R6.cell 0
  have e61 := R6.cell 1
  simp at e60 e61
  clear X5 T5 m6 R5 R25 hK6'
  go_wp2_with fail
  refine (heldGramOut_one _ ro.2 ro.1 _ _ _ X6.rules (by omega) (by omega)).mono ?_
  rintro e w7 ⟨K7, rfl, hK7, b7⟩
  obtain rfl : K6 = K7 := HK6.out.trans hK7.symm
  have HK7 := Lib.hid hK7
  have z7 := b7.size
  have d7 : decide (K6 < 0) = false := decide_eq_false (by omega)
  have B7 := B6.trans (b7.mono (by omega))
  have X7 := X6.keep (Keeps.below b7 (by omega))
  have T7 := T6.below b7 (by omega)
  have R7 := R6.below b7 (by omega)
  have R27 := R26.below b7 (by omega)
  clear X6 T6 R6 R26 b7 hK7
  go_wp2_with fail
  refine (implGramRead_any a0 _ w0).mono ?_
  rw [HRO.out]
  rintro e w8 ⟨v8, rfl, O8, b8⟩
  have z8 := b8.size
  have HO8 := Lib.hid O8
  obtain ⟨A8, c8, rfl, -⟩ := O8
  have A9 := al1 w8 (.cells #[.slice A8 ro.1.length c8, .int .i64 ro.2] 30)
  have R89 := (R7.below b8 (by omega)).alloc (.cells #[.slice A8 ro.1.length c8, .int .i64 ro.2] 30)
  have R28 := R27.below b8 (by omega)
  have X9 := (X7.keep (Keeps.below b8 (by omega))).keep (Keeps.below A9 (by omega))
  have T9 := (T7.below b8 (by omega)).below A9 (by omega)
  have B9 := (B7.trans (b8.mono (by omega))).trans (A9.mono (by omega))
  have O9 := HO8.out.keep (Keeps.below A9 (Nat.le_refl _))
  have e80 := R28.cell 0
  have e81 := R28.cell 1
  simp at e80 e81
  have hlt8 : w1.heap.size < w8.heap.size := by omega
  clear R7 R27 R28 X7 T7 b8 A9
  go_wp2_with fail
  refine (eqGramOut_same _ _ ro.1 ro.2 _ _ _ _ _ O9.rules T9 (by simp) (by simp; omega)).mono ?_
  rintro e w10 ⟨rfl, b10⟩
  have z10 : w8.heap.size + 1 ≤ w10.heap.size := by have := b10.size; simpa using this
  have R10 := R89.below b10 (by simp; omega)
  have X10 := X9.keep (Keeps.below b10 (by simp; omega))
  have B10 := B9.trans (b10.mono (by simp; omega))
  have e100 := R10.cell 0
  have e101 := R10.cell 1
  simp at e100 e101
  clear R89 X9 T9 O9 b10
  go_wp2_with fail
  refine (heldGramOut_one _ ro.2 ro.1 _ _ _ X10.rules (by omega) (by omega)).mono ?_
  rintro e w11 ⟨K11, rfl, hK11, b11⟩
  obtain rfl : K6 = K11 := HK7.out.trans hK11.symm
  go_wp2
  go_ret
  exact ⟨rfl, B10.trans (b11.mono (by omega))⟩
end Go.Proofs.Ytojmcjcdcneikaa.fnExactGramRead
