import Derived.Test.YtlgedjpolmlciaaJOi
import Derived.Test.YtlgedjpolmlciaaMab
import Derived.Test.YtlgedjpolmlciaaJToc
import Derived.Test.YtlgedjpolmlciaaJTmz
import Derived.Test.YtlgedjpolmlciaaJTmq
/- What a Comp is, as data, and as memory holds it; and how the law measures it, lays it anew and holds it against another one: szComp, toComp, eqComp. -/
namespace Go.Proofs.Ytlgedjpolmlciaa
open Go.RowKit

structure CompD where
  rules : List RuleD
  mades : List MadeD
  has : Bool
  null : TermD
theorem CompD.ext_of {a b : CompD} (h1 : a.rules = b.rules) (h2 : a.mades = b.mades) (h3 : a.has = b.has) (h4 : a.null = b.null) : a = b := by
  obtain ⟨r, m, h, n⟩ := a
  obtain ⟨r', m', h', n'⟩ := b
  simp only at h1 h2 h3 h4
  rw [h1, h2, h3, h4]
/-- a Comp as a value -/
def cmV (vg vm : Value) (c : CompD) (vt : Value) : Value := .agg #[vg, vm, .bool c.has, .int .i64 c.null.kind, .int .i64 c.null.num, vt]
/-- what hangs from a Comp -/
structure CompAt (z : Bool) (w : World) (lo hi : Nat) (c : CompD) (vg vm vt : Value) : Prop where
  rules : Rules w lo hi vg c.rules
  mades : DM z w lo hi vm c.mades
  top : TopM c.null
  kids : KM z w lo hi vt c.null.kids
theorem CompAt.under {z : Bool} {w w' : World} {lo hi : Nat} {c : CompD} {vg vm vt : Value} (h : CompAt z w lo hi c vg vm vt) {B : Nat} (b : Below B w w') (hB : hi ≤ B) : CompAt z w' lo hi c vg vm vt :=
  ⟨h.rules.below b hB, h.mades.under b hB, h.top, h.kids.under b hB⟩
def bulkC (c : CompD) : Nat := bulkR c.rules + bulkDs c.mades + sizeMs c.null.kids

set_option maxRecDepth 100000 in
set_option maxHeartbeats 2000000 in
theorem szComp_any (c : CompD) (vg vm vt : Value) (hi : Nat) (left : Int) (w : World) (h : CompAt false w 0 hi c vg vm vt) (hh : hi ≤ w.heap.size) (h1 : 0 ≤ left) (h2 : left ≤ 1048576) :
    Calls Try.prog 4 #[cmV vg vm c vt, .int .i64 left] w fun e w' => e = .returned (.int .i64 (szOut left (bulkC c))) ∧ Below w.heap.size w w' := by
  have ha := al1 w (.cells #[vg, vm, .bool c.has, .int .i64 c.null.kind, .int .i64 c.null.num, vt] 30)
  have R0 := Row.made w 30 #[vg, vm, .bool c.has, .int .i64 c.null.kind, .int .i64 c.null.num, vt]
  have HC := Lib.hid (h.under ha hh)
  have HA := Lib.hid ha
  obtain ⟨Ag, cg, rfl, -⟩ := h.rules
  obtain ⟨Am, cm, rfl, -⟩ := h.mades
  obtain ⟨At, ct, Ut, rfl, -⟩ := h.kids.parts
  have hbc : bulkC c = bulkR c.rules + bulkDs c.mades + sizeMs c.null.kids := rfl
  clear h ha
  have HR0 := Lib.hid R0
  clear R0
  have c0 := HR0.out.cell 0
  simp at c0
  unfold cmV
  by_cases n1 : left < (bulkR c.rules : Int)
  · have S1 := Lib.hid (szOut_neg n1)
    have S9 := Lib.hid (szOut_neg (show left < (bulkC c : Int) by omega))
    go_enter Try.func4, Try.ntmps4
    go_wp2_with fail
    refine (szGram_any _ c.rules 0 hi left _ HC.out.rules (by simp; omega) h1 h2).mono ?_
    rintro e w1 ⟨rfl, b1⟩
    rw [S1.out]
    go_wp2
    go_ret
    exact ⟨ret_int S9.out.symm, HA.out.trans (b1.mono (by simp))⟩
  have S1 := Lib.hid (szOut_pos n1)
  have d1 : decide (left - (bulkR c.rules : Int) < 0) = false := decide_eq_false (by omega)
  by_cases n2 : left - bulkR c.rules < (bulkDs c.mades : Int)
  · have S2 := Lib.hid (szOut_neg n2)
    have S9 := Lib.hid (szOut_neg (show left < (bulkC c : Int) by omega))
    go_enter Try.func4, Try.ntmps4
    go_wp2_with fail
    refine (szGram_any _ c.rules 0 hi left _ HC.out.rules (by simp; omega) h1 h2).mono ?_
    rintro e w1 ⟨rfl, b1⟩
    rw [S1.out]
    have z1 := b1.size
    have HC1 := Lib.hid (HC.out.under b1 (by simp; omega))
    have HA1 := Lib.hid (HA.out.trans (b1.mono (by simp)))
    have R1 := HR0.out.below b1 (by simp)
    have c1 := R1.cell 1
    simp at c1
    have HR1 := Lib.hid R1
    have zz1 : w.heap.size + 1 ≤ w1.heap.size := by simpa using z1
    clear b1 R1 z1
    go_wp2_with fail
    refine (szMadeS_any _ c.mades 0 hi _ _ HC1.out.mades (by omega) (by omega) (by omega)).mono ?_
    rintro e w2 ⟨rfl, b2⟩
    rw [S2.out]
    have FIN := Lib.hid (HA1.out.trans (b2.mono (by omega)))
    clear b2
    go_wp2
    go_ret
    exact ⟨ret_int S9.out.symm, FIN.out⟩
  have S2 := Lib.hid (szOut_pos n2)
  have d2 : decide (left - (bulkR c.rules : Int) - (bulkDs c.mades : Int) < 0) = false := decide_eq_false (by omega)
  by_cases n3 : left - bulkR c.rules - bulkDs c.mades < (sizeMs c.null.kids : Int)
  · have S3 := Lib.hid (szOut_neg n3)
    have S9 := Lib.hid (szOut_neg (show left < (bulkC c : Int) by omega))
    go_enter Try.func4, Try.ntmps4
    go_wp2_with fail
    refine (szGram_any _ c.rules 0 hi left _ HC.out.rules (by simp; omega) h1 h2).mono ?_
    rintro e w1 ⟨rfl, b1⟩
    rw [S1.out]
    have z1 := b1.size
    have HC1 := Lib.hid (HC.out.under b1 (by simp; omega))
    have HA1 := Lib.hid (HA.out.trans (b1.mono (by simp)))
    have R1 := HR0.out.below b1 (by simp)
    have c1 := R1.cell 1
    simp at c1
    have HR1 := Lib.hid R1
    have zz1 : w.heap.size + 1 ≤ w1.heap.size := by simpa using z1
    clear b1 R1 z1
    go_wp2_with fail
    refine (szMadeS_any _ c.mades 0 hi _ _ HC1.out.mades (by omega) (by omega) (by omega)).mono ?_
    rintro e w2 ⟨rfl, b2⟩
    rw [S2.out]
    have z2 := b2.size
    have HC2 := Lib.hid (HC1.out.under b2 (by omega))
    have HA2 := Lib.hid (HA1.out.trans (b2.mono (by omega)))
    have R2 := HR1.out.below b2 HR1.out.lt
    have c3 := R2.cell 3
    have c4 := R2.cell 4
    have c5 := R2.cell 5
    simp at c3 c4 c5
    clear b2 R2
    go_wp2_with fail
    have step := szTerm_any c.null _ 0 hi (left - bulkR c.rules - bulkDs c.mades) w2 HC2.out.kids (by omega) (by omega) (by omega)
    unfold tmV at step
    refine step.mono ?_
    clear step
    rintro e w3 ⟨rfl, b3⟩
    rw [S3.out]
    have FIN := Lib.hid (HA2.out.trans (b3.mono (by omega)))
    clear b3
    go_wp2
    go_ret
    exact ⟨ret_int S9.out.symm, FIN.out⟩
  · have S3 := Lib.hid (szOut_pos n3)
    have S9 := Lib.hid (szOut_pos (show ¬ left < (bulkC c : Int) by omega))
    have d3 : decide (left - (bulkR c.rules : Int) - (bulkDs c.mades : Int) - (sizeMs c.null.kids : Int) < 0) = false := decide_eq_false (by omega)
    go_enter Try.func4, Try.ntmps4
    go_wp2_with fail
    refine (szGram_any _ c.rules 0 hi left _ HC.out.rules (by simp; omega) h1 h2).mono ?_
    rintro e w1 ⟨rfl, b1⟩
    rw [S1.out]
    have z1 := b1.size
    have HC1 := Lib.hid (HC.out.under b1 (by simp; omega))
    have HA1 := Lib.hid (HA.out.trans (b1.mono (by simp)))
    have R1 := HR0.out.below b1 (by simp)
    have c1 := R1.cell 1
    simp at c1
    have HR1 := Lib.hid R1
    have zz1 : w.heap.size + 1 ≤ w1.heap.size := by simpa using z1
    clear b1 R1 z1
    go_wp2_with fail
    refine (szMadeS_any _ c.mades 0 hi _ _ HC1.out.mades (by omega) (by omega) (by omega)).mono ?_
    rintro e w2 ⟨rfl, b2⟩
    rw [S2.out]
    have z2 := b2.size
    have HC2 := Lib.hid (HC1.out.under b2 (by omega))
    have HA2 := Lib.hid (HA1.out.trans (b2.mono (by omega)))
    have R2 := HR1.out.below b2 HR1.out.lt
    have c3 := R2.cell 3
    have c4 := R2.cell 4
    have c5 := R2.cell 5
    simp at c3 c4 c5
    clear b2 R2
    go_wp2_with fail
    have step := szTerm_any c.null _ 0 hi (left - bulkR c.rules - bulkDs c.mades) w2 HC2.out.kids (by omega) (by omega) (by omega)
    unfold tmV at step
    refine step.mono ?_
    clear step
    rintro e w3 ⟨rfl, b3⟩
    rw [S3.out]
    have FIN := Lib.hid (HA2.out.trans (b3.mono (by omega)))
    clear b3
    go_wp2
    go_ret
    exact ⟨ret_int (by rw [S9.out]; omega), FIN.out⟩
end Go.Proofs.Ytlgedjpolmlciaa

/- Are two lists of texts alike? slices.Equal. -/
namespace Go.Proofs.Ytlgedjpolmlciaa
open Go.RowKit

set_option maxRecDepth 100000 in
set_option maxHeartbeats 1000000 in
theorem slicesEqual_any (v u : Value) (ss ts : List ByteArray) (lo hi lo' hi' : Nat) (w : World) (h : Strs w lo hi v ss) (h' : Strs w lo' hi' u ts) :
    Calls Try.prog 43 #[v, u] w fun e w' => e = .returned (.bool (eqSs ss ts)) ∧ ∃ n, w' = w.drewN n := by
  obtain ⟨A, c, rfl, hlc, hc, hsz, hcell⟩ := h
  obtain ⟨A', c', rfl, hlc', hc', hsz', hcell'⟩ := h'
  unfold maxLen at hc hc'
  by_cases hn : ss.length = ts.length
  · have d0 : ((ss.length : Int) != (ts.length : Int)) = false := by rw [bne_eq_false_iff_eq]; omega
    have HN := Lib.hid hn
    have HC := Lib.hid hcell
    have HC' := Lib.hid hcell'
    clear hcell hsz hcell' hsz' hn
    go_enter Try.func43, Try.ntmps43
    go_wp2
    go_loopw [13] (fun i wr => ∃ (k n : Nat), k ≤ ss.length ∧ i = .int .i64 k ∧ wr = w.drewN n ∧ (∀ j (h : j < ss.length), j < k → ss[j] = ts[j]'(by have := HN.out; omega))) (fun i _ => ss.length - (intOf i).toNat)
    case atStart => exact ⟨0, 0, by omega, rfl, rfl, fun j _ hj => by omega⟩
    case round =>
      obtain ⟨k, n, hk, rfl, rfl, hall⟩ := hrel
      have HA := Lib.hid hall
      clear hall
      by_cases hlt : k < ss.length
      · have hlt' : k < ts.length := by have := HN.out; omega
        obtain ⟨b, off, rfl, _, hbh, hcc⟩ := HC.out (by omega)
        obtain ⟨b', off', rfl, _, hbh', hcc'⟩ := HC'.out (by omega)
        have hck := hcc k hlt
        have hck' := hcc' k hlt'
        have i1 : (k : Int) < (ss.length : Int) := by omega
        have i2 : (k : Int) < (ts.length : Int) := by omega
        clear hcc hcc'
        by_cases he : ss[k] = ts[k]
        · have d1 : (ss[k].toList == ts[k].toList) = true := by rw [list_eqE, decide_eq_true he]
          have HE := Lib.hid he
          clear he
          go_wp2
          go_quiet (fail)
          go_wp2
          go_roundw
          case rel => exact ⟨k + 1, _, by omega, by go_num, rfl, fun j hj hjk => by
            by_cases e : j = k
            · subst e; exact HE.out
            · exact HA.out j hj (by omega)⟩
          case measure => simp [intOf]; omega
        · have d1 : (ss[k].toList == ts[k].toList) = false := by rw [list_eqE, decide_eq_false he]
          go_wp2
          go_quiet (fail)
          go_wp2
          go_ret
          exact ⟨ret_boolE (eqSs_f (fun e => he (by subst e; rfl))).symm, _, World.drewN_drewN _ _ _⟩
      · go_wp2
        go_ret
        exact ⟨ret_boolE (eqSs_t (List.ext_getElem HN.out fun j h1 h2 => HA.out j h1 (by omega))).symm, _, rfl⟩
  · have d0 : ((ss.length : Int) != (ts.length : Int)) = true := by rw [bne_iff_ne]; omega
    go_enter Try.func43, Try.ntmps43
    go_wp2
    go_ret
    exact ⟨ret_boolE (eqSs_f (fun e => hn (by rw [e]))).symm, 0, rfl⟩

end Go.Proofs.Ytlgedjpolmlciaa

/- Are two Rules, two Mades alike (but for their Terms)? sameRule, sameSymbols, and slices.EqualFunc of these. -/
namespace Go.Proofs.Ytlgedjpolmlciaa
open Go.RowKit

theorem RuleD.ext_of {a b : RuleD} (h1 : a.head = b.head) (h2 : a.body = b.body) : a = b := by
  obtain ⟨h, l⟩ := a
  obtain ⟨h', l'⟩ := b
  simp only at h1 h2
  rw [h1, h2]
theorem eqS_t {a b : ByteArray} (h : a = b) : (a.toList == b.toList) = true := by rw [h]; simp
theorem eqS_f {a b : ByteArray} (h : a ≠ b) : (a.toList == b.toList) = false := by rw [list_eqE, decide_eq_false h]
set_option maxRecDepth 100000 in
set_option maxHeartbeats 2000000 in
theorem sameRule_any (a b : RuleD) (u v : Value) (lo hi lo' hi' : Nat) (w : World) (h : Strs w lo hi u a.body) (h' : Strs w lo' hi' v b.body) (hh : hi ≤ w.heap.size) (hh' : hi' ≤ w.heap.size) :
    Calls Try.prog 30 #[.agg #[.string a.head, u], .agg #[.string b.head, v]] w fun e w' => ∃ r, e = .returned (.bool r) ∧ (r = true ↔ a = b) ∧ Below w.heap.size w w' := by
  have b2 := al2 w (.cells #[.string a.head, u] 50) (.cells #[.string b.head, v] 50)
  have HA := Lib.hid (h.below b2 hh)
  have HB := Lib.hid (h'.below b2 hh')
  have HB2 := Lib.hid b2
  obtain ⟨A, c, rfl, -⟩ := h
  obtain ⟨B, d, rfl, -⟩ := h'
  clear b2
  by_cases h1 : a.head = b.head
  · have e1 := eqS_t h1
    have H1 := Lib.hid h1
    clear h1
    go_enter Try.func30, Try.ntmps30
    go_wp2_with fail
    refine (slicesEqual_any _ _ a.body b.body lo hi lo' hi' _ HA.out HB.out).mono ?_
    rintro e w1 ⟨rfl, n, rfl⟩
    have FIN := Lib.hid (show Below w.heap.size w _ from ⟨HB2.out.os, HB2.out.tape, HB2.out.output, HB2.out.size, HB2.out.block⟩)
    go_wp2
    go_ret
    refine ⟨eqSs a.body b.body, rfl, ⟨fun e => RuleD.ext_of H1.out ?_, fun e => eqSs_t (by rw [e])⟩, ⟨HB2.out.os, HB2.out.tape, HB2.out.output, HB2.out.size, HB2.out.block⟩⟩
    by_cases hb : a.body = b.body
    · exact hb
    · rw [eqSs_f hb] at e; cases e
  · have e1 := eqS_f h1
    have HE : Hid (a ≠ b) := Lib.hid (fun e => h1 (by rw [e]))
    clear h1
    go_enter Try.func30, Try.ntmps30
    go_wp2
    go_ret
    exact ⟨false, rfl, ⟨(fun h => by cases h), fun h => absurd h HE.out⟩, HB2.out⟩
def SymEq (a b : MadeD) : Prop := a.head = b.head ∧ a.body = b.body
set_option maxRecDepth 100000 in
set_option maxHeartbeats 2000000 in
theorem sameSymbols_any (a b : MadeD) (u v x y : Value) (lo hi lo' hi' : Nat) (w : World) (h : Strs w lo hi u a.body) (h' : Strs w lo' hi' v b.body) (hh : hi ≤ w.heap.size) (hh' : hi' ≤ w.heap.size) (hx : ∃ A n c, x = .slice A n c) (hy : ∃ A n c, y = .slice A n c) :
    Calls Try.prog 32 #[mdV a u x, mdV b v y] w fun e w' => ∃ r, e = .returned (.bool r) ∧ (r = true ↔ SymEq a b) ∧ Below w.heap.size w w' := by
  obtain ⟨Ax, nx, cx, rfl⟩ := hx
  obtain ⟨Ay, ny, cy, rfl⟩ := hy
  have b2 := al2 w (.cells #[.string a.head, u, .int .i64 a.term.kind, .int .i64 a.term.num, .slice Ax nx cx] 53) (.cells #[.string b.head, v, .int .i64 b.term.kind, .int .i64 b.term.num, .slice Ay ny cy] 53)
  have HA := Lib.hid (h.below b2 hh)
  have HB := Lib.hid (h'.below b2 hh')
  have HB2 := Lib.hid b2
  obtain ⟨A, c, rfl, -⟩ := h
  obtain ⟨B, d, rfl, -⟩ := h'
  clear b2
  unfold mdV
  by_cases h1 : a.head = b.head
  · have e1 := eqS_t h1
    have H1 := Lib.hid h1
    clear h1
    go_enter Try.func32, Try.ntmps32
    go_wp2_with fail
    refine (slicesEqual_any _ _ a.body b.body lo hi lo' hi' _ HA.out HB.out).mono ?_
    rintro e w1 ⟨rfl, n, rfl⟩
    go_wp2
    go_ret
    refine ⟨eqSs a.body b.body, rfl, ⟨fun e => ⟨H1.out, ?_⟩, fun e => eqSs_t e.2⟩, ⟨HB2.out.os, HB2.out.tape, HB2.out.output, HB2.out.size, HB2.out.block⟩⟩
    by_cases hb : a.body = b.body
    · exact hb
    · rw [eqSs_f hb] at e; cases e
  · have e1 := eqS_f h1
    have HE : Hid (¬ SymEq a b) := Lib.hid (fun e => h1 e.1)
    clear h1
    go_enter Try.func32, Try.ntmps32
    go_wp2
    go_ret
    exact ⟨false, rfl, ⟨(fun h => by cases h), fun h => absurd h HE.out⟩, HB2.out⟩
end Go.Proofs.Ytlgedjpolmlciaa
