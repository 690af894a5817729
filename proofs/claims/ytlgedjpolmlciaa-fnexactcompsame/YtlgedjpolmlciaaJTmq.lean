import Derived.Test.YtlgedjpolmlciaaJOwns
import Derived.WalkKit
import Derived.WalkSpells
import Derived.WalkLawsBesides
import Derived.Deep.QuietTactic
import Derived.BigQuiet
import Derived.StillTailTactics
import Derived.Test.YtlgedjpolmlciaaJTmz
/- Are two lists of texts, two rules, two grammars alike? eqStringS, eqRule, eqRuleS, eqGram. -/
namespace Go.Proofs.Ytlgedjpolmlciaa
open Go.RowKit

def eqSs (a b : List ByteArray) : Bool := decide (a = b)
theorem eqSs_t {a b : List ByteArray} (h : a = b) : eqSs a b = true := decide_eq_true h
theorem eqSs_f {a b : List ByteArray} (h : a ≠ b) : eqSs a b = false := decide_eq_false h
theorem list_eqE (a b : ByteArray) : (a.toList == b.toList) = decide (a = b) := by
  rw [Bool.eq_iff_iff]; simp only [beq_iff_eq, decide_eq_true_eq]
  constructor
  · intro h
    apply ByteArray.ext
    apply Array.ext'
    simpa [ByteArray.toList_eq] using h
  · rintro rfl; rfl
theorem ret_boolE {a b : Bool} (h : a = b) : Ending.returned (.bool a) = .returned (.bool b) := by rw [h]

set_option maxHeartbeats 1000000 in
theorem eqStringS_any (v u : Value) (ss ts : List ByteArray) (lo hi lo' hi' : Nat) (w : World) (h : Strs w lo hi v ss) (h' : Strs w lo' hi' u ts) :
    Calls Try.prog 48 #[v, u] w fun e w' => e = .returned (.bool (eqSs ss ts)) ∧ ∃ n, w' = w.drewN n := by
  obtain ⟨A, c, rfl, hlc, hc, hsz, hcell⟩ := h
  obtain ⟨A', c', rfl, hlc', hc', hsz', hcell'⟩ := h'
  unfold maxLen at hc hc'
  by_cases hn : ss.length = ts.length
  · have d0 : ((ss.length : Int) != (ts.length : Int)) = false := by rw [bne_eq_false_iff_eq]; omega
    have HN := Lib.hid hn
    have HC := Lib.hid hcell
    have HC' := Lib.hid hcell'
    clear hcell hsz hcell' hsz' hn
    go_enter Try.func48, Try.ntmps48
    go_wp2
    go_loopw [5] (fun i wr => ∃ (k n : Nat), k ≤ ss.length ∧ i = .int .i64 k ∧ wr = w.drewN n ∧ (∀ j (h : j < ss.length), j < k → ss[j] = ts[j]'(by have := HN.out; omega))) (fun i _ => ss.length - (intOf i).toNat)
    case atStart => exact ⟨0, 0, by omega, rfl, rfl, fun j _ hj => by omega⟩
    case round =>
      obtain ⟨k, n, hk, rfl, rfl, hall⟩ := hrel
      have HA := Lib.hid hall
      clear hall
      by_cases hlt : k < ss.length
      · have hlt' : k < ts.length := by have := HN.out; omega
        obtain ⟨b, off, rfl, _, hbh, hcc⟩ := HC.out (by omega)
        obtain ⟨b', off', rfl, _, hbh', hcc'⟩ := HC'.out (by omega)
        have hck := hcc k hlt
        have hck' := hcc' k hlt'
        have i1 : (k : Int) < (ss.length : Int) := by omega
        have i2 : (k : Int) < (ts.length : Int) := by omega
        clear hcc hcc'
        by_cases he : ss[k] = ts[k]
        · have d1 : (ss[k].toList == ts[k].toList) = true := by rw [list_eqE, decide_eq_true he]
          have HE := Lib.hid he
          clear he
          go_wp2
          go_quiet (fail)
          go_wp2
          go_roundw
          case rel => exact ⟨k + 1, _, by omega, by go_num, rfl, fun j hj hjk => by
            by_cases e : j = k
            · subst e; exact HE.out
            · exact HA.out j hj (by omega)⟩
          case measure => simp [intOf]; omega
        · have d1 : (ss[k].toList == ts[k].toList) = false := by rw [list_eqE, decide_eq_false he]
          go_wp2
          go_quiet (fail)
          go_wp2
          go_ret
          exact ⟨ret_boolE (eqSs_f (fun e => he (by subst e; rfl))).symm, _, World.drewN_drewN _ _ _⟩
      · go_wp2
        go_ret
        exact ⟨ret_boolE (eqSs_t (List.ext_getElem HN.out fun j h1 h2 => HA.out j h1 (by omega))).symm, _, rfl⟩
  · have d0 : ((ss.length : Int) != (ts.length : Int)) = true := by rw [bne_iff_ne]; omega
    go_enter Try.func48, Try.ntmps48
    go_wp2
    go_ret
    exact ⟨ret_boolE (eqSs_f (fun e => hn (by rw [e]))).symm, 0, rfl⟩

def eqR (a b : RuleD) : Bool := decide (a.head = b.head) && eqSs a.body b.body
def eqRs (a b : List RuleD) : Bool := decide (a.length = b.length) && (List.range a.length).all fun i => match a[i]?, b[i]? with | some x, some y => eqR x y | _, _ => false
theorem eqR_iff (a b : RuleD) : eqR a b = true ↔ a = b := by
  cases a; cases b
  simp [eqR, eqSs]
theorem eqRs_iff (a b : List RuleD) : eqRs a b = true ↔ a = b := by
  unfold eqRs
  simp only [Bool.and_eq_true, decide_eq_true_eq, List.all_eq_true, List.mem_range]
  constructor
  · rintro ⟨h1, h2⟩
    refine List.ext_getElem h1 fun i hi hi' => ?_
    have := h2 i hi
    rw [List.getElem?_eq_getElem hi, List.getElem?_eq_getElem hi'] at this
    exact (eqR_iff _ _).1 this
  · rintro rfl
    refine ⟨rfl, fun i hi => ?_⟩
    rw [List.getElem?_eq_getElem hi]
    exact (eqR_iff _ _).2 rfl
theorem eqRs_t {a b : List RuleD} (h : a = b) : eqRs a b = true := (eqRs_iff a b).2 h
theorem eqRs_f {a b : List RuleD} (h : a ≠ b) : eqRs a b = false := by rw [Bool.eq_false_iff]; exact fun e => h ((eqRs_iff a b).1 e)

set_option maxHeartbeats 1000000 in
theorem eqRule_any (a b : RuleD) (v u : Value) (lo hi lo' hi' : Nat) (w : World) (h : Strs w lo hi v a.body) (h' : Strs w lo' hi' u b.body) (hh : hi ≤ w.heap.size) (hh' : hi' ≤ w.heap.size) :
    Calls Try.prog 47 #[.agg #[.string a.head, v], .agg #[.string b.head, u]] w fun e w' => e = .returned (.bool (eqR a b)) ∧ Below w.heap.size w w' := by
  have hb : Below w.heap.size w ((w.alloc (.cells #[.string a.head, v] 50)).alloc (.cells #[.string b.head, u] 50)) := ((Below.refl _ _).alloc (Nat.le_refl _) _).alloc (by simp) _
  by_cases he : a.head = b.head
  · have d1 : (a.head.toList == b.head.toList) = true := by rw [list_eqE, decide_eq_true he]
    have hr : eqR a b = eqSs a.body b.body := by unfold eqR; rw [decide_eq_true he, Bool.true_and]
    rw [hr]
    clear he hr
    cases hq : eqSs a.body b.body
    all_goals
      have HQ := Lib.hid hq
      clear hq
      go_enter Try.func47, Try.ntmps47
      go_wp2_with fail
      refine (eqStringS_any v u a.body b.body lo hi lo' hi' _ (h.below hb hh) (h'.below hb hh')).mono ?_
      rintro e w1 ⟨rfl, n, rfl⟩
      rw [HQ.out]
      go_wp2
      go_ret
      exact ⟨rfl, ⟨hb.os, hb.tape, hb.output, hb.size, hb.block⟩⟩
  · have d1 : (a.head.toList == b.head.toList) = false := by rw [list_eqE, decide_eq_false he]
    have hr : eqR a b = false := by unfold eqR; rw [decide_eq_false he, Bool.false_and]
    rw [hr]
    clear he hr
    go_enter Try.func47, Try.ntmps47
    go_wp2
    go_ret
    exact ⟨rfl, hb⟩

set_option maxRecDepth 100000 in
set_option maxHeartbeats 1000000 in
theorem eqRuleS_any (v u : Value) (rs ts : List RuleD) (lo hi lo' hi' : Nat) (w : World) (h : Rules w lo hi v rs) (h' : Rules w lo' hi' u ts) (hh : hi ≤ w.heap.size) (hh' : hi' ≤ w.heap.size) :
    Calls Try.prog 36 #[v, u] w fun e w' => e = .returned (.bool (eqRs rs ts)) ∧ Below w.heap.size w w' := by
  obtain ⟨A, c, rfl, hlc, hc, hcell⟩ := h
  obtain ⟨A', c', rfl, hlc', hc', hcell'⟩ := h'
  unfold maxLen at hc hc'
  by_cases hn : rs.length = ts.length
  · have d0 : ((rs.length : Int) != (ts.length : Int)) = false := by rw [bne_eq_false_iff_eq]; omega
    have HN := Lib.hid hn
    have HC := Lib.hid hcell
    have HC' := Lib.hid hcell'
    clear hcell hcell' hn
    go_enter Try.func36, Try.ntmps36
    go_wp2
    go_loopw [5] (fun i wr => ∃ (k : Nat), k ≤ rs.length ∧ i = .int .i64 k ∧ Below w.heap.size w wr ∧ (∀ j (h : j < rs.length), j < k → rs[j] = ts[j]'(by have := HN.out; omega))) (fun i _ => rs.length - (intOf i).toNat)
    case atStart => exact ⟨0, by omega, rfl, Below.refl _ _, fun j _ hj => by omega⟩
    case round =>
      obtain ⟨k, hk, rfl, hbw, hall⟩ := hrel
      have HA := Lib.hid hall
      clear hall
      by_cases hlt : k < rs.length
      · have hlt' : k < ts.length := by have := HN.out; omega
        obtain ⟨b, off, rfl, _, hbh, hcc⟩ := HC.out (by omega)
        obtain ⟨b', off', rfl, _, hbh', hcc'⟩ := HC'.out (by omega)
        obtain ⟨_, hc0, u0, hc1, hst⟩ := hcc k hlt
        obtain ⟨_, hd0, u1, hd1, hst'⟩ := hcc' k hlt'
        have hc0' := (hbw.cell (p := ⟨b, off + k * 2, none⟩) (by show b < _; omega)).trans hc0
        have hc1' := (hbw.cell (p := ⟨b, off + k * 2 + 1, none⟩) (by show b < _; omega)).trans hc1
        have hd0' := (hbw.cell (p := ⟨b', off' + k * 2, none⟩) (by show b' < _; omega)).trans hd0
        have hd1' := (hbw.cell (p := ⟨b', off' + k * 2 + 1, none⟩) (by show b' < _; omega)).trans hd1
        have i1 : (k : Int) < (rs.length : Int) := by omega
        have i2 : (k : Int) < (ts.length : Int) := by omega
        have hs1 := hst.below hbw hh
        have hs2 := hst'.below hbw hh'
        have hsw := hbw.size
        clear hcc hcc' hc0 hc1 hd0 hd1 hst hst'
        have hbw2 : Below w.heap.size w wr.drew := hbw.drew
        have hs1d : Strs wr.drew lo hi u0 rs[k].body := hs1
        have hs2d : Strs wr.drew lo' hi' u1 ts[k].body := hs2
        have hswd : w.heap.size ≤ wr.drew.heap.size := hsw
        cases hq : eqR rs[k] ts[k]
        · have HQ := Lib.hid hq
          have hne : ¬ rs[k] = ts[k] := fun e => by rw [(eqR_iff _ _).2 e] at hq; cases hq
          clear hq
          go_wp2
          go_still_tail 8, (by kernel_rfl)
          change wpList _ _ _ _ _ wr.drew
          generalize wr.drew = w2 at hbw2 hs1d hs2d hswd ⊢
          go_wp2_with fail
          refine (eqRule_any rs[k] ts[k] u0 u1 lo hi lo' hi' _ hs1d hs2d (by omega) (by omega)).mono ?_
          rintro e w1 ⟨rfl, hb1⟩
          rw [HQ.out]
          go_wp2
          go_ret
          exact ⟨ret_boolE (eqRs_f (fun e => hne (by subst e; rfl))).symm, hbw2.trans (hb1.mono hswd)⟩
        · have HQ := Lib.hid hq
          have HE := Lib.hid ((eqR_iff _ _).1 hq)
          clear hq
          go_wp2
          go_still_tail 8, (by kernel_rfl)
          change wpList _ _ _ _ _ wr.drew
          generalize wr.drew = w2 at hbw2 hs1d hs2d hswd ⊢
          go_wp2_with fail
          refine (eqRule_any rs[k] ts[k] u0 u1 lo hi lo' hi' _ hs1d hs2d (by omega) (by omega)).mono ?_
          rintro e w1 ⟨rfl, hb1⟩
          rw [HQ.out]
          go_wp2
          go_roundw
          case rel => exact ⟨k + 1, by omega, by go_num, hbw2.trans (hb1.mono hswd), fun j hj hjk => by
            by_cases e : j = k
            · subst e; exact HE.out
            · exact HA.out j hj (by omega)⟩
          case measure => simp [intOf]; omega
      · go_wp2
        go_ret
        exact ⟨ret_boolE (eqRs_t (List.ext_getElem HN.out fun j h1 h2 => HA.out j h1 (by omega))).symm, hbw⟩
  · have d0 : ((rs.length : Int) != (ts.length : Int)) = true := by rw [bne_iff_ne]; omega
    go_enter Try.func36, Try.ntmps36
    go_wp2
    go_ret
    exact ⟨ret_boolE (eqRs_f (fun e => hn (by rw [e]))).symm, Below.refl _ _⟩

set_option maxHeartbeats 1000000 in
theorem eqGram_any (v u : Value) (rs ts : List RuleD) (lo hi lo' hi' : Nat) (w : World) (h : Rules w lo hi v rs) (h' : Rules w lo' hi' u ts) (hh : hi ≤ w.heap.size) (hh' : hi' ≤ w.heap.size) :
    Calls Try.prog 20 #[.agg #[v], .agg #[u]] w fun e w' => e = .returned (.bool (eqRs rs ts)) ∧ Below w.heap.size w w' := by
  have hb : Below w.heap.size w ((w.alloc (.cells #[v] 35)).alloc (.cells #[u] 35)) := ((Below.refl _ _).alloc (Nat.le_refl _) _).alloc (by simp) _
  cases hq : eqRs rs ts
  all_goals
    have HQ := Lib.hid hq
    clear hq
    go_enter Try.func20, Try.ntmps20
    go_wp2_with fail
    refine (eqRuleS_any v u rs ts lo hi lo' hi' _ (h.below hb hh) (h'.below hb hh') (by simp; omega) (by simp; omega)).mono ?_
    rintro e w1 ⟨rfl, hb1⟩
    rw [HQ.out]
    go_wp2
    go_ret
    exact ⟨rfl, hb.trans (hb1.mono (by simp; omega))⟩
end Go.Proofs.Ytlgedjpolmlciaa

/- Two lists of the same terms are told to be alike: eqTermS, eqTerm. -/
namespace Go.Proofs.Ytlgedjpolmlciaa
open Go.RowKit

def EqM (ts : List TermD) : Prop := ∀ (z : Bool) (v u : Value) (lo hi lo' hi' : Nat) (w : World), KM z w lo hi v ts → KM z w lo' hi' u ts → hi ≤ w.heap.size → hi' ≤ w.heap.size →
  Calls Try.prog 38 #[v, u] w fun e w' => e = .returned (.bool true) ∧ Below w.heap.size w w'

set_option maxHeartbeats 1000000 in
theorem eqTerm_of (t : TermD) (ih : EqM t.kids) (z : Bool) (v u : Value) (lo hi lo' hi' : Nat) (w : World) (h : KM z w lo hi v t.kids) (h' : KM z w lo' hi' u t.kids) (hh : hi ≤ w.heap.size) (hh' : hi' ≤ w.heap.size) :
    Calls Try.prog 22 #[tmV t v, tmV t u] w fun e w' => e = .returned (.bool true) ∧ Below w.heap.size w w' := by
  unfold tmV
  have d1 : (t.num != t.num) = false := by simp
  have d2 : (t.kind != t.kind) = false := by simp
  have hb : Below w.heap.size w ((w.alloc (.cells #[.int .i64 t.kind, .int .i64 t.num, v] 39)).alloc (.cells #[.int .i64 t.kind, .int .i64 t.num, u] 39)) := al2 _ _ _
  go_enter Try.func22, Try.ntmps22
  go_wp2_with fail
  refine (ih z v u lo hi lo' hi' _ (h.under hb hh) (h'.under hb hh') (by simp; omega) (by simp; omega)).mono ?_
  rintro e w1 ⟨rfl, hb1⟩
  have hb2 : Below w.heap.size w w1 := hb.trans (hb1.mono (by simp; omega))
  clear hb hb1
  go_wp2
  go_ret
  exact ⟨rfl, hb2⟩

set_option maxRecDepth 100000 in
set_option maxHeartbeats 1000000 in
theorem eqTermS_of (ts : List TermD) (ih : ∀ i (h : i < ts.length), EqM ts[i].kids) : EqM ts := by
  intro z v u lo hi lo' hi' w h h' hh hh'
  obtain ⟨A, c, U, rfl, hlc, hc, hs, hcell, hsub⟩ := h.parts
  obtain ⟨A', c', U', rfl, hlc', hc', hs', hcell', hsub'⟩ := h'.parts
  unfold maxLen at hc hc'
  have HC := Lib.hid hcell
  have HC' := Lib.hid hcell'
  have HB := Lib.hid hsub
  have HB' := Lib.hid hsub'
  clear hcell hcell' hsub hsub' h h' hs hs'
  go_enter Try.func38, Try.ntmps38
  go_wp2
  go_loopw [5] (fun i wr => ∃ k : Nat, k ≤ ts.length ∧ i = .int .i64 k ∧ Below w.heap.size w wr) (fun i _ => ts.length - (intOf i).toNat)
  case atStart => exact ⟨0, by omega, rfl, Below.refl _ _⟩
  case round =>
    obtain ⟨k, hk, rfl, hbw⟩ := hrel
    have hsw := hbw.size
    by_cases hlt : k < ts.length
    · obtain ⟨b, off, rfl, _, hbh, _, hcc⟩ := HC.out (by omega)
      obtain ⟨b', off', rfl, _, hbh', _, hcc'⟩ := HC'.out (by omega)
      obtain ⟨hc0, hc1, hc2⟩ := hcc k hlt
      obtain ⟨hd0, hd1, hd2⟩ := hcc' k hlt
      have k0 := (hbw.cell (p := ⟨b, off + k * 3, none⟩) (by show b < _; omega)).trans hc0
      have k1 := (hbw.cell (p := ⟨b, off + k * 3 + 1, none⟩) (by show b < _; omega)).trans hc1
      have k2 := (hbw.cell (p := ⟨b, off + k * 3 + 2, none⟩) (by show b < _; omega)).trans hc2
      have m0 := (hbw.cell (p := ⟨b', off' + k * 3, none⟩) (by show b' < _; omega)).trans hd0
      have m1 := (hbw.cell (p := ⟨b', off' + k * 3 + 1, none⟩) (by show b' < _; omega)).trans hd1
      have m2 := (hbw.cell (p := ⟨b', off' + k * 3 + 2, none⟩) (by show b' < _; omega)).trans hd2
      have g1 := (HB.out k hlt).under hbw hh
      have g2 := (HB'.out k hlt).under hbw hh'
      have i1 : (k : Int) < (ts.length : Int) := by omega
      have n1 : (0 : Int) ≤ (k : Int) := by omega
      clear hcc hcc' hc0 hc1 hc2 hd0 hd1 hd2
      have hbw2 : Below w.heap.size w wr.drew := hbw.drew
      have g1d : KM z wr.drew lo hi (U k) ts[k].kids := g1.drewN 1
      have g2d : KM z wr.drew lo' hi' (U' k) ts[k].kids := g2.drewN 1
      have hswd : w.heap.size ≤ wr.drew.heap.size := hsw
      go_wp2
      go_still_tail 8, (by kernel_rfl)
      change wpList _ _ _ _ _ wr.drew
      generalize wr.drew = w2 at hbw2 g1d g2d hswd ⊢
      go_wp2_with fail
      refine (eqTerm_of ts[k] (ih k hlt) z (U k) (U' k) lo hi lo' hi' _ g1d g2d (by omega) (by omega)).mono ?_
      rintro e w1 ⟨rfl, hb1⟩
      go_wp2
      go_roundw
      case rel => exact ⟨k + 1, by omega, by go_num, hbw2.trans (hb1.mono hswd)⟩
      case measure => simp [intOf]; omega
    · go_wp2
      go_ret
      exact ⟨rfl, hbw⟩
theorem eqTermS_any (ts : List TermD) : EqM ts := terms_ind eqTermS_of ts
theorem eqTerm_any (t : TermD) (z : Bool) (v u : Value) (lo hi lo' hi' : Nat) (w : World) (h : KM z w lo hi v t.kids) (h' : KM z w lo' hi' u t.kids) (hh : hi ≤ w.heap.size) (hh' : hi' ≤ w.heap.size) :
    Calls Try.prog 22 #[tmV t v, tmV t u] w fun e w' => e = .returned (.bool true) ∧ Below w.heap.size w w' :=
  eqTerm_of t (eqTermS_any _) z v u lo hi lo' hi' w h h' hh hh'
end Go.Proofs.Ytlgedjpolmlciaa
