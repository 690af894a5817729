/- The walks of GramRight: both programs say of a grammar whether it is right by one and the same function, gramB. -/
import Derived.Test.YtbaofldcdcllfaaJSym
import Derived.Test.YtbaofldcdcllfaaJOwns
import Derived.Deep.OwnRows
namespace Go.Proofs.Ytbaofldcdcllfaa
open Go.RowKit

def symOK (s : ByteArray) : Bool := headB s || tokB s
def ruleB (r : RuleD) : Bool := headB r.head && decide (r.body.length ≤ 5) && r.body.all symOK
def gramB (rs : List RuleD) : Bool := decide (1 ≤ rs.length) && decide (rs.length ≤ 20) && rs.all ruleB

theorem ruleB_iff (r : RuleD) : ruleB r = true ↔ headB r.head = true ∧ r.body.length ≤ 5 ∧ ∀ i (h : i < r.body.length), symOK r.body[i] = true := by
  simp only [ruleB, Bool.and_eq_true, decide_eq_true_eq, List.all_eq_true, and_assoc]
  refine ⟨fun ⟨a, b, c⟩ => ⟨a, b, fun i h => c _ (List.getElem_mem h)⟩, fun ⟨a, b, c⟩ => ⟨a, b, fun s hs => ?_⟩⟩
  obtain ⟨i, hi, rfl⟩ := List.getElem_of_mem hs
  exact c i hi
theorem gramB_iff (rs : List RuleD) : gramB rs = true ↔ 1 ≤ rs.length ∧ rs.length ≤ 20 ∧ ∀ i (h : i < rs.length), ruleB rs[i] = true := by
  simp only [gramB, Bool.and_eq_true, decide_eq_true_eq, List.all_eq_true, and_assoc]
  refine ⟨fun ⟨a, b, c⟩ => ⟨a, b, fun i h => c _ (List.getElem_mem h)⟩, fun ⟨a, b, c⟩ => ⟨a, b, fun s hs => ?_⟩⟩
  obtain ⟨i, hi, rfl⟩ := List.getElem_of_mem hs
  exact c i hi
theorem ruleB_f {r : RuleD} (h : ¬ (headB r.head = true ∧ r.body.length ≤ 5 ∧ ∀ i (h : i < r.body.length), symOK r.body[i] = true)) : ruleB r = false := by
  rw [Bool.eq_false_iff]; exact fun e => h ((ruleB_iff r).1 e)
theorem gramB_f {rs : List RuleD} (h : ¬ (1 ≤ rs.length ∧ rs.length ≤ 20 ∧ ∀ i (h : i < rs.length), ruleB rs[i] = true)) : gramB rs = false := by
  rw [Bool.eq_false_iff]; exact fun e => h ((gramB_iff rs).1 e)
theorem symOK_no {r : RuleD} {k : Nat} (h : k < r.body.length) (h1 : headB r.body[k] = false) (h2 : tokB r.body[k] = false) : ruleB r = false :=
  ruleB_f fun ⟨_, _, h3⟩ => by have := h3 k h; unfold symOK at this; rw [h1, h2] at this; cases this

set_option maxRecDepth 100000 in
set_option maxHeartbeats 1000000 in
theorem implRuleRight_any (r : RuleD) (u : Value) (lo hi : Nat) (w : World) (h : Strs w lo hi u r.body) (hh : hi ≤ w.heap.size) :
    Calls Try.prog 103 #[.agg #[.string r.head, u]] w fun e w' => e = .returned (.bool (ruleB r)) ∧ Below w.heap.size w w' := by
  obtain ⟨A, c, rfl, hlc, hc, hsz, hcell⟩ := h
  unfold maxLen at hc
  have HC := Lib.hid hcell
  clear hcell hsz
  have hb := al1 w (.cells #[.string r.head, .slice A r.body.length c] 101)
  cases h1 : headB r.head
  · have HR := Lib.hid (show ruleB r = false from ruleB_f fun ⟨a, _⟩ => by rw [h1] at a; cases a)
    have H1 := Lib.hid h1
    clear h1
    go_enter Try.func103, Try.ntmps103
    go_wp2_with fail
    refine (implIsHead_any _ _).mono ?_
    rintro e w1 ⟨rfl, hb1⟩
    rw [H1.out]
    go_wp2
    go_ret
    exact ⟨ret_bool HR.out.symm, hb.trans (hb1.mono (by simp))⟩
  · have H1 := Lib.hid h1
    clear h1
    by_cases h5 : 5 < r.body.length
    · have HR := Lib.hid (show ruleB r = false from ruleB_f fun ⟨_, a, _⟩ => by omega)
      go_enter Try.func103, Try.ntmps103
      go_wp2_with fail
      refine (implIsHead_any _ _).mono ?_
      rintro e w1 ⟨rfl, hb1⟩
      rw [H1.out]
      have R1 := (Row.made w 101 #[.string r.head, .slice A r.body.length c]).below hb1 (by simp)
      have c1 := R1.cell 1
      simp at c1
      clear R1
      go_wp2
      go_ret
      exact ⟨ret_bool HR.out.symm, hb.trans (hb1.mono (by simp))⟩
    · go_enter Try.func103, Try.ntmps103
      go_wp2_with fail
      refine (implIsHead_any _ _).mono ?_
      rintro e w1 ⟨rfl, hb1⟩
      rw [H1.out]
      have R1 := (Row.made w 101 #[.string r.head, .slice A r.body.length c]).below hb1 (by simp)
      have c1 := R1.cell 1
      simp at c1
      clear R1
      have hbw1 : Below w.heap.size w w1 := hb.trans (hb1.mono (by simp))
      go_wp2
      go_loopw [4, 18] (fun _ i wr => ∃ (k : Nat), k ≤ r.body.length ∧ i = .int .i64 k ∧ Below w.heap.size w wr ∧ (∀ j (h : j < r.body.length), j < k → symOK r.body[j] = true)) (fun _ i _ => r.body.length - (intOf i).toNat)
      case atStart => exact ⟨0, by omega, rfl, hbw1, fun j _ hj => by omega⟩
      case round =>
        obtain ⟨k, hk, rfl, hbw, hall⟩ := hrel
        have HA := Lib.hid hall
        have hsw := hbw.size
        clear hall hb1 hbw1
        by_cases hlt : k < r.body.length
        · obtain ⟨b, off, rfl, _, hbh, hcc⟩ := HC.out (by omega)
          have hck := (hbw.cell (p := ⟨b, off + k, none⟩) (by show b < _; omega)).trans (hcc k hlt)
          clear hcc
          cases h2 : headB r.body[k]
          · have H2 := Lib.hid h2
            clear h2
            cases h3 : tokB r.body[k]
            · have H3 := Lib.hid h3
              clear h3
              go_wp2_with fail
              refine (implIsHead_any _ _).mono ?_
              rintro e w2 ⟨rfl, hb2⟩
              rw [H2.out]
              go_wp2_with fail
              refine (implIsToken_any _ _).mono ?_
              rintro e w3 ⟨rfl, hb3⟩
              rw [H3.out]
              go_wp2
              go_ret
              exact ⟨ret_bool (symOK_no hlt H2.out H3.out).symm, (hbw.trans (hb2.mono hsw)).trans (hb3.mono (by have := hb2.size; omega))⟩
            · have H3 := Lib.hid h3
              clear h3
              go_wp2_with fail
              refine (implIsHead_any _ _).mono ?_
              rintro e w2 ⟨rfl, hb2⟩
              rw [H2.out]
              go_wp2_with fail
              refine (implIsToken_any _ _).mono ?_
              rintro e w3 ⟨rfl, hb3⟩
              rw [H3.out]
              go_wp2
              go_roundw
              case rel => exact ⟨k + 1, by omega, by go_num, (hbw.trans (hb2.mono hsw)).trans (hb3.mono (by have := hb2.size; omega)), fun j hj hjk => by
                by_cases e : j = k
                · subst e; unfold symOK; rw [H3.out, Bool.or_true]
                · exact HA.out j hj (by omega)⟩
              case measure => simp [intOf]; omega
          · have H2 := Lib.hid h2
            clear h2
            go_wp2_with fail
            refine (implIsHead_any _ _).mono ?_
            rintro e w2 ⟨rfl, hb2⟩
            rw [H2.out]
            go_wp2
            go_roundw
            case rel => exact ⟨k + 1, by omega, by go_num, hbw.trans (hb2.mono hsw), fun j hj hjk => by
              by_cases e : j = k
              · subst e; unfold symOK; rw [H2.out, Bool.true_or]
              · exact HA.out j hj (by omega)⟩
            case measure => simp [intOf]; omega
        · go_wp2
          go_ret
          exact ⟨ret_bool ((ruleB_iff r).2 ⟨H1.out, by omega, fun i hi => HA.out i hi (by omega)⟩).symm, hbw⟩

set_option maxRecDepth 100000 in
set_option maxHeartbeats 1000000 in
theorem implGramRight_any (rs : List RuleD) (v : Value) (lo hi : Nat) (w : World) (h : Rules w lo hi v rs) (hh : hi ≤ w.heap.size) :
    Calls Try.prog 77 #[.agg #[v]] w fun e w' => e = .returned (.bool (gramB rs)) ∧ Below w.heap.size w w' := by
  obtain ⟨A, c, rfl, hlc, hc, hcell⟩ := h
  unfold maxLen at hc
  have HC := Lib.hid hcell
  clear hcell
  have hb := al1 w (.cells #[.slice A rs.length c] 41)
  by_cases h1 : rs.length < 1
  · go_enter Try.func77, Try.ntmps77
    go_wp2
    go_ret
    exact ⟨ret_bool (gramB_f fun ⟨a, _⟩ => by omega).symm, hb⟩
  by_cases h2 : 20 < rs.length
  · go_enter Try.func77, Try.ntmps77
    go_wp2
    go_ret
    exact ⟨ret_bool (gramB_f fun ⟨_, a, _⟩ => by omega).symm, hb⟩
  go_enter Try.func77, Try.ntmps77
  go_wp2
  go_loopw [4, 18] (fun _ i wr => ∃ (k : Nat), k ≤ rs.length ∧ i = .int .i64 k ∧ Below w.heap.size w wr ∧ (∀ j (h : j < rs.length), j < k → ruleB rs[j] = true)) (fun _ i _ => rs.length - (intOf i).toNat)
  case atStart => exact ⟨0, by omega, rfl, hb, fun j _ hj => by omega⟩
  case round =>
    obtain ⟨k, hk, rfl, hbw, hall⟩ := hrel
    have HA := Lib.hid hall
    have hsw := hbw.size
    clear hall hb
    by_cases hlt : k < rs.length
    · obtain ⟨b, off, rfl, _, hbh, hcc⟩ := HC.out (by omega)
      obtain ⟨_, hc0, u, hc1, hst⟩ := hcc k hlt
      have hc0' := (hbw.cell (p := ⟨b, off + k * 2, none⟩) (by show b < _; omega)).trans hc0
      have hc1' := (hbw.cell (p := ⟨b, off + k * 2 + 1, none⟩) (by show b < _; omega)).trans hc1
      have hst' := hst.below hbw hh
      clear hcc hc0 hc1 hst
      have HS := Lib.hid hst'
      obtain ⟨A', c', rfl, -⟩ := hst'
      have ha := al1 wr (.cells #[.string rs[k].head, .slice A' rs[k].body.length c'] 101)
      cases h3 : ruleB rs[k]
      · have H3 := Lib.hid h3
        clear h3
        go_wp2_with fail
        refine (implRuleRight_any rs[k] _ lo hi _ (HS.out.below ha (by omega)) (by simp; omega)).mono ?_
        rintro e w2 ⟨rfl, hb2⟩
        rw [H3.out]
        go_wp2
        go_ret
        exact ⟨ret_bool (gramB_f fun ⟨_, _, a⟩ => by have := a k hlt; rw [H3.out] at this; cases this).symm, (hbw.trans (ha.mono hsw)).trans (hb2.mono (by simp; omega))⟩
      · have H3 := Lib.hid h3
        clear h3
        go_wp2_with fail
        refine (implRuleRight_any rs[k] _ lo hi _ (HS.out.below ha (by omega)) (by simp; omega)).mono ?_
        rintro e w2 ⟨rfl, hb2⟩
        rw [H3.out]
        go_wp2
        go_roundw
        case rel => exact ⟨k + 1, by omega, by go_num, (hbw.trans (ha.mono hsw)).trans (hb2.mono (by simp; omega)), fun j hj hjk => by
          by_cases e : j = k
          · subst e; exact H3.out
          · exact HA.out j hj (by omega)⟩
        case measure => simp [intOf]; omega
    · go_wp2
      go_ret
      exact ⟨ret_bool ((gramB_iff rs).2 ⟨by omega, by omega, fun i hi => HA.out i hi (by omega)⟩).symm, hbw⟩
end Go.Proofs.Ytbaofldcdcllfaa
