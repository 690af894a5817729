/- Do the marks of a grammar stand? heldRuleS, heldGram. -/
import Derived.Test.YtojmcjcdcneikaaMarkc
namespace Go.Proofs.Ytojmcjcdcneikaa
open Go.RowKit

set_option maxRecDepth 100000 in
set_option maxHeartbeats 2000000 in
theorem heldRuleS_any (v : Value) (rs : List RuleD) (lo hi k : Nat) (w : World) (h : Rules w lo hi v (markR k rs)) (hh : hi ≤ w.heap.size) (h1 : 1 ≤ k) (h2 : k + cntTo rs rs.length ≤ 1000000000) :
    Calls Try.prog 76 #[v, .int .i64 (k : Int)] w fun e w' => e = .returned (.int .i64 ((k + cntTo rs rs.length : Nat) : Int)) ∧ Below w.heap.size w w' := by
  obtain ⟨A, c, rfl, hlc, hc, hcell⟩ := h
  have hge := cntTo_ge rs
  rw [markR_len] at hlc ⊢
  have HC := Lib.hid hcell
  clear hcell
  go_enter Try.func76, Try.ntmps76
  go_wp2
  go_loopw [1, 5] (fun x i wr => ∃ (j : Nat), j ≤ rs.length ∧ i = .int .i64 (j : Int) ∧ x = .int .i64 ((k + cntTo rs j : Nat) : Int) ∧ Below w.heap.size w wr) (fun _ i _ => rs.length - (intOf i).toNat)
  case atStart => exact ⟨0, by omega, rfl, rfl, Below.refl _ _⟩
  case round =>
    obtain ⟨j, hj, rfl, rfl, hbw⟩ := hrel
    have hsw := hbw.size
    by_cases hlt : j < rs.length
    · obtain ⟨b, off, rfl, _, hbh, hcc⟩ := HC.out (by rw [markR_len]; omega)
      obtain ⟨_, hc0, u, hc1, hst⟩ := hcc j (by rw [markR_len]; exact hlt)
      rw [markR_at] at hc0 hst
      have hcnt := cntTo_succ hlt
      have hcle := cntTo_le rs (j + 1)
      have hcle' : cntTo rs j + (1 + rs[j].body.length) ≤ cntTo rs rs.length := by omega
      have HCN := Lib.hid hcnt
      have hc0' : wr.cell? ⟨b, off + j * 2, none⟩ = some (.string (mt (k + cntTo rs j))) := (hbw.cell (p := ⟨b, off + j * 2, none⟩) (by show b < _; omega)).trans hc0
      have hc1' := (hbw.cell (p := ⟨b, off + j * 2 + 1, none⟩) (by show b < _; omega)).trans hc1
      have hst' : Strs wr lo hi u (marks (k + cntTo rs j + 1) rs[j].body.length) := by
        have := hst.below hbw hh
        simp only [mrk, bodyLen_at hlt] at this
        exact this
      have HST := Lib.hid hst'
      have i1 : (j : Int) < (rs.length : Int) := by omega
      clear hcc hc0 hc1 hst hcnt hcle hst'
      go_wp2_with fail
      go_region_held3 (fun w' => w'.cell? ⟨b, off + j * 2, none⟩ = some (.string (mt (k + cntTo rs j))))
        (first | go_keep | (rw [b1.cell (by show b < _; simp; omega)]; assumption))
        (first | (go_at_call 66; refine (markText_any (k + cntTo rs j) _ (by omega) (by omega)).mono ?_; rintro e w1 ⟨rfl, b1⟩))
      have z1 : wr.heap.size ≤ w1.heap.size := b1.size
      have b1' : Below wr.heap.size wr w1 := ⟨b1.os, b1.tape, b1.output, b1.size, b1.block⟩
      have hb2 : Below w.heap.size w w1 := hbw.trans (b1'.mono hsw)
      have hc2 := (b1'.cell (p := ⟨b, off + j * 2 + 1, none⟩) (by show b < _; omega)).trans hc1'
      have hs2 := HST.out.below b1' (by omega)
      have d1 : decide (k + cntTo rs j + 1 + rs[j].body.length < 0) = false := decide_eq_false (by omega)
      clear b1
      go_wp2_with fail
      refine (heldStringS_any u rs[j].body.length lo hi (k + cntTo rs j + 1) _ hs2 (by omega) (by omega) (by omega)).mono ?_
      rintro e w3 ⟨rfl, b3⟩
      go_wp2
      go_roundw
      case rel => exact ⟨j + 1, by omega, by go_num, by rw [HCN.out]; go_num, hb2.trans (b3.mono (by omega))⟩
      case measure => simp [intOf]; omega
    · have hjs : j = rs.length := by omega
      subst hjs
      go_wp2
      go_ret
      exact ⟨rfl, hbw⟩

set_option maxHeartbeats 1000000 in
theorem heldGram_any (v : Value) (rs : List RuleD) (lo hi k : Nat) (w : World) (h : Rules w lo hi v (markR k rs)) (hh : hi ≤ w.heap.size) (h1 : 1 ≤ k) (h2 : k + cntTo rs rs.length ≤ 1000000000) :
    Calls Try.prog 64 #[.agg #[v], .int .i64 (k : Int)] w fun e w' => e = .returned (.int .i64 ((k + cntTo rs rs.length : Nat) : Int)) ∧ Below w.heap.size w w' := by
  have hb := al1 w (.cells #[v] 25)
  go_enter Try.func64, Try.ntmps64
  go_wp2_with fail
  refine (heldRuleS_any v rs lo hi k _ (h.below hb hh) (by simp; omega) h1 h2).mono ?_
  rintro e w1 ⟨rfl, b1⟩
  go_wp2
  go_ret
  exact ⟨rfl, hb.trans (b1.mono (by simp))⟩
end Go.Proofs.Ytojmcjcdcneikaa
