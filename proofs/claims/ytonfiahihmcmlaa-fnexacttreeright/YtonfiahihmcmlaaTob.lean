/- What came in, laid anew, on: toRule, toRuleS, toGram. -/
import Derived.Test.YtonfiahihmcmlaaTo
namespace Go.Proofs.Ytonfiahihmcmlaa
open Go.RowKit

set_option maxHeartbeats 1000000 in
theorem toRule_any (r : RuleD) (u : Value) (lo hi : Nat) (w : World) (h : Strs w lo hi u r.body) (hhi : hi ≤ w.heap.size) (hn : r.body.length ≤ 1048576) :
    Calls Try.prog 140 #[.agg #[.string r.head, u]] w fun e w' => ∃ x g, e = .returned (.agg #[.string r.head, x]) ∧ OwnS w' g x r.body ∧ w.heap.size ≤ g ∧ g < w'.heap.size ∧ Below w.heap.size w w' := by
  go_enter Try.func140, Try.ntmps140
  go_wp2_with fail
  refine (toStringS_any u r.body lo hi _ (h.below (B := w.heap.size) (al3 _ _ _ _) hhi) (by simp; omega) hn).mono ?_
  rintro e w1 ⟨x, rfl, hown, hlt, hb⟩
  have hb0 : Below w.heap.size w w1 := (al3 _ _ _ _).trans (hb.mono (by simp; omega))
  have R1 : Row w1 (w.heap.size + 1) 49 #[.string ⟨#[]⟩, .slice none 0 0] := by
    refine Row.below (Row.alloc ?_ _) hb (by simp)
    simpa using Row.made (w.alloc (.cells #[Value.string r.head, u] 200)) 49 #[.string ⟨#[]⟩, .slice none 0 0]
  have R2 : Row w1 (w.heap.size + 1 + 1) 49 #[.string r.head, .slice none 0 0] := by
    refine Row.below ?_ hb (by simp)
    simpa using Row.made ((w.alloc (.cells #[Value.string r.head, u] 200)).alloc (.cells #[.string ⟨#[]⟩, .slice none 0 0] 49)) 49 #[.string r.head, .slice none 0 0]
  clear hb
  have hg : w.heap.size + 1 + 1 + 1 < w1.heap.size := by simpa using hlt
  have hown' : OwnS w1 (w.heap.size + 1 + 1 + 1) x r.body := by simpa using hown
  clear hown hlt
  have c10 := R1.cell 0
  have c11 := R1.cell 1
  have c20 := R2.cell 0
  have c21 := R2.cell 1
  simp at c10 c11 c20 c21
  have f10 := R1.free 0
  have f11 := R1.free 1
  have f20 := R2.free 0
  have f21 := R2.free 1
  clear R1 R2
  have HO := Lib.hid hown'
  obtain ⟨A, c, rfl, -⟩ := hown'
  go_wp2
  refine bodyPost_ret (v := .agg #[.string r.head, .slice A r.body.length c]) (by simp [results, Try.results140, go_sem, c10, c11]) rfl ⟨_, w.heap.size + 1 + 1 + 1, rfl, ?_, by omega, by simpa [World.setCell] using hg, ?_⟩
  · refine HO.out.keep fun _ => ?_
    rw [Below.heap_setCell _ _ _ _ (by simp; omega), Below.heap_setCell _ _ _ _ (by simp; omega), Below.heap_setCell _ _ _ _ (by simp)]
  · exact ((hb0.setCell (by simp; omega) _).setCell (by simp) _).setCell (by simp) _
end Go.Proofs.Ytonfiahihmcmlaa
