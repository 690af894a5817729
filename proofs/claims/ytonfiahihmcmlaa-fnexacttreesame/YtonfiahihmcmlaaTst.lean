/- Two lists of trees, alike but for what is in the Kids: impl.sameTops. -/
import Derived.Test.YtonfiahihmcmlaaSpp
namespace Go.Proofs.Ytonfiahihmcmlaa
open Go.RowKit

def TopEq (a b : TreeD) : Prop := a.rule = b.rule ∧ a.tok = b.tok ∧ a.kids.length = b.kids.length
instance (a b : TreeD) : Decidable (TopEq a b) := inferInstanceAs (Decidable (_ ∧ _ ∧ _))
def TopsEq (x y : List TreeD) : Prop := x.length = y.length ∧ ∀ i (h : i < x.length) (h' : i < y.length), TopEq x[i] y[i]

set_option maxRecDepth 100000 in
set_option maxHeartbeats 1000000 in
theorem sameTop_any (a b : TreeD) (A B : Option Addr) (c d : Nat) (w : World) :
    Calls Try.prog 148 #[.agg #[.int .i64 a.rule, .string a.tok, .slice A a.kids.length c], .agg #[.int .i64 b.rule, .string b.tok, .slice B b.kids.length d]] w fun e w' => e = .returned (.bool (decide (TopEq a b))) ∧ Below w.heap.size w w' := by
  by_cases h1 : a.rule = b.rule
  · have e1 : (a.rule == b.rule) = true := by rw [beq_iff_eq]; exact h1
    by_cases h2 : a.tok = b.tok
    · have e2 := bytes_beq_t h2
      have HE : Hid (decide (TopEq a b) = ((a.kids.length : Int) == (b.kids.length : Int))) := Lib.hid (by
        rw [Bool.eq_iff_iff, decide_eq_true_eq, beq_iff_eq]
        unfold TopEq
        constructor
        · rintro ⟨_, _, h⟩; omega
        · intro h; exact ⟨h1, h2, by omega⟩)
      have H2 := Lib.hid h2
      have H1 := Lib.hid h1
      clear h2 h1
      go_enter Try.func148, Try.ntmps148
      go_wp2
      go_ret
      exact ⟨ret_bool HE.out.symm, al2 _ _ _⟩
    · have e2 := bytes_beq_f h2
      have HE := Lib.hid (decide_eq_false (fun h : TopEq a b => h2 h.2.1))
      have H1 := Lib.hid h1
      clear h1
      go_enter Try.func148, Try.ntmps148
      go_wp2
      go_ret
      exact ⟨ret_bool HE.out.symm, al2 _ _ _⟩
  · have e1 : (a.rule == b.rule) = false := by rw [beq_eq_false_iff_ne]; exact h1
    have HE := Lib.hid (decide_eq_false (fun h : TopEq a b => h1 h.1))
    go_enter Try.func148, Try.ntmps148
    go_wp2
    go_ret
    exact ⟨ret_bool HE.out.symm, al2 _ _ _⟩
open Classical in
theorem topsEq_f {x y : List TreeD} (h : ¬ TopsEq x y) : decide (TopsEq x y) = false := decide_eq_false h
end Go.Proofs.Ytonfiahihmcmlaa
