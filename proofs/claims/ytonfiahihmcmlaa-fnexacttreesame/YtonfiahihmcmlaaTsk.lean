/- Two places, as a key: an array of two. -/
import Derived.Test.YtonfiahihmcmlaaIpl
import Derived.Test.YtonfiahihmcmlaaTsd
import Derived.ChangeKeysEq
namespace Go.Proofs.Ytonfiahihmcmlaa
open Go.RowKit

def p2V (q : Place2) : Value := .agg #[.pointer (some q.1.1), .int .i64 (q.1.2 : Int), .pointer (some q.2.1), .int .i64 (q.2.2 : Int)]
def p2Ok (w : World) (q : Place2) : Prop := plOk w q.1 ∧ plOk w q.2
theorem infoPlace : ∃ i, Try.prog.info? 162 = some i ∧ i.size = 2 := by
  have : (Try.prog.info? 162).map (·.size) = some 2 := by kernel_rfl
  cases h : Try.prog.info? 162 with
  | none => rw [h] at this; cases this
  | some i => rw [h] at this; exact ⟨i, rfl, by simpa using this⟩
theorem cellsPlace : Try.prog.cellsOf 162 = 2 := by kernel_rfl
theorem partPlace (w : World) (xs : Array Value) (k : Nat) : (part 162 xs k).run Try.prog w = .ok (.agg (xs.extract k (k + 2))) w := by
  obtain ⟨i, h1, h2⟩ := infoPlace
  simp [part, isAgg, run_underlying Try.underlying162, sizeOf, typeInfo, h1, h2]
theorem eqPlace2 (d : Nat) (w : World) (p q : Place2) (hp : p2Ok w p) (hq : p2Ok w q) : (Op.equalIn (d + 3) 164 (p2V p) (p2V q)).run Try.prog w = .ok (decide (p = q)) w := by
  obtain ⟨i, h1, _⟩ := infoPlace
  have e1 := eqPlace d w p.1 q.1 hp.1 hq.1
  have e2 := eqPlace d w p.2 q.2 hp.2 hq.2
  unfold plV at e1 e2
  have hd : decide (p = q) = (decide (p.1 = q.1) && decide (p.2 = q.2)) := by
    rw [Bool.eq_iff_iff, Bool.and_eq_true, decide_eq_true_eq, decide_eq_true_eq, decide_eq_true_eq]
    exact ⟨fun h => by subst h; exact ⟨rfl, rfl⟩, fun h => Prod.ext h.1 h.2⟩
  unfold p2V
  rw [show d + 3 = (d + 2) + 1 from rfl, run_equalIn_array w (d + 2) _ _ Try.underlying164 h1, cellsPlace, hd]
  have q1 := partPlace w #[.pointer (some p.1.1), .int .i64 (p.1.2 : Int), .pointer (some p.2.1), .int .i64 (p.2.2 : Int)] 0
  have q2 := partPlace w #[.pointer (some p.1.1), .int .i64 (p.1.2 : Int), .pointer (some p.2.1), .int .i64 (p.2.2 : Int)] 2
  have r1 := partPlace w #[.pointer (some q.1.1), .int .i64 (q.1.2 : Int), .pointer (some q.2.1), .int .i64 (q.2.2 : Int)] 0
  have r2 := partPlace w #[.pointer (some q.1.1), .int .i64 (q.1.2 : Int), .pointer (some q.2.1), .int .i64 (q.2.2 : Int)] 2
  simp at q1 q2 r1 r2
  have hr : List.range 2 = [0, 1] := rfl
  rw [hr]
  by_cases ha : p.1 = q.1
  · rw [decide_eq_true ha] at e1 ⊢
    cases hb : decide (p.2 = q.2)
    all_goals
      rw [hb] at e2
      simp [Op.eqItems, q1, q2, r1, r2, e1, e2]
  · rw [decide_eq_false ha] at e1 ⊢
    simp [Op.eqItems, q1, r1, e1]
theorem chkPlace2 (e : Bool) (n : Nat) (w : World) (p : Place2) : (Instr.checkKey e (n + 3) 164 (p2V p)).run Try.prog w = .ok () w := by
  have c1 := chkPlace e n w p.1
  have c2 := chkPlace e n w p.2
  unfold plV at c1 c2
  obtain ⟨i, h1, h2⟩ := infoPlace
  have q1 := partPlace w #[.pointer (some p.1.1), .int .i64 (p.1.2 : Int), .pointer (some p.2.1), .int .i64 (p.2.2 : Int)] 0
  have q2 := partPlace w #[.pointer (some p.1.1), .int .i64 (p.1.2 : Int), .pointer (some p.2.1), .int .i64 (p.2.2 : Int)] 2
  simp at q1 q2
  have hs : (sizeOf 162).run Try.prog w = .ok 2 w := by simp [sizeOf, typeInfo, h1, h2]
  rw [show n + 3 = (n + 2) + 1 from rfl, Instr.checkKey]
  simp [p2V, run_underlying Try.underlying164, Std.Legacy.Range.forIn_eq_forIn_range', Std.Legacy.Range.size, List.range', hs, q1, q2, c1, c2]
theorem bitsPlace2 (n : Nat) (p : Place2) : Instr.sameBits (n + 2) (p2V p) (p2V p) = true := by simp [p2V, Instr.sameBits]
theorem keyPlace2 : KeyK Try.prog 164 p2V p2Ok where
  und := ⟨_, Try.underlying164, fun _ _ => rfl⟩
  eq := fun w p q hp hq => by
    show (Op.equalIn (9997 + 3) _ _ _).run _ _ = _
    exact eqPlace2 9997 w p q hp hq
  chk := fun w p e => by
    show (Instr.checkKey e (9997 + 3) _ _).run _ _ = _
    exact chkPlace2 e 9997 w p
  bits := fun p => bitsPlace2 9998 p
end Go.Proofs.Ytonfiahihmcmlaa
