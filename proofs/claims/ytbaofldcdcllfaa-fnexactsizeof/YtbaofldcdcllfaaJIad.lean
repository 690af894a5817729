import Derived.Test.YtbaofldcdcllfaaPMap
import Derived.Test.YtbaofldcdcllfaaJSsz
import Derived.Laws.StructEq
import Derived.Test.YtbaofldcdcllfaaSz
import Derived.Test.YtbaofldcdcllfaaOwns
/- Where a list of Kids lies, as a value and as a key: impl.placeOf. -/
namespace Go.Proofs.Ytbaofldcdcllfaa
open Go.RowKit

/-- a place: the first tree's address, and how many there are -/
abbrev Place := Addr × Nat
def plV (p : Place) : Value := .agg #[.pointer (some p.1), .int .i64 (p.2 : Int)]
def plOk (w : World) (p : Place) : Prop := FreeB w p.1.block

set_option maxRecDepth 100000 in
set_option maxHeartbeats 1000000 in
theorem placeOf_any (b off n c : Nat) (w : World) (hn : 0 < n) :
    Calls Try.prog 94 #[.slice (some ⟨b, off, none⟩) n c] w fun e w' => e = .returned (plV (⟨b, off, none⟩, n)) ∧ Below w.heap.size w w' := by
  unfold plV
  go_enter Try.func94, Try.ntmps94
  go_wp2
  refine bodyPost_ret (v := .agg #[.pointer (some ⟨b, off, none⟩), .int .i64 (n : Int)]) (by simp [results, Try.results94, go_sem]) rfl ⟨rfl, ?_⟩
  exact al1 _ _

theorem heldPlace : Try.prog.stoodInHeld 147 = false := by kernel_rfl
theorem und0 : Try.prog.underlying 145 = some (.pointer 29) := Try.underlying145
theorem cellsTree : Try.prog.cellsOf 29 = 3 := by kernel_rfl
theorem eqPtr (d : Nat) (w : World) (a b : Addr) (ha : FreeB w a.block) (hb : FreeB w b.block) : (Op.equalIn (d + 1) 145 (.pointer (some a)) (.pointer (some b))).run Try.prog w = .ok (decide (a = b)) w := by
  obtain ⟨ca, ta, ha⟩ := ha
  obtain ⟨cb, tb, hb⟩ := hb
  obtain ⟨i0, hi0, hz0⟩ : ∃ i, Try.prog.info? 29 = some i ∧ i.size = 3 := by
    have : (Try.prog.info? 29).map (·.size) = some 3 := by kernel_rfl
    cases h : Try.prog.info? 29 with
    | none => rw [h] at this; cases this
    | some i => rw [h] at this; exact ⟨i, rfl, by simpa using this⟩
  by_cases h : a = b
  · subst h
    simp [Op.equalIn, run_underlying und0, sizeOf, typeInfo, hi0, run_sameAddr_same]
  · simp [Op.equalIn, run_underlying und0, sizeOf, typeInfo, hi0, hz0, run_sameAddr_other w h ha hb, h]

theorem partPtr (w : World) (xs : Array Value) (k : Nat) (v : Value) (hv : xs[k]? = some v) : (part 145 xs k).run Try.prog w = .ok v w := by simp [part, isAgg, run_underlying und0, hv]
theorem partInt (w : World) (xs : Array Value) (k : Nat) (v : Value) (hv : xs[k]? = some v) : (part 3 xs k).run Try.prog w = .ok v w := by simp [part, isAgg, run_underlying Try.underlying3, hv]
theorem place_eq (p q : Place) : decide (p = q) = (decide (p.1 = q.1) && ((p.2 : Int) == (q.2 : Int))) := by
  obtain ⟨a, n⟩ := p
  obtain ⟨b, m⟩ := q
  rw [Bool.eq_iff_iff]
  simp
  intro _
  omega
theorem eqPlace (d : Nat) (w : World) (p q : Place) (hp : plOk w p) (hq : plOk w q) : (Op.equalIn (d + 2) 147 (plV p) (plV q)).run Try.prog w = .ok (decide (p = q)) w := by
  unfold plV
  rw [run_equalIn_struct w (d + 1) 147 _ _ (by rw [Program.fieldsOf, Try.underlying147]) heldPlace]
  have e1 := eqPtr d w p.1 q.1 hp hq
  have e2 := run_equalIn_int (P := Try.prog) w d 3 .i64 .i64 (p.2 : Int) (q.2 : Int) Try.underlying3
  simp only [Program.fieldsOf, Try.underlying147]
  rw [place_eq]
  have p1 := partPtr w #[.pointer (some p.1), .int .i64 (p.2 : Int)] 0 _ rfl
  have p2 := partPtr w #[.pointer (some q.1), .int .i64 (q.2 : Int)] 0 _ rfl
  have p3 := partInt w #[.pointer (some p.1), .int .i64 (p.2 : Int)] 1 _ rfl
  have p4 := partInt w #[.pointer (some q.1), .int .i64 (q.2 : Int)] 1 _ rfl
  by_cases h : p.1 = q.1
  · rw [decide_eq_true h] at e1 ⊢
    cases h2 : ((p.2 : Int) == (q.2 : Int))
    all_goals
      rw [h2] at e2
      simp [Op.eqFields, p1, p2, p3, p4, e1, e2]
  · rw [decide_eq_false h] at e1 ⊢
    simp [Op.eqFields, p1, p2, e1]
theorem chkPlace (e : Bool) (n : Nat) (w : World) (p : Place) : (Instr.checkKey e (n + 2) 147 (plV p)).run Try.prog w = .ok () w := by
  have p1 := partPtr w #[.pointer (some p.1), .int .i64 (p.2 : Int)] 0 _ rfl
  have p3 := partInt w #[.pointer (some p.1), .int .i64 (p.2 : Int)] 1 _ rfl
  simp [Instr.checkKey, plV, run_underlying Try.underlying147, p1, p3, run_underlying und0, run_underlying Try.underlying3]
theorem bitsPlace (n : Nat) (p : Place) : Instr.sameBits (n + 2) (plV p) (plV p) = true := by simp [plV, Instr.sameBits]
theorem keyPlace : KeyK Try.prog 147 plV plOk where
  und := ⟨_, Try.underlying147, fun _ _ => rfl⟩
  eq := fun w p q hp hq => by
    show (Op.equalIn (9998 + 2) _ _ _).run _ _ = _
    exact eqPlace 9998 w p q hp hq
  chk := fun w p e => by
    show (Instr.checkKey e (9998 + 2) _ _).run _ _ = _
    exact chkPlace e 9998 w p
  bits := fun p => bitsPlace 9998 p
end Go.Proofs.Ytbaofldcdcllfaa

/- The sum and the product of two sizes: impl.plus, impl.times. -/
namespace Go.Proofs.Ytbaofldcdcllfaa
open Go.RowKit

theorem plus_any (a b : Int) (w : World) (a0 : 0 ≤ a) (a1 : a ≤ 4194304) (b0 : 0 ≤ b) (b1 : b ≤ 4194304) :
    Calls Try.prog 95 #[.int .i64 a, .int .i64 b] w fun e w' => e = .returned (.int .i64 (a + b)) ∧ w' = w := by
  have d : decide (b > 9223372036854775807 - a) = false := decide_eq_false (by omega)
  go_enter Try.func95, Try.ntmps95
  go_wp2
  go_ret
  exact ⟨rfl, rfl⟩
def endl : Int := 9223372036854775807
theorem stk3_one (A : Option Addr) (n c : Nat) (a b : Int) : ∀ u ∈ [Value.slice A n c, .int .i64 a, .int .i64 b], u.oneCell' = true := by
  intro u hu
  simp only [List.mem_cons, List.not_mem_nil, or_false] at hu
  rcases hu with rfl | rfl | rfl <;> rfl
theorem below_dn {B : Nat} {a w : World} (h : Below B a w) (n : Nat) : Below B a (w.drewN n) := ⟨h.os, h.tape, h.output, h.size, h.block⟩
theorem zeroI64 (w : World) : (zeroValue 2).run Try.prog w = .ok (.int .i64 0) w := by kernel_rfl
end Go.Proofs.Ytbaofldcdcllfaa

/- One more of a list is counted: (*tally).add. -/
namespace Go.Proofs.Ytbaofldcdcllfaa
open Go.RowKit

set_option maxRecDepth 100000 in
set_option maxHeartbeats 1000000 in
theorem add_any (g o : Nat) (d s x : Int) (w : World) (h1 : w.cell? ⟨g, o + 1, none⟩ = some (.int .i64 d)) (h2 : w.cell? ⟨g, o + 2, none⟩ = some (.int .i64 s)) (f1 : w.frozen? ⟨g, o + 1, none⟩ = false) (f2 : w.frozen? ⟨g, o + 2, none⟩ = false)
    (d0 : 0 ≤ d) (d1 : d ≤ 2097152) (s0 : 0 ≤ s) (s1 : s ≤ 2097152) (x0 : 0 ≤ x) (x1 : x ≤ 2097152) :
    Calls Try.prog 93 #[.pointer (some ⟨g, o, none⟩), .int .i64 (1 + x)] w fun e w' => e = .returned (.tuple #[]) ∧ w' = (w.setCell ⟨g, o + 1, none⟩ (.int .i64 (d + 1))).setCell ⟨g, o + 2, none⟩ (.int .i64 (s + (1 + x))) := by
  go_enter Try.func93, Try.ntmps93
  go_wp2_with fail
  refine (plus_any s (1 + x) _ (by omega) (by omega) (by omega) (by omega)).mono ?_
  rintro e w1 ⟨rfl, rfl⟩
  go_wp2
  first | go_end0 | go_ret
  exact ⟨rfl, rfl⟩
end Go.Proofs.Ytbaofldcdcllfaa
