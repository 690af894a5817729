/- Where a list of Kids lies, as a value and as a key: impl.placeOf. -/
import Derived.Test.YtonfiahihmcmlaaPMap
import Derived.Test.YtonfiahihmcmlaaSsz
import Derived.Laws.StructEq
namespace Go.Proofs.Ytonfiahihmcmlaa
open Go.RowKit

/-- a place: the first tree's address, and how many there are -/
abbrev Place := Addr × Nat
def plV (p : Place) : Value := .agg #[.pointer (some p.1), .int .i64 (p.2 : Int)]
def plOk (w : World) (p : Place) : Prop := FreeB w p.1.block

set_option maxRecDepth 100000 in
set_option maxHeartbeats 1000000 in
theorem placeOf_any (b off n c : Nat) (w : World) (hn : 0 < n) :
    Calls Try.prog 117 #[.slice (some ⟨b, off, none⟩) n c] w fun e w' => e = .returned (plV (⟨b, off, none⟩, n)) ∧ Below w.heap.size w w' := by
  unfold plV
  go_enter Try.func117, Try.ntmps117
  go_wp2
  refine bodyPost_ret (v := .agg #[.pointer (some ⟨b, off, none⟩), .int .i64 (n : Int)]) (by simp [results, Try.results117, go_sem]) rfl ⟨rfl, ?_⟩
  exact al1 _ _

theorem heldPlace : Try.prog.stoodInHeld 162 = false := by kernel_rfl
theorem und0 : Try.prog.underlying 160 = some (.pointer 62) := Try.underlying160
theorem cellsTree : Try.prog.cellsOf 62 = 3 := by kernel_rfl
theorem eqPtr (d : Nat) (w : World) (a b : Addr) (ha : FreeB w a.block) (hb : FreeB w b.block) : (Op.equalIn (d + 1) 160 (.pointer (some a)) (.pointer (some b))).run Try.prog w = .ok (decide (a = b)) w := by
  obtain ⟨ca, ta, ha⟩ := ha
  obtain ⟨cb, tb, hb⟩ := hb
  obtain ⟨i0, hi0, hz0⟩ : ∃ i, Try.prog.info? 62 = some i ∧ i.size = 3 := by
    have : (Try.prog.info? 62).map (·.size) = some 3 := by kernel_rfl
    cases h : Try.prog.info? 62 with
    | none => rw [h] at this; cases this
    | some i => rw [h] at this; exact ⟨i, rfl, by simpa using this⟩
  by_cases h : a = b
  · subst h
    simp [Op.equalIn, run_underlying und0, sizeOf, typeInfo, hi0, run_sameAddr_same]
  · simp [Op.equalIn, run_underlying und0, sizeOf, typeInfo, hi0, hz0, run_sameAddr_other w h ha hb, h]

theorem partPtr (w : World) (xs : Array Value) (k : Nat) (v : Value) (hv : xs[k]? = some v) : (part 160 xs k).run Try.prog w = .ok v w := by simp [part, isAgg, run_underlying und0, hv]
theorem partInt (w : World) (xs : Array Value) (k : Nat) (v : Value) (hv : xs[k]? = some v) : (part 3 xs k).run Try.prog w = .ok v w := by simp [part, isAgg, run_underlying Try.underlying3, hv]
theorem place_eq (p q : Place) : decide (p = q) = (decide (p.1 = q.1) && ((p.2 : Int) == (q.2 : Int))) := by
  obtain ⟨a, n⟩ := p
  obtain ⟨b, m⟩ := q
  rw [Bool.eq_iff_iff]
  simp
  intro _
  omega
theorem eqPlace (d : Nat) (w : World) (p q : Place) (hp : plOk w p) (hq : plOk w q) : (Op.equalIn (d + 2) 162 (plV p) (plV q)).run Try.prog w = .ok (decide (p = q)) w := by
  unfold plV
  rw [run_equalIn_struct w (d + 1) 162 _ _ (by rw [Program.fieldsOf, Try.underlying162]) heldPlace]
  have e1 := eqPtr d w p.1 q.1 hp hq
  have e2 := run_equalIn_int (P := Try.prog) w d 3 .i64 .i64 (p.2 : Int) (q.2 : Int) Try.underlying3
  simp only [Program.fieldsOf, Try.underlying162]
  rw [place_eq]
  have p1 := partPtr w #[.pointer (some p.1), .int .i64 (p.2 : Int)] 0 _ rfl
  have p2 := partPtr w #[.pointer (some q.1), .int .i64 (q.2 : Int)] 0 _ rfl
  have p3 := partInt w #[.pointer (some p.1), .int .i64 (p.2 : Int)] 1 _ rfl
  have p4 := partInt w #[.pointer (some q.1), .int .i64 (q.2 : Int)] 1 _ rfl
  by_cases h : p.1 = q.1
  · rw [decide_eq_true h] at e1 ⊢
    cases h2 : ((p.2 : Int) == (q.2 : Int))
    all_goals
      rw [h2] at e2
      simp [Op.eqFields, p1, p2, p3, p4, e1, e2]
  · rw [decide_eq_false h] at e1 ⊢
    simp [Op.eqFields, p1, p2, e1]
theorem chkPlace (e : Bool) (n : Nat) (w : World) (p : Place) : (Instr.checkKey e (n + 2) 162 (plV p)).run Try.prog w = .ok () w := by
  have p1 := partPtr w #[.pointer (some p.1), .int .i64 (p.2 : Int)] 0 _ rfl
  have p3 := partInt w #[.pointer (some p.1), .int .i64 (p.2 : Int)] 1 _ rfl
  simp [Instr.checkKey, plV, run_underlying Try.underlying162, p1, p3, run_underlying und0, run_underlying Try.underlying3]
theorem bitsPlace (n : Nat) (p : Place) : Instr.sameBits (n + 2) (plV p) (plV p) = true := by simp [plV, Instr.sameBits]
theorem keyPlace : KeyK Try.prog 162 plV plOk where
  und := ⟨_, Try.underlying162, fun _ _ => rfl⟩
  eq := fun w p q hp hq => by
    show (Op.equalIn (9998 + 2) _ _ _).run _ _ = _
    exact eqPlace 9998 w p q hp hq
  chk := fun w p e => by
    show (Instr.checkKey e (9998 + 2) _ _).run _ _ = _
    exact chkPlace e 9998 w p
  bits := fun p => bitsPlace 9998 p
end Go.Proofs.Ytonfiahihmcmlaa
