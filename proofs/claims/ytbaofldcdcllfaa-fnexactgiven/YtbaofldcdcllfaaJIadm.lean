import Derived.Test.YtbaofldcdcllfaaJTrz
import Derived.Deep.QuietTactic
import Derived.StillTailTactics
import Derived.Laws.StructEq
import Derived.Test.YtbaofldcdcllfaaTm
import Derived.Test.YtbaofldcdcllfaaJTmz
import Derived.Test.YtbaofldcdcllfaaJOwns
/- The model's sizes of a tree: spec.SizeOf, spec.l05Size. -/
namespace Go.Proofs.Ytbaofldcdcllfaa
open Go.RowKit

theorem tree_ind {p : TreeD → Prop} (h : ∀ t : TreeD, (∀ i (h : i < t.kids.length), p t.kids[i]) → p t) (t : TreeD) : p t :=
  h t (kids_ind (p := fun ts => ∀ i (h : i < ts.length), p ts[i]) (fun _ ih i hi => h _ (ih i hi)) t.kids)

def SpZ (t : TreeD) : Prop := ∀ (z : Bool) (u : Value) (lo hi : Nat) (w : World), Kd z w lo hi u t.kids → hi ≤ w.heap.size → sizeT t ≤ 2097152 →
  Calls Try.prog 8 #[trV t u] w fun e w' => e = .returned (.int .i64 (sizeT t : Int)) ∧ Below w.heap.size w w'

set_option maxRecDepth 100000 in
set_option maxHeartbeats 1000000 in
theorem specSizeOf_of (t : TreeD) (ih : ∀ i (h : i < t.kids.length), SpZ t.kids[i]) : SpZ t := by
  intro z u lo hi w h hhi hn
  have hst := sizeT_eq t
  obtain ⟨A, c, U, rfl, hlc, hc, hs, hcell, hsub⟩ := h.parts
  unfold maxLen at hc
  have HC := Lib.hid hcell
  have HB := Lib.hid hsub
  clear hcell hsub h hs
  unfold trV
  have hb0 := al1 w (.cells #[.int .i64 t.rule, .string t.tok, .slice A t.kids.length c] 29)
  have R0 := Row.made w 29 #[.int .i64 t.rule, .string t.tok, .slice A t.kids.length c]
  go_enter Try.func8, Try.ntmps8
  go_wp2
  generalize w.alloc (.cells #[.int .i64 t.rule, .string t.tok, .slice A t.kids.length c] 29) = w0 at hb0 R0 ⊢
  go_loopw [3, 4] (fun l i wr => ∃ k : Nat, k ≤ t.kids.length ∧ i = .int .i64 k ∧ l = .int .i64 ((1 + sizeTs (t.kids.take k) : Nat) : Int) ∧ Below w0.heap.size w0 wr) (fun _ i _ => t.kids.length - (intOf i).toNat)
  case atStart => exact ⟨0, by omega, rfl, by simp [sizeTs], Below.refl _ _⟩
  case round =>
    obtain ⟨k, hk, rfl, rfl, hbw⟩ := hrel
    have hsw := hbw.size
    have hws := hb0.size
    have R1 := R0.below hbw R0.lt
    have hlt0 := R1.lt
    have c2 := R1.cell 2
    simp at c2
    by_cases hlt : k < t.kids.length
    · obtain ⟨b, off, rfl, _, hbh, _, hcc⟩ := HC.out (by omega)
      obtain ⟨hc0, hc1, hc2⟩ := hcc k hlt
      have hbx := hb0.trans (hbw.mono hws)
      have k0 := (hbx.cell (p := ⟨b, off + k * 3, none⟩) (by show b < _; omega)).trans hc0
      have k1 := (hbx.cell (p := ⟨b, off + k * 3 + 1, none⟩) (by show b < _; omega)).trans hc1
      have k2 := (hbx.cell (p := ⟨b, off + k * 3 + 2, none⟩) (by show b < _; omega)).trans hc2
      have hst' := (HB.out k hlt).under hbx hhi
      have hg := sizeTs_take t.kids k hlt
      have hle := sizeTs_take_le t.kids (k + 1)
      have HG := Lib.hid hg
      have hle2 : 1 + sizeTs (t.kids.take k) + sizeT t.kids[k] ≤ 2097152 := by omega
      clear hcc hc0 hc1 hc2 hg hle R1 hst
      go_wp2_with fail
      refine (ih k hlt z (U k) lo hi _ hst' (by omega) (by omega)).mono ?_
      rintro e w1 ⟨rfl, hb1⟩
      go_wp2
      go_roundw
      case rel => exact ⟨k + 1, by omega, by go_num, by rw [HG.out]; go_num, hbw.trans (hb1.mono hsw)⟩
      case measure => simp [intOf]; omega
    · have hks : k = t.kids.length := by omega
      have HK := Lib.hid hks
      clear hks R1
      go_wp2
      go_ret
      refine ⟨ret_int ?_, hb0.trans (hbw.mono hws)⟩
      have e := HK.out
      subst e
      rw [List.take_length, hst]
theorem specSizeOf_any (t : TreeD) : SpZ t := tree_ind specSizeOf_of t
end Go.Proofs.Ytbaofldcdcllfaa

/- Where a list of Kids lies, as a value and as a key: impl.placeOf. -/
namespace Go.Proofs.Ytbaofldcdcllfaa
open Go.RowKit

/-- a place: the first tree's address, and how many there are -/
abbrev Place := Addr × Nat
def plV (p : Place) : Value := .agg #[.pointer (some p.1), .int .i64 (p.2 : Int)]
def plOk (w : World) (p : Place) : Prop := FreeB w p.1.block

set_option maxRecDepth 100000 in
set_option maxHeartbeats 1000000 in
theorem placeOf_any (b off n c : Nat) (w : World) (hn : 0 < n) :
    Calls Try.prog 94 #[.slice (some ⟨b, off, none⟩) n c] w fun e w' => e = .returned (plV (⟨b, off, none⟩, n)) ∧ Below w.heap.size w w' := by
  unfold plV
  go_enter Try.func94, Try.ntmps94
  go_wp2
  refine bodyPost_ret (v := .agg #[.pointer (some ⟨b, off, none⟩), .int .i64 (n : Int)]) (by simp [results, Try.results94, go_sem]) rfl ⟨rfl, ?_⟩
  exact al1 _ _

theorem heldPlace : Try.prog.stoodInHeld 147 = false := by kernel_rfl
theorem und0 : Try.prog.underlying 145 = some (.pointer 29) := Try.underlying145
theorem cellsTree : Try.prog.cellsOf 29 = 3 := by kernel_rfl
theorem eqPtr (d : Nat) (w : World) (a b : Addr) (ha : FreeB w a.block) (hb : FreeB w b.block) : (Op.equalIn (d + 1) 145 (.pointer (some a)) (.pointer (some b))).run Try.prog w = .ok (decide (a = b)) w := by
  obtain ⟨ca, ta, ha⟩ := ha
  obtain ⟨cb, tb, hb⟩ := hb
  obtain ⟨i0, hi0, hz0⟩ : ∃ i, Try.prog.info? 29 = some i ∧ i.size = 3 := by
    have : (Try.prog.info? 29).map (·.size) = some 3 := by kernel_rfl
    cases h : Try.prog.info? 29 with
    | none => rw [h] at this; cases this
    | some i => rw [h] at this; exact ⟨i, rfl, by simpa using this⟩
  by_cases h : a = b
  · subst h
    simp [Op.equalIn, run_underlying und0, sizeOf, typeInfo, hi0, run_sameAddr_same]
  · simp [Op.equalIn, run_underlying und0, sizeOf, typeInfo, hi0, hz0, run_sameAddr_other w h ha hb, h]

theorem partPtr (w : World) (xs : Array Value) (k : Nat) (v : Value) (hv : xs[k]? = some v) : (part 145 xs k).run Try.prog w = .ok v w := by simp [part, isAgg, run_underlying und0, hv]
theorem partInt (w : World) (xs : Array Value) (k : Nat) (v : Value) (hv : xs[k]? = some v) : (part 3 xs k).run Try.prog w = .ok v w := by simp [part, isAgg, run_underlying Try.underlying3, hv]
theorem place_eq (p q : Place) : decide (p = q) = (decide (p.1 = q.1) && ((p.2 : Int) == (q.2 : Int))) := by
  obtain ⟨a, n⟩ := p
  obtain ⟨b, m⟩ := q
  rw [Bool.eq_iff_iff]
  simp
  intro _
  omega
theorem eqPlace (d : Nat) (w : World) (p q : Place) (hp : plOk w p) (hq : plOk w q) : (Op.equalIn (d + 2) 147 (plV p) (plV q)).run Try.prog w = .ok (decide (p = q)) w := by
  unfold plV
  rw [run_equalIn_struct w (d + 1) 147 _ _ (by rw [Program.fieldsOf, Try.underlying147]) heldPlace]
  have e1 := eqPtr d w p.1 q.1 hp hq
  have e2 := run_equalIn_int (P := Try.prog) w d 3 .i64 .i64 (p.2 : Int) (q.2 : Int) Try.underlying3
  simp only [Program.fieldsOf, Try.underlying147]
  rw [place_eq]
  have p1 := partPtr w #[.pointer (some p.1), .int .i64 (p.2 : Int)] 0 _ rfl
  have p2 := partPtr w #[.pointer (some q.1), .int .i64 (q.2 : Int)] 0 _ rfl
  have p3 := partInt w #[.pointer (some p.1), .int .i64 (p.2 : Int)] 1 _ rfl
  have p4 := partInt w #[.pointer (some q.1), .int .i64 (q.2 : Int)] 1 _ rfl
  by_cases h : p.1 = q.1
  · rw [decide_eq_true h] at e1 ⊢
    cases h2 : ((p.2 : Int) == (q.2 : Int))
    all_goals
      rw [h2] at e2
      simp [Op.eqFields, p1, p2, p3, p4, e1, e2]
  · rw [decide_eq_false h] at e1 ⊢
    simp [Op.eqFields, p1, p2, e1]
theorem chkPlace (e : Bool) (n : Nat) (w : World) (p : Place) : (Instr.checkKey e (n + 2) 147 (plV p)).run Try.prog w = .ok () w := by
  have p1 := partPtr w #[.pointer (some p.1), .int .i64 (p.2 : Int)] 0 _ rfl
  have p3 := partInt w #[.pointer (some p.1), .int .i64 (p.2 : Int)] 1 _ rfl
  simp [Instr.checkKey, plV, run_underlying Try.underlying147, p1, p3, run_underlying und0, run_underlying Try.underlying3]
theorem bitsPlace (n : Nat) (p : Place) : Instr.sameBits (n + 2) (plV p) (plV p) = true := by simp [plV, Instr.sameBits]
theorem keyPlace : KeyK Try.prog 147 plV plOk where
  und := ⟨_, Try.underlying147, fun _ _ => rfl⟩
  eq := fun w p q hp hq => by
    show (Op.equalIn (9998 + 2) _ _ _).run _ _ = _
    exact eqPlace 9998 w p q hp hq
  chk := fun w p e => by
    show (Instr.checkKey e (9998 + 2) _ _).run _ _ = _
    exact chkPlace e 9998 w p
  bits := fun p => bitsPlace 9998 p
end Go.Proofs.Ytbaofldcdcllfaa

/- Where a list of Kids lies, as a value and as a key: impl.placeOf. -/
namespace Go.Proofs.Ytbaofldcdcllfaa
open Go.RowKit

set_option maxRecDepth 100000 in
set_option maxHeartbeats 1000000 in
theorem placeOf_anyM (b off n c : Nat) (w : World) (hn : 0 < n) :
    Calls Try.prog 121 #[.slice (some ⟨b, off, none⟩) n c] w fun e w' => e = .returned (plV (⟨b, off, none⟩, n)) ∧ Below w.heap.size w w' := by
  unfold plV
  go_enter Try.func121, Try.ntmps121
  go_wp2
  refine bodyPost_ret (v := .agg #[.pointer (some ⟨b, off, none⟩), .int .i64 (n : Int)]) (by simp [results, Try.results121, go_sem]) rfl ⟨rfl, ?_⟩
  exact al1 _ _

theorem heldPlaceM : Try.prog.stoodInHeld 185 = false := by kernel_rfl
theorem und0M : Try.prog.underlying 126 = some (.pointer 69) := Try.underlying126
theorem cellsTreeM : Try.prog.cellsOf 69 = 3 := by kernel_rfl
theorem eqPtrM (d : Nat) (w : World) (a b : Addr) (ha : FreeB w a.block) (hb : FreeB w b.block) : (Op.equalIn (d + 1) 126 (.pointer (some a)) (.pointer (some b))).run Try.prog w = .ok (decide (a = b)) w := by
  obtain ⟨ca, ta, ha⟩ := ha
  obtain ⟨cb, tb, hb⟩ := hb
  obtain ⟨i0, hi0, hz0⟩ : ∃ i, Try.prog.info? 69 = some i ∧ i.size = 3 := by
    have : (Try.prog.info? 69).map (·.size) = some 3 := by kernel_rfl
    cases h : Try.prog.info? 69 with
    | none => rw [h] at this; cases this
    | some i => rw [h] at this; exact ⟨i, rfl, by simpa using this⟩
  by_cases h : a = b
  · subst h
    simp [Op.equalIn, run_underlying und0M, sizeOf, typeInfo, hi0, run_sameAddr_same]
  · simp [Op.equalIn, run_underlying und0M, sizeOf, typeInfo, hi0, hz0, run_sameAddr_other w h ha hb, h]

theorem partPtrM (w : World) (xs : Array Value) (k : Nat) (v : Value) (hv : xs[k]? = some v) : (part 126 xs k).run Try.prog w = .ok v w := by simp [part, isAgg, run_underlying und0M, hv]
theorem eqPlaceM (d : Nat) (w : World) (p q : Place) (hp : plOk w p) (hq : plOk w q) : (Op.equalIn (d + 2) 185 (plV p) (plV q)).run Try.prog w = .ok (decide (p = q)) w := by
  unfold plV
  rw [run_equalIn_struct w (d + 1) 185 _ _ (by rw [Program.fieldsOf, Try.underlying185]) heldPlaceM]
  have e1 := eqPtrM d w p.1 q.1 hp hq
  have e2 := run_equalIn_int (P := Try.prog) w d 3 .i64 .i64 (p.2 : Int) (q.2 : Int) Try.underlying3
  simp only [Program.fieldsOf, Try.underlying185]
  rw [place_eq]
  have p1 := partPtrM w #[.pointer (some p.1), .int .i64 (p.2 : Int)] 0 _ rfl
  have p2 := partPtrM w #[.pointer (some q.1), .int .i64 (q.2 : Int)] 0 _ rfl
  have p3 := partInt w #[.pointer (some p.1), .int .i64 (p.2 : Int)] 1 _ rfl
  have p4 := partInt w #[.pointer (some q.1), .int .i64 (q.2 : Int)] 1 _ rfl
  by_cases h : p.1 = q.1
  · rw [decide_eq_true h] at e1 ⊢
    cases h2 : ((p.2 : Int) == (q.2 : Int))
    all_goals
      rw [h2] at e2
      simp [Op.eqFields, p1, p2, p3, p4, e1, e2]
  · rw [decide_eq_false h] at e1 ⊢
    simp [Op.eqFields, p1, p2, e1]
theorem chkPlaceM (e : Bool) (n : Nat) (w : World) (p : Place) : (Instr.checkKey e (n + 2) 185 (plV p)).run Try.prog w = .ok () w := by
  have p1 := partPtrM w #[.pointer (some p.1), .int .i64 (p.2 : Int)] 0 _ rfl
  have p3 := partInt w #[.pointer (some p.1), .int .i64 (p.2 : Int)] 1 _ rfl
  simp [Instr.checkKey, plV, run_underlying Try.underlying185, p1, p3, run_underlying und0M, run_underlying Try.underlying3]
theorem bitsPlaceM (n : Nat) (p : Place) : Instr.sameBits (n + 2) (plV p) (plV p) = true := by simp [plV, Instr.sameBits]
theorem keyPlaceM : KeyK Try.prog 185 plV plOk where
  und := ⟨_, Try.underlying185, fun _ _ => rfl⟩
  eq := fun w p q hp hq => by
    show (Op.equalIn (9998 + 2) _ _ _).run _ _ = _
    exact eqPlaceM 9998 w p q hp hq
  chk := fun w p e => by
    show (Instr.checkKey e (9998 + 2) _ _).run _ _ = _
    exact chkPlaceM e 9998 w p
  bits := fun p => bitsPlaceM 9998 p
end Go.Proofs.Ytbaofldcdcllfaa

/- The sum and the product of two sizes: impl.plus, impl.times. -/
namespace Go.Proofs.Ytbaofldcdcllfaa
open Go.RowKit

theorem plus_any (a b : Int) (w : World) (a0 : 0 ≤ a) (a1 : a ≤ 4194304) (b0 : 0 ≤ b) (b1 : b ≤ 4194304) :
    Calls Try.prog 95 #[.int .i64 a, .int .i64 b] w fun e w' => e = .returned (.int .i64 (a + b)) ∧ w' = w := by
  have d : decide (b > 9223372036854775807 - a) = false := decide_eq_false (by omega)
  go_enter Try.func95, Try.ntmps95
  go_wp2
  go_ret
  exact ⟨rfl, rfl⟩
def endl : Int := 9223372036854775807
theorem stk3_one (A : Option Addr) (n c : Nat) (a b : Int) : ∀ u ∈ [Value.slice A n c, .int .i64 a, .int .i64 b], u.oneCell' = true := by
  intro u hu
  simp only [List.mem_cons, List.not_mem_nil, or_false] at hu
  rcases hu with rfl | rfl | rfl <;> rfl
theorem below_dn {B : Nat} {a w : World} (h : Below B a w) (n : Nat) : Below B a (w.drewN n) := ⟨h.os, h.tape, h.output, h.size, h.block⟩
theorem zeroI64 (w : World) : (zeroValue 2).run Try.prog w = .ok (.int .i64 0) w := by kernel_rfl
end Go.Proofs.Ytbaofldcdcllfaa

/- One more of a list is counted: (*tally).add. -/
namespace Go.Proofs.Ytbaofldcdcllfaa
open Go.RowKit

set_option maxRecDepth 100000 in
set_option maxHeartbeats 1000000 in
theorem add_anyM (g o : Nat) (d s x : Int) (w : World) (h1 : w.cell? ⟨g, o + 1, none⟩ = some (.int .i64 d)) (h2 : w.cell? ⟨g, o + 2, none⟩ = some (.int .i64 s)) (f1 : w.frozen? ⟨g, o + 1, none⟩ = false) (f2 : w.frozen? ⟨g, o + 2, none⟩ = false)
    (d0 : 0 ≤ d) (d1 : d ≤ 2097152) (s0 : 0 ≤ s) (s1 : s ≤ 2097152) (x0 : 0 ≤ x) (x1 : x ≤ 2097152) :
    Calls Try.prog 120 #[.pointer (some ⟨g, o, none⟩), .int .i64 (1 + x)] w fun e w' => e = .returned (.tuple #[]) ∧ w' = (w.setCell ⟨g, o + 1, none⟩ (.int .i64 (d + 1))).setCell ⟨g, o + 2, none⟩ (.int .i64 (s + (1 + x))) := by
  go_enter Try.func120, Try.ntmps120
  go_wp2_with fail
  refine (plus_any s (1 + x) _ (by omega) (by omega) (by omega) (by omega)).mono ?_
  rintro e w1 ⟨rfl, rfl⟩
  go_wp2
  first | go_end0 | go_ret
  exact ⟨rfl, rfl⟩
end Go.Proofs.Ytbaofldcdcllfaa
