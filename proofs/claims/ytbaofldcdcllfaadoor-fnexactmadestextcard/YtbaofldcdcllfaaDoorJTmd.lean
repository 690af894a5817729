import Derived.Test.YtbaofldcdcllfaaDoorJTrz
import Derived.Deep.QuietTactic
import Derived.StillTailTactics
/- The model's sizes of a tree: spec.SizeOf, spec.l05Size. -/
namespace Go.Proofs.YtbaofldcdcllfaaDoor
open Go.RowKit

theorem tree_ind {p : TreeD → Prop} (h : ∀ t : TreeD, (∀ i (h : i < t.kids.length), p t.kids[i]) → p t) (t : TreeD) : p t :=
  h t (kids_ind (p := fun ts => ∀ i (h : i < ts.length), p ts[i]) (fun _ ih i hi => h _ (ih i hi)) t.kids)

end Go.Proofs.YtbaofldcdcllfaaDoor

/- The model's size of a tree, as far as one asks: spec.l05Size. -/
namespace Go.Proofs.YtbaofldcdcllfaaDoor
open Go.RowKit

/-- r is the size n, or more than most -/
def Upto (n : Nat) (most r : Int) : Prop := ((n : Int) ≤ most → r = n) ∧ (most < n → most < r ∧ r ≤ n)
def SpY (t : TreeD) : Prop := ∀ (z : Bool) (u : Value) (lo hi : Nat) (most : Int) (w : World), Kd z w lo hi u t.kids → hi ≤ w.heap.size → sizeT t ≤ 2097152 → 0 ≤ most → most ≤ 1000 →
  Calls Tryd.prog 16 #[trV t u, .int .i64 most] w fun e w' => ∃ r, e = .returned (.int .i64 r) ∧ Upto (sizeT t) most r ∧ Below w.heap.size w w'

set_option maxRecDepth 100000 in
set_option maxHeartbeats 1000000 in
theorem specSize5_of (t : TreeD) (ih : ∀ i (h : i < t.kids.length), SpY t.kids[i]) : SpY t := by
  intro z u lo hi most w h hhi hn hm0 hm1
  have hst := sizeT_eq t
  obtain ⟨A, c, U, rfl, hlc, hc, hs, hcell, hsub⟩ := h.parts
  unfold maxLen at hc
  have HC := Lib.hid hcell
  have HB := Lib.hid hsub
  clear hcell hsub h hs
  unfold trV
  have hb0 := al1 w (.cells #[.int .i64 t.rule, .string t.tok, .slice A t.kids.length c] 29)
  have R0 := Row.made w 29 #[.int .i64 t.rule, .string t.tok, .slice A t.kids.length c]
  go_enter Tryd.func16, Tryd.ntmps16
  go_wp2
  generalize w.alloc (.cells #[.int .i64 t.rule, .string t.tok, .slice A t.kids.length c] 29) = w0 at hb0 R0 ⊢
  go_loopw [5, 6] (fun l i wr => ∃ (k : Nat) (r : Int), k ≤ t.kids.length ∧ i = .int .i64 k ∧ l = .int .i64 r ∧ Upto (1 + sizeTs (t.kids.take k)) most r ∧ Below w0.heap.size w0 wr) (fun _ i _ => t.kids.length - (intOf i).toNat)
  case atStart => exact ⟨0, 1, by omega, rfl, rfl, (by unfold Upto; simp [sizeTs] <;> omega), Below.refl _ _⟩
  case round =>
    obtain ⟨k, r, hk, rfl, rfl, hup, hbw⟩ := hrel
    have hsw := hbw.size
    have hws := hb0.size
    have R1 := R0.below hbw R0.lt
    have hlt0 := R1.lt
    have c2 := R1.cell 2
    simp at c2
    have htl := sizeTs_take_le t.kids k
    have HU := Lib.hid hup
    by_cases hlt : k < t.kids.length
    · by_cases hr : r ≤ most
      · obtain ⟨b, off, rfl, _, hbh, _, hcc⟩ := HC.out (by omega)
        obtain ⟨hc0, hc1, hc2⟩ := hcc k hlt
        have hbx := hb0.trans (hbw.mono hws)
        have k0 := (hbx.cell (p := ⟨b, off + k * 3, none⟩) (by show b < _; omega)).trans hc0
        have k1 := (hbx.cell (p := ⟨b, off + k * 3 + 1, none⟩) (by show b < _; omega)).trans hc1
        have k2 := (hbx.cell (p := ⟨b, off + k * 3 + 2, none⟩) (by show b < _; omega)).trans hc2
        have hst' := (HB.out k hlt).under hbx hhi
        have hg := sizeTs_take t.kids k hlt
        have hle := sizeTs_take_le t.kids (k + 1)
        have HG := Lib.hid hg
        have hle2 : 1 + sizeTs (t.kids.take k) + sizeT t.kids[k] ≤ 2097152 := by omega
        have hr0 : 1 ≤ r := by unfold Upto at hup; omega
        have hre : r = ((1 + sizeTs (t.kids.take k) : Nat) : Int) := by unfold Upto at hup; omega
        have HR := Lib.hid hre
        clear hcc hc0 hc1 hc2 hg hle R1 hst hup hre htl
        go_wp2_with fail
        refine (ih k hlt z (U k) lo hi (most - r) _ hst' (by omega) (by omega) (by omega) (by omega)).mono ?_
        rintro e w1 ⟨r1, rfl, hup1, hb1⟩
        have HU1 := Lib.hid hup1
        have hr1 : 0 ≤ r1 ∧ r1 ≤ 2097152 := by unfold Upto at hup1; omega
        clear hup1
        obtain ⟨hr1, hr2⟩ := hr1
        go_wp2
        go_roundw
        case rel => exact ⟨k + 1, r + r1, by omega, by go_num, by go_num, by have := HU1.out; have := HR.out; have := HG.out; unfold Upto at *; omega, hbw.trans (hb1.mono hsw)⟩
        case measure => simp [intOf]; omega
      · clear R1 hup
        have i1 : (k : Int) < (t.kids.length : Int) := by omega
        go_wp2
        go_ret
        exact ⟨_, rfl, by have := HU.out; unfold Upto at *; omega, hb0.trans (hbw.mono hws)⟩
    · have hks : k = t.kids.length := by omega
      have HK := Lib.hid hks
      clear hks R1 hup
      go_wp2
      go_ret
      refine ⟨_, rfl, ?_, hb0.trans (hbw.mono hws)⟩
      have e := HK.out
      subst e
      have := HU.out
      rw [List.take_length] at this
      rw [hst]; exact this
theorem specSize5_any (t : TreeD) : SpY t := tree_ind specSize5_of t
end Go.Proofs.YtbaofldcdcllfaaDoor

/- What a right term is, as data; and what a call leaves that turns one block of those that were there. -/
namespace Go.Proofs.YtbaofldcdcllfaaDoor
open Go.RowKit

/-- a term is such, but for what is in its Kids -/
def fieldB (t : TermD) : Bool :=
  if t.kind = 1 then decide (0 ≤ t.num)
  else if t.kind = 2 then decide (0 ≤ t.num) && decide (t.kids.length = 0)
  else if t.kind = 3 then decide (t.num = 0) && decide (t.kids.length = 0)
  else if t.kind = 4 then decide (t.num = 0) && decide (t.kids.length = 2)
  else false
/-- it is right, and no deeper than that -/
def partM : Nat → TermD → Bool
  | 0, _ => false
  | d + 1, t => fieldB t && t.kids.all (partM d)
def termB (t : TermD) : Bool := decide (sizeM t ≤ 200) && partM 30 t
theorem partM_succ (d : Nat) (t : TermD) : partM (d + 1) t = (fieldB t && t.kids.all (partM d)) := rfl

/-- the first k of a list are right -/
theorem all_take {α : Type} (p : α → Bool) (l : List α) (k : Nat) (h : k < l.length) : (l.take (k + 1)).all p = ((l.take k).all p && p l[k]) := by
  rw [List.take_succ_eq_append_getElem h, List.all_append]; simp
theorem all_take_no {α : Type} (p : α → Bool) (l : List α) (k : Nat) (h : k < l.length) (hp : p l[k] = false) : l.all p = false := by
  rw [List.all_eq_false]
  exact ⟨l[k], List.getElem_mem h, by rw [hp]; simp⟩

/-- block p may have turned, others are there as they were, or new -/
structure But (p : Nat) (w w' : World) : Prop where
  os : w'.os = w.os
  tape : w'.tape = w.tape
  output : w'.output = w.output
  size : w.heap.size ≤ w'.heap.size
  block : ∀ k, k < w.heap.size → k ≠ p → w'.heap[k]? = w.heap[k]?
theorem But.refl (p : Nat) (w : World) : But p w w := ⟨rfl, rfl, rfl, Nat.le_refl _, fun _ _ _ => rfl⟩
theorem But.trans {p : Nat} {a b c : World} (h : But p a b) (k : But p b c) : But p a c :=
  ⟨k.os.trans h.os, k.tape.trans h.tape, k.output.trans h.output, Nat.le_trans h.size k.size, fun i hi hp => (k.block i (Nat.lt_of_lt_of_le hi h.size) hp).trans (h.block i hi hp)⟩
theorem But.of {p : Nat} {w w' : World} (h : Below w.heap.size w w') : But p w w' := ⟨h.os, h.tape, h.output, h.size, fun k hk _ => h.block k hk⟩
theorem But.below {p B : Nat} {w w' : World} (h : But p w w') (h1 : B ≤ p) (h2 : B ≤ w.heap.size) : Below B w w' := ⟨h.os, h.tape, h.output, h.size, fun k hk => h.block k (by omega) (by omega)⟩
theorem But.setCell {p i : Nat} {a w : World} (h : But p a w) (u : Value) : But p a (w.setCell ⟨p, i, none⟩ u) :=
  h.trans ⟨rfl, rfl, rfl, by simp [World.setCell], fun k _ hk => Below.heap_setCell _ _ _ _ hk⟩
theorem But.drew {p : Nat} {a w : World} (h : But p a w) : But p a w.drew := ⟨h.os, h.tape, h.output, h.size, h.block⟩
theorem But.cell {p : Nat} {w w' : World} (h : But p w w') {q : Addr} (h1 : q.block < w.heap.size) (h2 : q.block ≠ p) : w'.cell? q = w.cell? q := World.cell?_of_block (h.block _ h1 h2)
theorem But.keeps {p lo hi : Nat} {w w' : World} (h : But p w w') (h1 : hi ≤ w.heap.size) (h2 : hi ≤ p ∨ p < lo) : Keeps lo hi w w' := fun k a b => h.block k (by omega) (by omega)
theorem Row.but {p g : Nat} {w w' : World} {t : TypeId} {cur : Array Value} (h : Row w g t cur) (b : But p w w') (hp : g ≠ p) : Row w' g t cur := (b.block g h.lt hp).trans h
end Go.Proofs.YtbaofldcdcllfaaDoor
