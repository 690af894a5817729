/- A term that came in, laid anew: toTermS, toTerm. -/
import Derived.Test.YtcgmnpfeiiomgaaDoorTmz
import Derived.Test.YtcgmnpfeiiomgaaDoorTo
namespace Go.Proofs.YtcgmnpfeiiomgaaDoor
open Go.RowKit

/-- a list of terms in memory of the call's own -/
def OwnM (w : World) (lo hi : Nat) (v : Value) (ts : List TermD) : Prop := KM true w lo hi v ts ∧ ShM w lo hi v ts
theorem OwnM.keep {w w' : World} {lo hi : Nat} {v : Value} {ts : List TermD} (h : OwnM w lo hi v ts) (k : Keeps lo hi w w') : OwnM w' lo hi v ts := ⟨h.1.keep k, h.2.keep k⟩
theorem OwnM.more {w : World} {lo hi lo' hi' : Nat} {v : Value} {ts : List TermD} (h : OwnM w lo hi v ts) (g1 : lo' ≤ lo) (g2 : hi ≤ hi') : OwnM w lo' hi' v ts := ⟨h.1.more g1 g2, h.2.more g1 g2⟩

def ToM (ts : List TermD) : Prop := ∀ (v : Value) (lo hi : Nat) (w : World), KM false w lo hi v ts → hi ≤ w.heap.size → sizeMs ts ≤ 1048576 →
  Calls Tryd.prog 57 #[v] w fun e w' => ∃ u, e = .returned u ∧ OwnM w' w.heap.size w'.heap.size u ts ∧ Below w.heap.size w w'

set_option maxHeartbeats 1000000 in
theorem toTerm_of (t : TermD) (ih : ToM t.kids) (u : Value) (lo hi : Nat) (w : World) (h : KM false w lo hi u t.kids) (hhi : hi ≤ w.heap.size) (hn : sizeMs t.kids ≤ 1048576) :
    Calls Tryd.prog 26 #[tmV t u] w fun e w' => ∃ x, e = .returned (tmV t x) ∧ OwnM w' w.heap.size w'.heap.size x t.kids ∧ Below w.heap.size w w' := by
  unfold tmV
  go_enter Tryd.func26, Tryd.ntmps26
  go_wp2_with fail
  refine (ih u lo hi _ (h.under (B := w.heap.size) (al3 _ _ _ _) hhi) (by simp; omega) (by omega)).mono ?_
  rintro e w1 ⟨x, rfl, hown, hb⟩
  have hb0 : Below w.heap.size w w1 := (al3 _ _ _ _).trans (hb.mono (by simp; omega))
  have R1 : Row w1 (w.heap.size + 1) 25 #[.int .i64 0, .int .i64 0, .slice none 0 0] := by
    refine Row.below (Row.alloc ?_ _) hb (by simp)
    simpa using Row.made (w.alloc (.cells #[.int .i64 t.kind, .int .i64 t.num, u] 51)) 25 #[.int .i64 0, .int .i64 0, .slice none 0 0]
  have R2 : Row w1 (w.heap.size + 1 + 1) 25 #[.int .i64 t.kind, .int .i64 t.num, .slice none 0 0] := by
    refine Row.below ?_ hb (by simp)
    simpa using Row.made ((w.alloc (.cells #[.int .i64 t.kind, .int .i64 t.num, u] 51)).alloc (.cells #[.int .i64 0, .int .i64 0, .slice none 0 0] 25)) 25 #[.int .i64 t.kind, .int .i64 t.num, .slice none 0 0]
  have hown' : OwnM w1 (w.heap.size + 1 + 1 + 1) w1.heap.size x t.kids := by simpa using hown
  clear hb hown
  have c10 := R1.cell 0
  have c11 := R1.cell 1
  have c12 := R1.cell 2
  have c20 := R2.cell 0
  have c21 := R2.cell 1
  have c22 := R2.cell 2
  simp at c10 c11 c12 c20 c21 c22
  have f10 := R1.free 0
  have f11 := R1.free 1
  have f12 := R1.free 2
  have f20 := R2.free 0
  have f21 := R2.free 1
  have f22 := R2.free 2
  clear R1 R2
  have HO := Lib.hid hown'
  obtain ⟨A, c, U, rfl, -⟩ := hown'.1.parts
  clear hown' h
  go_wp2
  refine bodyPost_ret (v := .agg #[.int .i64 t.kind, .int .i64 t.num, .slice A t.kids.length c]) (by simp [results, Tryd.results26, go_sem, c10, c11, c12]) rfl ⟨_, rfl, ?_, ?_⟩
  · refine (HO.out.keep ?_).more (by omega) (by simp [World.setCell])
    intro k h1 h2
    rw [Below.heap_setCell _ _ _ _ (by simp; omega), Below.heap_setCell _ _ _ _ (by simp; omega), Below.heap_setCell _ _ _ _ (by simp; omega), Below.heap_setCell _ _ _ _ (by simp; omega)]
  · exact (((hb0.setCell (by simp; omega) _).setCell (by simp) _).setCell (by simp) _).setCell (by simp) _
end Go.Proofs.YtcgmnpfeiiomgaaDoor
