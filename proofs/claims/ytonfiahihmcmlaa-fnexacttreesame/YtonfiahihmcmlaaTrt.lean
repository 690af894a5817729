/- A tree that came in, laid anew: toTreeS, toTree. -/
import Derived.Test.YtonfiahihmcmlaaTrz
import Derived.Test.YtonfiahihmcmlaaTo
namespace Go.Proofs.Ytonfiahihmcmlaa
open Go.RowKit

/-- a list of trees in memory of the call's own -/
def OwnK (w : World) (lo hi : Nat) (v : Value) (ts : List TreeD) : Prop := Kd true w lo hi v ts ∧ Shp w lo hi v ts
theorem OwnK.keep {w w' : World} {lo hi : Nat} {v : Value} {ts : List TreeD} (h : OwnK w lo hi v ts) (k : Keeps lo hi w w') : OwnK w' lo hi v ts := ⟨h.1.keep k, h.2.keep k⟩
theorem OwnK.more {w : World} {lo hi lo' hi' : Nat} {v : Value} {ts : List TreeD} (h : OwnK w lo hi v ts) (g1 : lo' ≤ lo) (g2 : hi ≤ hi') : OwnK w lo' hi' v ts := ⟨h.1.more g1 g2, h.2.more g1 g2⟩

def ToS (ts : List TreeD) : Prop := ∀ (v : Value) (lo hi : Nat) (w : World), Kd false w lo hi v ts → hi ≤ w.heap.size → bulkTs ts ≤ 1048576 →
  Calls Try.prog 104 #[v] w fun e w' => ∃ u, e = .returned u ∧ OwnK w' w.heap.size w'.heap.size u ts ∧ Below w.heap.size w w'

set_option maxHeartbeats 1000000 in
theorem toTree_of (t : TreeD) (ih : ToS t.kids) (u : Value) (lo hi : Nat) (w : World) (h : Kd false w lo hi u t.kids) (hhi : hi ≤ w.heap.size) (hn : bulkT t ≤ 1048576) :
    Calls Try.prog 44 #[trV t u] w fun e w' => ∃ x, e = .returned (trV t x) ∧ OwnK w' w.heap.size w'.heap.size x t.kids ∧ Below w.heap.size w w' := by
  have hbk := bulkT_eq t
  unfold trV
  go_enter Try.func44, Try.ntmps44
  go_wp2_with fail
  refine (ih u lo hi _ (h.under (B := w.heap.size) (al3 _ _ _ _) hhi) (by simp; omega) (by omega)).mono ?_
  rintro e w1 ⟨x, rfl, hown, hb⟩
  have hb0 : Below w.heap.size w w1 := (al3 _ _ _ _).trans (hb.mono (by simp; omega))
  have R1 : Row w1 (w.heap.size + 1) 62 #[.int .i64 0, .string ⟨#[]⟩, .slice none 0 0] := by
    refine Row.below (Row.alloc ?_ _) hb (by simp)
    simpa using Row.made (w.alloc (.cells #[.int .i64 t.rule, .string t.tok, u] 55)) 62 #[.int .i64 0, .string ⟨#[]⟩, .slice none 0 0]
  have R2 : Row w1 (w.heap.size + 1 + 1) 62 #[.int .i64 t.rule, .string t.tok, .slice none 0 0] := by
    refine Row.below ?_ hb (by simp)
    simpa using Row.made ((w.alloc (.cells #[.int .i64 t.rule, .string t.tok, u] 55)).alloc (.cells #[.int .i64 0, .string ⟨#[]⟩, .slice none 0 0] 62)) 62 #[.int .i64 t.rule, .string t.tok, .slice none 0 0]
  have hown' : OwnK w1 (w.heap.size + 1 + 1 + 1) w1.heap.size x t.kids := by simpa using hown
  clear hb hown
  have c10 := R1.cell 0
  have c11 := R1.cell 1
  have c12 := R1.cell 2
  have c20 := R2.cell 0
  have c21 := R2.cell 1
  have c22 := R2.cell 2
  simp at c10 c11 c12 c20 c21 c22
  have f10 := R1.free 0
  have f11 := R1.free 1
  have f12 := R1.free 2
  have f20 := R2.free 0
  have f21 := R2.free 1
  have f22 := R2.free 2
  clear R1 R2
  have HO := Lib.hid hown'
  obtain ⟨A, c, U, rfl, -⟩ := hown'.1.parts
  clear hown' h
  go_wp2
  refine bodyPost_ret (v := .agg #[.int .i64 t.rule, .string t.tok, .slice A t.kids.length c]) (by simp [results, Try.results44, go_sem, c10, c11, c12]) rfl ⟨_, rfl, ?_, ?_⟩
  · refine (HO.out.keep ?_).more (by omega) (by simp [World.setCell])
    intro k h1 h2
    rw [Below.heap_setCell _ _ _ _ (by simp; omega), Below.heap_setCell _ _ _ _ (by simp; omega), Below.heap_setCell _ _ _ _ (by simp; omega), Below.heap_setCell _ _ _ _ (by simp; omega)]
  · exact (((hb0.setCell (by simp; omega) _).setCell (by simp) _).setCell (by simp) _).setCell (by simp) _
end Go.Proofs.Ytonfiahihmcmlaa
