/- The walks of faultCode and GetNum, the program's. -/
import Derived.Test.YtldencefagnhfaaDoorRead
namespace Go.Proofs.YtldencefagnhfaaDoor
open Go Go.RowKit

/-- the package-level variable that errors.As reads -/
def Laid (w : World) : Prop := w.cell? ⟨0, 0, none⟩ = some (.iface 76 (.agg #[.pointer (some ⟨1, 44, none⟩)]))
theorem Laid.lt {w : World} (h : Laid w) : 0 < w.heap.size := by
  rcases Nat.eq_zero_or_pos w.heap.size with h0 | h0
  · unfold Laid at h; simp [World.cell?, h0] at h
  · exact h0
theorem Laid.later {w w' : World} {B : Nat} (h : Laid w) (hb : Below B w w') (hB : 0 < B) : Laid w' := (hb.cell (p := ⟨0, 0, none⟩) hB).trans h
theorem Laid.alloc {w : World} (h : Laid w) (o : Obj) : Laid (w.alloc o) := (World.cell?_alloc_lt _ _ ⟨0, 0, none⟩ h.lt).trans h

set_option maxHeartbeats 400000 in
theorem faultCode_nil (w : World) : Calls Tryd.prog 23 #[.nilIface] w fun e w' => e = .returned (.int .i64 0) ∧ Below w.heap.size w w' := by
  go_enter Tryd.func23, Tryd.ntmps23
  go_wp2
  go_ret
  exact ⟨rfl, Below.refl _ _⟩

set_option maxRecDepth 100000 in
set_option maxHeartbeats 1000000 in
theorem faultCode_some (c : Int) (w : World) (hl : Laid w) : Calls Tryd.prog 23 #[.iface 56 (.agg #[.int .i64 c])] w fun e w' => e = .returned (.int .i64 c) ∧ Below w.heap.size w w' := by
  have hg := hl.alloc (.cells #[.int .i64 0] 56)
  have HG := Lib.hid hg
  clear hg hl
  go_enter Tryd.func23, Tryd.ntmps23
  go_wp2_with fail
  refine (as_hit ⟨w.heap.size, 0, none⟩ c (.int .i64 0) _ HG.out (by simp) (by simp)).mono ?_
  rintro e w' ⟨rfl, hw'⟩
  have hc : w'.cell? ⟨w.heap.size, 0, none⟩ = some (.int .i64 c) := by
    rw [hw']; exact World.cell?_setCell_same _ _ _ (u := .int .i64 0) (by rw [World.cell?_alloc_lt _ _ _ (by simp; omega), World.cell?_alloc_lt _ _ _ (by simp; omega), World.cell?_alloc_lt _ _ _ (by simp; omega), World.cell?_alloc_lt _ _ _ (by simp)]; simp)
  have hb : Below w.heap.size w w' := by
    rw [hw']
    exact (((((((Below.refl _ _).alloc (Nat.le_refl _) _).alloc (by simp) _).alloc (by simp; omega) _).alloc (by simp; omega) _).alloc (by simp; omega) _).setCell (Nat.le_refl _) _)
  clear hw'
  go_wp2
  go_ret
  exact ⟨rfl, hb⟩

theorem faultCode_any (c : Int) (w : World) (hl : Laid w) : Calls Tryd.prog 23 #[errOf c] w fun e w' => e = .returned (.int .i64 c) ∧ Below w.heap.size w w' := by
  unfold errOf
  by_cases h : c = 0
  · rw [if_pos h, h]; exact faultCode_nil w
  · rw [if_neg h]; exact faultCode_some c w hl

/-- a NumOut as a value -/
def nout (n a c : Int) : Value := .agg #[.int .i64 n, .int .i64 a, .int .i64 c]
theorem keep3 {w w2 : World} {t : TypeId} {x y z : Value} (hb : Below (w.heap.size + 1) (w.alloc (.cells #[x, y, z] t)) w2) :
    (w2.cell? ⟨w.heap.size, 0, none⟩ = some x ∧ w2.cell? ⟨w.heap.size, 1, none⟩ = some y ∧ w2.cell? ⟨w.heap.size, 2, none⟩ = some z) ∧
    (w2.frozen? ⟨w.heap.size, 0, none⟩ = false ∧ w2.frozen? ⟨w.heap.size, 1, none⟩ = false ∧ w2.frozen? ⟨w.heap.size, 2, none⟩ = false) ∧ w.heap.size < w2.heap.size := by
  have h : w2.heap[w.heap.size]? = some (.cells #[x, y, z] t (0, 0)) := (hb.block _ (by omega)).trans (heap_alloc_new w _)
  have hf : ∀ i, w2.frozen? ⟨w.heap.size, i, none⟩ = false := fun i => by simp [World.frozen?, h]
  exact ⟨⟨cell_of_row w2 _ 0 _ t (0, 0) h, cell_of_row w2 _ 1 _ t (0, 0) h, cell_of_row w2 _ 2 _ t (0, 0) h⟩, ⟨hf 0, hf 1, hf 2⟩, by have := hb.size; simp at this; omega⟩
theorem bel2 {w w1 w2 : World} {o : Obj} (h1 : Below (w.heap.size + 1) (w.alloc o) w1) (h2 : Below w1.heap.size w1 w2) : Below (w.heap.size + 1) (w.alloc o) w2 :=
  h1.trans (h2.mono (by have := h1.size; simp at this; omega))
theorem bel3 {w w2 : World} {o : Obj} {x y z : Value} (hb : Below (w.heap.size + 1) (w.alloc o) w2) :
    Below w.heap.size w (((w2.setCell ⟨w.heap.size, 0, none⟩ x).setCell ⟨w.heap.size, 1, none⟩ y).setCell ⟨w.heap.size, 2, none⟩ z) :=
  (((((Below.refl _ _).alloc (Nat.le_refl _) _).trans (hb.mono (by omega))).setCell (Nat.le_refl _) _).setCell (Nat.le_refl _) _).setCell (Nat.le_refl _) _
theorem bel1 {w w1 : World} {o : Obj} (hb : Below (w.heap.size + 1) (w.alloc o) w1) : Below w.heap.size w w1 := ((Below.refl _ _).alloc (Nat.le_refl _) _).trans (hb.mono (by omega))

set_option maxRecDepth 100000 in
set_option maxHeartbeats 1000000 in
theorem implGetNum_any (s : ByteArray) (at_ : Int) (w : World) (hs : s.size ≤ maxLen) (ha : -9223372036854775808 ≤ at_) (hb : at_ ≤ 9223372036854775807) (hl : Laid w) :
    Calls Tryd.prog 9 #[.string s, .int .i64 at_] w fun e w' => e = .returned (nout (numOf s at_).1 (numOf s at_).2.1 (numOf s at_).2.2) ∧ Below w.heap.size w w' := by
  unfold maxLen at hs
  have HL := Lib.hid hl
  clear hl
  by_cases h1 : 8000 < s.size
  · have HN : Hid (numOf s at_ = (0, 0, 2)) := Lib.hid (if_pos h1)
    rw [HN.out]
    go_enter Tryd.func9, Tryd.ntmps9
    go_wp2
    exact bodyPost_ret (v := nout 0 0 2) (by simp [results, Tryd.results9, go_sem, nout]) rfl ⟨rfl, (Below.refl _ _).alloc (Nat.le_refl _) _⟩
  · have HN : Hid (numOf s at_ = readOf s at_) := Lib.hid (if_neg h1)
    rw [HN.out]
    have R := Lib.hid (fun w => readNum_any s at_ w (by omega) ha hb)
    have F := Lib.hid (fun w => faultCode_any (readOf s at_).2.2 w)
    simp only [rdOf] at R
    generalize (readOf s at_).1 = n at R ⊢
    generalize (readOf s at_).2.1 = a at R ⊢
    generalize (readOf s at_).2.2 = c at R F ⊢
    go_enter Tryd.func9, Tryd.ntmps9
    go_wp2_with fail
    refine (R.out _).mono ?_
    rintro e w1 ⟨rfl, hb1⟩
    rw [World.size_alloc] at hb1
    have HL1 := Lib.hid ((HL.out.alloc (.cells #[.int .i64 0, .int .i64 0, .int .i64 0] 26)).later hb1 (by omega))
    generalize errOf c = E at F ⊢
    go_wp2_with fail
    refine (F.out _ HL1.out).mono ?_
    rintro e w2 ⟨rfl, hb2⟩
    have hb := bel2 hb1 hb2
    obtain ⟨⟨c0, c1, c2⟩, ⟨f0, f1, f2⟩, _⟩ := keep3 hb
    go_wp2
    exact bodyPost_ret (v := nout n a c) (by simp [results, Tryd.results9, go_sem, nout, c0, c1, c2]) rfl ⟨rfl, bel3 hb⟩
end Go.Proofs.YtldencefagnhfaaDoor
