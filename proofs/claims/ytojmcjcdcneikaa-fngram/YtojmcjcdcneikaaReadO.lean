/- The program's GramRead. -/
import Derived.Test.YtojmcjcdcneikaaReadG
namespace Go.Proofs.Ytojmcjcdcneikaa
open Go.RowKit

/-- what a text is read as, and its code -/
def readOut (t : ByteArray) : List RuleD × Int := if 8000 < t.size then ([], 2) else match parseT t.data.toList with | none => ([], 3) | some rs => (rs, 0)
theorem readOut_big {t : ByteArray} (h : 8000 < t.size) : readOut t = ([], 2) := if_pos h
theorem readOut_none {t : ByteArray} (h : ¬ 8000 < t.size) (hp : parseT t.data.toList = none) : readOut t = ([], 3) := by unfold readOut; rw [if_neg h, hp]
theorem readOut_some {t : ByteArray} {rs : List RuleD} (h : ¬ 8000 < t.size) (hp : parseT t.data.toList = some rs) : readOut t = (rs, 0) := by unfold readOut; rw [if_neg h, hp]
/-- a grammar and a code that a call has made, in memory of its own -/
def MadeO (w : World) (o : List RuleD × Int) (e : Ending) (w' : World) : Prop := ∃ v, e = .returned (.agg #[v, .int .i64 o.2]) ∧ OwnR w' w.heap.size w'.heap.size v o.1 ∧ Below w.heap.size w w'
theorem OwnR.nil (w : World) (lo hi : Nat) : OwnR w lo hi (.slice none 0 0) [] := ⟨none, 0, rfl, Nat.le_refl _, by unfold maxLen; omega, fun h => by simp at h⟩

set_option maxRecDepth 100000 in
set_option maxHeartbeats 2000000 in
theorem implGramRead_any (t : ByteArray) (w : World) (ht : t.size ≤ maxLen) :
    Calls Try.prog 14 #[.string t] w (MadeO w (readOut t)) := by
  unfold maxLen at ht
  have hb := al1 w (.cells #[.slice none 0 0, .int .i64 0] 30)
  by_cases h8 : 8000 < t.size
  · rw [readOut_big h8]
    go_enter Try.func14, Try.ntmps14
    go_wp2
    exact bodyPost_ret (v := .agg #[.slice none 0 0, .int .i64 2]) (by simp [results, Try.results14, go_sem]) rfl ⟨_, rfl, OwnR.nil _ _ _, al1 _ _⟩
  · have R0 := Row.made w 30 #[.slice none 0 0, .int .i64 0]
    cases hp : parseT t.data.toList with
    | none =>
      rw [readOut_none h8 hp]
      have HP := Lib.hid hp
      clear hp
      go_enter Try.func14, Try.ntmps14
      go_wp2_with fail
      refine (readGram_any t _ (by omega)).mono ?_
      rintro e w1 ⟨b1, he⟩
      rw [HP.out] at he
      subst he
      have r1 := R0.below b1 (by simp)
      have c0 := r1.cell 0
      have c1 := r1.cell 1
      have f0 := r1.free 0
      have f1 := r1.free 1
      simp at c0 c1
      have hb1 := hb.trans (b1.mono (by simp))
      have hlt1 : w.heap.size < w1.heap.size := by have := b1.size; simp at this; omega
      have HB1 := Lib.hid hb1
      clear r1 b1 hb1
      go_wp2
      exact bodyPost_ret (v := .agg #[.slice none 0 0, .int .i64 3]) (by simp [results, Try.results14, go_sem, c0, c1, hlt1]) rfl ⟨_, rfl, OwnR.nil _ _ _, ((HB1.out.setCell (Nat.le_refl _) _).setCell (Nat.le_refl _) _).alloc (by simp [World.setCell]; omega) _⟩
    | some rs =>
      rw [readOut_some h8 hp]
      have HP := Lib.hid hp
      clear hp
      go_enter Try.func14, Try.ntmps14
      go_wp2_with fail
      refine (readGram_any t _ (by omega)).mono ?_
      rintro e w1 ⟨b1, he⟩
      rw [HP.out] at he
      obtain ⟨v, rfl, own⟩ := he
      have r1 := R0.below b1 (by simp)
      have c0 := r1.cell 0
      have c1 := r1.cell 1
      have f0 := r1.free 0
      have f1 := r1.free 1
      simp at c0 c1
      have hb1 := hb.trans (b1.mono (by simp))
      have hlt1 : w.heap.size < w1.heap.size := by have := b1.size; simp at this; omega
      have HB1 := Lib.hid hb1
      have own' : OwnR w1 (w.heap.size + 1) w1.heap.size v rs := by simpa using own
      have HO := Lib.hid own'
      obtain ⟨A, c, rfl, -⟩ := own
      clear r1 b1 hb1 own'
      go_wp2
      refine bodyPost_ret (v := .agg #[.slice A rs.length c, .int .i64 0]) (by simp [results, Try.results14, go_sem, c0, c1, hlt1]) rfl ⟨_, rfl, ?_, ((HB1.out.setCell (Nat.le_refl _) _).setCell (Nat.le_refl _) _).alloc (by simp [World.setCell]; omega) _⟩
      have hk := HO.out.keep (w' := ((w1.setCell ⟨w.heap.size, 0, none⟩ (.slice A rs.length c)).setCell ⟨w.heap.size, 1, none⟩ (.int .i64 0)).alloc (.cells #[.slice A rs.length c] 25)) (fun j h1 h2 => by
        rw [Below.heap_alloc _ _ _ (by simp [World.setCell]; exact h2), Below.heap_setCell _ _ _ _ (by show j ≠ w.heap.size; omega), Below.heap_setCell _ _ _ _ (by show j ≠ w.heap.size; omega)])
      exact hk.more (by omega) (by simp [World.setCell])
end Go.Proofs.Ytojmcjcdcneikaa
