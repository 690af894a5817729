import Derived.Test.YtcgmnpfeiiomgaaJReadG
/- The program's GramRead. -/
namespace Go.Proofs.Ytcgmnpfeiiomgaa
open Go.RowKit

/-- what a text is read as, and its code -/
def readOut (t : ByteArray) : List RuleD × Int := if 8000 < t.size then ([], 2) else match parseT t.data.toList with | none => ([], 3) | some rs => (rs, 0)
theorem readOut_big {t : ByteArray} (h : 8000 < t.size) : readOut t = ([], 2) := if_pos h
theorem readOut_none {t : ByteArray} (h : ¬ 8000 < t.size) (hp : parseT t.data.toList = none) : readOut t = ([], 3) := by unfold readOut; rw [if_neg h, hp]
theorem readOut_some {t : ByteArray} {rs : List RuleD} (h : ¬ 8000 < t.size) (hp : parseT t.data.toList = some rs) : readOut t = (rs, 0) := by unfold readOut; rw [if_neg h, hp]
/-- a grammar and a code that a call has made, in memory of its own -/
def MadeO (w : World) (o : List RuleD × Int) (e : Ending) (w' : World) : Prop := ∃ v, e = .returned (.agg #[v, .int .i64 o.2]) ∧ OwnR w' w.heap.size w'.heap.size v o.1 ∧ Below w.heap.size w w'
theorem OwnR.nil (w : World) (lo hi : Nat) : OwnR w lo hi (.slice none 0 0) [] := ⟨none, 0, rfl, Nat.le_refl _, by unfold maxLen; omega, fun h => by simp at h⟩

set_option maxRecDepth 100000 in
set_option maxHeartbeats 2000000 in
theorem implGramRead_any (t : ByteArray) (w : World) (ht : t.size ≤ maxLen) :
    Calls Try.prog 12 #[.string t] w (MadeO w (readOut t)) := by
  unfold maxLen at ht
  have hb := al1 w (.cells #[.slice none 0 0, .int .i64 0] 30)
  by_cases h8 : 8000 < t.size
  · rw [readOut_big h8]
    go_enter Try.func12, Try.ntmps12
    go_wp2
    exact bodyPost_ret (v := .agg #[.slice none 0 0, .int .i64 2]) (by simp [results, Try.results12, go_sem]) rfl ⟨_, rfl, OwnR.nil _ _ _, al1 _ _⟩
  · have R0 := Row.made w 30 #[.slice none 0 0, .int .i64 0]
    cases hp : parseT t.data.toList with
    | none =>
      rw [readOut_none h8 hp]
      have HP := Lib.hid hp
      clear hp
      go_enter Try.func12, Try.ntmps12
      go_wp2_with fail
      refine (readGram_any t _ (by omega)).mono ?_
      rintro e w1 ⟨b1, he⟩
      rw [HP.out] at he
      subst he
      have r1 := R0.below b1 (by simp)
      have c0 := r1.cell 0
      have c1 := r1.cell 1
      have f0 := r1.free 0
      have f1 := r1.free 1
      simp at c0 c1
      have hb1 := hb.trans (b1.mono (by simp))
      have hlt1 : w.heap.size < w1.heap.size := by have := b1.size; simp at this; omega
      have HB1 := Lib.hid hb1
      clear r1 b1 hb1
      go_wp2
      exact bodyPost_ret (v := .agg #[.slice none 0 0, .int .i64 3]) (by simp [results, Try.results12, go_sem, c0, c1, hlt1]) rfl ⟨_, rfl, OwnR.nil _ _ _, ((HB1.out.setCell (Nat.le_refl _) _).setCell (Nat.le_refl _) _).alloc (by simp [World.setCell]; omega) _⟩
    | some rs =>
      rw [readOut_some h8 hp]
      have HP := Lib.hid hp
      clear hp
      go_enter Try.func12, Try.ntmps12
      go_wp2_with fail
      refine (readGram_any t _ (by omega)).mono ?_
      rintro e w1 ⟨b1, he⟩
      rw [HP.out] at he
      obtain ⟨v, rfl, own⟩ := he
      have r1 := R0.below b1 (by simp)
      have c0 := r1.cell 0
      have c1 := r1.cell 1
      have f0 := r1.free 0
      have f1 := r1.free 1
      simp at c0 c1
      have hb1 := hb.trans (b1.mono (by simp))
      have hlt1 : w.heap.size < w1.heap.size := by have := b1.size; simp at this; omega
      have HB1 := Lib.hid hb1
      have own' : OwnR w1 (w.heap.size + 1) w1.heap.size v rs := by simpa using own
      have HO := Lib.hid own'
      obtain ⟨A, c, rfl, -⟩ := own
      clear r1 b1 hb1 own'
      go_wp2
      refine bodyPost_ret (v := .agg #[.slice A rs.length c, .int .i64 0]) (by simp [results, Try.results12, go_sem, c0, c1, hlt1]) rfl ⟨_, rfl, ?_, ((HB1.out.setCell (Nat.le_refl _) _).setCell (Nat.le_refl _) _).alloc (by simp [World.setCell]; omega) _⟩
      have hk := HO.out.keep (w' := ((w1.setCell ⟨w.heap.size, 0, none⟩ (.slice A rs.length c)).setCell ⟨w.heap.size, 1, none⟩ (.int .i64 0)).alloc (.cells #[.slice A rs.length c] 25)) (fun j h1 h2 => by
        rw [Below.heap_alloc _ _ _ (by simp [World.setCell]; exact h2), Below.heap_setCell _ _ _ _ (by show j ≠ w.heap.size; omega), Below.heap_setCell _ _ _ _ (by show j ≠ w.heap.size; omega)])
      exact hk.more (by omega) (by simp [World.setCell])
end Go.Proofs.Ytcgmnpfeiiomgaa

/- The model's GramRead: its lines and words, as lists. -/
namespace Go.Proofs.Ytcgmnpfeiiomgaa
open Go.RowKit
open Tx (bs)

/-- the model's test of a word -/
def keepW (ps : List ByteArray) (s : ByteArray) : Bool := decide (s ≠ ⟨#[126]⟩) || decide (3 < ps.length)
/-- the body as far as the k-th word -/
def bodyTo (ps : List ByteArray) (k : Nat) : List ByteArray := ((ps.take k).drop 2).filter (keepW ps)
theorem bodyTo_two (ps : List ByteArray) : bodyTo ps 2 = [] := by
  unfold bodyTo
  rw [List.drop_eq_nil_of_le (List.length_take_le _ _)]
  rfl
theorem bodyTo_succ {ps : List ByteArray} {k : Nat} (h : k < ps.length) (h2 : 2 ≤ k) : bodyTo ps (k + 1) = bodyTo ps k ++ (if keepW ps ps[k] = true then [ps[k]] else []) := by
  unfold bodyTo
  rw [List.take_succ_eq_append_getElem h, List.drop_append_of_le_length (by simp; omega), List.filter_append]
  congr 1
  simp only [List.filter_cons, List.filter_nil]
theorem bodyTo_len (ps : List ByteArray) (k : Nat) : (bodyTo ps k).length ≤ k := by
  unfold bodyTo
  have h1 := List.length_filter_le (keepW ps) ((ps.take k).drop 2)
  have h2 : (ps.take k).length ≤ k := List.length_take_le _ _
  rw [List.length_drop] at h1
  omega
theorem bodyTo_mem {ps : List ByteArray} {k : Nat} {s : ByteArray} (h : s ∈ bodyTo ps k) : s ∈ ps := by
  unfold bodyTo at h
  exact List.mem_of_mem_take (List.mem_of_mem_drop (List.mem_filter.1 h).1)
theorem bodyTo_all {ps : List ByteArray} {k : Nat} (h' : ps.length ≤ k ∨ k = 8) (h8 : k ≤ 8) : bodyTo ps k = bodyTo ps 8 := by
  rcases h' with h' | h'
  · unfold bodyTo
    rw [List.take_of_length_le h', List.take_of_length_le (by omega)]
  · rw [h']
theorem takeR_body (t : ByteArray) : (takeR t.data.toList).body = bodyTo (pieces 32 t) 8 := by
  unfold takeR bodyTo pieces
  simp only
  rw [← List.map_take, ← List.map_drop, List.filter_map]
  congr 1
  apply List.filter_congr
  intro x _
  unfold keepW
  simp only [Function.comp_apply, List.length_map]
  congr 1
  rw [Bool.eq_iff_iff]
  simp only [decide_eq_true_eq]
  constructor
  · exact fun h e => h (Tx.bs_inj (a := x) (b := [126]) e)
  · exact fun h e => h (by rw [e]; rfl)
theorem takeR_head (t : ByteArray) (h : 0 < (pieces 32 t).length) : (takeR t.data.toList).head = (pieces 32 t)[0] := by
  refine (ba_eq ?_).symm
  rw [pieces_at h]
  rfl
/-- the rules of the first k lines -/
def takeTo (t : ByteArray) (k : Nat) : List RuleD := ((linesOf t).take k).map takeR
theorem takeTo_succ {t : ByteArray} {k : Nat} (h : k < (linesOf t).length) : takeTo t (k + 1) = takeTo t k ++ [takeR (linesOf t)[k]] := by
  unfold takeTo; rw [List.take_succ_eq_append_getElem h, List.map_append]; rfl
theorem takeTo_all {t : ByteArray} {k : Nat} (h' : (linesOf t).length ≤ k ∨ k = 21) (h8 : k ≤ 21) : takeTo t k = takeAll t.data.toList := by
  unfold takeTo takeAll
  rcases h' with h' | h'
  · unfold linesOf at h' ⊢
    rw [List.take_of_length_le h', List.take_of_length_le (by omega)]
  · rw [h']; rfl
theorem read_yes {t : ByteArray} (h8 : ¬ 8000 < t.size) (h0 : t.data.toList ≠ []) (hg : gramB (takeAll t.data.toList) = true) (hx : Tx.textT (takeAll t.data.toList) = t.data.toList) : readOut t = (takeAll t.data.toList, 0) := by
  rcases read_same (t := t.data.toList) with ⟨_, _, _, h⟩ | ⟨h, _⟩
  · exact readOut_some h8 h
  · exact absurd ⟨h0, hg, hx⟩ h
theorem read_no {t : ByteArray} (h8 : ¬ 8000 < t.size) (hn : ¬ (t.data.toList ≠ [] ∧ gramB (takeAll t.data.toList) = true ∧ Tx.textT (takeAll t.data.toList) = t.data.toList)) : readOut t = ([], 3) := by
  rcases read_same (t := t.data.toList) with ⟨h1, h2, h3, _⟩ | ⟨_, h⟩
  · exact absurd ⟨h1, h2, h3⟩ hn
  · exact readOut_none h8 h
end Go.Proofs.Ytcgmnpfeiiomgaa
