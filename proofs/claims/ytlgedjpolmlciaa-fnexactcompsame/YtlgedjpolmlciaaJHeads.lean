import Derived.Test.YtlgedjpolmlciaaNums
import Derived.Test.YtlgedjpolmlciaaJOi
import Derived.Test.YtlgedjpolmlciaaShelf
import Derived.Maps.RangeWalk
import Derived.Test.YtlgedjpolmlciaaJTxt
/- The symbols of a map, told by their numbers: the walk of told. -/
namespace Go.Proofs.Ytlgedjpolmlciaa
open Go.RowKit Go.Maps

theorem nodup_ne {acc : List ByteArray} (h : acc.Nodup) {i j : Nat} (hi : i < acc.length) (hj : j < acc.length) (hne : i ≠ j) : acc[i] ≠ acc[j] := by
  rcases Nat.lt_or_gt_of_ne hne with hl | hl
  · exact List.pairwise_iff_getElem.1 h i j hi hj hl
  · exact fun e => List.pairwise_iff_getElem.1 h j i hj hi hl e.symm
theorem invKey : ∀ (key : Value) (kl : Lit), keyOf Try.prog 9 key = some kl → ∃ x, key = Value.string x := fun key kl h => by
  obtain ⟨s, h1, _⟩ := WideMaps.string_of_keyOf Try.underlying9 h
  exact ⟨s, h1⟩
theorem invNum : ∀ (v : Value) (y : DataW Unit × List MemPlace), plainElem Try.prog 3 v = some y → ∃ c, v = Value.int .i64 c := fun v y h => by
  obtain ⟨c, h1, _⟩ := plainElem_int_inv Try.underlying3 h
  exact ⟨c, h1⟩
set_option maxRecDepth 100000 in
/-- what an entry of the map says -/
theorem entry_says {acc : List ByteArray} (hn : acc.Nodup) {x : ByteArray} {c : Int} {kl : Lit} {y : DataW Unit × List MemPlace} (hk : keyOf Try.prog 9 (.string x) = some kl) (hv : plainElem Try.prog 3 (.int .i64 c) = some y) (hat : ∀ z, (mapD acc).atKey kl z = y.1) :
    kl = symKey x ∧ ∃ i, ∃ h : i < acc.length, x = acc[i] ∧ c = (i : Int) := by
  obtain ⟨s, h1, h2, _⟩ := WideMaps.string_of_keyOf Try.underlying9 hk
  injection h1 with h1
  subst h1
  subst h2
  obtain ⟨c', e1, e2, _⟩ := plainElem_int_inv Try.underlying3 hv
  injection e1 with _ e1
  subst e1
  have hin := (mapD_has acc x).symm.trans (has_true_of_atKey (D := mapD acc) (k := symKey x) hat)
  obtain ⟨i, hi, rfl⟩ := List.getElem_of_mem ((inB_iff _ _).1 hin)
  refine ⟨rfl, i, hi, rfl, ?_⟩
  have h3 := (mapD_at acc hn i hi (.map [])).symm.trans (hat (.map []))
  rw [e2] at h3
  unfold symNum at h3
  injection h3 with h3
  injection h3 with _ h3
  exact h3.symm

end Go.Proofs.Ytlgedjpolmlciaa

/- The walks of the program's Heads and Tokens. -/
namespace Go.Proofs.Ytlgedjpolmlciaa
open Go.RowKit Go.Maps

/-- a list of texts that a call has made -/
def MadeS (w : World) (ss : List ByteArray) (e : Ending) (w' : World) : Prop := ∃ u g, e = .returned u ∧ OwnS w' g u ss ∧ (ss ≠ [] → w.heap.size ≤ g ∧ g < w'.heap.size) ∧ Below w.heap.size w w'
theorem OwnS.nil (w : World) (g : Nat) : OwnS w g (.slice none 0 0) [] := ⟨none, 0, rfl, Nat.le_refl _, by unfold maxLen; omega, by simp, fun h => by simp at h⟩

def headsTo (rs : List RuleD) (k : Nat) : List ByteArray := (rs.take k).foldl (fun acc r => addSym acc r.head) []
/-- the heads of a right grammar -/
def headsOf (rs : List RuleD) : List ByteArray := if gramB rs = true then headsTo rs rs.length else []
theorem headsTo_succ {rs : List RuleD} {k : Nat} (h : k < rs.length) : headsTo rs (k + 1) = addSym (headsTo rs k) rs[k].head := by
  unfold headsTo; rw [List.take_succ_eq_append_getElem h, List.foldl_append]; rfl
theorem headsTo_nodup (rs : List RuleD) (k : Nat) : (headsTo rs k).Nodup := by
  induction k with
  | zero => simp [headsTo]
  | succ k ih =>
    by_cases h : k < rs.length
    · rw [headsTo_succ h]; exact addSym_nodup ih
    · have : headsTo rs (k + 1) = headsTo rs k := by unfold headsTo; rw [List.take_of_length_le (by omega), List.take_of_length_le (by omega)]
      rw [this]; exact ih
theorem headsTo_len (rs : List RuleD) (k : Nat) : (headsTo rs k).length ≤ k := by
  induction k with
  | zero => simp [headsTo]
  | succ k ih =>
    by_cases h : k < rs.length
    · rw [headsTo_succ h]; have := addSym_len (headsTo rs k) rs[k].head; omega
    · have : headsTo rs (k + 1) = headsTo rs k := by unfold headsTo; rw [List.take_of_length_le (by omega), List.take_of_length_le (by omega)]
      rw [this]; omega
theorem mem_addSym {acc : List ByteArray} {s t : ByteArray} (h : t ∈ addSym acc s) : t ∈ acc ∨ t = s := by
  unfold addSym at h
  split at h
  · exact .inl h
  · rw [List.mem_append, List.mem_singleton] at h; exact h
theorem headsTo_mem {rs : List RuleD} {k : Nat} {s : ByteArray} (h : s ∈ headsTo rs k) : ∃ i, ∃ h : i < rs.length, s = rs[i].head := by
  induction k with
  | zero => simp [headsTo] at h
  | succ k ih =>
    by_cases hk : k < rs.length
    · rw [headsTo_succ hk] at h
      rcases mem_addSym h with h | h
      · exact ih h
      · exact ⟨k, hk, h⟩
    · have : headsTo rs (k + 1) = headsTo rs k := by unfold headsTo; rw [List.take_of_length_le (by omega), List.take_of_length_le (by omega)]
      rw [this] at h; exact ih h
theorem symB_size' {lo hi : Nat} {s : ByteArray} (h : symB lo hi s = true) : s.size ≤ 4 := ((symB_iff lo hi s).1 h).2.1
theorem headB_size {s : ByteArray} (h : headB s = true) : s.size ≤ 4 := symB_size' h
theorem tokB_size {s : ByteArray} (h : tokB s = true) : s.size ≤ 4 := symB_size' h
theorem headsOf_len (rs : List RuleD) : (headsOf rs).length ≤ 1000 := by
  unfold headsOf
  split
  · rename_i h
    have := headsTo_len rs rs.length
    have := ((gramB_iff rs).1 h).2.1
    omega
  · simp
theorem headsOf_t {rs : List RuleD} (h : gramB rs = true) : headsOf rs = headsTo rs rs.length := if_pos h
theorem headsOf_f {rs : List RuleD} (h : gramB rs = false) : headsOf rs = [] := if_neg (by rw [h]; decide)

end Go.Proofs.Ytlgedjpolmlciaa
