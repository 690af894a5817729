/- The model's GramRead: its lines and words, as lists. -/
import Derived.Test.YtojmcjcdcneikaaReadO
namespace Go.Proofs.Ytojmcjcdcneikaa
open Go.RowKit
open Tx (bs)

/-- the model's test of a word -/
def keepW (ps : List ByteArray) (s : ByteArray) : Bool := decide (s ≠ ⟨#[126]⟩) || decide (3 < ps.length)
/-- the body as far as the k-th word -/
def bodyTo (ps : List ByteArray) (k : Nat) : List ByteArray := ((ps.take k).drop 2).filter (keepW ps)
theorem bodyTo_two (ps : List ByteArray) : bodyTo ps 2 = [] := by
  unfold bodyTo
  rw [List.drop_eq_nil_of_le (List.length_take_le _ _)]
  rfl
theorem bodyTo_succ {ps : List ByteArray} {k : Nat} (h : k < ps.length) (h2 : 2 ≤ k) : bodyTo ps (k + 1) = bodyTo ps k ++ (if keepW ps ps[k] = true then [ps[k]] else []) := by
  unfold bodyTo
  rw [List.take_succ_eq_append_getElem h, List.drop_append_of_le_length (by simp; omega), List.filter_append]
  congr 1
  simp only [List.filter_cons, List.filter_nil]
theorem bodyTo_len (ps : List ByteArray) (k : Nat) : (bodyTo ps k).length ≤ k := by
  unfold bodyTo
  have h1 := List.length_filter_le (keepW ps) ((ps.take k).drop 2)
  have h2 : (ps.take k).length ≤ k := List.length_take_le _ _
  rw [List.length_drop] at h1
  omega
theorem bodyTo_mem {ps : List ByteArray} {k : Nat} {s : ByteArray} (h : s ∈ bodyTo ps k) : s ∈ ps := by
  unfold bodyTo at h
  exact List.mem_of_mem_take (List.mem_of_mem_drop (List.mem_filter.1 h).1)
theorem bodyTo_all {ps : List ByteArray} {k : Nat} (h' : ps.length ≤ k ∨ k = 8) (h8 : k ≤ 8) : bodyTo ps k = bodyTo ps 8 := by
  rcases h' with h' | h'
  · unfold bodyTo
    rw [List.take_of_length_le h', List.take_of_length_le (by omega)]
  · rw [h']
theorem takeR_body (t : ByteArray) : (takeR t.data.toList).body = bodyTo (pieces 32 t) 8 := by
  unfold takeR bodyTo pieces
  simp only
  rw [← List.map_take, ← List.map_drop, List.filter_map]
  congr 1
  apply List.filter_congr
  intro x _
  unfold keepW
  simp only [Function.comp_apply, List.length_map]
  congr 1
  rw [Bool.eq_iff_iff]
  simp only [decide_eq_true_eq]
  constructor
  · exact fun h e => h (Tx.bs_inj (a := x) (b := [126]) e)
  · exact fun h e => h (by rw [e]; rfl)
theorem takeR_head (t : ByteArray) (h : 0 < (pieces 32 t).length) : (takeR t.data.toList).head = (pieces 32 t)[0] := by
  refine (ba_eq ?_).symm
  rw [pieces_at h]
  rfl
/-- the rules of the first k lines -/
def takeTo (t : ByteArray) (k : Nat) : List RuleD := ((linesOf t).take k).map takeR
theorem takeTo_succ {t : ByteArray} {k : Nat} (h : k < (linesOf t).length) : takeTo t (k + 1) = takeTo t k ++ [takeR (linesOf t)[k]] := by
  unfold takeTo; rw [List.take_succ_eq_append_getElem h, List.map_append]; rfl
theorem takeTo_all {t : ByteArray} {k : Nat} (h' : (linesOf t).length ≤ k ∨ k = 21) (h8 : k ≤ 21) : takeTo t k = takeAll t.data.toList := by
  unfold takeTo takeAll
  rcases h' with h' | h'
  · unfold linesOf at h' ⊢
    rw [List.take_of_length_le h', List.take_of_length_le (by omega)]
  · rw [h']; rfl
theorem read_yes {t : ByteArray} (h8 : ¬ 8000 < t.size) (h0 : t.data.toList ≠ []) (hg : gramB (takeAll t.data.toList) = true) (hx : Tx.textT (takeAll t.data.toList) = t.data.toList) : readOut t = (takeAll t.data.toList, 0) := by
  rcases read_same (t := t.data.toList) with ⟨_, _, _, h⟩ | ⟨h, _⟩
  · exact readOut_some h8 h
  · exact absurd ⟨h0, hg, hx⟩ h
theorem read_no {t : ByteArray} (h8 : ¬ 8000 < t.size) (hn : ¬ (t.data.toList ≠ [] ∧ gramB (takeAll t.data.toList) = true ∧ Tx.textT (takeAll t.data.toList) = t.data.toList)) : readOut t = ([], 3) := by
  rcases read_same (t := t.data.toList) with ⟨h1, h2, h3, _⟩ | ⟨_, h⟩
  · exact absurd ⟨h1, h2, h3⟩ hn
  · exact readOut_none h8 h
end Go.Proofs.Ytojmcjcdcneikaa
