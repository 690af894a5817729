import Derived.Test.YtokdhgocgicdnaaGreatDoorJEar
import Derived.Test.YtokdhgocgicdnaaGreatDoorJHeadsS
import Derived.Test.YtokdhgocgicdnaaGreatDoorJFull
import Derived.Test.YtokdhgocgicdnaaGreatDoorJToc
import Derived.Deep.AppendLies
/- The walks of the model's l03All, l03Sort, l03Fix, Nullable and Productive. -/
namespace Go.Proofs.YtokdhgocgicdnaaGreatDoor
open Go.RowKit

theorem Sts.below {w w' : World} {base : Nat} {v : Value} {ss : List ByteArray} (h : Sts w base v ss) (k : Below w.heap.size w w') : Sts w' base v ss := by
  refine ⟨h.1, ?_⟩
  rcases h.2 with a | ⟨g, cap, cur, rfl, hb, hh, r⟩
  · exact .inl a
  · have hr : Row w g 9 cur := hh
    exact .inr ⟨g, cap, cur, rfl, hb, (k.block g hr.lt).trans hh, r⟩
theorem Sts.shape {w : World} {base : Nat} {v : Value} {ss : List ByteArray} (h : Sts w base v ss) : ∃ B d, v = .slice B ss.length d := by
  rcases h.2 with ⟨rfl, h0⟩ | ⟨g, cap, cur, rfl, _⟩
  · exact ⟨none, 0, by rw [h0]⟩
  · exact ⟨_, _, rfl⟩
/-- is all of a body among some, or a token, if these count? -/
def allB (body some : List ByteArray) (tok : Bool) : Bool := body.all fun s => inB some s || (tok && tokB s)
theorem allB_iff (body ins : List ByteArray) (tok : Bool) : allB body ins tok = true ↔ ∀ s ∈ body, (tok && tokB s) = false → s ∈ ins := by
  unfold allB
  rw [List.all_eq_true]
  constructor
  · intro h s hs ht
    have := h s hs
    rw [ht, Bool.or_false] at this
    exact (inB_iff _ _).1 this
  · intro h s hs
    cases ht : (tok && tokB s)
    · rw [(inB_iff _ _).2 (h s hs ht), Bool.true_or]
    · rw [Bool.or_true]
theorem allB_no {body ins : List ByteArray} {tok : Bool} {k : Nat} (h : k < body.length) (h1 : (inB ins body[k] || (tok && tokB body[k])) = false) : allB body ins tok = false := by
  rw [Bool.eq_false_iff]
  intro e
  unfold allB at e
  rw [List.all_eq_true] at e
  have := e _ (List.getElem_mem h)
  rw [h1] at this; cases this
theorem allB_yes {body ins : List ByteArray} {tok : Bool} (h : ∀ k (h : k < body.length), (inB ins body[k] || (tok && tokB body[k])) = true) : allB body ins tok = true := by
  unfold allB
  rw [List.all_eq_true]
  intro s hs
  obtain ⟨k, hk, rfl⟩ := List.getElem_of_mem hs
  exact h k hk

end Go.Proofs.YtokdhgocgicdnaaGreatDoor

/- The program's readGram and GramRead. -/
namespace Go.Proofs.YtokdhgocgicdnaaGreatDoor
open Go.RowKit
open Tx (bs)

/-- a grammar that a call has made of a text, or none -/
def MadeG (w : World) (o : Option (List RuleD)) (e : Ending) (w' : World) : Prop :=
  Below w.heap.size w w' ∧ match o with
    | none => e = .returned (.tuple #[.agg #[.slice none 0 0], .bool false])
    | some rs => ∃ v, e = .returned (.tuple #[.agg #[v], .bool true]) ∧ OwnR w' w.heap.size w'.heap.size v rs
theorem MadeG.no {w w' : World} {o : Option (List RuleD)} {e : Ending} (h : o = none) (hb : Below w.heap.size w w') (he : e = .returned (.tuple #[.agg #[.slice none 0 0], .bool false])) : MadeG w o e w' := by subst h; exact ⟨hb, he⟩
theorem MadeG.yes {w w' : World} {o : Option (List RuleD)} {rs : List RuleD} {v : Value} (h : o = some rs) (hb : Below w.heap.size w w') (ho : OwnR w' w.heap.size w'.heap.size v rs) : MadeG w o (.returned (.tuple #[.agg #[v], .bool true])) w' := by subst h; exact ⟨hb, v, rfl, ho⟩

theorem two_new (w : World) (a b : Value) : ∀ j u, [a, b][j]? = some u → ((w.alloc (.cells #[a, b] 45)).alloc (.cells #[a, b] 45)).cell? ((⟨w.heap.size + 1, 0, none⟩ : Addr).add j) = some u := by
  have e : (w.alloc (.cells #[a, b] 45)).heap.size = w.heap.size + 1 := by simp
  rw [← e]
  exact World.news_of_block (cs := #[a, b]) (t := 45) (fr := (0, 0)) (heap_alloc_new _ _)
theorem two_one (s : ByteArray) (A : Option Addr) (n c : Nat) : ∀ u ∈ [Value.string s, .slice A n c], u.oneCell' = true := by
  intro u hu
  simp only [List.mem_cons, List.not_mem_nil, or_false] at hu
  rcases hu with rfl | rfl <;> rfl

end Go.Proofs.YtokdhgocgicdnaaGreatDoor

/- The program's GramRead. -/
namespace Go.Proofs.YtokdhgocgicdnaaGreatDoor
open Go.RowKit

/-- what a text is read as, and its code -/
def readOut (t : ByteArray) : List RuleD × Int := if 8000 < t.size then ([], 2) else match parseT t.data.toList with | none => ([], 3) | some rs => (rs, 0)
theorem readOut_big {t : ByteArray} (h : 8000 < t.size) : readOut t = ([], 2) := if_pos h
theorem readOut_none {t : ByteArray} (h : ¬ 8000 < t.size) (hp : parseT t.data.toList = none) : readOut t = ([], 3) := by unfold readOut; rw [if_neg h, hp]
theorem readOut_some {t : ByteArray} {rs : List RuleD} (h : ¬ 8000 < t.size) (hp : parseT t.data.toList = some rs) : readOut t = (rs, 0) := by unfold readOut; rw [if_neg h, hp]
/-- a grammar and a code that a call has made, in memory of its own -/
def MadeO (w : World) (o : List RuleD × Int) (e : Ending) (w' : World) : Prop := ∃ v, e = .returned (.agg #[v, .int .i64 o.2]) ∧ OwnR w' w.heap.size w'.heap.size v o.1 ∧ Below w.heap.size w w'
theorem OwnR.nil (w : World) (lo hi : Nat) : OwnR w lo hi (.slice none 0 0) [] := ⟨none, 0, rfl, Nat.le_refl _, by unfold maxLen; omega, fun h => by simp at h⟩

end Go.Proofs.YtokdhgocgicdnaaGreatDoor

/- The model's GramRead: its lines and words, as lists. -/
namespace Go.Proofs.YtokdhgocgicdnaaGreatDoor
open Go.RowKit
open Tx (bs)

/-- the model's test of a word -/
def keepW (ps : List ByteArray) (s : ByteArray) : Bool := decide (s ≠ ⟨#[126]⟩) || decide (3 < ps.length)
/-- the body as far as the k-th word -/
def bodyTo (ps : List ByteArray) (k : Nat) : List ByteArray := ((ps.take k).drop 2).filter (keepW ps)
theorem bodyTo_two (ps : List ByteArray) : bodyTo ps 2 = [] := by
  unfold bodyTo
  rw [List.drop_eq_nil_of_le (List.length_take_le _ _)]
  rfl
theorem bodyTo_succ {ps : List ByteArray} {k : Nat} (h : k < ps.length) (h2 : 2 ≤ k) : bodyTo ps (k + 1) = bodyTo ps k ++ (if keepW ps ps[k] = true then [ps[k]] else []) := by
  unfold bodyTo
  rw [List.take_succ_eq_append_getElem h, List.drop_append_of_le_length (by simp; omega), List.filter_append]
  congr 1
  simp only [List.filter_cons, List.filter_nil]
theorem bodyTo_len (ps : List ByteArray) (k : Nat) : (bodyTo ps k).length ≤ k := by
  unfold bodyTo
  have h1 := List.length_filter_le (keepW ps) ((ps.take k).drop 2)
  have h2 : (ps.take k).length ≤ k := List.length_take_le _ _
  rw [List.length_drop] at h1
  omega
theorem bodyTo_mem {ps : List ByteArray} {k : Nat} {s : ByteArray} (h : s ∈ bodyTo ps k) : s ∈ ps := by
  unfold bodyTo at h
  exact List.mem_of_mem_take (List.mem_of_mem_drop (List.mem_filter.1 h).1)
theorem bodyTo_all {ps : List ByteArray} {k : Nat} (h' : ps.length ≤ k ∨ k = 8) (h8 : k ≤ 8) : bodyTo ps k = bodyTo ps 8 := by
  rcases h' with h' | h'
  · unfold bodyTo
    rw [List.take_of_length_le h', List.take_of_length_le (by omega)]
  · rw [h']
theorem takeR_body (t : ByteArray) : (takeR t.data.toList).body = bodyTo (pieces 32 t) 8 := by
  unfold takeR bodyTo pieces
  simp only
  rw [← List.map_take, ← List.map_drop, List.filter_map]
  congr 1
  apply List.filter_congr
  intro x _
  unfold keepW
  simp only [Function.comp_apply, List.length_map]
  congr 1
  rw [Bool.eq_iff_iff]
  simp only [decide_eq_true_eq]
  constructor
  · exact fun h e => h (Tx.bs_inj (a := x) (b := [126]) e)
  · exact fun h e => h (by rw [e]; rfl)
theorem takeR_head (t : ByteArray) (h : 0 < (pieces 32 t).length) : (takeR t.data.toList).head = (pieces 32 t)[0] := by
  refine (ba_eq ?_).symm
  rw [pieces_at h]
  rfl
/-- the rules of the first k lines -/
def takeTo (t : ByteArray) (k : Nat) : List RuleD := ((linesOf t).take k).map takeR
theorem takeTo_succ {t : ByteArray} {k : Nat} (h : k < (linesOf t).length) : takeTo t (k + 1) = takeTo t k ++ [takeR (linesOf t)[k]] := by
  unfold takeTo; rw [List.take_succ_eq_append_getElem h, List.map_append]; rfl
theorem takeTo_all {t : ByteArray} {k : Nat} (h' : (linesOf t).length ≤ k ∨ k = 21) (h8 : k ≤ 21) : takeTo t k = takeAll t.data.toList := by
  unfold takeTo takeAll
  rcases h' with h' | h'
  · unfold linesOf at h' ⊢
    rw [List.take_of_length_le h', List.take_of_length_le (by omega)]
  · rw [h']; rfl
theorem read_yes {t : ByteArray} (h8 : ¬ 8000 < t.size) (h0 : t.data.toList ≠ []) (hg : gramB (takeAll t.data.toList) = true) (hx : Tx.textT (takeAll t.data.toList) = t.data.toList) : readOut t = (takeAll t.data.toList, 0) := by
  rcases read_same (t := t.data.toList) with ⟨_, _, _, h⟩ | ⟨h, _⟩
  · exact readOut_some h8 h
  · exact absurd ⟨h0, hg, hx⟩ h
theorem read_no {t : ByteArray} (h8 : ¬ 8000 < t.size) (hn : ¬ (t.data.toList ≠ [] ∧ gramB (takeAll t.data.toList) = true ∧ Tx.textT (takeAll t.data.toList) = t.data.toList)) : readOut t = ([], 3) := by
  rcases read_same (t := t.data.toList) with ⟨h1, h2, h3, _⟩ | ⟨_, h⟩
  · exact absurd ⟨h1, h2, h3⟩ hn
  · exact readOut_none h8 h
end Go.Proofs.YtokdhgocgicdnaaGreatDoor
