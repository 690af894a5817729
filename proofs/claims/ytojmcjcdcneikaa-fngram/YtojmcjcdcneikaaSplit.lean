/- A text cut at a byte, as lists; and what a grammar's text is read as. No program stands in this text. -/
import Derived.Test.YtojmcjcdcneikaaTxt
import Derived.Laws.RangeAny
namespace Go.Proofs.Ytojmcjcdcneikaa
open Go.RowKit
open Tx (bs textT lineT symsT)

def splitGo (m : UInt8) : List UInt8 → List UInt8 → List (List UInt8)
  | cur, [] => [cur]
  | cur, c :: l => if c = m then cur :: splitGo m [] l else splitGo m (cur ++ [c]) l
/-- what stands ahead of each m, and behind the last one -/
def splitB (m : UInt8) (l : List UInt8) : List (List UInt8) := splitGo m [] l
theorem splitGo_hit {m : UInt8} {cur l : List UInt8} : splitGo m cur (m :: l) = cur :: splitGo m [] l := by simp [splitGo]
theorem splitGo_miss {m c : UInt8} {cur l : List UInt8} (h : c ≠ m) : splitGo m cur (c :: l) = splitGo m (cur ++ [c]) l := by simp [splitGo, h]
theorem splitGo_run {m : UInt8} (a : List UInt8) (h : m ∉ a) (cur l : List UInt8) : splitGo m cur (a ++ l) = splitGo m (cur ++ a) l := by
  induction a generalizing cur with
  | nil => simp
  | cons c a ih =>
    have hc : c ≠ m := fun e => h (by rw [e]; simp)
    rw [List.cons_append, splitGo_miss hc, ih (fun hm => h (by simp [hm])), List.append_assoc]
    rfl
theorem splitB_app {m : UInt8} {a l : List UInt8} (h : m ∉ a) : splitB m (a ++ m :: l) = a :: splitB m l := by
  unfold splitB; rw [splitGo_run a h, splitGo_hit]; rfl
theorem splitB_one {m : UInt8} {a : List UInt8} (h : m ∉ a) : splitB m a = [a] := by
  have := splitGo_run a h [] []
  rw [List.append_nil] at this
  unfold splitB; rw [this]; rfl
theorem splitGo_ne (m : UInt8) (cur l : List UInt8) : splitGo m cur l ≠ [] := by
  induction l generalizing cur with
  | nil => simp [splitGo]
  | cons c l ih =>
    unfold splitGo
    split
    · simp
    · exact ih _
theorem splitB_ne (m : UInt8) (l : List UInt8) : splitB m l ≠ [] := splitGo_ne m [] l
theorem splitB_pos (m : UInt8) (l : List UInt8) : 0 < (splitB m l).length := List.length_pos_iff.2 (splitB_ne m l)
theorem splitGo_len (m : UInt8) (cur l : List UInt8) : (splitGo m cur l).length ≤ l.length + 1 := by
  induction l generalizing cur with
  | nil => simp [splitGo]
  | cons c l ih =>
    unfold splitGo
    split
    · have := ih []; simp only [List.length_cons]; omega
    · have := ih (cur ++ [c]); simp only [List.length_cons]; omega
theorem splitB_len (m : UInt8) (l : List UInt8) : (splitB m l).length ≤ l.length + 1 := splitGo_len m [] l

/-- pieces put together again -/
def joinB (m : UInt8) : List (List UInt8) → List UInt8
  | [] => []
  | [x] => x
  | x :: y :: r => x ++ m :: joinB m (y :: r)
theorem joinB_cons {m : UInt8} {x : List UInt8} {r : List (List UInt8)} (h : r ≠ []) : joinB m (x :: r) = x ++ m :: joinB m r := by
  cases r with
  | nil => exact absurd rfl h
  | cons y r => rfl
theorem joinB_splitGo (m : UInt8) (cur l : List UInt8) : joinB m (splitGo m cur l) = cur ++ l := by
  induction l generalizing cur with
  | nil => simp [splitGo, joinB]
  | cons c l ih =>
    unfold splitGo
    split
    · rename_i e
      subst e
      rw [joinB_cons (splitGo_ne _ _ _), ih]; rfl
    · rw [ih, List.append_assoc]; rfl
theorem joinB_splitB (m : UInt8) (l : List UInt8) : joinB m (splitB m l) = l := joinB_splitGo m [] l

/-- the rule of a line, as the program reads it -/
def readR (line : List UInt8) : Option RuleD :=
  let ws := splitB 32 line
  if ws.length < 3 ∨ ws[1]?.getD [] ≠ [45, 62] then none
  else some ⟨bs (ws[0]?.getD []), if 3 < ws.length ∨ ws[2]?.getD [] ≠ [126] then (ws.drop 2).map bs else []⟩
def readAll : List (List UInt8) → Option (List RuleD)
  | [] => some []
  | l :: r => match readR l with
    | none => none
    | some x => match readAll r with
      | none => none
      | some y => some (x :: y)
/-- the right grammar of a text -/
def parseT (t : List UInt8) : Option (List RuleD) :=
  let ls := splitB 10 t
  if ls.getLastD [] ≠ [] then none
  else match readAll ls.dropLast with
    | none => none
    | some rs => if gramB rs = true then some rs else none
/-- the rule of a line, as the model takes it -/
def takeR (line : List UInt8) : RuleD :=
  let ws := splitB 32 line
  ⟨bs (ws[0]?.getD []), (((ws.take 8).drop 2).filter fun x => decide (x ≠ [126]) || decide (3 < ws.length)).map bs⟩
def takeAll (t : List UInt8) : List RuleD := ((splitB 10 t).dropLast.take 21).map takeR

theorem data_bs (l : List UInt8) : (bs l).data.toList = l := rfl
theorem map_data (l : List (List UInt8)) : (l.map bs).map (fun s => s.data.toList) = l := by
  rw [List.map_map]
  conv => rhs; rw [← List.map_id l]
  rfl
theorem syms_join {l : List (List UInt8)} (h : l ≠ []) : symsT (l.map bs) = 32 :: joinB 32 l := by
  induction l with
  | nil => exact absurd rfl h
  | cons x r ih =>
    by_cases hr : r = []
    · subst hr; simp [symsT, joinB, data_bs]
    · rw [joinB_cons hr, ← ih hr]
      simp [symsT, data_bs]
/-- a line without its line feed -/
def lineU (r : RuleD) : List UInt8 := r.head.data.toList ++ [32, 45, 62] ++ (if r.body = [] then [32, 126] else symsT r.body)
theorem lineT_U (r : RuleD) : lineT r = lineU r ++ [10] := rfl

theorem three {ws : List (List UInt8)} (h : ¬ ws.length < 3) : ∃ a b c r, ws = a :: b :: c :: r := by
  match ws, h with
  | a :: b :: c :: r, _ => exact ⟨a, b, c, r, rfl⟩
  | [], h => simp at h
  | [_], h => simp at h
  | [_, _], h => simp at h
/-- what is read as a rule is its line -/
theorem readR_line {line : List UInt8} {r : RuleD} (h : readR line = some r) : lineU r = line := by
  unfold readR at h
  have hj := joinB_splitB 32 line
  generalize splitB 32 line = ws at h hj
  simp only at h
  split at h
  · cases h
  · rename_i hn
    have h3 : ¬ ws.length < 3 := fun e => hn (.inl e)
    have h1 : ws[1]?.getD [] = [45, 62] := by
      by_cases e : ws[1]?.getD [] = [45, 62]
      · exact e
      · exact absurd (.inr e) hn
    obtain ⟨a, b, c, rest, rfl⟩ := three h3
    simp only [List.getElem?_cons_succ, List.getElem?_cons_zero, Option.getD_some] at h1
    subst h1
    injection h with h
    subst h
    rw [joinB_cons (by simp), joinB_cons (by simp)] at hj
    unfold lineU
    rw [← hj]
    simp only [List.getElem?_cons_zero, Option.getD_some, data_bs, List.getElem?_cons_succ, List.drop_succ_cons, List.drop_zero]
    by_cases h4 : 3 < ([a, [45, 62], c] ++ rest).length ∨ c ≠ [126]
    · have h4' : 3 < (a :: [45, 62] :: c :: rest).length ∨ c ≠ [126] := h4
      rw [if_pos h4', if_neg (by simp), syms_join (by simp)]
      simp
    · have h4' : ¬ (3 < (a :: [45, 62] :: c :: rest).length ∨ c ≠ [126]) := h4
      rw [if_neg h4', if_pos rfl]
      have hr : rest = [] := List.eq_nil_of_length_eq_zero (by
        have : ¬ 3 < (a :: [45, 62] :: c :: rest).length := fun e => h4' (.inl e)
        simp only [List.length_cons] at this
        omega)
      have hc : c = [126] := by
        by_cases e : c = [126]
        · exact e
        · exact absurd (.inr e) h4'
      subst hr hc
      simp [joinB]
theorem readAll_text {ls : List (List UInt8)} {rs : List RuleD} (h : readAll ls = some rs) : textT rs = ls.flatMap (· ++ [10]) ∧ rs.length = ls.length := by
  induction ls generalizing rs with
  | nil => unfold readAll at h; injection h with h; subst h; exact ⟨rfl, rfl⟩
  | cons l r ih =>
    unfold readAll at h
    split at h
    · cases h
    · rename_i x hx
      split at h
      · cases h
      · rename_i y hy
        injection h with h
        subst h
        obtain ⟨h1, h2⟩ := ih hy
        refine ⟨?_, by simp [h2]⟩
        rw [List.flatMap_cons, ← h1, ← readR_line hx, ← lineT_U]
        rfl
theorem join_last {m : UInt8} {ls : List (List UInt8)} (h : ls ≠ []) (hl : ls.getLastD [] = []) : joinB m ls = ls.dropLast.flatMap (· ++ [m]) := by
  induction ls with
  | nil => exact absurd rfl h
  | cons x r ih =>
    by_cases hr : r = []
    · subst hr
      simp only [List.getLastD_cons, List.getLastD_nil] at hl
      subst hl
      rfl
    · rw [joinB_cons hr, List.dropLast_cons_of_ne_nil hr, List.flatMap_cons, ← ih hr (by
        cases r with
        | nil => exact absurd rfl hr
        | cons y r => simpa using hl)]
      simp
/-- what is read has that text -/
theorem parseT_text {t : List UInt8} {rs : List RuleD} (h : parseT t = some rs) : textT rs = t ∧ gramB rs = true := by
  unfold parseT at h
  have hj := joinB_splitB 10 t
  have hne := splitB_ne 10 t
  generalize splitB 10 t = ls at h hj hne
  simp only at h
  split at h
  · cases h
  · rename_i hl
    have hl' : ls.getLastD [] = [] := by
      by_cases e : ls.getLastD [] = []
      · exact e
      · exact absurd e hl
    split at h
    · cases h
    · rename_i rs' hr
      split at h
      · rename_i hg
        injection h with h
        subst h
        exact ⟨by rw [(readAll_text hr).1, ← join_last hne hl', hj], hg⟩
      · cases h
end Go.Proofs.Ytojmcjcdcneikaa
