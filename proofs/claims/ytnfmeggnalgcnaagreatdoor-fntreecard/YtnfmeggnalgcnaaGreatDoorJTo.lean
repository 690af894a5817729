import Derived.Test.YtnfmeggnalgcnaaGreatDoorJTxt
import Derived.Laws.RangeAny
import Derived.Test.YtnfmeggnalgcnaaGreatDoorJTre
import Derived.WalkKit
import Derived.WalkSpells
import Derived.WalkLawsBesides
import Derived.Maps.OwnSet
import Derived.StringKeys
import Derived.Deep.OwnRows
/- A text cut at a byte, as lists; and what a grammar's text is read as. No program stands in this text. -/
namespace Go.Proofs.YtnfmeggnalgcnaaGreatDoor
open Go.RowKit
open Tx (bs textT lineT symsT)

def splitGo (m : UInt8) : List UInt8 → List UInt8 → List (List UInt8)
  | cur, [] => [cur]
  | cur, c :: l => if c = m then cur :: splitGo m [] l else splitGo m (cur ++ [c]) l
/-- what stands ahead of each m, and behind the last one -/
def splitB (m : UInt8) (l : List UInt8) : List (List UInt8) := splitGo m [] l
theorem splitGo_hit {m : UInt8} {cur l : List UInt8} : splitGo m cur (m :: l) = cur :: splitGo m [] l := by simp [splitGo]
theorem splitGo_miss {m c : UInt8} {cur l : List UInt8} (h : c ≠ m) : splitGo m cur (c :: l) = splitGo m (cur ++ [c]) l := by simp [splitGo, h]
theorem splitGo_run {m : UInt8} (a : List UInt8) (h : m ∉ a) (cur l : List UInt8) : splitGo m cur (a ++ l) = splitGo m (cur ++ a) l := by
  induction a generalizing cur with
  | nil => simp
  | cons c a ih =>
    have hc : c ≠ m := fun e => h (by rw [e]; simp)
    rw [List.cons_append, splitGo_miss hc, ih (fun hm => h (by simp [hm])), List.append_assoc]
    rfl
theorem splitB_app {m : UInt8} {a l : List UInt8} (h : m ∉ a) : splitB m (a ++ m :: l) = a :: splitB m l := by
  unfold splitB; rw [splitGo_run a h, splitGo_hit]; rfl
theorem splitB_one {m : UInt8} {a : List UInt8} (h : m ∉ a) : splitB m a = [a] := by
  have := splitGo_run a h [] []
  rw [List.append_nil] at this
  unfold splitB; rw [this]; rfl
theorem splitGo_ne (m : UInt8) (cur l : List UInt8) : splitGo m cur l ≠ [] := by
  induction l generalizing cur with
  | nil => simp [splitGo]
  | cons c l ih =>
    unfold splitGo
    split
    · simp
    · exact ih _
theorem splitB_ne (m : UInt8) (l : List UInt8) : splitB m l ≠ [] := splitGo_ne m [] l
theorem splitB_pos (m : UInt8) (l : List UInt8) : 0 < (splitB m l).length := List.length_pos_iff.2 (splitB_ne m l)
theorem splitGo_len (m : UInt8) (cur l : List UInt8) : (splitGo m cur l).length ≤ l.length + 1 := by
  induction l generalizing cur with
  | nil => simp [splitGo]
  | cons c l ih =>
    unfold splitGo
    split
    · have := ih []; simp only [List.length_cons]; omega
    · have := ih (cur ++ [c]); simp only [List.length_cons]; omega
theorem splitB_len (m : UInt8) (l : List UInt8) : (splitB m l).length ≤ l.length + 1 := splitGo_len m [] l

/-- pieces put together again -/
def joinB (m : UInt8) : List (List UInt8) → List UInt8
  | [] => []
  | [x] => x
  | x :: y :: r => x ++ m :: joinB m (y :: r)
theorem joinB_cons {m : UInt8} {x : List UInt8} {r : List (List UInt8)} (h : r ≠ []) : joinB m (x :: r) = x ++ m :: joinB m r := by
  cases r with
  | nil => exact absurd rfl h
  | cons y r => rfl
theorem joinB_splitGo (m : UInt8) (cur l : List UInt8) : joinB m (splitGo m cur l) = cur ++ l := by
  induction l generalizing cur with
  | nil => simp [splitGo, joinB]
  | cons c l ih =>
    unfold splitGo
    split
    · rename_i e
      subst e
      rw [joinB_cons (splitGo_ne _ _ _), ih]; rfl
    · rw [ih, List.append_assoc]; rfl
theorem joinB_splitB (m : UInt8) (l : List UInt8) : joinB m (splitB m l) = l := joinB_splitGo m [] l

/-- the rule of a line, as the program reads it -/
def readR (line : List UInt8) : Option RuleD :=
  let ws := splitB 32 line
  if ws.length < 3 ∨ ws[1]?.getD [] ≠ [45, 62] then none
  else some ⟨bs (ws[0]?.getD []), if 3 < ws.length ∨ ws[2]?.getD [] ≠ [126] then (ws.drop 2).map bs else []⟩
def readAll : List (List UInt8) → Option (List RuleD)
  | [] => some []
  | l :: r => match readR l with
    | none => none
    | some x => match readAll r with
      | none => none
      | some y => some (x :: y)
/-- the right grammar of a text -/
def parseT (t : List UInt8) : Option (List RuleD) :=
  let ls := splitB 10 t
  if ls.getLastD [] ≠ [] then none
  else match readAll ls.dropLast with
    | none => none
    | some rs => if gramB rs = true then some rs else none
/-- the rule of a line, as the model takes it -/
def takeR (line : List UInt8) : RuleD :=
  let ws := splitB 32 line
  ⟨bs (ws[0]?.getD []), (((ws.take 8).drop 2).filter fun x => decide (x ≠ [126]) || decide (3 < ws.length)).map bs⟩
def takeAll (t : List UInt8) : List RuleD := ((splitB 10 t).dropLast.take 21).map takeR

theorem data_bs (l : List UInt8) : (bs l).data.toList = l := rfl
theorem map_data (l : List (List UInt8)) : (l.map bs).map (fun s => s.data.toList) = l := by
  rw [List.map_map]
  conv => rhs; rw [← List.map_id l]
  rfl
theorem syms_join {l : List (List UInt8)} (h : l ≠ []) : symsT (l.map bs) = 32 :: joinB 32 l := by
  induction l with
  | nil => exact absurd rfl h
  | cons x r ih =>
    by_cases hr : r = []
    · subst hr; simp [symsT, joinB, data_bs]
    · rw [joinB_cons hr, ← ih hr]
      simp [symsT, data_bs]
/-- a line without its line feed -/
def lineU (r : RuleD) : List UInt8 := r.head.data.toList ++ [32, 45, 62] ++ (if r.body = [] then [32, 126] else symsT r.body)
theorem lineT_U (r : RuleD) : lineT r = lineU r ++ [10] := rfl

theorem three {ws : List (List UInt8)} (h : ¬ ws.length < 3) : ∃ a b c r, ws = a :: b :: c :: r := by
  match ws, h with
  | a :: b :: c :: r, _ => exact ⟨a, b, c, r, rfl⟩
  | [], h => simp at h
  | [_], h => simp at h
  | [_, _], h => simp at h
/-- what is read as a rule is its line -/
theorem readR_line {line : List UInt8} {r : RuleD} (h : readR line = some r) : lineU r = line := by
  unfold readR at h
  have hj := joinB_splitB 32 line
  generalize splitB 32 line = ws at h hj
  simp only at h
  split at h
  · cases h
  · rename_i hn
    have h3 : ¬ ws.length < 3 := fun e => hn (.inl e)
    have h1 : ws[1]?.getD [] = [45, 62] := by
      by_cases e : ws[1]?.getD [] = [45, 62]
      · exact e
      · exact absurd (.inr e) hn
    obtain ⟨a, b, c, rest, rfl⟩ := three h3
    simp only [List.getElem?_cons_succ, List.getElem?_cons_zero, Option.getD_some] at h1
    subst h1
    injection h with h
    subst h
    rw [joinB_cons (by simp), joinB_cons (by simp)] at hj
    unfold lineU
    rw [← hj]
    simp only [List.getElem?_cons_zero, Option.getD_some, data_bs, List.getElem?_cons_succ, List.drop_succ_cons, List.drop_zero]
    by_cases h4 : 3 < ([a, [45, 62], c] ++ rest).length ∨ c ≠ [126]
    · have h4' : 3 < (a :: [45, 62] :: c :: rest).length ∨ c ≠ [126] := h4
      rw [if_pos h4', if_neg (by simp), syms_join (by simp)]
      simp
    · have h4' : ¬ (3 < (a :: [45, 62] :: c :: rest).length ∨ c ≠ [126]) := h4
      rw [if_neg h4', if_pos rfl]
      have hr : rest = [] := List.eq_nil_of_length_eq_zero (by
        have : ¬ 3 < (a :: [45, 62] :: c :: rest).length := fun e => h4' (.inl e)
        simp only [List.length_cons] at this
        omega)
      have hc : c = [126] := by
        by_cases e : c = [126]
        · exact e
        · exact absurd (.inr e) h4'
      subst hr hc
      simp [joinB]
theorem readAll_text {ls : List (List UInt8)} {rs : List RuleD} (h : readAll ls = some rs) : textT rs = ls.flatMap (· ++ [10]) ∧ rs.length = ls.length := by
  induction ls generalizing rs with
  | nil => unfold readAll at h; injection h with h; subst h; exact ⟨rfl, rfl⟩
  | cons l r ih =>
    unfold readAll at h
    split at h
    · cases h
    · rename_i x hx
      split at h
      · cases h
      · rename_i y hy
        injection h with h
        subst h
        obtain ⟨h1, h2⟩ := ih hy
        refine ⟨?_, by simp [h2]⟩
        rw [List.flatMap_cons, ← h1, ← readR_line hx, ← lineT_U]
        rfl
theorem join_last {m : UInt8} {ls : List (List UInt8)} (h : ls ≠ []) (hl : ls.getLastD [] = []) : joinB m ls = ls.dropLast.flatMap (· ++ [m]) := by
  induction ls with
  | nil => exact absurd rfl h
  | cons x r ih =>
    by_cases hr : r = []
    · subst hr
      simp only [List.getLastD_cons, List.getLastD_nil] at hl
      subst hl
      rfl
    · rw [joinB_cons hr, List.dropLast_cons_of_ne_nil hr, List.flatMap_cons, ← ih hr (by
        cases r with
        | nil => exact absurd rfl hr
        | cons y r => simpa using hl)]
      simp
/-- what is read has that text -/
theorem parseT_text {t : List UInt8} {rs : List RuleD} (h : parseT t = some rs) : textT rs = t ∧ gramB rs = true := by
  unfold parseT at h
  have hj := joinB_splitB 10 t
  have hne := splitB_ne 10 t
  generalize splitB 10 t = ls at h hj hne
  simp only at h
  split at h
  · cases h
  · rename_i hl
    have hl' : ls.getLastD [] = [] := by
      by_cases e : ls.getLastD [] = []
      · exact e
      · exact absurd e hl
    split at h
    · cases h
    · rename_i rs' hr
      split at h
      · rename_i hg
        injection h with h
        subst h
        exact ⟨by rw [(readAll_text hr).1, ← join_last hne hl', hj], hg⟩
      · cases h
end Go.Proofs.YtnfmeggnalgcnaaGreatDoor

/- The text of a right grammar is read as it, by both programs; as lists. No program stands in this text. -/
namespace Go.Proofs.YtnfmeggnalgcnaaGreatDoor
open Go.RowKit
open Tx (bs textT lineT symsT)

theorem symB_bytes {lo hi : Nat} {s : ByteArray} (h : symB lo hi s = true) : ∀ c ∈ s.data.toList, lo ≤ c.toNat ∧ c.toNat ≤ hi := by
  intro c hc
  simp only [symB, Bool.and_eq_true, List.all_eq_true, decide_eq_true_eq] at h
  exact h.2 c hc
theorem symOK_bytes {s : ByteArray} (h : symOK s = true) : ∀ c ∈ s.data.toList, 65 ≤ c.toNat ∧ c.toNat ≤ 122 := by
  intro c hc
  unfold symOK at h
  rcases Bool.or_eq_true_iff.1 h with h | h
  · have := symB_bytes h c hc; omega
  · have := symB_bytes h c hc; omega
theorem headB_bytes {s : ByteArray} (h : headB s = true) : ∀ c ∈ s.data.toList, 65 ≤ c.toNat ∧ c.toNat ≤ 122 := symOK_bytes (by unfold symOK; rw [h]; rfl)
theorem not_in {m : UInt8} {l : List UInt8} (hm : m.toNat < 65) (h : ∀ c ∈ l, 65 ≤ c.toNat ∧ c.toNat ≤ 122) : m ∉ l := fun hc => by have := h m hc; omega
theorem bs_data' (s : ByteArray) : bs s.data.toList = s := rfl
theorem map_bs_data (l : List ByteArray) : (l.map fun s => s.data.toList).map bs = l := by
  rw [List.map_map]
  conv => rhs; rw [← List.map_id l]
  rfl
theorem splitB_join {m : UInt8} {l : List (List UInt8)} (h : l ≠ []) (hm : ∀ x ∈ l, m ∉ x) : splitB m (joinB m l) = l := by
  induction l with
  | nil => exact absurd rfl h
  | cons x r ih =>
    by_cases hr : r = []
    · subst hr; exact splitB_one (hm x (by simp))
    · rw [joinB_cons hr, splitB_app (hm x (by simp)), ih hr (fun y hy => hm y (by simp [hy]))]
/-- the words of a right rule's line -/
theorem words_of {r : RuleD} (h : ruleB r = true) : splitB 32 (lineU r) = r.head.data.toList :: [45, 62] :: (if r.body = [] then [[126]] else r.body.map fun s => s.data.toList) := by
  obtain ⟨h1, _, h3⟩ := (ruleB_iff r).1 h
  have hh : (32 : UInt8) ∉ r.head.data.toList := not_in (by decide) (headB_bytes h1)
  have ha : (32 : UInt8) ∉ ([45, 62] : List UInt8) := by decide
  unfold lineU
  by_cases h0 : r.body = []
  · rw [if_pos h0, if_pos h0]
    have e : r.head.data.toList ++ [32, 45, 62] ++ [32, 126] = r.head.data.toList ++ 32 :: ([45, 62] ++ 32 :: [126]) := by simp
    rw [e, splitB_app hh, splitB_app ha, splitB_one (by decide)]
  · rw [if_neg h0, if_neg h0]
    have e0 : symsT r.body = 32 :: joinB 32 (r.body.map fun s => s.data.toList) := by
      have := syms_join (l := r.body.map fun s => s.data.toList) (by simpa using h0)
      rw [map_bs_data] at this
      exact this
    rw [e0]
    have e : r.head.data.toList ++ [32, 45, 62] ++ 32 :: joinB 32 (r.body.map fun s => s.data.toList) = r.head.data.toList ++ 32 :: ([45, 62] ++ 32 :: joinB 32 (r.body.map fun s => s.data.toList)) := by simp
    rw [e, splitB_app hh, splitB_app ha, splitB_join (by simpa using h0) (fun x hx => by
      obtain ⟨s, hs, rfl⟩ := List.mem_map.1 hx
      obtain ⟨i, hi, rfl⟩ := List.getElem_of_mem hs
      exact not_in (by decide) (symOK_bytes (h3 i hi)))]
theorem lineU_no {r : RuleD} (h : ruleB r = true) : (10 : UInt8) ∉ lineU r := by
  obtain ⟨h1, _, h3⟩ := (ruleB_iff r).1 h
  unfold lineU
  intro hm
  rw [List.mem_append, List.mem_append] at hm
  rcases hm with (hm | hm) | hm
  · exact not_in (by decide) (headB_bytes h1) hm
  · revert hm; decide
  · split at hm
    · revert hm; decide
    · unfold symsT at hm
      obtain ⟨s, hs, hc⟩ := List.mem_flatMap.1 hm
      obtain ⟨i, hi, rfl⟩ := List.getElem_of_mem hs
      rw [List.mem_cons] at hc
      rcases hc with hc | hc
      · revert hc; decide
      · exact not_in (by decide) (symOK_bytes (h3 i hi)) hc
theorem lines_of {rs : List RuleD} (h : ∀ r ∈ rs, ruleB r = true) : splitB 10 (textT rs) = rs.map lineU ++ [[]] := by
  induction rs with
  | nil => rfl
  | cons r l ih =>
    have e : textT (r :: l) = lineU r ++ 10 :: textT l := by simp [textT, lineT_U]
    rw [e, splitB_app (lineU_no (h r (by simp))), ih (fun x hx => h x (by simp [hx]))]
    rfl
/-- a symbol is no '~' -/
theorem sym_not {s : ByteArray} (h : symOK s = true) : s.data.toList ≠ [126] := fun e => by
  have := symOK_bytes h 126 (by rw [e]; simp)
  revert this; decide
theorem readR_of {r : RuleD} (h : ruleB r = true) : readR (lineU r) = some r := by
  have h3 := ((ruleB_iff r).1 h).2.2
  unfold readR
  rw [words_of h]
  obtain ⟨hd, bd⟩ := r
  cases bd with
  | nil => simp [bs_data']
  | cons s l =>
    have hs := sym_not (h3 0 (by simp))
    simp only [List.getElem_cons_zero] at hs
    have hmap : (s :: l).map (fun s => bs s.data.toList) = s :: l := by
      have := map_bs_data (s :: l)
      rwa [List.map_map] at this
    simp only [List.map_cons, List.cons.injEq] at hmap
    simp [bs_data', hs]
    exact hmap.2
theorem takeR_of {r : RuleD} (h : ruleB r = true) : takeR (lineU r) = r := by
  obtain ⟨_, h2, h3⟩ := (ruleB_iff r).1 h
  unfold takeR
  rw [words_of h]
  obtain ⟨hd, bd⟩ := r
  cases bd with
  | nil => simp [bs_data']
  | cons s l =>
    have hs := sym_not (h3 0 (by simp))
    simp only [List.getElem_cons_zero] at hs
    simp only [List.length_cons] at h2
    have hne : ¬ (s :: l) = [] := by simp
    simp only [hne, if_false]
    have e1 : (hd.data.toList :: [45, 62] :: (s :: l).map fun s => s.data.toList).take 8 = hd.data.toList :: [45, 62] :: (s :: l).map fun s => s.data.toList := List.take_of_length_le (by simp; omega)
    rw [e1]
    simp only [List.getElem?_cons_zero, Option.getD_some, bs_data', List.drop_succ_cons, List.drop_zero]
    have e2 : ((s :: l).map fun s => s.data.toList).filter (fun x => decide (x ≠ [126]) || decide (3 < (hd.data.toList :: [45, 62] :: (s :: l).map fun s => s.data.toList).length)) = (s :: l).map fun s => s.data.toList := by
      rw [List.filter_eq_self]
      intro x hx
      obtain ⟨y, hy, rfl⟩ := List.mem_map.1 hx
      obtain ⟨i, hi, rfl⟩ := List.getElem_of_mem hy
      have := sym_not (h3 i hi)
      simp [this]
    rw [e2, map_bs_data]
theorem readAll_of {rs : List RuleD} (h : ∀ r ∈ rs, ruleB r = true) : readAll (rs.map lineU) = some rs := by
  induction rs with
  | nil => rfl
  | cons r l ih =>
    rw [List.map_cons]
    unfold readAll
    rw [readR_of (h r (by simp)), ih (fun x hx => h x (by simp [hx]))]
theorem rulesB {rs : List RuleD} (h : gramB rs = true) : ∀ r ∈ rs, ruleB r = true := fun r hr => by
  obtain ⟨i, hi, rfl⟩ := List.getElem_of_mem hr
  exact ((gramB_iff rs).1 h).2.2 i hi
theorem parseT_of {rs : List RuleD} (h : gramB rs = true) : parseT (textT rs) = some rs := by
  unfold parseT
  rw [lines_of (rulesB h)]
  simp only [List.dropLast_concat]
  rw [readAll_of (rulesB h)]
  simp [h]
theorem takeAll_of {rs : List RuleD} (h : gramB rs = true) : takeAll (textT rs) = rs := by
  unfold takeAll
  rw [lines_of (rulesB h), List.dropLast_concat, List.take_of_length_le (by have := ((gramB_iff rs).1 h).2.1; simp; omega), List.map_map]
  conv => rhs; rw [← List.map_id rs]
  exact List.map_congr_left fun r hr => takeR_of (rulesB h r hr)
/-- the two ways to read come to one -/
theorem read_same {t : List UInt8} : (t ≠ [] ∧ gramB (takeAll t) = true ∧ textT (takeAll t) = t ∧ parseT t = some (takeAll t)) ∨ (¬ (t ≠ [] ∧ gramB (takeAll t) = true ∧ textT (takeAll t) = t) ∧ parseT t = none) := by
  cases hp : parseT t with
  | some rs =>
    obtain ⟨h1, h2⟩ := parseT_text hp
    subst h1
    rw [takeAll_of h2]
    refine .inl ⟨?_, h2, rfl, rfl⟩
    obtain ⟨h3, _⟩ := (gramB_iff rs).1 h2
    intro e
    cases rs with
    | nil => simp at h3
    | cons r l => simp [textT, lineT] at e
  | none =>
    refine .inr ⟨fun ⟨_, h2, h3⟩ => ?_, rfl⟩
    have := parseT_of h2
    rw [h3, hp] at this
    cases this
end Go.Proofs.YtnfmeggnalgcnaaGreatDoor

/- Symbols numbered in a map, in the order in which they came: as data, and the walks of newSymbolList and number. -/
namespace Go.Proofs.YtnfmeggnalgcnaaGreatDoor
open Go.RowKit Go.Maps

theorem keyLaw : Keyed Tryz.prog 9 := string_keyed Tryz.underlying9
theorem zeroInt (w : World) : (zeroValue 3).run Tryz.prog w = .ok (.int .i64 0) w := by kernel_rfl
def symKey (s : ByteArray) : Lit := .string s.data.toList
def symNum (n : Nat) : DataW Unit := .lit (.int .i64 (n : Int))
/-- the map of the numbers of these symbols -/
def mapD (acc : List ByteArray) : DataW Unit := acc.zipIdx.foldl (fun m p => m.put (symKey p.1) (symNum p.2)) (.map [])
theorem symKey_inj {a b : ByteArray} (h : symKey a = symKey b) : a = b := by
  unfold symKey at h
  injection h with h
  exact ByteArray.ext (Array.ext' h)
theorem mapD_snoc (acc : List ByteArray) (s : ByteArray) : mapD (acc ++ [s]) = (mapD acc).put (symKey s) (symNum acc.length) := by
  unfold mapD
  rw [List.zipIdx_append, List.foldl_append]
  simp
theorem isKey (s : ByteArray) : WideAt.IsKeyLit (symKey s) := trivial
theorem mapD_tidy (acc : List ByteArray) : Tidy (mapD acc) := by
  have : ∀ (l : List (ByteArray × Nat)) (m : DataW Unit), Tidy m → Tidy (l.foldl (fun m p => m.put (symKey p.1) (symNum p.2)) m) := by
    intro l
    induction l with
    | nil => exact fun m h => h
    | cons p l ih => exact fun m h => ih _ (h.put (isKey _) _)
  exact this _ _ tidy_empty
theorem sameKey_ne' {a b : ByteArray} (h : a ≠ b) : symKey a ≠ symKey b := fun e => h (symKey_inj e)
/-- is it among them? -/
def inB (acc : List ByteArray) (s : ByteArray) : Bool := acc.any fun t => decide (t = s)
theorem inB_iff (acc : List ByteArray) (s : ByteArray) : inB acc s = true ↔ s ∈ acc := by simp [inB]
theorem mapD_has (acc : List ByteArray) (s : ByteArray) : has (mapD acc) (symKey s) = inB acc s := by
  have key : ∀ r : List ByteArray, has (mapD r.reverse) (symKey s) = inB r.reverse s := by
    intro r
    induction r with
    | nil => rfl
    | cons a r ih =>
      rw [List.reverse_cons, mapD_snoc]
      by_cases e : s = a
      · subst e
        rw [has_put_same (mapD_tidy _).isMap (isKey _)]
        simp [inB]
      · rw [has_put_other (sameKey_ne' e), ih]
        simp [inB, Ne.symm e]
  have := key acc.reverse
  rwa [List.reverse_reverse] at this
theorem mapD_at (acc : List ByteArray) (hn : acc.Nodup) (i : Nat) (h : i < acc.length) (z : DataW Unit) : (mapD acc).atKey (symKey acc[i]) z = symNum i := by
  have key : ∀ r : List ByteArray, r.reverse.Nodup → ∀ i (h : i < r.reverse.length), (mapD r.reverse).atKey (symKey r.reverse[i]) z = symNum i := by
    intro r
    induction r with
    | nil => intro _ i h; simp at h
    | cons a r ih =>
      intro hn i h
      simp only [List.reverse_cons] at hn h ⊢
      rw [mapD_snoc]
      rcases Nat.lt_or_ge i r.reverse.length with hl | hl
      · have e : (r.reverse ++ [a])[i] = r.reverse[i] := List.getElem_append_left hl
        rw [e]
        have hne : r.reverse[i] ≠ a := by
          intro e2
          have hd := (List.nodup_append.1 hn).2.2
          exact hd _ (List.getElem_mem hl) a (by simp) e2
        rw [atKey_put_other (sameKey_ne' hne), ih (List.nodup_append.1 hn).1 i hl]
      · have hi : i = r.reverse.length := by simp only [List.length_append, List.length_cons, List.length_nil] at h; omega
        subst hi
        have e : (r.reverse ++ [a])[r.reverse.length]'h = a := by simp
        rw [e, atKey_put_same (mapD_tidy _).isMap (isKey _)]
  have := key acc.reverse
  simp only [List.reverse_reverse] at this
  exact this hn i h
theorem mapD_size (acc : List ByteArray) (hn : acc.Nodup) : size (mapD acc) = acc.length := by
  have key : ∀ r : List ByteArray, r.reverse.Nodup → size (mapD r.reverse) = r.reverse.length := by
    intro r
    induction r with
    | nil => intro _; rfl
    | cons a r ih =>
      intro hn
      simp only [List.reverse_cons] at hn ⊢
      have hd := (List.nodup_append.1 hn).2.2
      rw [mapD_snoc, size_put (mapD_tidy _), mapD_has, if_neg (by rw [inB_iff]; exact fun hm => hd a hm a (by simp) rfl), ih (List.nodup_append.1 hn).1]
      simp
  have := key acc.reverse
  simp only [List.reverse_reverse] at this
  exact this hn

/-- block b is the map of these symbols -/
def Nums (w : World) (b : Nat) (acc : List ByteArray) : Prop := w.ownsMap Tryz.prog 9 (plainElem Tryz.prog 3) b acc.length (mapD acc)
theorem Nums.lt {w : World} {b : Nat} {acc : List ByteArray} (h : Nums w b acc) : b < w.heap.size := World.ownsMap.lt h
theorem Nums.keep {w w' : World} {b : Nat} {acc : List ByteArray} (h : Nums w b acc) (e : w'.heap[b]? = w.heap[b]?) : Nums w' b acc := by
  obtain ⟨es, clock, h1, h2⟩ := h
  exact ⟨es, clock, e.trans h1, h2⟩
theorem Nums.below {w w' : World} {b B : Nat} {acc : List ByteArray} (h : Nums w b acc) (k : Below B w w') (hb : b < B) : Nums w' b acc := h.keep (k.block b hb)
theorem Nums.made (w : World) : Nums (w.alloc (.map #[] 0)) w.heap.size [] := World.ownsMap_made w _ _ _
/-- one more, if it is not there yet -/
def addSym (acc : List ByteArray) (s : ByteArray) : List ByteArray := if inB acc s = true then acc else acc ++ [s]
theorem addSym_in {acc : List ByteArray} {s : ByteArray} (h : inB acc s = true) : addSym acc s = acc := if_pos h
theorem addSym_out {acc : List ByteArray} {s : ByteArray} (h : inB acc s = false) : addSym acc s = acc ++ [s] := if_neg (by rw [h]; decide)
theorem addSym_nodup {acc : List ByteArray} {s : ByteArray} (h : acc.Nodup) : (addSym acc s).Nodup := by
  unfold addSym
  split
  · exact h
  · rename_i hn
    rw [List.nodup_append]
    exact ⟨h, by simp, fun a ha b hb e => by rw [List.mem_singleton] at hb; subst hb e; exact hn ((inB_iff _ _).2 ha)⟩
theorem addSym_len (acc : List ByteArray) (s : ByteArray) : (addSym acc s).length ≤ acc.length + 1 := by unfold addSym; split <;> simp

set_option maxHeartbeats 1000000 in
theorem newSymbolList_any (w : World) :
    Calls Tryz.prog 98 #[] w fun e w' => ∃ b, e = .returned (.agg #[.map (some b)]) ∧ Nums w' b [] ∧ w.heap.size ≤ b ∧ b < w'.heap.size ∧ Below w.heap.size w w' := by
  have hmm := @run_makeMap Tryz.prog
  go_enter Tryz.func98, Tryz.ntmps98
  go_wp2
  refine bodyPost_ret (v := .agg #[.map (some (w.heap.size + 1))]) (by simp [results, Tryz.results98, go_sem]) rfl ⟨w.heap.size + 1, rfl, ?_, by omega, by simp, al2 _ _ _⟩
  simpa using Nums.made (w.alloc (.cells #[.map (some (w.heap.size + 1))] 175))

set_option maxRecDepth 100000 in
set_option maxHeartbeats 1000000 in
theorem number_any (b : Nat) (acc : List ByteArray) (s : ByteArray) (w : World) (h : Nums w b acc) (hn : acc.Nodup) (hs : s.size ≤ maxLen) (hl : acc.length ≤ 1000000) :
    Calls Tryz.prog 99 #[.agg #[.map (some b)], .string s] w fun e w' => e = .returned (.tuple #[]) ∧ Nums w' b (addSym acc s) ∧ w.grownBy w' (some b) := by
  have hkey : keyOf Tryz.prog 9 (.string s) = some (symKey s) := WideMaps.keyOf_string_mk Tryz.underlying9 hs
  have HK := Lib.hid hkey
  have HS := Lib.hid (mapD_size acc hn)
  have hbl := h.lt
  clear hkey
  cases hin : inB acc s
  · have HH := Lib.hid ((mapD_has acc s).trans hin)
    have HA := Lib.hid (addSym_out hin)
    have HM := Lib.hid (mapD_snoc acc s)
    clear hin
    go_enter Tryz.func99, Tryz.ntmps99
    go_wp2_with (first | (at_len; refine wpList_len_own _ rfl _ 171 rfl 9 3 Tryz.underlying171 _ b _ _ rfl (World.ownsMap.alloc h _) ?_; rw [HS.out]) | (at_lookup; refine wpList_lookup_own_ok_int _ rfl _ _ 171 rfl 9 3 .i64 keyLaw Tryz.underlying171 Tryz.underlying3 (zeroInt _) b _ _ rfl (World.ownsMap.alloc h _) _ _ rfl HK.out ?_; intro c _ _; rw [HH.out]) | (at_mapUpdate; refine wpList_mapUpdate_own _ rfl _ _ _ 171 rfl 9 3 keyLaw Tryz.underlying171 _ b _ _ rfl (World.ownsMap.alloc h _) (by unfold maxLen; omega) _ _ _ rfl rfl HK.out (symNum acc.length) [] (plainElem_int Tryz.underlying3 (WalkArith.wf_i64 (by omega))) ?_; intro w1 hown1 hg1))
    have ho : Nums w1 b (addSym acc s) := by
      unfold Nums
      rw [HA.out, HM.out, List.length_append]
      exact hown1
    have hg : w.grownBy w1 (some b) := ⟨hg1.os, hg1.tape, hg1.output, Nat.le_trans (by simp) hg1.size, fun k hk hne => (hg1.block k (by simp; omega) hne).trans (Below.heap_alloc _ _ _ hk)⟩
    clear hown1 hg1
    go_wp2
    go_end0
    exact ⟨rfl, ho, hg⟩
  · have HH := Lib.hid ((mapD_has acc s).trans hin)
    have HA := Lib.hid (addSym_in hin)
    clear hin
    go_enter Tryz.func99, Tryz.ntmps99
    go_wp2_with (first | (at_len; refine wpList_len_own _ rfl _ 171 rfl 9 3 Tryz.underlying171 _ b _ _ rfl (World.ownsMap.alloc h _) ?_; rw [HS.out]) | (at_lookup; refine wpList_lookup_own_ok_int _ rfl _ _ 171 rfl 9 3 .i64 keyLaw Tryz.underlying171 Tryz.underlying3 (zeroInt _) b _ _ rfl (World.ownsMap.alloc h _) _ _ rfl HK.out ?_; intro c _ _; rw [HH.out]))
    go_end0
    exact ⟨rfl, by rw [HA.out]; exact World.ownsMap.alloc h _, World.grownBy_alloc w _ _⟩
end Go.Proofs.YtnfmeggnalgcnaaGreatDoor

/- What came in, laid anew: toStringS, toRule, toRuleS, toGram. -/
namespace Go.Proofs.YtnfmeggnalgcnaaGreatDoor
open Go.RowKit

theorem Tryz.infoStr : (Tryz.prog.info? 9).map (fun i => (i.zero, i.size, i.bytes)) = some (some (.string ByteArray.empty), 1, 16) := by kernel_rfl

end Go.Proofs.YtnfmeggnalgcnaaGreatDoor
