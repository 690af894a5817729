/- The text of a right grammar is read as it, by both programs; as lists. No program stands in this text. -/
import Derived.Test.YtojmcjcdcneikaaSplit
namespace Go.Proofs.Ytojmcjcdcneikaa
open Go.RowKit
open Tx (bs textT lineT symsT)

theorem symB_bytes {lo hi : Nat} {s : ByteArray} (h : symB lo hi s = true) : ∀ c ∈ s.data.toList, lo ≤ c.toNat ∧ c.toNat ≤ hi := by
  intro c hc
  simp only [symB, Bool.and_eq_true, List.all_eq_true, decide_eq_true_eq] at h
  exact h.2 c hc
theorem symOK_bytes {s : ByteArray} (h : symOK s = true) : ∀ c ∈ s.data.toList, 65 ≤ c.toNat ∧ c.toNat ≤ 122 := by
  intro c hc
  unfold symOK at h
  rcases Bool.or_eq_true_iff.1 h with h | h
  · have := symB_bytes h c hc; omega
  · have := symB_bytes h c hc; omega
theorem headB_bytes {s : ByteArray} (h : headB s = true) : ∀ c ∈ s.data.toList, 65 ≤ c.toNat ∧ c.toNat ≤ 122 := symOK_bytes (by unfold symOK; rw [h]; rfl)
theorem not_in {m : UInt8} {l : List UInt8} (hm : m.toNat < 65) (h : ∀ c ∈ l, 65 ≤ c.toNat ∧ c.toNat ≤ 122) : m ∉ l := fun hc => by have := h m hc; omega
theorem bs_data' (s : ByteArray) : bs s.data.toList = s := rfl
theorem map_bs_data (l : List ByteArray) : (l.map fun s => s.data.toList).map bs = l := by
  rw [List.map_map]
  conv => rhs; rw [← List.map_id l]
  rfl
theorem splitB_join {m : UInt8} {l : List (List UInt8)} (h : l ≠ []) (hm : ∀ x ∈ l, m ∉ x) : splitB m (joinB m l) = l := by
  induction l with
  | nil => exact absurd rfl h
  | cons x r ih =>
    by_cases hr : r = []
    · subst hr; exact splitB_one (hm x (by simp))
    · rw [joinB_cons hr, splitB_app (hm x (by simp)), ih hr (fun y hy => hm y (by simp [hy]))]
/-- the words of a right rule's line -/
theorem words_of {r : RuleD} (h : ruleB r = true) : splitB 32 (lineU r) = r.head.data.toList :: [45, 62] :: (if r.body = [] then [[126]] else r.body.map fun s => s.data.toList) := by
  obtain ⟨h1, _, h3⟩ := (ruleB_iff r).1 h
  have hh : (32 : UInt8) ∉ r.head.data.toList := not_in (by decide) (headB_bytes h1)
  have ha : (32 : UInt8) ∉ ([45, 62] : List UInt8) := by decide
  unfold lineU
  by_cases h0 : r.body = []
  · rw [if_pos h0, if_pos h0]
    have e : r.head.data.toList ++ [32, 45, 62] ++ [32, 126] = r.head.data.toList ++ 32 :: ([45, 62] ++ 32 :: [126]) := by simp
    rw [e, splitB_app hh, splitB_app ha, splitB_one (by decide)]
  · rw [if_neg h0, if_neg h0]
    have e0 : symsT r.body = 32 :: joinB 32 (r.body.map fun s => s.data.toList) := by
      have := syms_join (l := r.body.map fun s => s.data.toList) (by simpa using h0)
      rw [map_bs_data] at this
      exact this
    rw [e0]
    have e : r.head.data.toList ++ [32, 45, 62] ++ 32 :: joinB 32 (r.body.map fun s => s.data.toList) = r.head.data.toList ++ 32 :: ([45, 62] ++ 32 :: joinB 32 (r.body.map fun s => s.data.toList)) := by simp
    rw [e, splitB_app hh, splitB_app ha, splitB_join (by simpa using h0) (fun x hx => by
      obtain ⟨s, hs, rfl⟩ := List.mem_map.1 hx
      obtain ⟨i, hi, rfl⟩ := List.getElem_of_mem hs
      exact not_in (by decide) (symOK_bytes (h3 i hi)))]
theorem lineU_no {r : RuleD} (h : ruleB r = true) : (10 : UInt8) ∉ lineU r := by
  obtain ⟨h1, _, h3⟩ := (ruleB_iff r).1 h
  unfold lineU
  intro hm
  rw [List.mem_append, List.mem_append] at hm
  rcases hm with (hm | hm) | hm
  · exact not_in (by decide) (headB_bytes h1) hm
  · revert hm; decide
  · split at hm
    · revert hm; decide
    · unfold symsT at hm
      obtain ⟨s, hs, hc⟩ := List.mem_flatMap.1 hm
      obtain ⟨i, hi, rfl⟩ := List.getElem_of_mem hs
      rw [List.mem_cons] at hc
      rcases hc with hc | hc
      · revert hc; decide
      · exact not_in (by decide) (symOK_bytes (h3 i hi)) hc
theorem lines_of {rs : List RuleD} (h : ∀ r ∈ rs, ruleB r = true) : splitB 10 (textT rs) = rs.map lineU ++ [[]] := by
  induction rs with
  | nil => rfl
  | cons r l ih =>
    have e : textT (r :: l) = lineU r ++ 10 :: textT l := by simp [textT, lineT_U]
    rw [e, splitB_app (lineU_no (h r (by simp))), ih (fun x hx => h x (by simp [hx]))]
    rfl
/-- a symbol is no '~' -/
theorem sym_not {s : ByteArray} (h : symOK s = true) : s.data.toList ≠ [126] := fun e => by
  have := symOK_bytes h 126 (by rw [e]; simp)
  revert this; decide
theorem readR_of {r : RuleD} (h : ruleB r = true) : readR (lineU r) = some r := by
  have h3 := ((ruleB_iff r).1 h).2.2
  unfold readR
  rw [words_of h]
  obtain ⟨hd, bd⟩ := r
  cases bd with
  | nil => simp [bs_data']
  | cons s l =>
    have hs := sym_not (h3 0 (by simp))
    simp only [List.getElem_cons_zero] at hs
    have hmap : (s :: l).map (fun s => bs s.data.toList) = s :: l := by
      have := map_bs_data (s :: l)
      rwa [List.map_map] at this
    simp only [List.map_cons, List.cons.injEq] at hmap
    simp [bs_data', hs]
    exact hmap.2
theorem takeR_of {r : RuleD} (h : ruleB r = true) : takeR (lineU r) = r := by
  obtain ⟨_, h2, h3⟩ := (ruleB_iff r).1 h
  unfold takeR
  rw [words_of h]
  obtain ⟨hd, bd⟩ := r
  cases bd with
  | nil => simp [bs_data']
  | cons s l =>
    have hs := sym_not (h3 0 (by simp))
    simp only [List.getElem_cons_zero] at hs
    simp only [List.length_cons] at h2
    have hne : ¬ (s :: l) = [] := by simp
    simp only [hne, if_false]
    have e1 : (hd.data.toList :: [45, 62] :: (s :: l).map fun s => s.data.toList).take 8 = hd.data.toList :: [45, 62] :: (s :: l).map fun s => s.data.toList := List.take_of_length_le (by simp; omega)
    rw [e1]
    simp only [List.getElem?_cons_zero, Option.getD_some, bs_data', List.drop_succ_cons, List.drop_zero]
    have e2 : ((s :: l).map fun s => s.data.toList).filter (fun x => decide (x ≠ [126]) || decide (3 < (hd.data.toList :: [45, 62] :: (s :: l).map fun s => s.data.toList).length)) = (s :: l).map fun s => s.data.toList := by
      rw [List.filter_eq_self]
      intro x hx
      obtain ⟨y, hy, rfl⟩ := List.mem_map.1 hx
      obtain ⟨i, hi, rfl⟩ := List.getElem_of_mem hy
      have := sym_not (h3 i hi)
      simp [this]
    rw [e2, map_bs_data]
theorem readAll_of {rs : List RuleD} (h : ∀ r ∈ rs, ruleB r = true) : readAll (rs.map lineU) = some rs := by
  induction rs with
  | nil => rfl
  | cons r l ih =>
    rw [List.map_cons]
    unfold readAll
    rw [readR_of (h r (by simp)), ih (fun x hx => h x (by simp [hx]))]
theorem rulesB {rs : List RuleD} (h : gramB rs = true) : ∀ r ∈ rs, ruleB r = true := fun r hr => by
  obtain ⟨i, hi, rfl⟩ := List.getElem_of_mem hr
  exact ((gramB_iff rs).1 h).2.2 i hi
theorem parseT_of {rs : List RuleD} (h : gramB rs = true) : parseT (textT rs) = some rs := by
  unfold parseT
  rw [lines_of (rulesB h)]
  simp only [List.dropLast_concat]
  rw [readAll_of (rulesB h)]
  simp [h]
theorem takeAll_of {rs : List RuleD} (h : gramB rs = true) : takeAll (textT rs) = rs := by
  unfold takeAll
  rw [lines_of (rulesB h), List.dropLast_concat, List.take_of_length_le (by have := ((gramB_iff rs).1 h).2.1; simp; omega), List.map_map]
  conv => rhs; rw [← List.map_id rs]
  exact List.map_congr_left fun r hr => takeR_of (rulesB h r hr)
/-- the two ways to read come to one -/
theorem read_same {t : List UInt8} : (t ≠ [] ∧ gramB (takeAll t) = true ∧ textT (takeAll t) = t ∧ parseT t = some (takeAll t)) ∨ (¬ (t ≠ [] ∧ gramB (takeAll t) = true ∧ textT (takeAll t) = t) ∧ parseT t = none) := by
  cases hp : parseT t with
  | some rs =>
    obtain ⟨h1, h2⟩ := parseT_text hp
    subst h1
    rw [takeAll_of h2]
    refine .inl ⟨?_, h2, rfl, rfl⟩
    obtain ⟨h3, _⟩ := (gramB_iff rs).1 h2
    intro e
    cases rs with
    | nil => simp at h3
    | cons r l => simp [textT, lineT] at e
  | none =>
    refine .inr ⟨fun ⟨_, h2, h3⟩ => ?_, rfl⟩
    have := parseT_of h2
    rw [h3, hp] at this
    cases this
end Go.Proofs.Ytojmcjcdcneikaa
