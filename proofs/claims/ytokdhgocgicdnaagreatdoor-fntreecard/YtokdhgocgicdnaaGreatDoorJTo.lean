import Derived.Test.YtokdhgocgicdnaaGreatDoorJSplit
import Derived.Test.YtokdhgocgicdnaaGreatDoorJTre
import Derived.WalkKit
import Derived.WalkSpells
import Derived.WalkLawsBesides
import Derived.Maps.OwnSet
import Derived.StringKeys
import Derived.Deep.OwnRows
/- The text of a right grammar is read as it, by both programs; as lists. No program stands in this text. -/
namespace Go.Proofs.YtokdhgocgicdnaaGreatDoor
open Go.RowKit
open Tx (bs textT lineT symsT)

theorem symB_bytes {lo hi : Nat} {s : ByteArray} (h : symB lo hi s = true) : ∀ c ∈ s.data.toList, lo ≤ c.toNat ∧ c.toNat ≤ hi := by
  intro c hc
  simp only [symB, Bool.and_eq_true, List.all_eq_true, decide_eq_true_eq] at h
  exact h.2 c hc
theorem symOK_bytes {s : ByteArray} (h : symOK s = true) : ∀ c ∈ s.data.toList, 65 ≤ c.toNat ∧ c.toNat ≤ 122 := by
  intro c hc
  unfold symOK at h
  rcases Bool.or_eq_true_iff.1 h with h | h
  · have := symB_bytes h c hc; omega
  · have := symB_bytes h c hc; omega
theorem headB_bytes {s : ByteArray} (h : headB s = true) : ∀ c ∈ s.data.toList, 65 ≤ c.toNat ∧ c.toNat ≤ 122 := symOK_bytes (by unfold symOK; rw [h]; rfl)
theorem not_in {m : UInt8} {l : List UInt8} (hm : m.toNat < 65) (h : ∀ c ∈ l, 65 ≤ c.toNat ∧ c.toNat ≤ 122) : m ∉ l := fun hc => by have := h m hc; omega
theorem bs_data' (s : ByteArray) : bs s.data.toList = s := rfl
theorem map_bs_data (l : List ByteArray) : (l.map fun s => s.data.toList).map bs = l := by
  rw [List.map_map]
  conv => rhs; rw [← List.map_id l]
  rfl
theorem splitB_join {m : UInt8} {l : List (List UInt8)} (h : l ≠ []) (hm : ∀ x ∈ l, m ∉ x) : splitB m (joinB m l) = l := by
  induction l with
  | nil => exact absurd rfl h
  | cons x r ih =>
    by_cases hr : r = []
    · subst hr; exact splitB_one (hm x (by simp))
    · rw [joinB_cons hr, splitB_app (hm x (by simp)), ih hr (fun y hy => hm y (by simp [hy]))]
/-- the words of a right rule's line -/
theorem words_of {r : RuleD} (h : ruleB r = true) : splitB 32 (lineU r) = r.head.data.toList :: [45, 62] :: (if r.body = [] then [[126]] else r.body.map fun s => s.data.toList) := by
  obtain ⟨h1, _, h3⟩ := (ruleB_iff r).1 h
  have hh : (32 : UInt8) ∉ r.head.data.toList := not_in (by decide) (headB_bytes h1)
  have ha : (32 : UInt8) ∉ ([45, 62] : List UInt8) := by decide
  unfold lineU
  by_cases h0 : r.body = []
  · rw [if_pos h0, if_pos h0]
    have e : r.head.data.toList ++ [32, 45, 62] ++ [32, 126] = r.head.data.toList ++ 32 :: ([45, 62] ++ 32 :: [126]) := by simp
    rw [e, splitB_app hh, splitB_app ha, splitB_one (by decide)]
  · rw [if_neg h0, if_neg h0]
    have e0 : symsT r.body = 32 :: joinB 32 (r.body.map fun s => s.data.toList) := by
      have := syms_join (l := r.body.map fun s => s.data.toList) (by simpa using h0)
      rw [map_bs_data] at this
      exact this
    rw [e0]
    have e : r.head.data.toList ++ [32, 45, 62] ++ 32 :: joinB 32 (r.body.map fun s => s.data.toList) = r.head.data.toList ++ 32 :: ([45, 62] ++ 32 :: joinB 32 (r.body.map fun s => s.data.toList)) := by simp
    rw [e, splitB_app hh, splitB_app ha, splitB_join (by simpa using h0) (fun x hx => by
      obtain ⟨s, hs, rfl⟩ := List.mem_map.1 hx
      obtain ⟨i, hi, rfl⟩ := List.getElem_of_mem hs
      exact not_in (by decide) (symOK_bytes (h3 i hi)))]
theorem lineU_no {r : RuleD} (h : ruleB r = true) : (10 : UInt8) ∉ lineU r := by
  obtain ⟨h1, _, h3⟩ := (ruleB_iff r).1 h
  unfold lineU
  intro hm
  rw [List.mem_append, List.mem_append] at hm
  rcases hm with (hm | hm) | hm
  · exact not_in (by decide) (headB_bytes h1) hm
  · revert hm; decide
  · split at hm
    · revert hm; decide
    · unfold symsT at hm
      obtain ⟨s, hs, hc⟩ := List.mem_flatMap.1 hm
      obtain ⟨i, hi, rfl⟩ := List.getElem_of_mem hs
      rw [List.mem_cons] at hc
      rcases hc with hc | hc
      · revert hc; decide
      · exact not_in (by decide) (symOK_bytes (h3 i hi)) hc
theorem lines_of {rs : List RuleD} (h : ∀ r ∈ rs, ruleB r = true) : splitB 10 (textT rs) = rs.map lineU ++ [[]] := by
  induction rs with
  | nil => rfl
  | cons r l ih =>
    have e : textT (r :: l) = lineU r ++ 10 :: textT l := by simp [textT, lineT_U]
    rw [e, splitB_app (lineU_no (h r (by simp))), ih (fun x hx => h x (by simp [hx]))]
    rfl
/-- a symbol is no '~' -/
theorem sym_not {s : ByteArray} (h : symOK s = true) : s.data.toList ≠ [126] := fun e => by
  have := symOK_bytes h 126 (by rw [e]; simp)
  revert this; decide
theorem readR_of {r : RuleD} (h : ruleB r = true) : readR (lineU r) = some r := by
  have h3 := ((ruleB_iff r).1 h).2.2
  unfold readR
  rw [words_of h]
  obtain ⟨hd, bd⟩ := r
  cases bd with
  | nil => simp [bs_data']
  | cons s l =>
    have hs := sym_not (h3 0 (by simp))
    simp only [List.getElem_cons_zero] at hs
    have hmap : (s :: l).map (fun s => bs s.data.toList) = s :: l := by
      have := map_bs_data (s :: l)
      rwa [List.map_map] at this
    simp only [List.map_cons, List.cons.injEq] at hmap
    simp [bs_data', hs]
    exact hmap.2
theorem takeR_of {r : RuleD} (h : ruleB r = true) : takeR (lineU r) = r := by
  obtain ⟨_, h2, h3⟩ := (ruleB_iff r).1 h
  unfold takeR
  rw [words_of h]
  obtain ⟨hd, bd⟩ := r
  cases bd with
  | nil => simp [bs_data']
  | cons s l =>
    have hs := sym_not (h3 0 (by simp))
    simp only [List.getElem_cons_zero] at hs
    simp only [List.length_cons] at h2
    have hne : ¬ (s :: l) = [] := by simp
    simp only [hne, if_false]
    have e1 : (hd.data.toList :: [45, 62] :: (s :: l).map fun s => s.data.toList).take 8 = hd.data.toList :: [45, 62] :: (s :: l).map fun s => s.data.toList := List.take_of_length_le (by simp; omega)
    rw [e1]
    simp only [List.getElem?_cons_zero, Option.getD_some, bs_data', List.drop_succ_cons, List.drop_zero]
    have e2 : ((s :: l).map fun s => s.data.toList).filter (fun x => decide (x ≠ [126]) || decide (3 < (hd.data.toList :: [45, 62] :: (s :: l).map fun s => s.data.toList).length)) = (s :: l).map fun s => s.data.toList := by
      rw [List.filter_eq_self]
      intro x hx
      obtain ⟨y, hy, rfl⟩ := List.mem_map.1 hx
      obtain ⟨i, hi, rfl⟩ := List.getElem_of_mem hy
      have := sym_not (h3 i hi)
      simp [this]
    rw [e2, map_bs_data]
theorem readAll_of {rs : List RuleD} (h : ∀ r ∈ rs, ruleB r = true) : readAll (rs.map lineU) = some rs := by
  induction rs with
  | nil => rfl
  | cons r l ih =>
    rw [List.map_cons]
    unfold readAll
    rw [readR_of (h r (by simp)), ih (fun x hx => h x (by simp [hx]))]
theorem rulesB {rs : List RuleD} (h : gramB rs = true) : ∀ r ∈ rs, ruleB r = true := fun r hr => by
  obtain ⟨i, hi, rfl⟩ := List.getElem_of_mem hr
  exact ((gramB_iff rs).1 h).2.2 i hi
theorem parseT_of {rs : List RuleD} (h : gramB rs = true) : parseT (textT rs) = some rs := by
  unfold parseT
  rw [lines_of (rulesB h)]
  simp only [List.dropLast_concat]
  rw [readAll_of (rulesB h)]
  simp [h]
theorem takeAll_of {rs : List RuleD} (h : gramB rs = true) : takeAll (textT rs) = rs := by
  unfold takeAll
  rw [lines_of (rulesB h), List.dropLast_concat, List.take_of_length_le (by have := ((gramB_iff rs).1 h).2.1; simp; omega), List.map_map]
  conv => rhs; rw [← List.map_id rs]
  exact List.map_congr_left fun r hr => takeR_of (rulesB h r hr)
/-- the two ways to read come to one -/
theorem read_same {t : List UInt8} : (t ≠ [] ∧ gramB (takeAll t) = true ∧ textT (takeAll t) = t ∧ parseT t = some (takeAll t)) ∨ (¬ (t ≠ [] ∧ gramB (takeAll t) = true ∧ textT (takeAll t) = t) ∧ parseT t = none) := by
  cases hp : parseT t with
  | some rs =>
    obtain ⟨h1, h2⟩ := parseT_text hp
    subst h1
    rw [takeAll_of h2]
    refine .inl ⟨?_, h2, rfl, rfl⟩
    obtain ⟨h3, _⟩ := (gramB_iff rs).1 h2
    intro e
    cases rs with
    | nil => simp at h3
    | cons r l => simp [textT, lineT] at e
  | none =>
    refine .inr ⟨fun ⟨_, h2, h3⟩ => ?_, rfl⟩
    have := parseT_of h2
    rw [h3, hp] at this
    cases this
end Go.Proofs.YtokdhgocgicdnaaGreatDoor

/- Symbols numbered in a map, in the order in which they came: as data, and the walks of newSymbolList and number. -/
namespace Go.Proofs.YtokdhgocgicdnaaGreatDoor
open Go.RowKit Go.Maps

theorem keyLaw : Keyed Tryz.prog 9 := string_keyed Tryz.underlying9
theorem zeroInt (w : World) : (zeroValue 3).run Tryz.prog w = .ok (.int .i64 0) w := by kernel_rfl
def symKey (s : ByteArray) : Lit := .string s.data.toList
def symNum (n : Nat) : DataW Unit := .lit (.int .i64 (n : Int))
/-- the map of the numbers of these symbols -/
def mapD (acc : List ByteArray) : DataW Unit := acc.zipIdx.foldl (fun m p => m.put (symKey p.1) (symNum p.2)) (.map [])
theorem symKey_inj {a b : ByteArray} (h : symKey a = symKey b) : a = b := by
  unfold symKey at h
  injection h with h
  exact ByteArray.ext (Array.ext' h)
theorem mapD_snoc (acc : List ByteArray) (s : ByteArray) : mapD (acc ++ [s]) = (mapD acc).put (symKey s) (symNum acc.length) := by
  unfold mapD
  rw [List.zipIdx_append, List.foldl_append]
  simp
theorem isKey (s : ByteArray) : WideAt.IsKeyLit (symKey s) := trivial
theorem mapD_tidy (acc : List ByteArray) : Tidy (mapD acc) := by
  have : ∀ (l : List (ByteArray × Nat)) (m : DataW Unit), Tidy m → Tidy (l.foldl (fun m p => m.put (symKey p.1) (symNum p.2)) m) := by
    intro l
    induction l with
    | nil => exact fun m h => h
    | cons p l ih => exact fun m h => ih _ (h.put (isKey _) _)
  exact this _ _ tidy_empty
theorem sameKey_ne' {a b : ByteArray} (h : a ≠ b) : symKey a ≠ symKey b := fun e => h (symKey_inj e)
/-- is it among them? -/
def inB (acc : List ByteArray) (s : ByteArray) : Bool := acc.any fun t => decide (t = s)
theorem inB_iff (acc : List ByteArray) (s : ByteArray) : inB acc s = true ↔ s ∈ acc := by simp [inB]
theorem mapD_has (acc : List ByteArray) (s : ByteArray) : has (mapD acc) (symKey s) = inB acc s := by
  have key : ∀ r : List ByteArray, has (mapD r.reverse) (symKey s) = inB r.reverse s := by
    intro r
    induction r with
    | nil => rfl
    | cons a r ih =>
      rw [List.reverse_cons, mapD_snoc]
      by_cases e : s = a
      · subst e
        rw [has_put_same (mapD_tidy _).isMap (isKey _)]
        simp [inB]
      · rw [has_put_other (sameKey_ne' e), ih]
        simp [inB, Ne.symm e]
  have := key acc.reverse
  rwa [List.reverse_reverse] at this
theorem mapD_at (acc : List ByteArray) (hn : acc.Nodup) (i : Nat) (h : i < acc.length) (z : DataW Unit) : (mapD acc).atKey (symKey acc[i]) z = symNum i := by
  have key : ∀ r : List ByteArray, r.reverse.Nodup → ∀ i (h : i < r.reverse.length), (mapD r.reverse).atKey (symKey r.reverse[i]) z = symNum i := by
    intro r
    induction r with
    | nil => intro _ i h; simp at h
    | cons a r ih =>
      intro hn i h
      simp only [List.reverse_cons] at hn h ⊢
      rw [mapD_snoc]
      rcases Nat.lt_or_ge i r.reverse.length with hl | hl
      · have e : (r.reverse ++ [a])[i] = r.reverse[i] := List.getElem_append_left hl
        rw [e]
        have hne : r.reverse[i] ≠ a := by
          intro e2
          have hd := (List.nodup_append.1 hn).2.2
          exact hd _ (List.getElem_mem hl) a (by simp) e2
        rw [atKey_put_other (sameKey_ne' hne), ih (List.nodup_append.1 hn).1 i hl]
      · have hi : i = r.reverse.length := by simp only [List.length_append, List.length_cons, List.length_nil] at h; omega
        subst hi
        have e : (r.reverse ++ [a])[r.reverse.length]'h = a := by simp
        rw [e, atKey_put_same (mapD_tidy _).isMap (isKey _)]
  have := key acc.reverse
  simp only [List.reverse_reverse] at this
  exact this hn i h
theorem mapD_size (acc : List ByteArray) (hn : acc.Nodup) : size (mapD acc) = acc.length := by
  have key : ∀ r : List ByteArray, r.reverse.Nodup → size (mapD r.reverse) = r.reverse.length := by
    intro r
    induction r with
    | nil => intro _; rfl
    | cons a r ih =>
      intro hn
      simp only [List.reverse_cons] at hn ⊢
      have hd := (List.nodup_append.1 hn).2.2
      rw [mapD_snoc, size_put (mapD_tidy _), mapD_has, if_neg (by rw [inB_iff]; exact fun hm => hd a hm a (by simp) rfl), ih (List.nodup_append.1 hn).1]
      simp
  have := key acc.reverse
  simp only [List.reverse_reverse] at this
  exact this hn

/-- block b is the map of these symbols -/
def Nums (w : World) (b : Nat) (acc : List ByteArray) : Prop := w.ownsMap Tryz.prog 9 (plainElem Tryz.prog 3) b acc.length (mapD acc)
theorem Nums.lt {w : World} {b : Nat} {acc : List ByteArray} (h : Nums w b acc) : b < w.heap.size := World.ownsMap.lt h
theorem Nums.keep {w w' : World} {b : Nat} {acc : List ByteArray} (h : Nums w b acc) (e : w'.heap[b]? = w.heap[b]?) : Nums w' b acc := by
  obtain ⟨es, clock, h1, h2⟩ := h
  exact ⟨es, clock, e.trans h1, h2⟩
theorem Nums.below {w w' : World} {b B : Nat} {acc : List ByteArray} (h : Nums w b acc) (k : Below B w w') (hb : b < B) : Nums w' b acc := h.keep (k.block b hb)
theorem Nums.made (w : World) : Nums (w.alloc (.map #[] 0)) w.heap.size [] := World.ownsMap_made w _ _ _
/-- one more, if it is not there yet -/
def addSym (acc : List ByteArray) (s : ByteArray) : List ByteArray := if inB acc s = true then acc else acc ++ [s]
theorem addSym_in {acc : List ByteArray} {s : ByteArray} (h : inB acc s = true) : addSym acc s = acc := if_pos h
theorem addSym_out {acc : List ByteArray} {s : ByteArray} (h : inB acc s = false) : addSym acc s = acc ++ [s] := if_neg (by rw [h]; decide)
theorem addSym_nodup {acc : List ByteArray} {s : ByteArray} (h : acc.Nodup) : (addSym acc s).Nodup := by
  unfold addSym
  split
  · exact h
  · rename_i hn
    rw [List.nodup_append]
    exact ⟨h, by simp, fun a ha b hb e => by rw [List.mem_singleton] at hb; subst hb e; exact hn ((inB_iff _ _).2 ha)⟩
theorem addSym_len (acc : List ByteArray) (s : ByteArray) : (addSym acc s).length ≤ acc.length + 1 := by unfold addSym; split <;> simp

set_option maxHeartbeats 1000000 in
theorem newSymbolList_any (w : World) :
    Calls Tryz.prog 101 #[] w fun e w' => ∃ b, e = .returned (.agg #[.map (some b)]) ∧ Nums w' b [] ∧ w.heap.size ≤ b ∧ b < w'.heap.size ∧ Below w.heap.size w w' := by
  have hmm := @run_makeMap Tryz.prog
  go_enter Tryz.func101, Tryz.ntmps101
  go_wp2
  refine bodyPost_ret (v := .agg #[.map (some (w.heap.size + 1))]) (by simp [results, Tryz.results101, go_sem]) rfl ⟨w.heap.size + 1, rfl, ?_, by omega, by simp, al2 _ _ _⟩
  simpa using Nums.made (w.alloc (.cells #[.map (some (w.heap.size + 1))] 178))

set_option maxRecDepth 100000 in
set_option maxHeartbeats 1000000 in
theorem number_any (b : Nat) (acc : List ByteArray) (s : ByteArray) (w : World) (h : Nums w b acc) (hn : acc.Nodup) (hs : s.size ≤ maxLen) (hl : acc.length ≤ 1000000) :
    Calls Tryz.prog 102 #[.agg #[.map (some b)], .string s] w fun e w' => e = .returned (.tuple #[]) ∧ Nums w' b (addSym acc s) ∧ w.grownBy w' (some b) := by
  have hkey : keyOf Tryz.prog 9 (.string s) = some (symKey s) := WideMaps.keyOf_string_mk Tryz.underlying9 hs
  have HK := Lib.hid hkey
  have HS := Lib.hid (mapD_size acc hn)
  have hbl := h.lt
  clear hkey
  cases hin : inB acc s
  · have HH := Lib.hid ((mapD_has acc s).trans hin)
    have HA := Lib.hid (addSym_out hin)
    have HM := Lib.hid (mapD_snoc acc s)
    clear hin
    go_enter Tryz.func102, Tryz.ntmps102
    go_wp2_with (first | (at_len; refine wpList_len_own _ rfl _ 174 rfl 9 3 Tryz.underlying174 _ b _ _ rfl (World.ownsMap.alloc h _) ?_; rw [HS.out]) | (at_lookup; refine wpList_lookup_own_ok_int _ rfl _ _ 174 rfl 9 3 .i64 keyLaw Tryz.underlying174 Tryz.underlying3 (zeroInt _) b _ _ rfl (World.ownsMap.alloc h _) _ _ rfl HK.out ?_; intro c _ _; rw [HH.out]) | (at_mapUpdate; refine wpList_mapUpdate_own _ rfl _ _ _ 174 rfl 9 3 keyLaw Tryz.underlying174 _ b _ _ rfl (World.ownsMap.alloc h _) (by unfold maxLen; omega) _ _ _ rfl rfl HK.out (symNum acc.length) [] (plainElem_int Tryz.underlying3 (WalkArith.wf_i64 (by omega))) ?_; intro w1 hown1 hg1))
    have ho : Nums w1 b (addSym acc s) := by
      unfold Nums
      rw [HA.out, HM.out, List.length_append]
      exact hown1
    have hg : w.grownBy w1 (some b) := ⟨hg1.os, hg1.tape, hg1.output, Nat.le_trans (by simp) hg1.size, fun k hk hne => (hg1.block k (by simp; omega) hne).trans (Below.heap_alloc _ _ _ hk)⟩
    clear hown1 hg1
    go_wp2
    go_end0
    exact ⟨rfl, ho, hg⟩
  · have HH := Lib.hid ((mapD_has acc s).trans hin)
    have HA := Lib.hid (addSym_in hin)
    clear hin
    go_enter Tryz.func102, Tryz.ntmps102
    go_wp2_with (first | (at_len; refine wpList_len_own _ rfl _ 174 rfl 9 3 Tryz.underlying174 _ b _ _ rfl (World.ownsMap.alloc h _) ?_; rw [HS.out]) | (at_lookup; refine wpList_lookup_own_ok_int _ rfl _ _ 174 rfl 9 3 .i64 keyLaw Tryz.underlying174 Tryz.underlying3 (zeroInt _) b _ _ rfl (World.ownsMap.alloc h _) _ _ rfl HK.out ?_; intro c _ _; rw [HH.out]))
    go_end0
    exact ⟨rfl, by rw [HA.out]; exact World.ownsMap.alloc h _, World.grownBy_alloc w _ _⟩
end Go.Proofs.YtokdhgocgicdnaaGreatDoor

/- What came in, laid anew: toStringS, toRule, toRuleS, toGram. -/
namespace Go.Proofs.YtokdhgocgicdnaaGreatDoor
open Go.RowKit

theorem Tryz.infoStr : (Tryz.prog.info? 9).map (fun i => (i.zero, i.size, i.bytes)) = some (some (.string ByteArray.empty), 1, 16) := by kernel_rfl

end Go.Proofs.YtokdhgocgicdnaaGreatDoor
