import Derived.Test.YtlgedjpolmlciaaIsom
import Derived.Test.YtlgedjpolmlciaaJSym
import Derived.Deep.Upon
/- How many terms a term has: impl.sizeOfTerm; room for it: (*room).take. -/
namespace Go.Proofs.Ytlgedjpolmlciaa
open Go.RowKit

/-- a list of just one term, in a new block -/
theorem one_km {z : Bool} {w : World} {lo hi : Nat} {u : Value} {t : TermD} (h : KM z w lo hi u t.kids) (ht : TopM t) (hhi : hi ≤ w.heap.size) :
    KM z (w.alloc (.cells #[.int .i64 t.kind, .int .i64 t.num, u] 39)) 0 (w.heap.size + 1) (.slice (some ⟨w.heap.size, 0, none⟩) 1 1) [t] := by
  have r := Row.made w 39 #[.int .i64 t.kind, .int .i64 t.num, u]
  refine .mk (some ⟨w.heap.size, 0, none⟩) 1 [t] (fun _ => u) (Nat.le_refl _) (by unfold maxLen; omega) (fun i hi => ?_) (fun _ => ⟨w.heap.size, 0, rfl, Nat.zero_le _, by omega, fun _ => ⟨_, _, r⟩, fun i hi => ?_⟩) (fun i hi => ?_)
  · obtain rfl : i = 0 := by simpa using hi
    exact ht
  · obtain rfl : i = 0 := by simpa using hi
    exact ⟨by rw [r.cell]; rfl, by rw [r.cell]; rfl, by rw [r.cell]; rfl⟩
  · obtain rfl : i = 0 := by simpa using hi
    exact (h.under (B := w.heap.size) (al1 _ _) hhi).more (Nat.zero_le _) (by omega)

end Go.Proofs.Ytlgedjpolmlciaa

/- A term is laid anew in memory of the call's own: (*room).take, (*room).renew. -/
namespace Go.Proofs.Ytlgedjpolmlciaa
open Go.RowKit

section
variable {w : World} {base : Nat} {T : TypeId}
/-- the last of a list in memory of the call's own -/
theorem own1_pop {v : Value} {l : List Value} {x : Value} (h : w.ownsRow base T 1 v (l.length + 1) (l ++ [x])) :
    ∃ g cap, v = .slice (some ⟨g, 0, none⟩) (l.length + 1) cap ∧ base ≤ g ∧ g < w.heap.size ∧ l.length + 1 ≤ cap ∧ cap ≤ maxLen ∧ w.cell? ⟨g, l.length, none⟩ = some x ∧ w.ownsRow base T 1 (.slice (some ⟨g, 0, none⟩) l.length cap) l.length l ∧ ∃ cur, Row w g T cur := by
  obtain ⟨h1, h2⟩ := h
  rcases h2 with ⟨_, h0⟩ | ⟨g, cap, cur, rfl, hb, hh, hc, hm, hs, ht⟩
  · omega
  have hr : Row w g T cur := hh
  refine ⟨g, cap, rfl, hb, hr.lt, hc, hm, ?_, ⟨by simp, .inr ⟨g, cap, cur, rfl, hb, hh, by omega, hm, hs, ?_⟩⟩, cur, hr⟩
  · rw [hr.cell]
    have : (l ++ [x])[l.length]? = some x := by simp
    rw [← ht, List.getElem?_take_of_lt (by omega), Array.getElem?_toList] at this
    exact this
  · have := congrArg (List.take (l.length * 1)) ht
    rw [List.take_take, Nat.min_eq_left (by omega), List.take_append_of_le_length (by omega)] at this
    rw [this]
    exact List.take_of_length_le (by omega)
theorem own_keep {w' : World} {size n : Nat} {v : Value} {xs : List Value} (h : w.ownsRow base T size v n xs) (k : ∀ g, v.ownBlock = some g → w'.heap[g]? = w.heap[g]?) : w'.ownsRow base T size v n xs := by
  refine ⟨h.1, ?_⟩
  rcases h.2 with a | ⟨g, cap, cur, rfl, hb, hh, rest⟩
  · exact .inl a
  · exact .inr ⟨g, cap, cur, rfl, hb, (k g rfl).trans hh, rest⟩
end
/-- the cells of a list of terms -/
def newsM (ts : List TermD) (U : Nat → Value) : List Value := (List.range (ts.length * 3)).map fun j => if j % 3 = 0 then .int .i64 (ts.getD (j / 3) default).kind else if j % 3 = 1 then .int .i64 (ts.getD (j / 3) default).num else U (j / 3)
theorem newsM_len (ts : List TermD) (U : Nat → Value) : (newsM ts U).length = ts.length * 3 := by simp [newsM]
theorem newsM_at (ts : List TermD) (U : Nat → Value) (j : Nat) (h : j < ts.length * 3) : (newsM ts U)[j]? = some (if j % 3 = 0 then .int .i64 (ts.getD (j / 3) default).kind else if j % 3 = 1 then .int .i64 (ts.getD (j / 3) default).num else U (j / 3)) := by
  simp [newsM, List.getElem?_range h]
theorem newsM_0 (ts : List TermD) (U : Nat → Value) (i : Nat) (h : i < ts.length) : (newsM ts U)[i * 3]? = some (.int .i64 ts[i].kind) := by
  rw [newsM_at _ _ _ (by omega), if_pos (by omega), show i * 3 / 3 = i by omega]; simp [h]
theorem newsM_1 (ts : List TermD) (U : Nat → Value) (i : Nat) (h : i < ts.length) : (newsM ts U)[i * 3 + 1]? = some (.int .i64 ts[i].num) := by
  rw [newsM_at _ _ _ (by omega), if_neg (by omega), if_pos (by omega), show (i * 3 + 1) / 3 = i by omega]; simp [h]
theorem newsM_2 (ts : List TermD) (U : Nat → Value) (i : Nat) (h : i < ts.length) : (newsM ts U)[i * 3 + 2]? = some (U i) := by
  rw [newsM_at _ _ _ (by omega), if_neg (by omega), if_neg (by omega), show (i * 3 + 2) / 3 = i by omega]
/-- what stands in a list of terms, cell by cell -/
theorem km_news {z : Bool} {w : World} {lo hi : Nat} {A : Option Addr} {c : Nat} {ts : List TermD} (h : KM z w lo hi (.slice A ts.length c) ts) (hp : 0 < ts.length) :
    ∃ b off U, A = some ⟨b, off, none⟩ ∧ lo ≤ b ∧ b < hi ∧ (∀ i (h : i < ts.length), TopM ts[i]) ∧ (∀ j u, (newsM ts U)[j]? = some u → w.cell? ((⟨b, off, none⟩ : Addr).add j) = some u) ∧ (∀ u ∈ newsM ts U, u.oneCell' = true) ∧ ∀ i (h : i < ts.length), KM z w lo hi (U i) ts[i].kids := by
  obtain ⟨A', c', U, e, _, _, hs, hcell, hsub⟩ := h.parts
  injection e with e1 _ _
  subst e1
  obtain ⟨b, off, rfl, h1, h2, _, hcc⟩ := hcell hp
  have three : ∀ j u, (newsM ts U)[j]? = some u → w.cell? ⟨b, off + j, none⟩ = some u := fun j u hu => by
    have hj : j < ts.length * 3 := by have := (List.getElem?_eq_some_iff.1 hu).1; rwa [newsM_len] at this
    obtain ⟨a0, a1, a2⟩ := hcc (j / 3) (by omega)
    rcases (show j = j / 3 * 3 ∨ j = j / 3 * 3 + 1 ∨ j = j / 3 * 3 + 2 by omega) with e | e | e
    · rw [e, newsM_0 _ _ _ (by omega)] at hu
      rw [e, ← hu]; exact a0
    · rw [e, newsM_1 _ _ _ (by omega)] at hu
      rw [e, ← hu, ← Nat.add_assoc]; exact a1
    · rw [e, newsM_2 _ _ _ (by omega)] at hu
      rw [e, ← hu, ← Nat.add_assoc]; exact a2
  refine ⟨b, off, U, rfl, h1, h2, hs, fun j u hu => ?_, fun u hu => ?_, hsub⟩
  · rw [show (⟨b, off, none⟩ : Addr).add j = ⟨b, off + j, none⟩ by unfold Addr.add; split <;> simp_all]
    exact three j u hu
  · obtain ⟨j, hj, rfl⟩ := List.mem_iff_getElem.1 hu
    rw [newsM_len] at hj
    rcases (show j = j / 3 * 3 ∨ j = j / 3 * 3 + 1 ∨ j = j / 3 * 3 + 2 by omega) with e | e | e
    · have := newsM_0 ts U (j / 3) (by omega)
      rw [← e, List.getElem?_eq_getElem (by rw [newsM_len]; exact hj)] at this
      injection this with this
      rw [this]; rfl
    · have := newsM_1 ts U (j / 3) (by omega)
      rw [← e, List.getElem?_eq_getElem (by rw [newsM_len]; exact hj)] at this
      injection this with this
      rw [this]; rfl
    · have := newsM_2 ts U (j / 3) (by omega)
      rw [← e, List.getElem?_eq_getElem (by rw [newsM_len]; exact hj)] at this
      injection this with this
      rw [this]
      obtain ⟨A2, c2, U2, e2, _⟩ := (hsub (j / 3) (by omega)).parts
      rw [e2]; rfl
/-- nothing is appended to nil -/
theorem wpList_append_nothing {P : Program} {w : World} {ops : Array Oper} {rest : List Oper} {o : Oper} {a : Act} {Q : Exit → Act → World → Prop} (hgd : o.guard = none) (s x : Operand) (t : TypeId)
    (ho : o.op = .call { callee := .builtin .append, args := #[s, x], argTypes := #[t, t] })
    (e : TypeId) (i : TypeInfo) (ht : P.underlying t = some (.slice e)) (hi : P.info? e = some i)
    (A : Option Addr) (c : Nat) (hs : a.eval s = .slice none 0 0) (hx : a.eval x = .slice A 0 c)
    (h : wpList P ops Q rest (a.put o.dst (.slice none 0 0)) w) : wpList P ops Q (o :: rest) a w := by
  refine wpList_plain hgd fun K hK => ?_
  have hsrc : Src P i.size t (.slice A 0 c) 0 [] w := by
    cases A with
    | none => exact Src.ofNil w ht c
    | some ad => exact Src.ofSlice w ht ad 0 c [] (by simp) (by simp) (by simp)
  have hrun := run_append_nothing (P := P) w t t o.type e i ht hi none 0 0 (Nat.le_refl _) (.slice A 0 c) hsrc
  unfold Oper.wp
  simp [execOp, ho, resolve, invoke, builtin, hs, hx, hrun, Result.andThen]
  exact hK _ _ h
/-- a list of terms is appended to nil: a new list, none if it is empty -/
theorem wpList_append_kids {w : World} {ops : Array Oper} {rest : List Oper} {o : Oper} {a : Act} {Q : Exit → Act → World → Prop} (hgd : o.guard = none) (s x : Operand)
    (ho : o.op = .call { callee := .builtin .append, args := #[s, x], argTypes := #[37, 37] })
    (i0 : TypeInfo) (hi0 : Try.prog.info? 39 = some i0) (hz0 : i0.zero = some (.agg #[.int .i64 0, .int .i64 0, .slice none 0 0])) (hz1 : i0.size = 3) (hz2 : i0.bytes = 40)
    (lo hi : Nat) (A : Option Addr) (c : Nat) (ts : List TermD) (hk : KM true w lo hi (.slice A ts.length c) ts) (hlen : ts.length ≤ 2097152) (hs : a.eval s = .slice none 0 0) (hx : a.eval x = .slice A ts.length c)
    (h : ∀ (A' : Option Addr) (c' g : Nat) (U : Nat → Value) (gcur : Array Value) (w' : World), Below w.heap.size w w' → (∀ i (h : i < ts.length), KM true w lo hi (U i) ts[i].kids ∧ TopM ts[i]) →
      ((ts.length = 0 ∧ A' = none ∧ c' = 0) ∨ (0 < ts.length ∧ A' = some ⟨g, 0, none⟩ ∧ w.heap.size ≤ g ∧ ts.length ≤ c' ∧ c' ≤ maxLen ∧ Row w' g 39 gcur ∧ ts.length * 3 ≤ gcur.size ∧
        ∀ i (h : i < ts.length), gcur[i * 3]? = some (.int .i64 ts[i].kind) ∧ gcur[i * 3 + 1]? = some (.int .i64 ts[i].num) ∧ gcur[i * 3 + 2]? = some (U i))) →
      wpList Try.prog ops Q rest (a.put o.dst (.slice A' ts.length c')) w') : wpList Try.prog ops Q (o :: rest) a w := by
  by_cases h0 : ts.length = 0
  · obtain rfl : ts = [] := List.eq_nil_of_length_eq_zero h0
    exact wpList_append_nothing hgd s x 37 ho 39 i0 Try.underlying37 hi0 A c hs hx (h none 0 0 (fun _ => .nilFunc) #[] w (Below.refl _ _) (fun i hi => by simp at hi) (.inl ⟨rfl, rfl, rfl⟩))
  · obtain ⟨b, off, U, rfl, h1, h2, h3, h4, h5, h6⟩ := km_news hk (by omega)
    refine wpList_append_own _ hgd s x 37 ho w.heap.size 39 i0 _ 3 40 Try.underlying37 hi0 hz0 hz1 hz2 rfl (by decide) (.slice none 0 0) 0 [] hs ⟨rfl, .inl ⟨rfl, rfl⟩⟩ ⟨b, off, none⟩ ts.length c (newsM ts U) hx (newsM_len ts U) h4 h5 (by unfold maxLen; omega) (by omega) (Nat.le_refl _) ?_
    intro v1 w1 hown hg _
    obtain ⟨_, hh⟩ := hown
    rcases hh with ⟨_, hh⟩ | ⟨g, cap, cur, rfl, hb, hrow, hc, hm, hsz, htk⟩
    · omega
    rw [Nat.zero_add] at hc htk ⊢
    rw [List.nil_append] at htk
    have hr : Row w1 g 39 cur := hrow
    have cell : ∀ j, j < ts.length * 3 → cur[j]? = (newsM ts U)[j]? := fun j hj => by
      rw [← htk, List.getElem?_take_of_lt hj, Array.getElem?_toList]
    refine h _ cap g U cur w1 ((Below.refl _ _).grown hg (Nat.le_refl _) (fun k hk => by cases hk)) (fun i hi => ⟨h6 i hi, h3 i hi⟩) (.inr ⟨by omega, rfl, hb, hc, hm, hr, by omega, fun i hi => ?_⟩)
    exact ⟨by rw [cell _ (by omega), newsM_0 _ _ _ hi], by rw [cell _ (by omega), newsM_1 _ _ _ hi], by rw [cell _ (by omega), newsM_2 _ _ _ hi]⟩
end Go.Proofs.Ytlgedjpolmlciaa
