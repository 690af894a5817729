import Derived.Test.YtiochjagolijfaaJMark
/- The marks of a grammar: markRuleS, markGram. -/
namespace Go.Proofs.Ytiochjagolijfaa
open Go.RowKit

/-- a block for a list of texts: its own, or one that is not there, if it is empty -/
theorem OwnS.pick {w : World} {g : Nat} {v : Value} {ss : List ByteArray} (h : OwnS w g v ss) : ∃ g', OwnS w g' v ss ∧ (ss ≠ [] → g' = g) ∧ (ss = [] → w.heap.size ≤ g') := by
  by_cases e : ss = []
  · subst e
    obtain ⟨A, c, h1, h2, h3, h4, h5⟩ := h
    exact ⟨w.heap.size, ⟨A, c, h1, h2, h3, h4, fun hp => by simp at hp⟩, fun hn => absurd rfl hn, fun _ => Nat.le_refl _⟩
  · exact ⟨g, h, fun _ => rfl, fun h0 => absurd h0 e⟩

/-- what stands at one place of a list of rules -/
structure RuleAt (w : World) (lo hi b j gj : Nat) (u : Value) (rs : List RuleD) (cur : Array Value) : Prop where
  row : Row w b 86 cur
  low : lo ≤ b
  high : b < hi
  size : j * 2 + 1 < cur.size
  body : cur[j * 2 + 1]? = some u
  own : ∀ h : j < rs.length, OwnS w gj u rs[j].body
  within : ∀ h : j < rs.length, rs[j].body ≠ [] → lo ≤ gj ∧ gj < hi ∧ gj ≠ b
  put : ∀ (w1 w3 : World) (hd : ByteArray) (bd : List ByteArray) (g' : Nat), (h : j < rs.length) → hd.size ≤ maxLen → Below w.heap.size w w1 → bd.length = rs[j].body.length → OwnS w3 g' u bd →
    (rs[j].body ≠ [] → g' = gj) → (rs[j].body = [] → w1.heap.size ≤ g') → Mid g' (g' + 1) (w1.setCell ⟨b, j * 2, none⟩ (.string hd)) w3 → OwnR w3 lo hi (.slice (some ⟨b, 0, none⟩) rs.length rs.length) (rs.set j ⟨hd, bd⟩)

theorem OwnR.form {w : World} {lo hi : Nat} {v : Value} {rs : List RuleD} (h : OwnR w lo hi v rs) : ∃ A c, v = .slice A rs.length c ∧ rs.length ≤ c ∧ c ≤ maxLen ∧ (0 < rs.length → ∃ b, A = some ⟨b, 0, none⟩ ∧ OwnR w lo hi (.slice (some ⟨b, 0, none⟩) rs.length rs.length) rs) := by
  obtain ⟨A, c, h1, h2, h3, h5⟩ := h
  refine ⟨A, c, h1, h2, h3, fun hp => ?_⟩
  obtain ⟨b, cur, G, ha, hr⟩ := h5 hp
  exact ⟨b, ha, _, _, rfl, Nat.le_refl _, by omega, fun _ => ⟨b, cur, G, rfl, hr⟩⟩
theorem OwnR.back {w : World} {lo hi b c : Nat} {rs : List RuleD} (h : OwnR w lo hi (.slice (some ⟨b, 0, none⟩) rs.length rs.length) rs) (h1 : rs.length ≤ c) (h2 : c ≤ maxLen) : OwnR w lo hi (.slice (some ⟨b, 0, none⟩) rs.length c) rs := by
  obtain ⟨A, c', e, _, _, h5⟩ := h
  injection e with e1 _ e2
  subst e1
  exact ⟨_, c, rfl, h1, h2, h5⟩

theorem OwnR.at {w : World} {lo hi b j : Nat} {rs : List RuleD} (h : OwnR w lo hi (.slice (some ⟨b, 0, none⟩) rs.length rs.length) rs) (hj : j < rs.length) : ∃ gj u cur, RuleAt w lo hi b j gj u rs cur := by
  obtain ⟨A, c, e, h2, h3, h5⟩ := h
  injection e with e1 _ e2
  subst e1
  obtain ⟨b', cur, G, ha, hl, hh, hr, hc, hd⟩ := h5 (by omega)
  injection ha with ha
  injection ha with ha
  subst ha
  obtain ⟨a1, a2, u, a3, a4, a5⟩ := hc j hj
  have hne : ∀ i (hi : i < rs.length), rs[i].body ≠ [] → G i ≠ b := fun i hi hn e => by
    obtain ⟨_, _, ui, _, o4, _⟩ := hc i hi
    obtain ⟨Ai, ci, p1, p2, p3, p4, p5⟩ := o4
    obtain ⟨off, cu, _, q1, _⟩ := p5 (List.length_pos_iff.2 hn)
    exact (hr.apart q1 (by decide)) e.symm
  have hsz : j * 2 + 1 < cur.size := (Array.getElem?_eq_some_iff.1 a3).1
  refine ⟨G j, u, cur, hr, hl, hh, hsz, a3, fun _ => a4, fun _ hn => ⟨(a5 hn).1, (a5 hn).2, hne j hj hn⟩, ?_⟩
  intro w1 w3 nh bd g' _ hnh hb1 hlen ho3 hg1 hg2 hmid
  have hbl := hr.lt
  have r2 := (hr.below hb1 hbl).put (j * 2) (.string nh)
  have hgb : g' ≠ b := by
    by_cases e : rs[j].body = []
    · have := hg2 e; have := hb1.size; omega
    · rw [hg1 e]; exact hne j hj e
  have hs2 : (w1.setCell ⟨b, j * 2, none⟩ (.string nh)).heap.size = w1.heap.size := by simp [World.setCell]
  have r3 : Row w3 b 86 (cur.setIfInBounds (j * 2) (.string nh)) := r2.same (hmid.block b (by rw [hs2]; have := hb1.size; omega) (by omega))
  refine ⟨_, _, by rw [List.length_set], Nat.le_refl _, by rw [List.length_set]; omega, fun _ => ⟨b, _, G, rfl, hl, hh, r3, fun i hi => ?_, fun i k hik hk => ?_⟩⟩
  · rw [List.length_set] at hi
    by_cases e : j = i
    · subst e
      simp only [List.getElem_set_self]
      refine ⟨hnh, by rw [Array.getElem?_setIfInBounds_self_of_lt (by omega)], u, by rw [Array.getElem?_setIfInBounds_ne (by omega)]; exact a3, ?_, ?_⟩
      · by_cases e : rs[j].body = []
        · obtain ⟨A3, c3, p1, p2, p3, p4, p5⟩ := ho3
          have hb0 : bd = [] := List.eq_nil_of_length_eq_zero (by rw [hlen, e]; rfl)
          subst hb0
          exact ⟨A3, c3, p1, p2, p3, p4, fun hp => by simp at hp⟩
        · rw [← hg1 e]; exact ho3
      · intro hn
        exact a5 (fun e => hn (List.eq_nil_of_length_eq_zero (by rw [hlen, e]; rfl)))
    · simp only [List.getElem_set_ne e]
      obtain ⟨b1, b2, ui, b3, b4, b5⟩ := hc i hi
      refine ⟨b1, by rw [Array.getElem?_setIfInBounds_ne (by omega)]; exact b2, ui, by rw [Array.getElem?_setIfInBounds_ne (by omega)]; exact b3, b4.keep fun hn => ?_, b5⟩
      have hgi := b4.lt hn
      have hgi2 : g' ≠ G i := by
        by_cases e2 : rs[j].body = []
        · have := hg2 e2; have := hb1.size; omega
        · rw [hg1 e2]
          rcases Nat.lt_or_gt_of_ne e with h' | h'
          · exact hd j i h' hi e2 hn
          · exact (hd i j h' hj hn e2).symm
      rw [hmid.block (G i) (by rw [hs2]; have := hb1.size; omega) (by omega), Below.heap_setCell _ _ _ _ (by exact hne i hi hn), hb1.block _ hgi]
  · rw [List.length_set] at hk
    have hx : ∀ (m : Nat) (hm : m < rs.length) (hm' : m < (rs.set j ⟨nh, bd⟩).length), ((rs.set j ⟨nh, bd⟩)[m]'hm').body ≠ [] → rs[m].body ≠ [] := fun m hm hm' => by
      by_cases e : j = m
      · subst e
        simp only [List.getElem_set_self]
        intro hn e2
        exact hn (List.eq_nil_of_length_eq_zero (by rw [hlen, e2]; rfl))
      · simp only [List.getElem_set_ne e]; exact fun h => h
    intro x1 x2
    exact hd i k hik hk (hx i (by omega) _ x1) (hx k hk _ x2)
end Go.Proofs.Ytiochjagolijfaa

/- The marks of a grammar, on: markRuleS, markGram, heldRuleS, heldGram. -/
namespace Go.Proofs.Ytiochjagolijfaa
open Go.RowKit

def cntTo (rs : List RuleD) (j : Nat) : Nat := ((rs.take j).map fun r => 1 + r.body.length).sum
def bodyLen (rs : List RuleD) (j : Nat) : Nat := (rs[j]?.map fun r => r.body.length).getD 0
def mrk (k : Nat) (rs : List RuleD) (j : Nat) : RuleD := ⟨mt (k + cntTo rs j), marks (k + cntTo rs j + 1) (bodyLen rs j)⟩
def markUpto (k : Nat) (rs : List RuleD) : Nat → List RuleD
  | 0 => rs
  | j + 1 => (markUpto k rs j).set j (mrk k rs j)
/-- a marked list of rules -/
def markR (k : Nat) (rs : List RuleD) : List RuleD := markUpto k rs rs.length
theorem bodyLen_at {rs : List RuleD} {j : Nat} (h : j < rs.length) : bodyLen rs j = rs[j].body.length := by simp [bodyLen, h]
theorem cntTo_succ {rs : List RuleD} {j : Nat} (h : j < rs.length) : cntTo rs (j + 1) = cntTo rs j + (1 + rs[j].body.length) := by
  unfold cntTo; rw [List.take_succ_eq_append_getElem h, List.map_append, List.sum_append]; simp
theorem cntTo_le (rs : List RuleD) (j : Nat) : cntTo rs j ≤ cntTo rs rs.length := by
  unfold cntTo
  rw [List.take_length]
  conv => rhs; rw [← List.take_append_drop j rs]
  rw [List.map_append, List.sum_append]; omega
theorem markUpto_len (k : Nat) (rs : List RuleD) (j : Nat) : (markUpto k rs j).length = rs.length := by
  induction j with
  | zero => rfl
  | succ j ih => rw [markUpto, List.length_set, ih]
theorem markUpto_at (k : Nat) (rs : List RuleD) (j i : Nat) (h : i < (markUpto k rs j).length) : (markUpto k rs j)[i] = if i < j then mrk k rs i else rs[i]'(by rw [markUpto_len] at h; exact h) := by
  induction j with
  | zero => simp [markUpto]
  | succ j ih =>
    simp only [markUpto, List.getElem_set]
    have h' : i < (markUpto k rs j).length := by rw [markUpto_len] at h ⊢; exact h
    by_cases e : j = i
    · subst e; rw [if_pos rfl, if_pos (by omega)]
    · rw [if_neg e, ih h']
      by_cases e2 : i < j
      · rw [if_pos e2, if_pos (by omega)]
      · rw [if_neg e2, if_neg (by omega)]
theorem markR_len (k : Nat) (rs : List RuleD) : (markR k rs).length = rs.length := markUpto_len k rs _
theorem markR_at (k : Nat) (rs : List RuleD) (i : Nat) (h : i < (markR k rs).length) : (markR k rs)[i] = mrk k rs i :=
  (markUpto_at k rs rs.length i h).trans (if_pos (by rw [markR_len] at h; exact h))
theorem cntTo_ge (rs : List RuleD) : rs.length ≤ cntTo rs rs.length := by
  unfold cntTo
  rw [List.take_length]
  induction rs with
  | nil => simp
  | cons r rs ih => simp only [List.length_cons, List.map_cons, List.sum_cons]; omega
theorem mid_pick {w w' : World} {lo hi g : Nat} {ss : List ByteArray} (h1 : ss ≠ [] → lo ≤ g ∧ g < hi) (h2 : ss = [] → w.heap.size ≤ g) (m : Mid g (g + 1) w w') : Mid lo hi w w' :=
  ⟨m.os, m.tape, m.output, m.size, fun k hk hkk => m.block k hk (by
    by_cases e : ss = []
    · have := h2 e; omega
    · have := h1 e; omega)⟩

end Go.Proofs.Ytiochjagolijfaa
