/- What is come to from a head, by one step or more: the fixed point by bits tells it. -/
import Derived.Test.YtlgedjpolmlciaaJCom
namespace Go.Proofs.Ytlgedjpolmlciaa
open Go.RowKit

/-- what is come to from h, by one step or more, by the rules of these numbers, where a step goes from a rule's head to what is taken of its body -/
inductive Aft (rs : List RuleD) (ix : List Nat) (tk : List ByteArray → ByteArray → Prop) (h : ByteArray) : ByteArray → Prop
  | one (i : Nat) (hi : i < rs.length) (hx : i ∈ ix) (he : rs[i].head = h) (s : ByteArray) (ht : tk rs[i].body s) : Aft rs ix tk h s
  | more (i : Nat) (hi : i < rs.length) (hx : i ∈ ix) (ha : Aft rs ix tk h rs[i].head) (s : ByteArray) (ht : tk rs[i].body s) : Aft rs ix tk h s
theorem Aft.step {rs : List RuleD} {ix : List Nat} {tk : List ByteArray → ByteArray → Prop} {h : ByteArray} {i : Nat} (hi : i < rs.length) (hx : i ∈ ix) (ha : rs[i].head = h ∨ Aft rs ix tk h rs[i].head) {s : ByteArray} (ht : tk rs[i].body s) : Aft rs ix tk h s := by
  rcases ha with ha | ha
  · exact .one i hi hx ha s ht
  · exact .more i hi hx ha s ht

def stepAfter (rl : List RuleN) (hd : Nat) (take : List Nat → Nat) (k : Nat) : Nat := gather (fun r => holdsB (hd ||| k) r.head) (fun r => take r.body) rl
/-- what is taken of a body, as a set and as symbols -/
def Takes (rs : List RuleD) (take : List Nat → Nat) (tk : List ByteArray → ByteArray → Prop) : Prop :=
  ∀ i (hi : i < rs.length), ∀ b, (take (rs[i].body.map (setN (hsOf rs)))).testBit b = true ↔ ∃ s, tk rs[i].body s ∧ symIdx (hsOf rs) s = b
theorem hold_set (rs : List RuleD) (k : Nat) (s : ByteArray) : holdsB k (setN (hsOf rs) s) = k.testBit (symIdx (hsOf rs) s) := by
  rw [Bool.eq_iff_iff, holdsB_iff]
  constructor
  · intro h; exact h _ ((setN_bit _ _ _).2 rfl)
  · intro h i hi
    rw [setN_bit] at hi
    rw [← hi]; exact h
theorem aft_bits {rs : List RuleD} (R : Rt rs) {ix : List Nat} (hix : ∀ i ∈ ix, i < rs.length) {take : List Nat → Nat} {tk : List ByteArray → ByteArray → Prop} (htk : Takes rs take tk) (h : ByteArray) {n : Nat}
    (hf : FixAt (stepAfter (rnl rs ix) (setN (hsOf rs) h) take) 0 n) (b : Nat) : n.testBit b = true ↔ ∃ s, Aft rs ix tk h s ∧ symIdx (hsOf rs) s = b := by
  obtain ⟨_, _, h2, h3⟩ := hf
  constructor
  · apply h3 (fun k => ∀ b, k.testBit b = true → ∃ s, Aft rs ix tk h s ∧ symIdx (hsOf rs) s = b)
    · intro b hb; simp at hb
    · intro k _ hk b hb
      rw [Nat.testBit_or, Bool.or_eq_true] at hb
      rcases hb with hb | hb
      · exact hk b hb
      · unfold stepAfter at hb
        rw [gather_bit] at hb
        obtain ⟨r, hr, hp, hbit⟩ := hb
        obtain ⟨i, hi, rfl⟩ := List.mem_map.1 hr
        have hil := hix i hi
        unfold rn at hp hbit
        rw [ruleAt_eq hil] at hp hbit
        rw [hold_set, Nat.testBit_or, Bool.or_eq_true, setN_bit] at hp
        obtain ⟨s, hs, e⟩ := (htk i hil b).1 hbit
        refine ⟨s, Aft.step hil hi ?_ hs, e⟩
        rcases hp with hp | hp
        · exact .inl (R.idx_inj (hs_all hil) hp).symm
        · obtain ⟨t, ht, e2⟩ := hk _ hp
          rw [R.idx_inj (hs_all hil) e2] at ht
          exact .inr ht
  · rintro ⟨s, hs, rfl⟩
    have key : ∀ i (hi : i < rs.length), i ∈ ix → ∀ s, tk rs[i].body s → ((setN (hsOf rs) h ||| n).testBit (symIdx (hsOf rs) rs[i].head) = true) → n.testBit (symIdx (hsOf rs) s) = true := by
      intro i hi hx s hs hb
      apply h2
      unfold stepAfter
      rw [gather_bit]
      refine ⟨rn rs i, List.mem_map_of_mem hx, ?_, ?_⟩
      · unfold rn; rw [ruleAt_eq hi, hold_set]; exact hb
      · unfold rn; rw [ruleAt_eq hi]
        exact (htk i hi _).2 ⟨s, hs, rfl⟩
    induction hs with
    | one i hi hx he s ht =>
      apply key i hi hx s ht
      rw [Nat.testBit_or, (setN_bit _ _ _).2 (by rw [he]), Bool.true_or]
    | more i hi hx ha s ht ih =>
      apply key i hi hx s ht
      rw [Nat.testBit_or, ih, Bool.or_true]
/-- of one head, by its own bit -/
theorem aft_bit {rs : List RuleD} (R : Rt rs) {ix : List Nat} (hix : ∀ i ∈ ix, i < rs.length) {take : List Nat → Nat} {tk : List ByteArray → ByteArray → Prop} (htk : Takes rs take tk) (h : ByteArray) {n : Nat}
    (hf : FixAt (stepAfter (rnl rs ix) (setN (hsOf rs) h) take) 0 n) {s : ByteArray} (hs : s ∈ hsOf rs) : n.testBit (symIdx (hsOf rs) s) = true ↔ Aft rs ix tk h s := by
  rw [aft_bits R hix htk h hf]
  constructor
  · rintro ⟨t, ht, e⟩
    rw [R.idx_inj hs e] at ht; exact ht
  · intro ht; exact ⟨s, ht, rfl⟩

/-- the whole body -/
def tkAll (body : List ByteArray) (s : ByteArray) : Prop := s ∈ body
theorem takes_all (rs : List RuleD) : Takes rs joinAll tkAll := by
  intro i hi b
  rw [joinAll_bit]
  constructor
  · rintro ⟨x, hx, hb⟩
    obtain ⟨s, hs, rfl⟩ := List.mem_map.1 hx
    exact ⟨s, hs, (setN_bit _ _ _).1 hb⟩
  · rintro ⟨s, hs, rfl⟩
    exact ⟨_, List.mem_map_of_mem hs, (setN_bit _ _ _).2 rfl⟩
/-- what may stand at the left end -/
def tkLeft (nul : ByteArray → Prop) (body : List ByteArray) (s : ByteArray) : Prop := ∃ k, ∃ h : k < body.length, body[k] = s ∧ ∀ m, (hm : m < k) → nul (body[m]'(by omega))
def leftN (null : Nat) (l : List Nat) : Nat := l.foldl (fun out one => if holdsB null out = true then out ||| one else out) 0
theorem leftN_succ {null : Nat} {l : List Nat} {k : Nat} (h : k < l.length) : leftN null (l.take (k + 1)) = if holdsB null (leftN null (l.take k)) = true then leftN null (l.take k) ||| l[k] else leftN null (l.take k) := by
  unfold leftN; rw [List.take_succ_eq_append_getElem h, List.foldl_append]; rfl
theorem leftN_lt {null : Nat} {l : List Nat} (h : ∀ x ∈ l, x < 4194304) (k : Nat) : leftN null (l.take k) < 4194304 := by
  induction k with
  | zero => simp [leftN]
  | succ k ih =>
    by_cases hk : k < l.length
    · rw [leftN_succ hk]
      split
      · exact or_lt ih (h _ (List.getElem_mem hk))
      · exact ih
    · rw [List.take_of_length_le (by omega)]
      rw [List.take_of_length_le (by omega)] at ih
      exact ih
theorem holds_mono {s a b : Nat} (h : holdsB s (a ||| b) = true) : holdsB s a = true := by
  rw [holdsB_iff] at h ⊢
  intro i hi
  apply h
  rw [Nat.testBit_or, hi, Bool.true_or]
theorem takes_left (rs : List RuleD) {null : Nat} {nul : ByteArray → Prop} (hn : ∀ i (hi : i < rs.length), ∀ s ∈ rs[i].body, (null.testBit (symIdx (hsOf rs) s) = true ↔ nul s)) : Takes rs (leftN null) (tkLeft nul) := by
  intro i hi b
  have key : ∀ k, k ≤ rs[i].body.length →
      (holdsB null (leftN null ((rs[i].body.map (setN (hsOf rs))).take k)) = true ↔ ∀ m (hm : m < rs[i].body.length), m < k → nul rs[i].body[m]) ∧
      ∀ b, (leftN null ((rs[i].body.map (setN (hsOf rs))).take k)).testBit b = true ↔ ∃ q, ∃ h : q < rs[i].body.length, q < k ∧ symIdx (hsOf rs) rs[i].body[q] = b ∧ ∀ m (hm : m < rs[i].body.length), m < q → nul rs[i].body[m] := by
    intro k
    induction k with
    | zero =>
      intro _
      constructor
      · simp [leftN, holdsB]
      · intro b; simp [leftN]
    | succ k ih =>
      intro hk
      obtain ⟨ih1, ih2⟩ := ih (by omega)
      have hk' : k < (rs[i].body.map (setN (hsOf rs))).length := by rw [List.length_map]; omega
      rw [leftN_succ hk']
      have hbk : k < rs[i].body.length := by omega
      have hmem : rs[i].body[k] ∈ rs[i].body := List.getElem_mem hbk
      by_cases hh : holdsB null (leftN null ((rs[i].body.map (setN (hsOf rs))).take k)) = true
      · rw [if_pos hh, List.getElem_map]
        have hall := ih1.1 hh
        constructor
        · rw [holdsB_iff]
          constructor
          · intro h m hm hmk
            by_cases e : m = k
            · subst e
              rw [← hn i hi _ hmem]
              apply h
              rw [Nat.testBit_or, (setN_bit _ _ _).2 rfl, Bool.or_true]
            · exact hall m hm (by omega)
          · intro h j hj
            rw [Nat.testBit_or, Bool.or_eq_true] at hj
            rcases hj with hj | hj
            · exact (holdsB_iff _ _).1 hh j hj
            · rw [setN_bit] at hj
              rw [← hj, hn i hi _ hmem]
              exact h k hbk (by omega)
        · intro b
          rw [Nat.testBit_or, Bool.or_eq_true, ih2, setN_bit]
          constructor
          · rintro (⟨q, h1, h2, h3, h4⟩ | h)
            · exact ⟨q, h1, by omega, h3, h4⟩
            · exact ⟨k, hbk, by omega, h, hall⟩
          · rintro ⟨q, h1, h2, h3, h4⟩
            by_cases e : q = k
            · subst e; exact .inr h3
            · exact .inl ⟨q, h1, by omega, h3, h4⟩
      · rw [if_neg hh]
        constructor
        · constructor
          · intro h; exact absurd h hh
          · intro h; exact absurd (ih1.2 fun m hm hmk => h m hm (by omega)) hh
        · intro b
          rw [ih2]
          constructor
          · rintro ⟨q, h1, h2, h3, h4⟩; exact ⟨q, h1, by omega, h3, h4⟩
          · rintro ⟨q, h1, h2, h3, h4⟩
            by_cases e : q = k
            · subst e; exact absurd (ih1.2 h4) hh
            · exact ⟨q, h1, by omega, h3, h4⟩
  have := (key rs[i].body.length (Nat.le_refl _)).2 b
  rw [List.take_of_length_le (by rw [List.length_map]; exact Nat.le_refl _)] at this
  rw [this]
  constructor
  · rintro ⟨q, h1, _, h3, h4⟩; exact ⟨rs[i].body[q], ⟨q, h1, rfl, fun m hm => h4 m (by omega) hm⟩, h3⟩
  · rintro ⟨s, ⟨q, h1, rfl, h4⟩, h3⟩; exact ⟨q, h1, h1, h3, fun m hm hmq => h4 m hmq⟩
/-- what may stand alone -/
def tkAlone (nul : ByteArray → Prop) (body : List ByteArray) (s : ByteArray) : Prop := ∃ k, ∃ h : k < body.length, body[k] = s ∧ ∀ m (hm : m < body.length), m ≠ k → nul body[m]
def restN (l : List Nat) (k : Nat) : Nat := joinAll (l.take k) ||| joinAll (l.drop (k + 1))
def aloneN (null : Nat) (l : List Nat) : Nat → Nat
  | 0 => 0
  | k + 1 => if holdsB null (restN l k) = true then aloneN null l k ||| l.getD k 0 else aloneN null l k
theorem aloneN_lt {null : Nat} {l : List Nat} (h : ∀ x ∈ l, x < 4194304) (k : Nat) : aloneN null l k < 4194304 := by
  induction k with
  | zero => simp [aloneN]
  | succ k ih =>
    unfold aloneN
    split
    · apply or_lt ih
      by_cases hk : k < l.length
      · simp [hk, h _ (List.getElem_mem hk)]
      · simp [List.getD, List.getElem?_eq_none (Nat.le_of_not_lt hk)]
    · exact ih
theorem restN_holds {rs : List RuleD} {null : Nat} {body : List ByteArray} {k : Nat} : holdsB null (restN (body.map (setN (hsOf rs))) k) = true ↔ ∀ m (hm : m < body.length), m ≠ k → null.testBit (symIdx (hsOf rs) body[m]) = true := by
  unfold restN
  rw [holdsB_iff]
  constructor
  · intro h m hm hne
    apply h
    rw [Nat.testBit_or, Bool.or_eq_true, joinAll_bit, joinAll_bit]
    rcases Nat.lt_or_gt_of_ne hne with hl | hl
    · left
      refine ⟨setN (hsOf rs) body[m], ?_, (setN_bit _ _ _).2 rfl⟩
      rw [List.mem_take_iff_getElem]
      exact ⟨m, by rw [List.length_map]; omega, by simp⟩
    · right
      refine ⟨setN (hsOf rs) body[m], ?_, (setN_bit _ _ _).2 rfl⟩
      rw [List.mem_drop_iff_getElem]
      refine ⟨m - (k + 1), by rw [List.length_map]; omega, ?_⟩
      simp only [List.getElem_map]
      congr 2
      omega
  · intro h j hj
    rw [Nat.testBit_or, Bool.or_eq_true, joinAll_bit, joinAll_bit] at hj
    rcases hj with ⟨x, hx, hb⟩ | ⟨x, hx, hb⟩
    · rw [List.mem_take_iff_getElem] at hx
      obtain ⟨m, hm, rfl⟩ := hx
      rw [List.length_map] at hm
      rw [List.getElem_map, setN_bit] at hb
      rw [← hb]; exact h m (by omega) (by omega)
    · rw [List.mem_drop_iff_getElem] at hx
      obtain ⟨m, hm, rfl⟩ := hx
      rw [List.length_map] at hm
      rw [List.getElem_map, setN_bit] at hb
      rw [← hb]; exact h _ (by omega) (by omega)
theorem takes_alone (rs : List RuleD) {null : Nat} {nul : ByteArray → Prop} (hn : ∀ i (hi : i < rs.length), ∀ s ∈ rs[i].body, (null.testBit (symIdx (hsOf rs) s) = true ↔ nul s)) : Takes rs (fun l => aloneN null l l.length) (tkAlone nul) := by
  intro i hi b
  have key : ∀ k, k ≤ rs[i].body.length → ∀ b, (aloneN null (rs[i].body.map (setN (hsOf rs))) k).testBit b = true ↔ ∃ q, ∃ h : q < rs[i].body.length, q < k ∧ symIdx (hsOf rs) rs[i].body[q] = b ∧ ∀ m (hm : m < rs[i].body.length), m ≠ q → nul rs[i].body[m] := by
    intro k
    induction k with
    | zero => intro _ b; simp [aloneN]
    | succ k ih =>
      intro hk b
      have hbk : k < rs[i].body.length := by omega
      have hd : (rs[i].body.map (setN (hsOf rs))).getD k 0 = setN (hsOf rs) rs[i].body[k] := by simp [hbk]
      have hr : holdsB null (restN (rs[i].body.map (setN (hsOf rs))) k) = true ↔ ∀ m (hm : m < rs[i].body.length), m ≠ k → nul rs[i].body[m] := by
        rw [restN_holds]
        exact ⟨fun h m hm hne => (hn i hi _ (List.getElem_mem hm)).1 (h m hm hne), fun h m hm hne => (hn i hi _ (List.getElem_mem hm)).2 (h m hm hne)⟩
      unfold aloneN
      rw [hd]
      by_cases hh : holdsB null (restN (rs[i].body.map (setN (hsOf rs))) k) = true
      · rw [if_pos hh, Nat.testBit_or, Bool.or_eq_true, ih (by omega), setN_bit]
        constructor
        · rintro (⟨q, h1, h2, h3, h4⟩ | h)
          · exact ⟨q, h1, by omega, h3, h4⟩
          · exact ⟨k, hbk, by omega, h, hr.1 hh⟩
        · rintro ⟨q, h1, h2, h3, h4⟩
          by_cases e : q = k
          · subst e; exact .inr h3
          · exact .inl ⟨q, h1, by omega, h3, h4⟩
      · rw [if_neg hh, ih (by omega)]
        constructor
        · rintro ⟨q, h1, h2, h3, h4⟩; exact ⟨q, h1, by omega, h3, h4⟩
        · rintro ⟨q, h1, h2, h3, h4⟩
          by_cases e : q = k
          · subst e; exact absurd (hr.2 h4) hh
          · exact ⟨q, h1, by omega, h3, h4⟩
  simp only [List.length_map]
  rw [key _ (Nat.le_refl _)]
  constructor
  · rintro ⟨q, h1, _, h3, h4⟩; exact ⟨rs[i].body[q], ⟨q, h1, rfl, h4⟩, h3⟩
  · rintro ⟨s, ⟨q, h1, rfl, h4⟩, h3⟩; exact ⟨q, h1, h1, h3, h4⟩
end Go.Proofs.Ytlgedjpolmlciaa
