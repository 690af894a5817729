import Derived.Test.YtlgedjpolmlciaaUseV
import Derived.Test.YtlgedjpolmlciaaInts
import Derived.Test.YtlgedjpolmlciaaJGmd
/- The program's Useful. -/
namespace Go.Proofs.Ytlgedjpolmlciaa
open Go.RowKit

/-- all of a rule's body may come to tokens alone -/
def Good (rs : List RuleD) (i : Nat) : Prop := ∀ s ∈ (ruleAt rs i).body, tokB s = true ∨ Com true rs s
open Classical in
noncomputable def goodIx (rs : List RuleD) : List Nat := (List.range rs.length).filter fun i => decide (Good rs i)
open Classical in
noncomputable def useIx (rs : List RuleD) : List Nat := (goodIx rs).filter fun i => decide (Rch rs (goodIx rs) (ruleAt rs i).head)
noncomputable def useOf (rs : List RuleD) : List Nat := if gramB rs = true then useIx rs else []
theorem useOf_t {rs : List RuleD} (h : gramB rs = true) : useOf rs = useIx rs := if_pos h
theorem useOf_f {rs : List RuleD} (h : gramB rs = false) : useOf rs = [] := if_neg (by rw [h]; decide)
theorem goodIx_lt {rs : List RuleD} : ∀ i ∈ goodIx rs, i < rs.length := fun _ hi => List.mem_range.1 (List.mem_filter.1 hi).1
theorem useIx_lt {rs : List RuleD} : ∀ i ∈ useIx rs, i < rs.length := fun _ hi => goodIx_lt _ (List.mem_filter.1 hi).1
theorem useIx_len {rs : List RuleD} : (useIx rs).length ≤ rs.length := by
  refine Nat.le_trans (List.length_filter_le _ _) ?_
  refine Nat.le_trans (List.length_filter_le _ _) ?_
  rw [List.length_range]; exact Nat.le_refl _
theorem keepN_rnl {rs : List RuleD} {ix : List Nat} {p : RuleN → Bool} {q : Nat → Bool} (h : ∀ i ∈ ix, p (rn rs i) = !q i) : keepN p (rnl rs ix) = rnl rs (ix.filter q) := by
  unfold keepN rnl
  rw [List.filter_map]
  congr 1
  apply List.filter_congr
  intro i hi
  simp [h i hi]
open Classical in
theorem use_at {rs : List RuleD} {rl' : List RuleN} (h : UseAt (rlOf rs) rl') : rl' = rnl rs (useOf rs) := by
  obtain ⟨m1, m2, h1, h2, rfl⟩ := h
  cases hq : gramB rs
  · rw [rlOf_f hq, useOf_f hq]; rfl
  · have R := Rt.of hq
    rw [rlOf_t hq] at h1 h2 ⊢
    rw [useOf_t hq]
    have e1 : keepN (notProd m1) (rnl rs (List.range rs.length)) = rnl rs (goodIx rs) := by
      apply keepN_rnl
      intro i hi
      rw [List.mem_range] at hi
      unfold notProd
      congr 1
      rw [Bool.eq_iff_iff, decide_eq_true_eq]
      unfold rn
      rw [body_holds]
      unfold Good
      constructor
      · intro h s hs
        have := (com_bits R true h1 s).1 (h s hs)
        simpa using this
      · intro h s hs
        apply (com_bits R true h1 s).2
        simpa using h s hs
    rw [e1] at h2 ⊢
    apply keepN_rnl
    intro i hi
    have hil := goodIx_lt i hi
    unfold notReached
    congr 1
    rw [Bool.eq_iff_iff, decide_eq_true_eq]
    unfold rn
    rw [ruleAt_eq hil]
    simp only
    rw [hold_set]
    exact reach_bit R goodIx_lt h2 (hs_all hil)
theorem rlOf_few (rs : List RuleD) : (rlOf rs).length ≤ 20 := by
  cases hq : gramB rs
  · rw [rlOf_f hq]; simp
  · rw [rlOf_t hq, rnl_len, List.length_range]; exact (Rt.of hq).few
noncomputable def usefulOf (rs : List RuleD) : List Int := (useOf rs).map fun (i : Nat) => (i : Int)
theorem useOf_few (rs : List RuleD) : (useOf rs).length ≤ 20 := by
  cases hq : gramB rs
  · rw [useOf_f hq]; simp
  · rw [useOf_t hq]; exact Nat.le_trans useIx_len (Rt.of hq).few
theorem usefulOf_len (rs : List RuleD) : (usefulOf rs).length ≤ 1000 := by
  have := useOf_few rs
  unfold usefulOf; rw [List.length_map]; omega

end Go.Proofs.Ytlgedjpolmlciaa

/- A list of Mades that grows by append; what hangs from each stands in blocks of its own, or ahead of all. Their Kids are variables. No program stands in this text but its types' numbers. -/
namespace Go.Proofs.Ytlgedjpolmlciaa
open Go.RowKit

structure GyAt (w : World) (base : Nat) (x : Gx) : Prop where
  head : x.m.head.size ≤ maxLen
  top : TopM x.m.term
  body : ∃ bl bh, Strs w bl bh x.u x.m.body ∧ (bh ≤ base ∨ (x.e ≤ bl ∧ bh ≤ x.h))
  kids : OI w x.l x.e x.x x.m.term.kids
  ord : base ≤ x.l ∧ x.l ≤ x.e ∧ x.e ≤ x.h ∧ x.h ≤ w.heap.size
theorem GyAt.keep {w w' : World} {base : Nat} {x : Gx} (a : GyAt w base x) (hs : w.heap.size ≤ w'.heap.size) (k0 : Keeps 0 base w w') (k : Keeps x.l x.h w w') : GyAt w' base x where
  head := a.head
  top := a.top
  body := by
    obtain ⟨bl, bh, h1, h2⟩ := a.body
    refine ⟨bl, bh, h1.keep ?_, h2⟩
    rcases h2 with h2 | ⟨h2, h3⟩
    · exact k0.mono (Nat.zero_le _) h2
    · exact k.mono (by have := a.ord; omega) h3
  kids := a.kids.keep (k.mono (Nat.le_refl _) a.ord.2.2.1)
  ord := ⟨a.ord.1, a.ord.2.1, a.ord.2.2.1, Nat.le_trans a.ord.2.2.2 hs⟩
structure GrowF (w : World) (base : Nat) (v : Value) (xs : List Gx) : Prop where
  row : w.ownsRow base 53 5 v xs.length (flatD xs)
  each : ∀ x ∈ xs, GyAt w base x
  pair : xs.Pairwise fun a b => a.h ≤ b.l
  out : ∀ g, v.ownBlock = some g → ∀ x ∈ xs, g < x.l ∨ x.h ≤ g
theorem GrowF.nil (w : World) (base : Nat) : GrowF w base (.slice none 0 0) [] := ⟨World.ownsRow_nil _ _ _ _, by simp, List.Pairwise.nil, by simp⟩
theorem GrowF.move {w w' : World} {base : Nat} {v : Value} {xs : List Gx} (a : GrowF w base v xs) (hs : w.heap.size ≤ w'.heap.size)
    (h1 : ∀ g, v.ownBlock = some g → w'.heap[g]? = w.heap[g]?) (h2 : ∀ x ∈ xs, Keeps x.l x.h w w') (h0 : Keeps 0 base w w') : GrowF w' base v xs where
  row := by
    refine ⟨a.row.1, ?_⟩
    rcases a.row.2 with a2 | ⟨g, cap, cur, rfl, hb, hh, r⟩
    · exact .inl a2
    · exact .inr ⟨g, cap, cur, rfl, hb, (h1 g rfl).trans hh, r⟩
  each := fun x hx => (a.each x hx).keep hs h0 (h2 x hx)
  pair := a.pair
  out := a.out
theorem GrowF.below {w w' : World} {base : Nat} {v : Value} {xs : List Gx} (a : GrowF w base v xs) (hb : base ≤ w.heap.size) (k : Below w.heap.size w w') : GrowF w' base v xs :=
  a.move k.size (fun g hg => k.block g (a.row.lt g hg).2) (fun x hx p _ hp => k.block p (by have := (a.each x hx).ord; omega)) fun p _ hp => k.block p (by omega)
theorem GrowF.snoc {w w' : World} {base g cap : Nat} {v : Value} {xs : List Gx} {y : Gx} (a : GrowF w base v xs) (hy : GyAt w base y) (hx : ∀ x ∈ xs, x.h ≤ y.l) (hv : ∀ q, v.ownBlock = some q → q < y.l)
    (ho : w'.ownsRow base 53 5 (.slice (some ⟨g, 0, none⟩) (xs.length + 1) cap) (xs.length + 1) (flatD xs ++ y.cells)) (hg : w.grownBy w' v.ownBlock) (hat : v.ownBlock = some g ∨ g = w.heap.size) :
    GrowF w' base (.slice (some ⟨g, 0, none⟩) (xs.length + 1) cap) (xs ++ [y]) where
  row := by rw [flatD_snoc, List.length_append]; exact ho
  each := fun x hm => by
    rw [List.mem_append, List.mem_singleton] at hm
    rcases hm with hm | rfl
    · refine (a.each x hm).keep hg.size (fun p _ p2 => hg.block p (by have := (a.each x hm).ord; omega) fun e => by have := (a.row.lt p e.symm).1; omega) fun p p1 p2 => hg.block p (by have := (a.each x hm).ord; omega) fun e => ?_
      have := a.out p e.symm x hm
      omega
    · refine hy.keep hg.size (fun p _ p2 => hg.block p (by have := hy.ord; omega) fun e => by have := (a.row.lt p e.symm).1; omega) fun p p1 p2 => hg.block p (by have := hy.ord; omega) fun e => ?_
      have := hv p e.symm
      omega
  pair := by
    rw [List.pairwise_append]
    refine ⟨a.pair, by simp, fun x h1 z h2 => ?_⟩
    rw [List.mem_singleton] at h2
    subst h2
    exact hx x h1
  out := fun q hq x hm => by
    obtain rfl : g = q := by simpa [Value.ownBlock] using hq
    rw [List.mem_append, List.mem_singleton] at hm
    rcases hat with e | rfl
    · rcases hm with hm | rfl
      · exact a.out _ e x hm
      · exact .inl (hv _ e)
    · rcases hm with hm | rfl
      · exact .inr (a.each x hm).ord.2.2.2
      · exact .inr hy.ord.2.2.2
/-- what it reads as -/
theorem GrowF.dm {w : World} {base : Nat} {v : Value} {xs : List Gx} (a : GrowF w base v xs) : DM true w 0 w.heap.size v (xs.map (·.m)) := by
  rcases a.row.2 with ⟨rfl, h0⟩ | ⟨g, cap, cur, rfl, hb, hh, hc, hm, hs, ht⟩
  · obtain rfl : xs = [] := List.eq_nil_of_length_eq_zero h0
    exact ⟨none, 0, rfl, Nat.le_refl _, by unfold maxLen; omega, fun h => by simp at h⟩
  · have hr : Row w g 53 cur := hh
    refine ⟨some ⟨g, 0, none⟩, cap, by simp, by simpa using hc, hm, fun hp => ⟨g, 0, rfl, Nat.zero_le _, hr.lt, fun _ => ⟨_, _, hr⟩, fun i hi => ?_⟩⟩
    have hi' : i < xs.length := by simpa using hi
    have q := a.each xs[i] (List.getElem_mem hi')
    have cell : ∀ j, j < 5 → cur[i * 5 + j]? = xs[i].cells[j]? := fun j hj => by
      rw [← flatD_at xs i j hi' hj, ← ht, List.getElem?_take_of_lt (by omega), Array.getElem?_toList]
    rw [List.getElem_map]
    have c0 := cell 0 (by omega)
    rw [Nat.add_zero] at c0
    refine ⟨q.head, q.top, by rw [Nat.zero_add, hr.cell, c0]; rfl, xs[i].u, xs[i].x, ?_, ?_, ?_, ?_, ?_, q.kids.km.more (Nat.zero_le _) (by have := q.ord; omega)⟩
    · rw [Nat.zero_add, hr.cell, cell 1 (by omega)]; rfl
    · rw [Nat.zero_add, hr.cell, cell 2 (by omega)]; rfl
    · rw [Nat.zero_add, hr.cell, cell 3 (by omega)]; rfl
    · rw [Nat.zero_add, hr.cell, cell 4 (by omega)]; rfl
    · obtain ⟨bl, bh, h1, h2⟩ := q.body
      exact h1.more (Nat.zero_le _) (by have := q.ord; omega)

/-- variables, in order -/
def varsD (n : Nat) : List TermD := (List.range n).map fun (i : Nat) => .node 2 (i : Int) []
theorem varsD_len (n : Nat) : (varsD n).length = n := by simp [varsD]
theorem varsD_at (n i : Nat) (h : i < (varsD n).length) : (varsD n)[i] = .node 2 (i : Int) [] := by simp [varsD]
theorem varsD_size (n : Nat) : sizeMs (varsD n) = n := by
  induction n with
  | zero => simp [varsD, sizeMs]
  | succ n ih =>
    unfold varsD at ih ⊢
    rw [List.range_succ, List.map_append, sizeMs_append, ih]
    simp [sizeMs, sizeM_eq, TermD.kids]
def flatV (n : Nat) : List Value := (List.range n).flatMap fun (i : Nat) => [.int .i64 2, .int .i64 (i : Int), .slice none 0 0]
theorem flatV_succ (n : Nat) : flatV (n + 1) = flatV n ++ [.int .i64 2, .int .i64 (n : Int), .slice none 0 0] := by simp [flatV, List.range_succ]
theorem flatV_len (n : Nat) : (flatV n).length = n * 3 := by
  induction n with
  | zero => rfl
  | succ n ih => rw [flatV_succ, List.length_append, ih]; simp; omega
theorem flatV_at (n i : Nat) (h : i < n) : (flatV n)[i * 3]? = some (.int .i64 2) ∧ (flatV n)[i * 3 + 1]? = some (.int .i64 (i : Int)) ∧ (flatV n)[i * 3 + 2]? = some (.slice none 0 0) := by
  induction n with
  | zero => omega
  | succ n ih =>
    have hl := flatV_len n
    rw [flatV_succ]
    by_cases e : i = n
    · subst e
      refine ⟨?_, ?_, ?_⟩
      · rw [List.getElem?_append_right (by omega), hl, Nat.sub_self]; rfl
      · rw [List.getElem?_append_right (by omega), hl, show i * 3 + 1 - i * 3 = 1 by omega]; rfl
      · rw [List.getElem?_append_right (by omega), hl, show i * 3 + 2 - i * 3 = 2 by omega]; rfl
    · obtain ⟨a, b, c⟩ := ih (by omega)
      refine ⟨?_, ?_, ?_⟩
      · rw [List.getElem?_append_left (by omega)]; exact a
      · rw [List.getElem?_append_left (by omega)]; exact b
      · rw [List.getElem?_append_left (by omega)]; exact c
/-- variables that were appended one by one -/
theorem vars_oi {w : World} {base n : Nat} {v : Value} (h : w.ownsRow base 39 3 v n (flatV n)) (hn : n ≤ 2097152) : OI w base w.heap.size v (varsD n) := by
  rcases h.2 with ⟨rfl, h0⟩ | ⟨g, cap, cur, rfl, hb, hh, hc, hm, hs, ht⟩
  · subst h0
    exact OI.none w _ _ 0 none (by unfold maxLen; omega)
  · have hr : Row w g 39 cur := hh
    have cell : ∀ j, j < n * 3 → cur[j]? = (flatV n)[j]? := fun j hj => by rw [← ht, List.getElem?_take_of_lt hj, Array.getElem?_toList]
    have key : OI w base w.heap.size (.slice (some ⟨g, 0, none⟩) (varsD n).length cap) (varsD n) := by
      refine .mk _ _ _ cap _ (fun _ => .slice none 0 0) (fun _ => base) (fun _ => base) (by rw [varsD_len]; exact hc) hm (fun i hi => ?_) (fun _ => ⟨g, cur, rfl, hb, hr.lt, hr, by rw [varsD_len]; omega, fun i hi => ?_⟩) (fun i hi => ⟨Nat.le_refl _, Nat.le_refl _, by have := hr.lt; omega⟩) (fun i j _ _ _ => .inl (Nat.le_refl _)) (fun i hi => ?_)
      · rw [varsD_at]
        rw [varsD_len] at hi
        unfold TopM
        simp only [TermD.num, TermD.kind]
        omega
      · rw [varsD_at]
        rw [varsD_len] at hi
        obtain ⟨a, b, c⟩ := flatV_at n i hi
        exact ⟨by rw [cell _ (by omega)]; exact a, by rw [cell _ (by omega)]; exact b, by rw [cell _ (by omega)]; exact c, .inl hb⟩
      · rw [varsD_at]
        exact OI.none w _ _ 0 none (by unfold maxLen; omega)
    rw [varsD_len] at key
    exact key
/-- the Made of a Rule, and those of the useful ones -/
def givenD (rs : List RuleD) (n : Nat) : MadeD := ⟨(ruleAt rs n).head, (ruleAt rs n).body, .node 1 (n : Int) (varsD (ruleAt rs n).body.length)⟩
noncomputable def givenOf (rs : List RuleD) : List MadeD := (useOf rs).map (givenD rs)
end Go.Proofs.Ytlgedjpolmlciaa
