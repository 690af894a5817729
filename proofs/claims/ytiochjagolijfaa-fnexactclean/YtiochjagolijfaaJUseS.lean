import Derived.Test.YtiochjagolijfaaReachS
import Derived.Test.YtiochjagolijfaaJUseI
/- The walk of the model's Reachable; a list of yes and no that is filled place by place. -/
namespace Go.Proofs.Ytiochjagolijfaa
open Go.RowKit

theorem Try.infoBool : (Try.prog.info? 4).map (fun i => (i.zero, i.size, i.bytes)) = some (some (.bool false), 1, 1) := by kernel_rfl
/-- k of a list of yes and no are laid in block g -/
def GoodTo (w : World) (g : Nat) (gs : List Bool) (k : Nat) : Prop :=
  ∃ cur, Row w g 4 cur ∧ cur.size = gs.length ∧ ∀ i (h : i < gs.length), i < k → cur[i]? = some (.bool gs[i])
theorem GoodTo.start (w : World) (gs : List Bool) (z : Array Value) (n : Nat) (hn : n = gs.length) : GoodTo (w.alloc (.cells (madeCells z n) 4)) w.heap.size gs 0 := by
  subst hn
  exact ⟨_, Row.made w _ _, size_madeCells _ _, fun _ _ h => by omega⟩
theorem GoodTo.row {w : World} {g k : Nat} {gs : List Bool} (h : GoodTo w g gs k) : ∃ cur, Row w g 4 cur ∧ cur.size = gs.length := by
  obtain ⟨cur, h1, h2, _⟩ := h
  exact ⟨cur, h1, h2⟩
theorem GoodTo.step {w : World} {g k : Nat} {gs : List Bool} (h : GoodTo w g gs k) (hk : k < gs.length) {b : Bool} (hb : gs[k] = b) : GoodTo (w.setCell ⟨g, k, none⟩ (.bool b)) g gs (k + 1) := by
  subst hb
  obtain ⟨cur, h1, h2, h3⟩ := h
  refine ⟨_, h1.put k _, by simp [h2], fun i hi hik => ?_⟩
  by_cases e : i = k
  · subst e
    rw [Array.getElem?_setIfInBounds_self_of_lt (by omega)]
  · rw [Array.getElem?_setIfInBounds_ne (by omega)]
    exact h3 i hi (by omega)
theorem GoodTo.below {w w' : World} {g k B : Nat} {gs : List Bool} (h : GoodTo w g gs k) (b : Below B w w') (hB : g < B) : GoodTo w' g gs k := by
  obtain ⟨cur, h1, h2, h3⟩ := h
  exact ⟨cur, h1.below b hB, h2, h3⟩
theorem GoodTo.done {w : World} {g : Nat} {gs : List Bool} (h : GoodTo w g gs gs.length) (hm : gs.length ≤ maxLen) {n : Nat} (hn : n = gs.length) : BoolsAt w (g + 1) (.slice (some ⟨g, 0, none⟩) n n) gs := by
  subst hn
  obtain ⟨cur, h1, h2, h3⟩ := h
  exact ⟨_, _, rfl, Nat.le_refl _, hm, fun _ => ⟨g, 0, rfl, by omega, fun i hi => by rw [Nat.zero_add, h1.cell]; exact h3 i hi hi⟩⟩

theorem ixOf_true (n : Nat) : ixOf (List.replicate n true) = List.range n := by
  unfold ixOf
  rw [List.length_replicate]
  apply List.filter_eq_self.2
  intro i hi
  rw [List.mem_range] at hi
  simp [hi]
theorem reachOf_f {rs : List RuleD} (h : gramB rs = false) : reachOf rs = [] := by unfold reachOf; rw [headsOf_f h]; rfl
theorem reachOf_t {rs : List RuleD} (h : gramB rs = true) : reachOf rs = reachBy rs (ixOf (List.replicate rs.length true)) := by
  unfold reachOf reachBy; rw [headsOf_t h, ixOf_true]; rfl

end Go.Proofs.Ytiochjagolijfaa

/- The walks of the model's l03Useful and Useful. -/
namespace Go.Proofs.Ytiochjagolijfaa
open Go.RowKit

theorem comOf_mem {tok : Bool} {rs : List RuleD} (h : gramB rs = true) {s : ByteArray} : s ∈ comOf tok rs ↔ Com tok rs s := by
  unfold comOf
  rw [headsOf_t h, List.mem_filter]
  constructor
  · rintro ⟨_, h2⟩; simpa using h2
  · intro h2; exact ⟨h2.in, by simpa using h2⟩
noncomputable def goodAt (rs : List RuleD) (k : Nat) : Bool := allB (ruleAt rs k).body (comOf true rs) true
noncomputable def goodL (rs : List RuleD) : List Bool := (List.range rs.length).map (goodAt rs)
theorem goodL_len (rs : List RuleD) : (goodL rs).length = rs.length := by simp [goodL]
theorem goodL_at {rs : List RuleD} {k : Nat} (h : k < (goodL rs).length) : (goodL rs)[k] = goodAt rs k := by simp [goodL]
theorem goodAt_iff {rs : List RuleD} (h : gramB rs = true) (k : Nat) : goodAt rs k = true ↔ Good rs k := by
  unfold goodAt Good
  rw [allB_iff]
  constructor
  · intro hh s hs
    cases ht : tokB s
    · exact .inr ((comOf_mem h).1 (hh s hs (by rw [ht]; rfl)))
    · exact .inl rfl
  · intro hh s hs ht
    rcases hh s hs with h1 | h1
    · rw [h1] at ht; cases ht
    · exact (comOf_mem h).2 h1
open Classical in
theorem ixOf_good {rs : List RuleD} (h : gramB rs = true) : ixOf (goodL rs) = goodIx rs := by
  unfold ixOf goodIx
  rw [goodL_len]
  apply List.filter_congr
  intro i hi
  rw [List.mem_range] at hi
  rw [Bool.eq_iff_iff, decide_eq_true_eq, ← goodAt_iff h]
  have : (goodL rs).getD i false = goodAt rs i := by simp [goodL, hi]
  rw [this]
noncomputable def useB (rs : List RuleD) (k : Nat) : Bool := goodAt rs k && (inB (comOf true rs) (ruleAt rs k).head && inB (reachBy rs (ixOf (goodL rs))) (ruleAt rs k).head)
noncomputable def useTo (rs : List RuleD) (k : Nat) : List Int := ((List.range k).filter (useB rs)).map fun (i : Nat) => (i : Int)
theorem useTo_t {rs : List RuleD} {k : Nat} (h : useB rs k = true) : useTo rs (k + 1) = useTo rs k ++ [(k : Int)] := by
  unfold useTo; rw [List.range_succ, List.filter_append]; simp [h]
theorem useTo_f {rs : List RuleD} {k : Nat} (h : useB rs k = false) : useTo rs (k + 1) = useTo rs k := by
  unfold useTo; rw [List.range_succ, List.filter_append]; simp [h]
theorem useTo_len (rs : List RuleD) (k : Nat) : (useTo rs k).length ≤ k := by
  unfold useTo
  rw [List.length_map]
  refine Nat.le_trans (List.length_filter_le _ _) ?_
  rw [List.length_range]; exact Nat.le_refl _
open Classical in
theorem useTo_all {rs : List RuleD} (h : gramB rs = true) : useTo rs rs.length = usefulOf rs := by
  unfold useTo usefulOf
  rw [useOf_t h]
  congr 1
  unfold useIx goodIx
  rw [List.filter_filter]
  apply List.filter_congr
  intro i hi
  rw [List.mem_range] at hi
  rw [Bool.eq_iff_iff]
  unfold useB
  rw [Bool.and_eq_true, Bool.and_eq_true, Bool.and_eq_true, goodAt_iff h, decide_eq_true_eq, decide_eq_true_eq, ixOf_good h, ruleAt_eq hi]
  have hm := hs_all hi
  have h1 : inB (reachBy rs (goodIx rs)) rs[i].head = true ↔ Rch rs (goodIx rs) rs[i].head := by
    rw [inB_iff]
    unfold reachBy
    rw [List.mem_filter]
    simp [hm]
  have h2 : Good rs i → inB (comOf true rs) rs[i].head = true := fun hg => by
    rw [inB_iff, comOf_mem h]
    refine .mk i hi fun s hs ht => ?_
    unfold Good at hg
    rw [ruleAt_eq hi] at hg
    rcases hg s hs with e | e
    · rw [e] at ht; cases ht
    · exact e
  rw [h1]
  change _ ↔ Rch rs (goodIx rs) rs[i].head ∧ _
  constructor
  · rintro ⟨a, _, b⟩; exact ⟨b, a⟩
  · rintro ⟨b, a⟩; exact ⟨a, h2 a, b⟩

theorem usefulOf_f {rs : List RuleD} (h : gramB rs = false) : usefulOf rs = [] := by unfold usefulOf; rw [useOf_f h]; rfl
end Go.Proofs.Ytiochjagolijfaa
