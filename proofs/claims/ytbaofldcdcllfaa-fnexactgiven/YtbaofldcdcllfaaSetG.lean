/- What a grammar of sets reads as in memory, and how its list of rules grows. -/
import Derived.Test.YtbaofldcdcllfaaCom
import Derived.Test.YtbaofldcdcllfaaTxt
import Derived.Deep.AppendLies
namespace Go.Proofs.Ytbaofldcdcllfaa
open Go.RowKit

/-- rules of sets: three cells each -/
def RulesN (w : World) (hi : Nat) (v : Value) (rl : List RuleN) : Prop :=
  ∃ A c, v = .slice A rl.length c ∧ rl.length ≤ c ∧ c ≤ maxLen ∧
    (0 < rl.length → ∃ b off, A = some ⟨b, off, none⟩ ∧ b < hi ∧ ∀ i (h : i < rl.length), rl[i].num ≤ 1000 ∧ rl[i].head < 4194304 ∧
      w.cell? ⟨b, off + i * 3, none⟩ = some (.int .i64 (rl[i].num : Nat)) ∧ w.cell? ⟨b, off + i * 3 + 1, none⟩ = some (.int .u32 (rl[i].head : Nat)) ∧
      ∃ u, w.cell? ⟨b, off + i * 3 + 2, none⟩ = some u ∧ BitsAt w hi u rl[i].body)
theorem RulesN.below {w w' : World} {hi : Nat} {v : Value} {rl : List RuleN} (h : RulesN w hi v rl) {B : Nat} (k : Below B w w') (hB : hi ≤ B) : RulesN w' hi v rl := by
  obtain ⟨A, c, h1, h2, h3, h5⟩ := h
  refine ⟨A, c, h1, h2, h3, fun hp => ?_⟩
  obtain ⟨b, off, e, hl, hc⟩ := h5 hp
  refine ⟨b, off, e, hl, fun i hi => ?_⟩
  obtain ⟨a1, a2, a3, a4, u, a5, a6⟩ := hc i hi
  exact ⟨a1, a2, (k.cell (p := ⟨b, off + i * 3, none⟩) (by show b < B; omega)).trans a3, (k.cell (p := ⟨b, off + i * 3 + 1, none⟩) (by show b < B; omega)).trans a4, u,
    (k.cell (p := ⟨b, off + i * 3 + 2, none⟩) (by show b < B; omega)).trans a5, a6.below k hB⟩
theorem RulesN.more {w : World} {hi hi' : Nat} {v : Value} {rl : List RuleN} (h : RulesN w hi v rl) (hh : hi ≤ hi') : RulesN w hi' v rl := by
  obtain ⟨A, c, h1, h2, h3, h5⟩ := h
  refine ⟨A, c, h1, h2, h3, fun hp => ?_⟩
  obtain ⟨b, off, e, hl, hc⟩ := h5 hp
  refine ⟨b, off, e, by omega, fun i hi => ?_⟩
  obtain ⟨a1, a2, a3, a4, u, a5, a6⟩ := hc i hi
  exact ⟨a1, a2, a3, a4, u, a5, a6.more hh⟩
theorem RulesN.nil (w : World) (hi : Nat) : RulesN w hi (.slice none 0 0) [] := ⟨none, 0, rfl, Nat.le_refl _, by unfold maxLen; omega, fun h => by simp at h⟩
theorem Strs.nil (w : World) (lo hi : Nat) : Strs w lo hi (.slice none 0 0) [] := ⟨none, 0, rfl, Nat.le_refl _, by unfold maxLen; omega, by simp, fun h => by simp at h⟩
/-- a grammar of sets -/
def SetsG (w : World) (hi : Nat) (v : Value) (hs : List ByteArray) (rl : List RuleN) : Prop := ∃ hv rv, v = .agg #[hv, rv] ∧ Strs w 0 hi hv hs ∧ RulesN w hi rv rl
theorem SetsG.below {w w' : World} {hi : Nat} {v : Value} {hs : List ByteArray} {rl : List RuleN} (h : SetsG w hi v hs rl) {B : Nat} (k : Below B w w') (hB : hi ≤ B) : SetsG w' hi v hs rl := by
  obtain ⟨hv, rv, e, h1, h2⟩ := h
  exact ⟨hv, rv, e, h1.below k hB, h2.below k hB⟩
theorem SetsG.more {w : World} {hi hi' : Nat} {v : Value} {hs : List ByteArray} {rl : List RuleN} (h : SetsG w hi v hs rl) (hh : hi ≤ hi') : SetsG w hi' v hs rl := by
  obtain ⟨hv, rv, e, h1, h2⟩ := h
  exact ⟨hv, rv, e, h1.more (Nat.le_refl _) hh, h2.more hh⟩
theorem SetsG.form {w : World} {hi : Nat} {v : Value} {hs : List ByteArray} {rl : List RuleN} (h : SetsG w hi v hs rl) :
    ∃ A c B d, v = .agg #[.slice A hs.length c, .slice B rl.length d] ∧ Strs w 0 hi (.slice A hs.length c) hs ∧ RulesN w hi (.slice B rl.length d) rl := by
  obtain ⟨hv, rv, rfl, h1, h2⟩ := h
  have h1' := h1
  have h2' := h2
  obtain ⟨A, c, rfl, -⟩ := h1'
  obtain ⟨B, d, rfl, -⟩ := h2'
  exact ⟨A, c, B, d, rfl, h1, h2⟩

/-- a list of sets that stands ahead of base, or in a block of sets -/
def BitsX (w : World) (base : Nat) (v : Value) (l : List Nat) : Prop :=
  ∃ A c, v = .slice A l.length c ∧ l.length ≤ c ∧ c ≤ maxLen ∧ (∀ x ∈ l, x < 4194304) ∧
    (0 < l.length → ∃ b off, A = some ⟨b, off, none⟩ ∧ b < w.heap.size ∧ (b < base ∨ ∃ cur, Row w b 160 cur) ∧ ∀ i (h : i < l.length), w.cell? ⟨b, off + i, none⟩ = some (.int .u32 (l[i] : Nat)))
theorem BitsX.at {w : World} {base : Nat} {v : Value} {l : List Nat} (h : BitsX w base v l) : BitsAt w w.heap.size v l := by
  obtain ⟨A, c, h1, h2, h3, h4, h5⟩ := h
  refine ⟨A, c, h1, h2, h3, h4, fun hp => ?_⟩
  obtain ⟨b, off, e, hb, _, hc⟩ := h5 hp
  exact ⟨b, off, e, hb, hc⟩
theorem BitsAt.x {w : World} {base hi : Nat} {v : Value} {l : List Nat} (h : BitsAt w hi v l) (h1 : hi ≤ base) (h2 : base ≤ w.heap.size) : BitsX w base v l := by
  obtain ⟨A, c, a1, a2, a3, a4, a5⟩ := h
  refine ⟨A, c, a1, a2, a3, a4, fun hp => ?_⟩
  obtain ⟨b, off, e, hb, hc⟩ := a5 hp
  exact ⟨b, off, e, by omega, .inl (by omega), hc⟩
theorem BitsX.move {w w' : World} {base : Nat} {v : Value} {l : List Nat} (h : BitsX w base v l) (hs : w.heap.size ≤ w'.heap.size) (hk : ∀ b, b < w.heap.size → (b < base ∨ ∃ cur, Row w b 160 cur) → w'.heap[b]? = w.heap[b]?) : BitsX w' base v l := by
  obtain ⟨A, c, h1, h2, h3, h4, h5⟩ := h
  refine ⟨A, c, h1, h2, h3, h4, fun hp => ?_⟩
  obtain ⟨b, off, e, hb, ho, hc⟩ := h5 hp
  have hkb := hk b hb ho
  exact ⟨b, off, e, by omega, ho.imp id fun ⟨cur, hr⟩ => ⟨cur, hr.same hkb⟩, fun i hi => (World.cell?_of_block (w := w) hkb).trans (hc i hi)⟩
/-- sets in a row of the call's own -/
def Nts (w : World) (base : Nat) (v : Value) (l : List Nat) : Prop := w.ownsRow base 160 1 v l.length (l.map fun (x : Nat) => Value.int .u32 (x : Int))
theorem Nts.nil (w : World) (base : Nat) : Nts w base (.slice none 0 0) [] := World.ownsRow_nil _ _ _ _
theorem Nts.one {w : World} {base : Nat} {v : Value} {l : List Nat} (x : Nat) (h : w.ownsRow base 160 1 v (l.length + 1) ((l.map fun (x : Nat) => Value.int .u32 (x : Int)) ++ [.int .u32 (x : Int)])) : Nts w base v (l ++ [x]) := by
  unfold Nts
  rw [List.length_append, List.map_append]
  exact h
theorem Nts.x {w : World} {base bb : Nat} {v : Value} {l : List Nat} (h : Nts w base v l) (hz : ∀ x ∈ l, x < 4194304) : BitsX w bb v l := by
  rcases h.2 with ⟨rfl, h0⟩ | ⟨g, cap, cur, rfl, hb, hh, hc, hm, hs, ht⟩
  · obtain rfl : l = [] := List.eq_nil_of_length_eq_zero h0
    exact ⟨none, 0, rfl, Nat.le_refl _, by unfold maxLen; omega, by simp, fun h => by simp at h⟩
  · have hr : Row w g 160 cur := hh
    refine ⟨_, cap, rfl, hc, hm, hz, fun _ => ⟨g, 0, rfl, hr.lt, .inr ⟨cur, hr⟩, fun i hi => ?_⟩⟩
    have h1 : (cur.toList.take (l.length * 1))[i]? = some (.int .u32 (l[i] : Nat)) := by rw [ht, List.getElem?_map, List.getElem?_eq_getElem hi]; rfl
    rw [List.getElem?_take_of_lt (by omega)] at h1
    rw [Nat.zero_add, hr.cell, ← Array.getElem?_toList]
    exact h1

def flatN (xs : List (RuleN × Value)) : List Value := xs.flatMap fun x => [.int .i64 (x.1.num : Int), .int .u32 (x.1.head : Int), x.2]
theorem flatN_snoc (xs : List (RuleN × Value)) (x : RuleN × Value) : flatN (xs ++ [x]) = flatN xs ++ [.int .i64 (x.1.num : Int), .int .u32 (x.1.head : Int), x.2] := by simp [flatN]
theorem flatN_at (xs : List (RuleN × Value)) (i : Nat) (h : i < xs.length) : (flatN xs)[i * 3]? = some (.int .i64 (xs[i].1.num : Int)) ∧ (flatN xs)[i * 3 + 1]? = some (.int .u32 (xs[i].1.head : Int)) ∧ (flatN xs)[i * 3 + 2]? = some xs[i].2 := by
  induction xs generalizing i with
  | nil => simp at h
  | cons x l ih =>
    cases i with
    | zero => exact ⟨rfl, rfl, rfl⟩
    | succ i =>
      have := ih i (by simpa using h)
      have e : flatN (x :: l) = .int .i64 (x.1.num : Int) :: .int .u32 (x.1.head : Int) :: x.2 :: flatN l := rfl
      rw [e, show (i + 1) * 3 = i * 3 + 1 + 1 + 1 by omega]
      simpa using this
def GrowN (w : World) (base bb : Nat) (v : Value) (xs : List (RuleN × Value)) : Prop :=
  w.ownsRow base 163 3 v xs.length (flatN xs) ∧ ∀ x ∈ xs, x.1.num ≤ 1000 ∧ x.1.head < 4194304 ∧ BitsX w bb x.2 x.1.body
theorem GrowN.nil (w : World) (base bb : Nat) : GrowN w base bb (.slice none 0 0) [] := ⟨World.ownsRow_nil _ _ _ _, by simp⟩
theorem GrowN.move {w w' : World} {base bb : Nat} {v : Value} {xs : List (RuleN × Value)} (h : GrowN w base bb v xs) (hs : w.heap.size ≤ w'.heap.size)
    (h1 : ∀ g, v.ownBlock = some g → w'.heap[g]? = w.heap[g]?) (h2 : ∀ b, b < w.heap.size → (b < bb ∨ ∃ cur, Row w b 160 cur) → w'.heap[b]? = w.heap[b]?) : GrowN w' base bb v xs := by
  obtain ⟨a, b⟩ := h
  refine ⟨⟨a.1, ?_⟩, fun x hx => ?_⟩
  · rcases a.2 with a2 | ⟨g, cap, cur, rfl, hb, hh, r⟩
    · exact .inl a2
    · exact .inr ⟨g, cap, cur, rfl, hb, (h1 g rfl).trans hh, r⟩
  · obtain ⟨b1, b2, b3⟩ := b x hx
    exact ⟨b1, b2, b3.move hs h2⟩
theorem GrowN.below {w w' : World} {base bb : Nat} {v : Value} {xs : List (RuleN × Value)} (h : GrowN w base bb v xs) (k : Below w.heap.size w w') : GrowN w' base bb v xs :=
  h.move k.size (fun g hg => k.block g (h.1.lt g hg).2) (fun b hb _ => k.block b hb)
theorem GrowN.away {w : World} {base bb : Nat} {v : Value} {xs : List (RuleN × Value)} (h : GrowN w base bb v xs) {p : Addr} {t : TypeId} {cur : Array Value} (hr : Row w p.block t cur) (h1 : t ≠ 163) (h2 : t ≠ 160) (hp : bb ≤ p.block) (u : Value) : GrowN (w.setCell p u) base bb v xs := by
  refine h.move (by simp [World.setCell]) (fun g hg => Below.heap_setCell _ _ _ _ ?_) (fun b hb ho => Below.heap_setCell _ _ _ _ ?_)
  · rcases h.1.2 with ⟨rfl, _⟩ | ⟨g', cap, c', rfl, _, hh, _⟩
    · simp [Value.ownBlock] at hg
    · have : g' = g := by simpa [Value.ownBlock] using hg
      subst this
      exact fun e => hr.apart (t' := 163) (cur' := c') hh h1 e.symm
  · rcases ho with ho | ⟨cu, hu⟩
    · omega
    · exact fun e => hr.apart hu h2 e.symm
theorem GrowN.snoc {w w' : World} {base bb : Nat} {v v' : Value} {xs : List (RuleN × Value)} {r : RuleN} {u : Value} (h : GrowN w base bb v xs)
    (ho : w'.ownsRow base 163 3 v' (xs.length + 1) (flatN xs ++ [.int .i64 (r.num : Int), .int .u32 (r.head : Int), u])) (hg : w.grownBy w' v.ownBlock)
    (h1 : r.num ≤ 1000) (h2 : r.head < 4194304) (h3 : BitsX w bb u r.body) (hbb : bb ≤ base) : GrowN w' base bb v' (xs ++ [(r, u)]) := by
  obtain ⟨a, b⟩ := h
  have keep : ∀ b, b < w.heap.size → (b < bb ∨ ∃ cur, Row w b 160 cur) → w'.heap[b]? = w.heap[b]? := fun b hb hob => by
    refine hg.block b hb fun e => ?_
    rcases a.2 with ⟨rfl, _⟩ | ⟨g', cap, c', rfl, hgb, hh, _⟩
    · simp [Value.ownBlock] at e
    · have : b = g' := by simpa [Value.ownBlock] using e
      subst this
      rcases hob with hob | ⟨cu, hu⟩
      · omega
      · exact hu.apart (t' := 163) (cur' := c') hh (by decide) rfl
  refine ⟨?_, fun x hx => ?_⟩
  · rw [flatN_snoc, List.length_append]; exact ho
  · rw [List.mem_append, List.mem_singleton] at hx
    rcases hx with hx | rfl
    · obtain ⟨b1, b2, b3⟩ := b x hx
      exact ⟨b1, b2, b3.move hg.size keep⟩
    · exact ⟨h1, h2, h3.move hg.size keep⟩
theorem GrowN.done {w : World} {base bb : Nat} {v : Value} {xs : List (RuleN × Value)} (h : GrowN w base bb v xs) : RulesN w w.heap.size v (xs.map (·.1)) := by
  obtain ⟨a, b⟩ := h
  rcases a.2 with ⟨rfl, h0⟩ | ⟨g, cap, cur, rfl, hb, hh, hc, hm, hs, ht⟩
  · obtain rfl : xs = [] := List.eq_nil_of_length_eq_zero h0
    exact RulesN.nil _ _
  · have hr : Row w g 163 cur := hh
    refine ⟨_, cap, by rw [List.length_map], by rw [List.length_map]; exact hc, hm, fun hp => ⟨g, 0, rfl, hr.lt, fun i hi => ?_⟩⟩
    rw [List.length_map] at hi
    obtain ⟨b1, b2, b3⟩ := b xs[i] (List.getElem_mem hi)
    obtain ⟨f1, f2, f3⟩ := flatN_at xs i hi
    have cell : ∀ j, j < xs.length * 3 → w.cell? ⟨g, 0 + j, none⟩ = (flatN xs)[j]? := fun j hj => by
      rw [Nat.zero_add, hr.cell, ← ht, List.getElem?_take_of_lt hj, Array.getElem?_toList]
    simp only [List.getElem_map]
    refine ⟨b1, b2, (cell (i * 3) (by omega)).trans f1, ?_, xs[i].2, ?_, b3.at⟩
    · rw [Nat.add_assoc]; exact (cell (i * 3 + 1) (by omega)).trans f2
    · rw [Nat.add_assoc]; exact (cell (i * 3 + 2) (by omega)).trans f3
end Go.Proofs.Ytbaofldcdcllfaa
