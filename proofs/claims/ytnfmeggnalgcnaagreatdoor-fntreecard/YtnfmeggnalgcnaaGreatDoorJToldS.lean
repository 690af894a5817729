import Derived.Test.YtnfmeggnalgcnaaGreatDoorJEar
import Derived.Test.YtnfmeggnalgcnaaGreatDoorJTxt
import Derived.Deep.AppendLies
import Derived.Test.YtnfmeggnalgcnaaGreatDoorJSetN
import Derived.Shelf.Abstract
import Derived.Test.YtnfmeggnalgcnaaGreatDoorJHeadsS
/- What a grammar of sets reads as in memory, and how its list of rules grows. -/
namespace Go.Proofs.YtnfmeggnalgcnaaGreatDoor
open Go.RowKit

/-- rules of sets: three cells each -/
def RulesN (w : World) (hi : Nat) (v : Value) (rl : List RuleN) : Prop :=
  ∃ A c, v = .slice A rl.length c ∧ rl.length ≤ c ∧ c ≤ maxLen ∧
    (0 < rl.length → ∃ b off, A = some ⟨b, off, none⟩ ∧ b < hi ∧ ∀ i (h : i < rl.length), rl[i].num ≤ 1000 ∧ rl[i].head < 4194304 ∧
      w.cell? ⟨b, off + i * 3, none⟩ = some (.int .i64 (rl[i].num : Nat)) ∧ w.cell? ⟨b, off + i * 3 + 1, none⟩ = some (.int .u32 (rl[i].head : Nat)) ∧
      ∃ u, w.cell? ⟨b, off + i * 3 + 2, none⟩ = some u ∧ BitsAt w hi u rl[i].body)
theorem RulesN.below {w w' : World} {hi : Nat} {v : Value} {rl : List RuleN} (h : RulesN w hi v rl) {B : Nat} (k : Below B w w') (hB : hi ≤ B) : RulesN w' hi v rl := by
  obtain ⟨A, c, h1, h2, h3, h5⟩ := h
  refine ⟨A, c, h1, h2, h3, fun hp => ?_⟩
  obtain ⟨b, off, e, hl, hc⟩ := h5 hp
  refine ⟨b, off, e, hl, fun i hi => ?_⟩
  obtain ⟨a1, a2, a3, a4, u, a5, a6⟩ := hc i hi
  exact ⟨a1, a2, (k.cell (p := ⟨b, off + i * 3, none⟩) (by show b < B; omega)).trans a3, (k.cell (p := ⟨b, off + i * 3 + 1, none⟩) (by show b < B; omega)).trans a4, u,
    (k.cell (p := ⟨b, off + i * 3 + 2, none⟩) (by show b < B; omega)).trans a5, a6.below k hB⟩
theorem RulesN.more {w : World} {hi hi' : Nat} {v : Value} {rl : List RuleN} (h : RulesN w hi v rl) (hh : hi ≤ hi') : RulesN w hi' v rl := by
  obtain ⟨A, c, h1, h2, h3, h5⟩ := h
  refine ⟨A, c, h1, h2, h3, fun hp => ?_⟩
  obtain ⟨b, off, e, hl, hc⟩ := h5 hp
  refine ⟨b, off, e, by omega, fun i hi => ?_⟩
  obtain ⟨a1, a2, a3, a4, u, a5, a6⟩ := hc i hi
  exact ⟨a1, a2, a3, a4, u, a5, a6.more hh⟩
theorem RulesN.nil (w : World) (hi : Nat) : RulesN w hi (.slice none 0 0) [] := ⟨none, 0, rfl, Nat.le_refl _, by unfold maxLen; omega, fun h => by simp at h⟩
theorem Strs.nil (w : World) (lo hi : Nat) : Strs w lo hi (.slice none 0 0) [] := ⟨none, 0, rfl, Nat.le_refl _, by unfold maxLen; omega, by simp, fun h => by simp at h⟩
/-- a grammar of sets -/
def SetsG (w : World) (hi : Nat) (v : Value) (hs : List ByteArray) (rl : List RuleN) : Prop := ∃ hv rv, v = .agg #[hv, rv] ∧ Strs w 0 hi hv hs ∧ RulesN w hi rv rl
theorem SetsG.below {w w' : World} {hi : Nat} {v : Value} {hs : List ByteArray} {rl : List RuleN} (h : SetsG w hi v hs rl) {B : Nat} (k : Below B w w') (hB : hi ≤ B) : SetsG w' hi v hs rl := by
  obtain ⟨hv, rv, e, h1, h2⟩ := h
  exact ⟨hv, rv, e, h1.below k hB, h2.below k hB⟩
theorem SetsG.more {w : World} {hi hi' : Nat} {v : Value} {hs : List ByteArray} {rl : List RuleN} (h : SetsG w hi v hs rl) (hh : hi ≤ hi') : SetsG w hi' v hs rl := by
  obtain ⟨hv, rv, e, h1, h2⟩ := h
  exact ⟨hv, rv, e, h1.more (Nat.le_refl _) hh, h2.more hh⟩
theorem SetsG.form {w : World} {hi : Nat} {v : Value} {hs : List ByteArray} {rl : List RuleN} (h : SetsG w hi v hs rl) :
    ∃ A c B d, v = .agg #[.slice A hs.length c, .slice B rl.length d] ∧ Strs w 0 hi (.slice A hs.length c) hs ∧ RulesN w hi (.slice B rl.length d) rl := by
  obtain ⟨hv, rv, rfl, h1, h2⟩ := h
  have h1' := h1
  have h2' := h2
  obtain ⟨A, c, rfl, -⟩ := h1'
  obtain ⟨B, d, rfl, -⟩ := h2'
  exact ⟨A, c, B, d, rfl, h1, h2⟩

/-- a list of sets that stands ahead of base, or in a block of sets -/
def BitsX (w : World) (base : Nat) (v : Value) (l : List Nat) : Prop :=
  ∃ A c, v = .slice A l.length c ∧ l.length ≤ c ∧ c ≤ maxLen ∧ (∀ x ∈ l, x < 4194304) ∧
    (0 < l.length → ∃ b off, A = some ⟨b, off, none⟩ ∧ b < w.heap.size ∧ (b < base ∨ ∃ cur, Row w b 142 cur) ∧ ∀ i (h : i < l.length), w.cell? ⟨b, off + i, none⟩ = some (.int .u32 (l[i] : Nat)))
theorem BitsX.at {w : World} {base : Nat} {v : Value} {l : List Nat} (h : BitsX w base v l) : BitsAt w w.heap.size v l := by
  obtain ⟨A, c, h1, h2, h3, h4, h5⟩ := h
  refine ⟨A, c, h1, h2, h3, h4, fun hp => ?_⟩
  obtain ⟨b, off, e, hb, _, hc⟩ := h5 hp
  exact ⟨b, off, e, hb, hc⟩
theorem BitsAt.x {w : World} {base hi : Nat} {v : Value} {l : List Nat} (h : BitsAt w hi v l) (h1 : hi ≤ base) (h2 : base ≤ w.heap.size) : BitsX w base v l := by
  obtain ⟨A, c, a1, a2, a3, a4, a5⟩ := h
  refine ⟨A, c, a1, a2, a3, a4, fun hp => ?_⟩
  obtain ⟨b, off, e, hb, hc⟩ := a5 hp
  exact ⟨b, off, e, by omega, .inl (by omega), hc⟩
theorem BitsX.move {w w' : World} {base : Nat} {v : Value} {l : List Nat} (h : BitsX w base v l) (hs : w.heap.size ≤ w'.heap.size) (hk : ∀ b, b < w.heap.size → (b < base ∨ ∃ cur, Row w b 142 cur) → w'.heap[b]? = w.heap[b]?) : BitsX w' base v l := by
  obtain ⟨A, c, h1, h2, h3, h4, h5⟩ := h
  refine ⟨A, c, h1, h2, h3, h4, fun hp => ?_⟩
  obtain ⟨b, off, e, hb, ho, hc⟩ := h5 hp
  have hkb := hk b hb ho
  exact ⟨b, off, e, by omega, ho.imp id fun ⟨cur, hr⟩ => ⟨cur, hr.same hkb⟩, fun i hi => (World.cell?_of_block (w := w) hkb).trans (hc i hi)⟩
/-- sets in a row of the call's own -/
def Nts (w : World) (base : Nat) (v : Value) (l : List Nat) : Prop := w.ownsRow base 142 1 v l.length (l.map fun (x : Nat) => Value.int .u32 (x : Int))
theorem Nts.nil (w : World) (base : Nat) : Nts w base (.slice none 0 0) [] := World.ownsRow_nil _ _ _ _
theorem Nts.one {w : World} {base : Nat} {v : Value} {l : List Nat} (x : Nat) (h : w.ownsRow base 142 1 v (l.length + 1) ((l.map fun (x : Nat) => Value.int .u32 (x : Int)) ++ [.int .u32 (x : Int)])) : Nts w base v (l ++ [x]) := by
  unfold Nts
  rw [List.length_append, List.map_append]
  exact h
theorem Nts.x {w : World} {base bb : Nat} {v : Value} {l : List Nat} (h : Nts w base v l) (hz : ∀ x ∈ l, x < 4194304) : BitsX w bb v l := by
  rcases h.2 with ⟨rfl, h0⟩ | ⟨g, cap, cur, rfl, hb, hh, hc, hm, hs, ht⟩
  · obtain rfl : l = [] := List.eq_nil_of_length_eq_zero h0
    exact ⟨none, 0, rfl, Nat.le_refl _, by unfold maxLen; omega, by simp, fun h => by simp at h⟩
  · have hr : Row w g 142 cur := hh
    refine ⟨_, cap, rfl, hc, hm, hz, fun _ => ⟨g, 0, rfl, hr.lt, .inr ⟨cur, hr⟩, fun i hi => ?_⟩⟩
    have h1 : (cur.toList.take (l.length * 1))[i]? = some (.int .u32 (l[i] : Nat)) := by rw [ht, List.getElem?_map, List.getElem?_eq_getElem hi]; rfl
    rw [List.getElem?_take_of_lt (by omega)] at h1
    rw [Nat.zero_add, hr.cell, ← Array.getElem?_toList]
    exact h1

def flatN (xs : List (RuleN × Value)) : List Value := xs.flatMap fun x => [.int .i64 (x.1.num : Int), .int .u32 (x.1.head : Int), x.2]
theorem flatN_snoc (xs : List (RuleN × Value)) (x : RuleN × Value) : flatN (xs ++ [x]) = flatN xs ++ [.int .i64 (x.1.num : Int), .int .u32 (x.1.head : Int), x.2] := by simp [flatN]
theorem flatN_at (xs : List (RuleN × Value)) (i : Nat) (h : i < xs.length) : (flatN xs)[i * 3]? = some (.int .i64 (xs[i].1.num : Int)) ∧ (flatN xs)[i * 3 + 1]? = some (.int .u32 (xs[i].1.head : Int)) ∧ (flatN xs)[i * 3 + 2]? = some xs[i].2 := by
  induction xs generalizing i with
  | nil => simp at h
  | cons x l ih =>
    cases i with
    | zero => exact ⟨rfl, rfl, rfl⟩
    | succ i =>
      have := ih i (by simpa using h)
      have e : flatN (x :: l) = .int .i64 (x.1.num : Int) :: .int .u32 (x.1.head : Int) :: x.2 :: flatN l := rfl
      rw [e, show (i + 1) * 3 = i * 3 + 1 + 1 + 1 by omega]
      simpa using this
def GrowN (w : World) (base bb : Nat) (v : Value) (xs : List (RuleN × Value)) : Prop :=
  w.ownsRow base 145 3 v xs.length (flatN xs) ∧ ∀ x ∈ xs, x.1.num ≤ 1000 ∧ x.1.head < 4194304 ∧ BitsX w bb x.2 x.1.body
theorem GrowN.nil (w : World) (base bb : Nat) : GrowN w base bb (.slice none 0 0) [] := ⟨World.ownsRow_nil _ _ _ _, by simp⟩
theorem GrowN.move {w w' : World} {base bb : Nat} {v : Value} {xs : List (RuleN × Value)} (h : GrowN w base bb v xs) (hs : w.heap.size ≤ w'.heap.size)
    (h1 : ∀ g, v.ownBlock = some g → w'.heap[g]? = w.heap[g]?) (h2 : ∀ b, b < w.heap.size → (b < bb ∨ ∃ cur, Row w b 142 cur) → w'.heap[b]? = w.heap[b]?) : GrowN w' base bb v xs := by
  obtain ⟨a, b⟩ := h
  refine ⟨⟨a.1, ?_⟩, fun x hx => ?_⟩
  · rcases a.2 with a2 | ⟨g, cap, cur, rfl, hb, hh, r⟩
    · exact .inl a2
    · exact .inr ⟨g, cap, cur, rfl, hb, (h1 g rfl).trans hh, r⟩
  · obtain ⟨b1, b2, b3⟩ := b x hx
    exact ⟨b1, b2, b3.move hs h2⟩
theorem GrowN.below {w w' : World} {base bb : Nat} {v : Value} {xs : List (RuleN × Value)} (h : GrowN w base bb v xs) (k : Below w.heap.size w w') : GrowN w' base bb v xs :=
  h.move k.size (fun g hg => k.block g (h.1.lt g hg).2) (fun b hb _ => k.block b hb)
theorem GrowN.away {w : World} {base bb : Nat} {v : Value} {xs : List (RuleN × Value)} (h : GrowN w base bb v xs) {p : Addr} {t : TypeId} {cur : Array Value} (hr : Row w p.block t cur) (h1 : t ≠ 145) (h2 : t ≠ 142) (hp : bb ≤ p.block) (u : Value) : GrowN (w.setCell p u) base bb v xs := by
  refine h.move (by simp [World.setCell]) (fun g hg => Below.heap_setCell _ _ _ _ ?_) (fun b hb ho => Below.heap_setCell _ _ _ _ ?_)
  · rcases h.1.2 with ⟨rfl, _⟩ | ⟨g', cap, c', rfl, _, hh, _⟩
    · simp [Value.ownBlock] at hg
    · have : g' = g := by simpa [Value.ownBlock] using hg
      subst this
      exact fun e => hr.apart (t' := 145) (cur' := c') hh h1 e.symm
  · rcases ho with ho | ⟨cu, hu⟩
    · omega
    · exact fun e => hr.apart hu h2 e.symm
theorem GrowN.snoc {w w' : World} {base bb : Nat} {v v' : Value} {xs : List (RuleN × Value)} {r : RuleN} {u : Value} (h : GrowN w base bb v xs)
    (ho : w'.ownsRow base 145 3 v' (xs.length + 1) (flatN xs ++ [.int .i64 (r.num : Int), .int .u32 (r.head : Int), u])) (hg : w.grownBy w' v.ownBlock)
    (h1 : r.num ≤ 1000) (h2 : r.head < 4194304) (h3 : BitsX w bb u r.body) (hbb : bb ≤ base) : GrowN w' base bb v' (xs ++ [(r, u)]) := by
  obtain ⟨a, b⟩ := h
  have keep : ∀ b, b < w.heap.size → (b < bb ∨ ∃ cur, Row w b 142 cur) → w'.heap[b]? = w.heap[b]? := fun b hb hob => by
    refine hg.block b hb fun e => ?_
    rcases a.2 with ⟨rfl, _⟩ | ⟨g', cap, c', rfl, hgb, hh, _⟩
    · simp [Value.ownBlock] at e
    · have : b = g' := by simpa [Value.ownBlock] using e
      subst this
      rcases hob with hob | ⟨cu, hu⟩
      · omega
      · exact hu.apart (t' := 145) (cur' := c') hh (by decide) rfl
  refine ⟨?_, fun x hx => ?_⟩
  · rw [flatN_snoc, List.length_append]; exact ho
  · rw [List.mem_append, List.mem_singleton] at hx
    rcases hx with hx | rfl
    · obtain ⟨b1, b2, b3⟩ := b x hx
      exact ⟨b1, b2, b3.move hg.size keep⟩
    · exact ⟨h1, h2, h3.move hg.size keep⟩
theorem GrowN.done {w : World} {base bb : Nat} {v : Value} {xs : List (RuleN × Value)} (h : GrowN w base bb v xs) : RulesN w w.heap.size v (xs.map (·.1)) := by
  obtain ⟨a, b⟩ := h
  rcases a.2 with ⟨rfl, h0⟩ | ⟨g, cap, cur, rfl, hb, hh, hc, hm, hs, ht⟩
  · obtain rfl : xs = [] := List.eq_nil_of_length_eq_zero h0
    exact RulesN.nil _ _
  · have hr : Row w g 145 cur := hh
    refine ⟨_, cap, by rw [List.length_map], by rw [List.length_map]; exact hc, hm, fun hp => ⟨g, 0, rfl, hr.lt, fun i hi => ?_⟩⟩
    rw [List.length_map] at hi
    obtain ⟨b1, b2, b3⟩ := b xs[i] (List.getElem_mem hi)
    obtain ⟨f1, f2, f3⟩ := flatN_at xs i hi
    have cell : ∀ j, j < xs.length * 3 → w.cell? ⟨g, 0 + j, none⟩ = (flatN xs)[j]? := fun j hj => by
      rw [Nat.zero_add, hr.cell, ← ht, List.getElem?_take_of_lt hj, Array.getElem?_toList]
    simp only [List.getElem_map]
    refine ⟨b1, b2, (cell (i * 3) (by omega)).trans f1, ?_, xs[i].2, ?_, b3.at⟩
    · rw [Nat.add_assoc]; exact (cell (i * 3 + 1) (by omega)).trans f2
    · rw [Nat.add_assoc]; exact (cell (i * 3 + 2) (by omega)).trans f3
end Go.Proofs.YtnfmeggnalgcnaaGreatDoor

/- The walks of joinSets, holds, wholeBody and fixedPoint. -/
namespace Go.Proofs.YtnfmeggnalgcnaaGreatDoor
open Go.RowKit

set_option maxHeartbeats 1000000 in
theorem joinSets_any (v : Value) (l : List Nat) (hi : Nat) (w : World) (h : BitsAt w hi v l) :
    Calls Tryz.prog 102 #[v] w fun e w' => e = .returned (.int .u32 ((joinAll l : Nat) : Int)) ∧ w = w' := by
  obtain ⟨A, c, rfl, hlc, hc, hsz, hcell⟩ := h
  unfold maxLen at hc
  have HC := Lib.hid hcell
  have HZ := Lib.hid hsz
  clear hcell hsz
  go_enter Tryz.func102, Tryz.ntmps102
  go_wp2
  go_loop [3, 5, 8] (fun o _ i => ∃ k : Nat, k ≤ l.length ∧ i = .int .i64 k ∧ o = .int .u32 ((joinAll (l.take k) : Nat) : Int)) (fun _ _ i => l.length - (intOf i).toNat)
  case atStart => exact ⟨0, by omega, rfl, rfl⟩
  case round =>
    obtain ⟨k, hk, rfl, rfl⟩ := hrel
    by_cases hlt : k < l.length
    · obtain ⟨b, off, rfl, _, hcc⟩ := HC.out (by omega)
      have hck := hcc k hlt
      clear hcc
      have h1 := joinAll_take_lt HZ.out k
      have h2 := HZ.out _ (List.getElem_mem hlt)
      have hor := or_eq _ _ h1 h2
      rw [← joinAll_take hlt] at hor
      go_wp2
      go_round
      case rel => exact ⟨k + 1, by omega, by go_num, rfl⟩
      case measure => simp [intOf]; omega
    · have hks : k = l.length := by omega
      subst hks
      go_wp2
      go_ret
      exact ⟨rfl, rfl⟩

theorem joinTwo_any (g a b : Nat) (t : TypeId) (w : World) (h : Row w g t #[.int .u32 (a : Int), .int .u32 (b : Int)]) (ha : a < 4194304) (hb : b < 4194304) :
    Calls Tryz.prog 102 #[.slice (some ⟨g, 0, none⟩) 2 2] w fun e w' => e = .returned (.int .u32 ((a ||| b : Nat) : Int)) ∧ w = w' := by
  have := joinSets_any _ [a, b] _ w (BitsAt.two h ha hb)
  rwa [joinAll_two] at this

set_option maxHeartbeats 400000 in
theorem holds_any (s o : Nat) (w : World) (hs : s < 4194304) (ho : o < 4194304) :
    Calls Tryz.prog 88 #[.int .u32 (s : Int), .int .u32 (o : Int)] w fun e w' => e = .returned (.bool (holdsB s o)) ∧ w = w' := by
  have he := holds_eq s o hs ho
  go_enter Tryz.func88, Tryz.ntmps88
  go_wp2
  go_ret
  exact ⟨rfl, rfl⟩

set_option maxHeartbeats 400000 in
theorem wholeBody_any (v : Value) (l : List Nat) (hi : Nat) (w : World) (h : BitsAt w hi v l) :
    Calls Tryz.prog 89 #[v] w fun e w' => e = .returned (.int .u32 ((joinAll l : Nat) : Int)) ∧ w = w' := by
  have HV := Lib.hid h
  obtain ⟨A, c, rfl, -⟩ := h
  go_enter Tryz.func89, Tryz.ntmps89
  go_wp2_with fail
  refine (joinSets_any _ l hi _ HV.out).mono ?_
  rintro e w1 ⟨rfl, rfl⟩
  go_wp2
  go_ret
  exact ⟨rfl, rfl⟩

/-- a function value that makes a set of a set -/
def MakesSet (g : Nat) (lb : Array Value) (F : Nat → Nat) (w : World) : Prop :=
  ∀ (W : World) (k : Nat), k < 4194304 → Below w.heap.size w W → Calls Tryz.prog g (#[.int .u32 (k : Int)] ++ lb) W fun e w' => e = .returned (.int .u32 ((F k : Nat) : Int)) ∧ Below W.heap.size W w'

set_option maxRecDepth 100000 in
set_option maxHeartbeats 1000000 in
theorem fixedPoint_any (g : Nat) (lb : Array Value) (eg : Enters Tryz.prog g) (F : Nat → Nat) (b : Nat) (w : World) (hb : b < 4194304) (hF : ∀ k, k < 4194304 → F k < 4194304) (hp : MakesSet g lb F w) :
    Calls Tryz.prog 108 #[.int .u32 (b : Int), .func (.func g) #[] lb] w fun e w' => ∃ n : Nat, e = .returned (.int .u32 (n : Int)) ∧ FixAt F b n ∧ Below w.heap.size w w' := by
  have HP := Lib.hid hp
  have HF := Lib.hid hF
  unfold Enters at eg
  clear hp hF
  go_enter Tryz.func108, Tryz.ntmps108
  go_wp2
  go_loopw [0, 5] (fun x _ wr => ∃ k : Nat, k < 4194304 ∧ x = .int .u32 (k : Int) ∧ Below w.heap.size w wr ∧ (∀ i, b.testBit i = true → k.testBit i = true) ∧ (∀ P : Nat → Prop, P b → (∀ k, k < 4194304 → P k → P (k ||| F k)) → P k)) (fun x _ _ => 4194304 - (intOf x).toNat)
  case atStart => exact ⟨b, hb, rfl, Below.refl _ _, fun _ h => h, fun P h _ => h⟩
  case round =>
    obtain ⟨k, hk, rfl, hbw, hsub, hind⟩ := hrel
    have HS := Lib.hid hsub
    have HI := Lib.hid hind
    have hsw := hbw.size
    clear hsub hind
    have cS : Calls Tryz.prog g (#[.int .u32 (k : Int)] ++ lb) wr _ := HP.out wr k hk hbw
    have hFk := HF.out k hk
    have hol := or_lt hk hFk
    go_wp2_with (go_at_fn g; refine cS.mono ?_; rintro e W1 ⟨rfl, b1⟩)
    have R1 := Row.made W1 142 #[.int .u32 (k : Int), .int .u32 ((F k : Nat) : Int)]
    have B1 : Below w.heap.size w (W1.alloc (.cells #[.int .u32 (k : Int), .int .u32 ((F k : Nat) : Int)] 142)) := (hbw.trans (b1.mono hsw)).trans ((al1 W1 _).mono (Nat.le_trans hsw b1.size))
    refine (joinTwo_any _ k (F k) _ _ R1 hk hFk).mono ?_
    rintro e w2 ⟨rfl, rfl⟩
    clear R1 cS b1
    by_cases he : k ||| F k = k
    · have HE := Lib.hid he
      have hd : (((k ||| F k : Nat) : Int) == (k : Int)) = true := by rw [he]; simp
      clear he
      go_wp2
      go_ret
      refine ⟨k, rfl, ⟨hk, HS.out, fun i hi => ?_, HI.out⟩, B1⟩
      rw [← HE.out, Nat.testBit_or, hi, Bool.or_true]
    · have hd : (((k ||| F k : Nat) : Int) == (k : Int)) = false := by rw [beq_eq_false_iff_ne]; intro e; exact he (Int.ofNat.inj e)
      have hle : k ≤ k ||| F k := Nat.left_le_or
      go_wp2
      go_roundw
      case rel => exact ⟨k ||| F k, hol, rfl, B1, fun i hi => by rw [Nat.testBit_or, HS.out i hi, Bool.true_or], fun P h0 h1 => h1 k hk (HI.out P h0 h1)⟩
      case measure => simp [intOf]; omega
end Go.Proofs.YtnfmeggnalgcnaaGreatDoor

/- The walk of setOf. -/
namespace Go.Proofs.YtnfmeggnalgcnaaGreatDoor
open Go.RowKit

theorem symIdx_hit {hs : List ByteArray} {s : ByteArray} {k : Nat} (ht : tokB s = false) (hk : k < hs.length) (he : hs[k] = s) (hall : ∀ j (h : j < hs.length), j < k → hs[j] ≠ s) : symIdx hs s = k := by
  have hf : hs.findIdx (fun t => decide (t = s)) = k := by
    rw [List.findIdx_eq hk]
    exact ⟨by simpa using he, fun j hj => by simpa using hall j (by omega) hj⟩
  unfold symIdx
  rw [ht, if_neg (by decide), hf, if_pos hk]
theorem symIdx_miss {hs : List ByteArray} {s : ByteArray} (ht : tokB s = false) (hall : ∀ j (h : j < hs.length), hs[j] ≠ s) : symIdx hs s = 21 := by
  have hf : ¬ hs.findIdx (fun t => decide (t = s)) < hs.length := by
    intro h
    have := List.findIdx_getElem (w := h)
    exact hall _ h (by simpa using this)
  unfold symIdx
  rw [ht, if_neg (by decide), if_neg hf]
theorem ret_u32 {a b : Int} (h : a = b) : Ending.returned (.int .u32 a) = .returned (.int .u32 b) := by rw [h]
theorem shl_eq (k : Nat) (h : k < 22) : ((2 : Int) ^ k % 4294967296) = ((2 ^ k : Nat) : Int) := by
  have h1 : 2 ^ k < 2 ^ 22 := Nat.pow_lt_pow_right (a := 2) (by omega) h
  have h2 : ((2 : Int) ^ k) = ((2 ^ k : Nat) : Int) := by simp
  rw [h2]
  generalize 2 ^ k = m at h1 ⊢
  omega
theorem symIdx_tok {hs : List ByteArray} {s : ByteArray} (ht : tokB s = true) : symIdx hs s = 20 := if_pos ht

set_option maxRecDepth 100000 in
set_option maxHeartbeats 1000000 in
theorem setOf_any (hs : List ByteArray) (rv : Value) (rl : List RuleN) (A : Option Addr) (c : Nat) (B : Option Addr) (d : Nat) (s : ByteArray) (hi : Nat) (w : World) (h : Strs w 0 hi (.slice A hs.length c) hs) (hr : rv = .slice B rl.length d) (hh : hi ≤ w.heap.size) (hl : hs.length ≤ 20) :
    Calls Tryz.prog 84 #[.agg #[.slice A hs.length c, rv], .string s] w fun e w' => e = .returned (.int .u32 ((setN hs s : Nat) : Int)) ∧ Below w.heap.size w w' := by
  subst hr
  obtain ⟨A', c', e', hlc, hc, hsz, hcell⟩ := h
  injection e' with e1 _ e2
  subst e1 e2
  unfold maxLen at hc
  have HC := Lib.hid hcell
  clear hcell hsz
  have hb := al1 w (.cells #[.slice A hs.length c, .slice B rl.length d] 138)
  have R0 := Row.made w 138 #[.slice A hs.length c, .slice B rl.length d]
  cases ht : tokB s
  · have HT := Lib.hid ht
    clear ht
    go_enter Tryz.func84, Tryz.ntmps84
    go_wp2_with fail
    refine (implIsToken_any _ _).mono ?_
    rintro e w1 ⟨rfl, b1⟩
    rw [HT.out]
    have R1 := R0.below b1 (by simp)
    have c0 := R1.cell 0
    simp at c0
    have hb1 := hb.trans (b1.mono (by simp))
    have hs1 := hb1.size
    clear R0 R1 b1 hb
    go_wp2
    go_loop [5, 6, 12] (fun _ _ i => ∃ k : Nat, k ≤ hs.length ∧ i = .int .i64 k ∧ ∀ j (h : j < hs.length), j < k → hs[j] ≠ s) (fun _ _ i => hs.length - (intOf i).toNat)
    case atStart => exact ⟨0, by omega, rfl, fun j _ hj => by omega⟩
    case round =>
      obtain ⟨k, hk, rfl, hall⟩ := hrel
      have HA := Lib.hid hall
      clear hall
      by_cases hlt : k < hs.length
      · obtain ⟨b, off, rfl, _, hbh, hcc⟩ := HC.out (by omega)
        have hck := (hb1.cell (p := ⟨b, off + k, none⟩) (by show b < _; omega)).trans (hcc k hlt)
        clear hcc
        by_cases he : hs[k] = s
        · have d1 : (hs[k].toList == s.toList) = true := by rw [list_eqH, decide_eq_true he]
          have HX := Lib.hid (symIdx_hit HT.out hlt he HA.out)
          clear he
          go_wp2
          go_ret
          exact ⟨ret_u32 (by rw [shl_eq k (by omega)]; unfold setN; rw [HX.out]), hb1⟩
        · have d1 : (hs[k].toList == s.toList) = false := by rw [list_eqH, decide_eq_false he]
          go_wp2
          go_round
          case rel => exact ⟨k + 1, by omega, by go_num, fun j hj hjk => by
            by_cases e : j = k
            · subst e; exact he
            · exact HA.out j hj (by omega)⟩
          case measure => simp [intOf]; omega
      · have HX : Hid (symIdx hs s = 21) := Lib.hid (symIdx_miss HT.out fun j hj => HA.out j hj (by omega))
        go_wp2
        go_ret
        exact ⟨by unfold setN; rw [HX.out]; rfl, hb1⟩
  · have HT := Lib.hid ht
    have HX := Lib.hid (symIdx_tok (hs := hs) ht)
    clear ht
    go_enter Tryz.func84, Tryz.ntmps84
    go_wp2_with fail
    refine (implIsToken_any _ _).mono ?_
    rintro e w1 ⟨rfl, b1⟩
    rw [HT.out]
    go_wp2
    go_ret
    exact ⟨by unfold setN; rw [HX.out]; rfl, hb.trans (b1.mono (by simp))⟩
end Go.Proofs.YtnfmeggnalgcnaaGreatDoor

/- The walk of the sets' told: the heads of a set, in order. -/
namespace Go.Proofs.YtnfmeggnalgcnaaGreatDoor
open Go.RowKit

/-- the heads of a list whose bit is in a set, counted from i on -/
def pickB (n : Nat) (hs : List ByteArray) (k : Nat) : List ByteArray := ((hs.take k).zipIdx.filter fun x => n.testBit x.2).map (·.1)
theorem pickB_zero (n : Nat) (hs : List ByteArray) : pickB n hs 0 = [] := rfl
theorem pickB_t {n : Nat} {hs : List ByteArray} {k : Nat} (h : k < hs.length) (hb : n.testBit k = true) : pickB n hs (k + 1) = pickB n hs k ++ [hs[k]] := by
  unfold pickB
  rw [List.take_succ_eq_append_getElem h, List.zipIdx_append, List.filter_append, List.map_append]
  simp [Nat.min_eq_left (Nat.le_of_lt h), hb]
theorem pickB_f {n : Nat} {hs : List ByteArray} {k : Nat} (h : k < hs.length) (hb : n.testBit k = false) : pickB n hs (k + 1) = pickB n hs k := by
  unfold pickB
  rw [List.take_succ_eq_append_getElem h, List.zipIdx_append, List.filter_append, List.map_append]
  simp [Nat.min_eq_left (Nat.le_of_lt h), hb]
theorem pickB_mem {n : Nat} {hs : List ByteArray} {k : Nat} {s : ByteArray} (h : s ∈ pickB n hs k) : s ∈ hs := by
  unfold pickB at h
  obtain ⟨⟨a, i⟩, h1, rfl⟩ := List.mem_map.1 h
  obtain ⟨h2, _⟩ := List.mem_filter.1 h1
  exact List.mem_of_mem_take (List.fst_mem_of_mem_zipIdx h2)
theorem pickB_len (n : Nat) (hs : List ByteArray) (k : Nat) : (pickB n hs k).length ≤ k := by
  unfold pickB
  rw [List.length_map]
  refine Nat.le_trans (List.length_filter_le _ _) ?_
  rw [List.length_zipIdx, List.length_take]
  omega
theorem hold_bit (n k : Nat) : holdsB n (2 ^ k) = n.testBit k := by
  rw [Bool.eq_iff_iff, holdsB_iff]
  constructor
  · intro hh; exact hh k Nat.testBit_two_pow_self
  · intro hh i hi
    rw [Nat.testBit_two_pow, decide_eq_true_eq] at hi
    rw [← hi]; exact hh
theorem pow_lt22 {k : Nat} (h : k < 22) : 2 ^ k < 4194304 := Nat.pow_lt_pow_right (a := 2) (by omega) h

theorem holdsBit_any (n k : Nat) (w : World) (hn : n < 4194304) (hk : k < 22) :
    Calls Tryz.prog 88 #[.int .u32 (n : Int), .int .u32 ((2 : Int) ^ k % 4294967296)] w fun e w' => e = .returned (.bool (n.testBit k)) ∧ w = w' := by
  rw [shl_eq k hk, ← hold_bit]
  exact holds_any n (2 ^ k) w hn (pow_lt22 hk)

end Go.Proofs.YtnfmeggnalgcnaaGreatDoor
