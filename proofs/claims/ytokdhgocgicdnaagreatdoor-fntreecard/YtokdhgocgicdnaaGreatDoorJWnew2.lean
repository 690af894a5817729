import Derived.Test.YtokdhgocgicdnaaGreatDoorJMarkc
import Derived.Test.YtokdhgocgicdnaaGreatDoorJEq
import Derived.Deep.AppendLies
import Derived.Test.YtokdhgocgicdnaaGreatDoorJWd5
/- Lists of whole numbers: what they read as, the call's own ones, and what a law asks of them: eqInt64S, markInt64S, heldInt64S. -/
namespace Go.Proofs.YtokdhgocgicdnaaGreatDoor
open Go.RowKit

/-- a list of whole numbers, in blocks from lo on ahead of hi -/
def IntsAt (w : World) (lo hi : Nat) (v : Value) (l : List Int) : Prop :=
  ∃ A c, v = .slice A l.length c ∧ l.length ≤ c ∧ c ≤ maxLen ∧
    (0 < l.length → ∃ b off, A = some ⟨b, off, none⟩ ∧ lo ≤ b ∧ b < hi ∧ ∀ i (h : i < l.length), w.cell? ⟨b, off + i, none⟩ = some (.int .i64 l[i]))
theorem IntsAt.keep {w w' : World} {lo hi : Nat} {v : Value} {l : List Int} (h : IntsAt w lo hi v l) (k : Keeps lo hi w w') : IntsAt w' lo hi v l := by
  obtain ⟨A, c, h1, h2, h3, h5⟩ := h
  refine ⟨A, c, h1, h2, h3, fun hp => ?_⟩
  obtain ⟨b, off, e, hl, hh, hc⟩ := h5 hp
  exact ⟨b, off, e, hl, hh, fun i hi => (k.cell (p := ⟨b, off + i, none⟩) hl hh).trans (hc i hi)⟩
theorem IntsAt.below {w w' : World} {lo hi : Nat} {v : Value} {l : List Int} (h : IntsAt w lo hi v l) {B : Nat} (b : Below B w w') (hB : hi ≤ B) : IntsAt w' lo hi v l := h.keep (Keeps.below b hB)
theorem IntsAt.more {w : World} {lo hi lo' hi' : Nat} {v : Value} {l : List Int} (h : IntsAt w lo hi v l) (h1 : lo' ≤ lo) (h2 : hi ≤ hi') : IntsAt w lo' hi' v l := by
  obtain ⟨A, c, a1, a2, a3, a5⟩ := h
  refine ⟨A, c, a1, a2, a3, fun hp => ?_⟩
  obtain ⟨b, off, e, hl, hh, hc⟩ := a5 hp
  exact ⟨b, off, e, by omega, by omega, hc⟩
/-- the whole numbers of a list stand in a block of its own -/
def OwnI (w : World) (g : Nat) (v : Value) (l : List Int) : Prop :=
  ∃ A c, v = .slice A l.length c ∧ l.length ≤ c ∧ c ≤ maxLen ∧
    (0 < l.length → ∃ off cur, A = some ⟨g, off, none⟩ ∧ Row w g 2 cur ∧ ∀ i (h : i < l.length), cur[off + i]? = some (.int .i64 l[i]))
theorem OwnI.keep {w w' : World} {g : Nat} {v : Value} {l : List Int} (h : OwnI w g v l) (e : l ≠ [] → w'.heap[g]? = w.heap[g]?) : OwnI w' g v l := by
  obtain ⟨A, c, h1, h2, h3, h5⟩ := h
  refine ⟨A, c, h1, h2, h3, fun hp => ?_⟩
  obtain ⟨off, cur, ha, hr, hc⟩ := h5 hp
  exact ⟨off, cur, ha, hr.same (e (by intro h0; subst h0; simp at hp)), hc⟩
theorem OwnI.strs {w : World} {g lo hi : Nat} {v : Value} {l : List Int} (h : OwnI w g v l) (hg : l ≠ [] → lo ≤ g ∧ g < hi) : IntsAt w lo hi v l := by
  obtain ⟨A, c, h1, h2, h3, h5⟩ := h
  refine ⟨A, c, h1, h2, h3, fun hp => ?_⟩
  obtain ⟨off, cur, ha, hr, hc⟩ := h5 hp
  obtain ⟨g1, g2⟩ := hg (by intro h0; subst h0; simp at hp)
  exact ⟨g, off, ha, g1, g2, fun i hi => by rw [hr.cell]; exact hc i hi⟩
theorem OwnI.nil (w : World) (g : Nat) : OwnI w g (.slice none 0 0) [] := ⟨none, 0, rfl, Nat.le_refl _, by unfold maxLen; omega, fun h => by simp at h⟩
theorem OwnI.pick {w : World} {g : Nat} {v : Value} {l : List Int} (h : OwnI w g v l) : ∃ g', OwnI w g' v l ∧ (l ≠ [] → g' = g) ∧ (l = [] → w.heap.size ≤ g') := by
  by_cases e : l = []
  · subst e
    obtain ⟨A, c, h1, h2, h3, h5⟩ := h
    exact ⟨w.heap.size, ⟨A, c, h1, h2, h3, fun hp => by simp at hp⟩, fun hn => absurd rfl hn, fun _ => Nat.le_refl _⟩
  · exact ⟨g, h, fun _ => rfl, fun h0 => absurd h0 e⟩
/-- a call hands back such a list, in memory of its own -/
def MadeI (w : World) (l : List Int) (e : Ending) (w' : World) : Prop := ∃ u g, e = .returned u ∧ OwnI w' g u l ∧ (l ≠ [] → w.heap.size ≤ g ∧ g < w'.heap.size) ∧ Below w.heap.size w w'
/-- whole numbers in a row of the call's own -/
def Its (w : World) (base : Nat) (v : Value) (l : List Int) : Prop := w.ownsRow base 2 1 v l.length (l.map (Value.int .i64))
theorem Its.nil (w : World) (base : Nat) : Its w base (.slice none 0 0) [] := World.ownsRow_nil _ _ _ _
theorem Its.lit0 (w : World) {base : Nat} (hb : base ≤ w.heap.size) : Its (w.alloc (.cells #[] 2)) base (.slice (some ⟨w.heap.size, 0, none⟩) 0 0) [] := World.ownsRow_lit w #[] 0 hb (by unfold maxLen; omega) rfl
theorem Its.one {w : World} {base : Nat} {v : Value} {l : List Int} (x : Int) (h : w.ownsRow base 2 1 v (l.length + 1) (l.map (Value.int .i64) ++ [.int .i64 x])) : Its w base v (l ++ [x]) := by
  unfold Its
  rw [List.length_append, List.map_append]
  exact h
theorem Its.form {w : World} {base : Nat} {v : Value} {l : List Int} (h : Its w base v l) : ∃ B d, v = .slice B l.length d := by
  rcases h.2 with ⟨rfl, h0⟩ | ⟨g, cap, cur, rfl, _⟩
  · exact ⟨none, 0, by rw [h0]⟩
  · exact ⟨_, _, rfl⟩
theorem Its.below {w w' : World} {base : Nat} {v : Value} {l : List Int} (h : Its w base v l) (k : Below w.heap.size w w') : Its w' base v l := by
  refine ⟨h.1, ?_⟩
  rcases h.2 with a | ⟨g, cap, cur, rfl, hb, hh, r⟩
  · exact .inl a
  · have hr : Row w g 2 cur := hh
    exact .inr ⟨g, cap, cur, rfl, hb, (k.block g hr.lt).trans hh, r⟩
theorem Its.own {w : World} {base : Nat} {v : Value} {l : List Int} (h : Its w base v l) : ∃ g, OwnI w g v l ∧ (l ≠ [] → base ≤ g ∧ g < w.heap.size) := by
  rcases h.2 with ⟨rfl, h0⟩ | ⟨g, cap, cur, rfl, hb, hh, hc, hm, hs, ht⟩
  · obtain rfl : l = [] := List.eq_nil_of_length_eq_zero h0
    exact ⟨0, OwnI.nil w 0, fun hn => absurd rfl hn⟩
  · have hr : Row w g 2 cur := hh
    refine ⟨g, ⟨_, cap, rfl, hc, hm, fun _ => ⟨0, cur, rfl, hr, fun i hi => ?_⟩⟩, fun _ => ⟨hb, hr.lt⟩⟩
    have h1 : (cur.toList.take (l.length * 1))[i]? = some (.int .i64 l[i]) := by rw [ht, List.getElem?_map, List.getElem?_eq_getElem hi]; rfl
    rw [List.getElem?_take_of_lt (by omega)] at h1
    rw [Nat.zero_add, ← Array.getElem?_toList]
    exact h1
theorem Its.ints {w : World} {base : Nat} {v : Value} {l : List Int} (h : Its w base v l) : IntsAt w base w.heap.size v l := by
  obtain ⟨g, ho, hg⟩ := h.own
  exact ho.strs hg
theorem one_i64 (x : Int) : ∀ u ∈ [Value.int .i64 x], u.oneCell' = true := by
  intro u hu
  rw [List.mem_singleton] at hu; subst hu; rfl
theorem Tryz.infoI64 : (Tryz.prog.info? 2).map (fun i => (i.zero, i.size, i.bytes)) = some (some (.int .i64 0), 1, 8) := by kernel_rfl

def eqIs (a b : List Int) : Bool := decide (a = b)
theorem eqIs_t {a b : List Int} (h : a = b) : eqIs a b = true := decide_eq_true h
theorem eqIs_f {a b : List Int} (h : a ≠ b) : eqIs a b = false := decide_eq_false h

/-- n numbers from k on -/
def marksI (k n : Nat) : List Int := (List.range n).map fun i => ((k + i : Nat) : Int)
theorem marksI_len (k n : Nat) : (marksI k n).length = n := by simp [marksI]
theorem marksI_at {k n i : Nat} (h : i < (marksI k n).length) : (marksI k n)[i] = ((k + i : Nat) : Int) := by simp [marksI]

theorem midI_pick {w w' : World} {lo hi g : Nat} {ss : List Int} (h1 : ss ≠ [] → lo ≤ g ∧ g < hi) (h2 : ss = [] → w.heap.size ≤ g) (m : Mid g (g + 1) w w') : Mid lo hi w w' :=
  ⟨m.os, m.tape, m.output, m.size, fun k hk hkk => m.block k hk (by
    by_cases e : ss = []
    · have := h2 e; omega
    · have := h1 e; omega)⟩
end Go.Proofs.YtokdhgocgicdnaaGreatDoor

/- The program's Useful. -/
namespace Go.Proofs.YtokdhgocgicdnaaGreatDoor
open Go.RowKit

/-- all of a rule's body may come to tokens alone -/
def Good (rs : List RuleD) (i : Nat) : Prop := ∀ s ∈ (ruleAt rs i).body, tokB s = true ∨ Com true rs s
open Classical in
noncomputable def goodIx (rs : List RuleD) : List Nat := (List.range rs.length).filter fun i => decide (Good rs i)
open Classical in
noncomputable def useIx (rs : List RuleD) : List Nat := (goodIx rs).filter fun i => decide (Rch rs (goodIx rs) (ruleAt rs i).head)
noncomputable def useOf (rs : List RuleD) : List Nat := if gramB rs = true then useIx rs else []
theorem useOf_t {rs : List RuleD} (h : gramB rs = true) : useOf rs = useIx rs := if_pos h
theorem useOf_f {rs : List RuleD} (h : gramB rs = false) : useOf rs = [] := if_neg (by rw [h]; decide)
theorem goodIx_lt {rs : List RuleD} : ∀ i ∈ goodIx rs, i < rs.length := fun _ hi => List.mem_range.1 (List.mem_filter.1 hi).1
theorem useIx_lt {rs : List RuleD} : ∀ i ∈ useIx rs, i < rs.length := fun _ hi => goodIx_lt _ (List.mem_filter.1 hi).1
theorem useIx_len {rs : List RuleD} : (useIx rs).length ≤ rs.length := by
  refine Nat.le_trans (List.length_filter_le _ _) ?_
  refine Nat.le_trans (List.length_filter_le _ _) ?_
  rw [List.length_range]; exact Nat.le_refl _
theorem keepN_rnl {rs : List RuleD} {ix : List Nat} {p : RuleN → Bool} {q : Nat → Bool} (h : ∀ i ∈ ix, p (rn rs i) = !q i) : keepN p (rnl rs ix) = rnl rs (ix.filter q) := by
  unfold keepN rnl
  rw [List.filter_map]
  congr 1
  apply List.filter_congr
  intro i hi
  simp [h i hi]
open Classical in
theorem use_at {rs : List RuleD} {rl' : List RuleN} (h : UseAt (rlOf rs) rl') : rl' = rnl rs (useOf rs) := by
  obtain ⟨m1, m2, h1, h2, rfl⟩ := h
  cases hq : gramB rs
  · rw [rlOf_f hq, useOf_f hq]; rfl
  · have R := Rt.of hq
    rw [rlOf_t hq] at h1 h2 ⊢
    rw [useOf_t hq]
    have e1 : keepN (notProd m1) (rnl rs (List.range rs.length)) = rnl rs (goodIx rs) := by
      apply keepN_rnl
      intro i hi
      rw [List.mem_range] at hi
      unfold notProd
      congr 1
      rw [Bool.eq_iff_iff, decide_eq_true_eq]
      unfold rn
      rw [body_holds]
      unfold Good
      constructor
      · intro h s hs
        have := (com_bits R true h1 s).1 (h s hs)
        simpa using this
      · intro h s hs
        apply (com_bits R true h1 s).2
        simpa using h s hs
    rw [e1] at h2 ⊢
    apply keepN_rnl
    intro i hi
    have hil := goodIx_lt i hi
    unfold notReached
    congr 1
    rw [Bool.eq_iff_iff, decide_eq_true_eq]
    unfold rn
    rw [ruleAt_eq hil]
    simp only
    rw [hold_set]
    exact reach_bit R goodIx_lt h2 (hs_all hil)
theorem rlOf_few (rs : List RuleD) : (rlOf rs).length ≤ 20 := by
  cases hq : gramB rs
  · rw [rlOf_f hq]; simp
  · rw [rlOf_t hq, rnl_len, List.length_range]; exact (Rt.of hq).few
noncomputable def usefulOf (rs : List RuleD) : List Int := (useOf rs).map fun (i : Nat) => (i : Int)
theorem useOf_few (rs : List RuleD) : (useOf rs).length ≤ 20 := by
  cases hq : gramB rs
  · rw [useOf_f hq]; simp
  · rw [useOf_t hq]; exact Nat.le_trans useIx_len (Rt.of hq).few
theorem usefulOf_len (rs : List RuleD) : (usefulOf rs).length ≤ 1000 := by
  have := useOf_few rs
  unfold usefulOf; rw [List.length_map]; omega

theorem field_rules (A B : Option Addr) (n c m d : Nat) (w : World) : (Instr.field 140 (.agg #[.slice A n c, .slice B m d]) 1).run Tryz.prog w = .ok (.slice B m d) w := by kernel_rfl
end Go.Proofs.YtokdhgocgicdnaaGreatDoor

/- The walk of newSearch. -/
namespace Go.Proofs.YtokdhgocgicdnaaGreatDoor
open Go.RowKit Go.Maps Go.Conc

/-- the rules that come to tokens -/
noncomputable def frs (rs : List RuleD) : List RuleD := (goodIx rs).map (ruleAt rs)
theorem frs_len (rs : List RuleD) : (frs rs).length ≤ rs.length := by
  unfold frs
  rw [List.length_map]
  refine Nat.le_trans (List.length_filter_le _ _) ?_
  rw [List.length_range]; exact Nat.le_refl _
theorem frs_mem {rs : List RuleD} {r : RuleD} : r ∈ frs rs ↔ r ∈ rs ∧ GoodR rs r := by
  unfold frs goodIx
  rw [List.mem_map]
  constructor
  · rintro ⟨i, hi, rfl⟩
    obtain ⟨h1, h2⟩ := List.mem_filter.1 hi
    rw [List.mem_range] at h1
    have h2 : Good rs i := by simpa using h2
    refine ⟨by rw [ruleAt_eq h1]; exact List.getElem_mem h1, h2⟩
  · rintro ⟨hr, hg⟩
    obtain ⟨i, hi, rfl⟩ := List.getElem_of_mem hr
    refine ⟨i, List.mem_filter.2 ⟨List.mem_range.2 hi, ?_⟩, ruleAt_eq hi⟩
    have : Good rs i := by unfold Good; rw [ruleAt_eq hi]; exact hg
    simpa using this
theorem frs_fits {rs : List RuleD} {t : List ByteArray} (hg : gramB rs = true) (ht : textB t = true) : Fits (frs rs) t := by
  have R := Rt.of hg
  obtain ⟨t1, t2⟩ := (textB_iff t).1 ht
  have hl := frs_len rs
  have mem : ∀ i (h : i < (frs rs).length), ∃ j, ∃ hj : j < rs.length, (frs rs)[i] = rs[j] := fun i h => by
    obtain ⟨j, hj, e⟩ := List.getElem_of_mem (frs_mem.1 (List.getElem_mem h)).1
    exact ⟨j, hj, e.symm⟩
  refine ⟨by have := R.few; omega, fun i h => ?_, fun i h => ?_, fun i h => ?_, t1, t2⟩
  · obtain ⟨j, hj, e⟩ := mem i h
    rw [e]; exact R.len j hj
  · obtain ⟨j, hj, e⟩ := mem i h
    rw [e]; exact R.head j hj
  · obtain ⟨j, hj, e⟩ := mem i h
    rw [e]; exact R.body j hj
open Classical in
theorem fruit_at {rs : List RuleD} (hg : gramB rs = true) {m1 : Nat} (h1 : FixAt (stepCome (rlOf rs)) (tokBase true) m1) : keepN (notProd m1) (rlOf rs) = rnl rs (goodIx rs) := by
  have R := Rt.of hg
  rw [rlOf_t hg] at h1 ⊢
  apply keepN_rnl
  intro i hi
  unfold notProd
  congr 1
  rw [Bool.eq_iff_iff, decide_eq_true_eq]
  unfold rn
  rw [body_holds]
  unfold Good
  constructor
  · intro h s hs
    have := (com_bits R true h1 s).1 (h s hs)
    simpa using this
  · intro h s hs
    apply (com_bits R true h1 s).2
    simpa using h s hs

/-- rules that a list takes over, their bodies where they were -/
def flatY (xs : List (RuleD × Value)) : List Value := xs.flatMap fun x => [.string x.1.head, x.2]
theorem flatY_snoc (xs : List (RuleD × Value)) (x : RuleD × Value) : flatY (xs ++ [x]) = flatY xs ++ [.string x.1.head, x.2] := by simp [flatY]
theorem flatY_at (xs : List (RuleD × Value)) (i : Nat) (h : i < xs.length) : (flatY xs)[i * 2]? = some (.string xs[i].1.head) ∧ (flatY xs)[i * 2 + 1]? = some xs[i].2 := by
  induction xs generalizing i with
  | nil => simp at h
  | cons x l ih =>
    cases i with
    | zero => exact ⟨rfl, rfl⟩
    | succ i =>
      have := ih i (by simpa using h)
      have e : flatY (x :: l) = .string x.1.head :: x.2 :: flatY l := rfl
      rw [e]
      rw [show (i + 1) * 2 = i * 2 + 1 + 1 by omega]
      simpa using this
def GrowB (w : World) (base bb : Nat) (v : Value) (xs : List (RuleD × Value)) : Prop :=
  w.ownsRow base 45 2 v xs.length (flatY xs) ∧ ∀ x ∈ xs, x.1.head.size ≤ maxLen ∧ Strs w 0 bb x.2 x.1.body
section
variable {w w' : World} {base bb : Nat} {v v' : Value} {xs : List (RuleD × Value)}
theorem GrowB.nil (w : World) (base bb : Nat) : GrowB w base bb (.slice none 0 0) [] := ⟨World.ownsRow_nil _ _ _ _, by simp⟩
theorem GrowB.form (h : GrowB w base bb v xs) : ∃ A c, v = .slice A xs.length c := by
  rcases h.1.2 with ⟨rfl, h0⟩ | ⟨g, cap, cur, rfl, _⟩
  · exact ⟨none, 0, by rw [h0]⟩
  · exact ⟨_, _, rfl⟩
theorem GrowB.below (h : GrowB w base bb v xs) (k : Below w.heap.size w w') (hb : bb ≤ w.heap.size) : GrowB w' base bb v xs := by
  obtain ⟨a, b⟩ := h
  refine ⟨⟨a.1, ?_⟩, fun x hx => ⟨(b x hx).1, (b x hx).2.below k hb⟩⟩
  rcases a.2 with a2 | ⟨g, cap, cur, rfl, hb, hh, r⟩
  · exact .inl a2
  · exact .inr ⟨g, cap, cur, rfl, hb, (k.block g (Array.getElem?_eq_some_iff.1 hh).1).trans hh, r⟩
theorem GrowB.snoc {r : RuleD} {u : Value} (h : GrowB w base bb v xs) (ho : w'.ownsRow base 45 2 v' (xs.length + 1) (flatY xs ++ [.string r.head, u])) (hg : w.grownBy w' v.ownBlock) (hbb : bb ≤ base) (hw : bb ≤ w.heap.size) (hh : r.head.size ≤ maxLen) (hu : Strs w 0 bb u r.body) : GrowB w' base bb v' (xs ++ [(r, u)]) := by
  obtain ⟨a, b⟩ := h
  have keep : Keeps 0 bb w w' := fun k _ hk => hg.block k (by omega) fun e => by
    rcases a.2 with ⟨rfl, _⟩ | ⟨g', cap, c', rfl, hb', _⟩
    · simp [Value.ownBlock] at e
    · have : k = g' := by simpa [Value.ownBlock] using e
      omega
  refine ⟨by rw [flatY_snoc, List.length_append]; exact ho, fun x hx => ?_⟩
  rcases List.mem_append.1 hx with hx | hx
  · exact ⟨(b x hx).1, (b x hx).2.keep keep⟩
  · rw [List.mem_singleton] at hx
    subst hx
    exact ⟨hh, hu.keep keep⟩
theorem GrowB.away (h : GrowB w base bb v xs) {p : Addr} (h1 : bb ≤ p.block) (h2 : p.block < base) (u : Value) : GrowB (w.setCell p u) base bb v xs := by
  obtain ⟨a, b⟩ := h
  refine ⟨⟨a.1, ?_⟩, fun x hx => ⟨(b x hx).1, (b x hx).2.keep fun k _ hk => Below.heap_setCell _ _ _ _ (by omega)⟩⟩
  rcases a.2 with a2 | ⟨g, cap, cur, rfl, hb, hh, r⟩
  · exact .inl a2
  · exact .inr ⟨g, cap, cur, rfl, hb, (Below.heap_setCell _ _ _ _ (by omega)).trans hh, r⟩
theorem GrowB.lt (h : GrowB w base bb v xs) {g : Nat} (hg : v.ownBlock = some g) : g < w.heap.size := by
  rcases h.1.2 with ⟨rfl, _⟩ | ⟨g', cap, cur, rfl, _, hh, _⟩
  · simp [Value.ownBlock] at hg
  · have : g' = g := by simpa [Value.ownBlock] using hg
    subst this
    exact (Array.getElem?_eq_some_iff.1 hh).1
theorem GrowB.rules (h : GrowB w base bb v xs) {hi : Nat} (hb : bb ≤ hi) (hv : ∀ g, v.ownBlock = some g → g < hi) : Rules w 0 hi v (xs.map (·.1)) := by
  obtain ⟨a, b⟩ := h
  rcases a.2 with ⟨rfl, h0⟩ | ⟨g, cap, cur, rfl, hbg, hh, hc, hm, hs, ht⟩
  · obtain rfl : xs = [] := List.eq_nil_of_length_eq_zero h0
    exact ⟨none, 0, rfl, Nat.le_refl _, by unfold maxLen; omega, fun h => by simp at h⟩
  · have hr : Row w g 45 cur := hh
    refine ⟨_, cap, by rw [List.length_map], by rw [List.length_map]; exact hc, hm, fun hp => ⟨g, 0, rfl, Nat.zero_le _, hv g rfl, fun i hi => ?_⟩⟩
    rw [List.length_map] at hi
    obtain ⟨b1, b2⟩ := b xs[i] (List.getElem_mem hi)
    obtain ⟨f1, f2⟩ := flatY_at xs i hi
    have cell : ∀ j, j < xs.length * 2 → w.cell? ⟨g, 0 + j, none⟩ = (flatY xs)[j]? := fun j hj => by
      rw [Nat.zero_add, hr.cell, ← ht, List.getElem?_take_of_lt hj, Array.getElem?_toList]
    simp only [List.getElem_map]
    refine ⟨b1, (cell (i * 2) (by omega)).trans f1, xs[i].2, ?_, b2.more (Nat.le_refl _) hb⟩
    rw [Nat.add_assoc]; exact (cell (i * 2 + 1) (by omega)).trans f2
end
theorem bytesLook : ∃ i, Tryz.prog.info? 151 = some i ∧ i.bytes = 32 := by
  have h : (Tryz.prog.info? 151).map (·.bytes) = some 32 := by kernel_rfl
  obtain ⟨i, hi, hb⟩ := Option.map_eq_some_iff.1 h
  exact ⟨i, hi, hb⟩
theorem mkQueue (n : Nat) (hn : n ≤ 100000) (w : World) : (Instr.makeChan 76 (.int .i64 (n : Int))).run Tryz.prog w = .ok (.chan (some w.heap.size)) (w.alloc (.chan n #[] false 0 0 false)) := by
  obtain ⟨i, hi, hb⟩ := bytesLook
  exact run_makeChan (P := Tryz.prog) (w := w) Tryz.underlying76 hi .i64 n (by omega) (by rw [hb]; omega)
theorem two_one4 (s : ByteArray) (A : Option Addr) (n c : Nat) : ∀ u ∈ [Value.string s, .slice A n c], u.oneCell' = true := by
  intro u hu
  simp only [List.mem_cons, List.not_mem_nil, or_false] at hu
  rcases hu with rfl | rfl <;> rfl
theorem two_row {w : World} {g : Nat} {ty : TypeId} {a b : Value} (r : Row w g ty #[a, b]) : ∀ j u, [a, b][j]? = some u → w.cell? ((⟨g, 0, none⟩ : Addr).add j) = some u :=
  World.news_of_block (cs := #[a, b]) (t := ty) (fr := (0, 0)) r
end Go.Proofs.YtokdhgocgicdnaaGreatDoor
