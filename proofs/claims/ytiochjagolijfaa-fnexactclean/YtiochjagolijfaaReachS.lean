/- The walk of the model's l03Reach. -/
import Derived.Test.YtiochjagolijfaaJFixT
import Derived.Test.YtiochjagolijfaaJReachI
namespace Go.Proofs.Ytiochjagolijfaa
open Go.RowKit

/-- a list of yes and no, in blocks ahead of hi -/
def BoolsAt (w : World) (hi : Nat) (v : Value) (gs : List Bool) : Prop :=
  ∃ A c, v = .slice A gs.length c ∧ gs.length ≤ c ∧ c ≤ maxLen ∧
    (0 < gs.length → ∃ b off, A = some ⟨b, off, none⟩ ∧ b < hi ∧ ∀ i (h : i < gs.length), w.cell? ⟨b, off + i, none⟩ = some (.bool gs[i]))
theorem BoolsAt.below {w w' : World} {hi : Nat} {v : Value} {l : List Bool} (h : BoolsAt w hi v l) {B : Nat} (b : Below B w w') (hB : hi ≤ B) : BoolsAt w' hi v l := by
  obtain ⟨A, c, h1, h2, h3, h5⟩ := h
  refine ⟨A, c, h1, h2, h3, fun hp => ?_⟩
  obtain ⟨g, off, e, hg, hc⟩ := h5 hp
  exact ⟨g, off, e, hg, fun i hi => (b.cell (p := ⟨g, off + i, none⟩) (by show g < B; omega)).trans (hc i hi)⟩
/-- the numbers of the rules that are good -/
def ixOf (gs : List Bool) : List Nat := (List.range gs.length).filter fun i => gs.getD i false
theorem ixOf_mem {gs : List Bool} {i : Nat} : i ∈ ixOf gs ↔ ∃ h : i < gs.length, gs[i] = true := by
  unfold ixOf
  rw [List.mem_filter, List.mem_range]
  constructor
  · rintro ⟨h1, h2⟩; exact ⟨h1, by simpa [h1] using h2⟩
  · rintro ⟨h1, h2⟩; exact ⟨h1, by simpa [h1] using h2⟩

structure WayR (rs : List RuleD) (ix : List Nat) (ins : List ByteArray) : Prop where
  nodup : ins.Nodup
  rch : ∀ s ∈ ins, Rch rs ix s
  start : startOf rs ∈ ins
def bodies (rs : List RuleD) : List ByteArray := rs.flatMap (·.body)
theorem bodies_len (rs : List RuleD) (h : ∀ i (hi : i < rs.length), rs[i].body.length ≤ 5) : (bodies rs).length ≤ rs.length * 5 := by
  induction rs with
  | nil => simp [bodies]
  | cons r rs ih =>
    have h0 := h 0 (by simp)
    have h1 := ih fun i hi => by have := h (i + 1) (by simpa using hi); simpa using this
    simp only [bodies, List.flatMap_cons, List.length_append, List.length_cons, List.getElem_cons_zero] at h0 h1 ⊢
    omega
theorem aft_body {rs : List RuleD} {ix : List Nat} {h s : ByteArray} (ha : Aft rs ix tkAll h s) : s ∈ bodies rs := by
  unfold bodies
  rw [List.mem_flatMap]
  cases ha with
  | one i hi _ _ _ ht => exact ⟨_, List.getElem_mem hi, ht⟩
  | more i hi _ _ _ ht => exact ⟨_, List.getElem_mem hi, ht⟩
theorem WayR.len {rs : List RuleD} {ix : List Nat} {ins : List ByteArray} (h : WayR rs ix ins) (R : Rt rs) : ins.length ≤ 101 := by
  have h1 : ins.length ≤ (startOf rs :: bodies rs).length := h.nodup.length_le_of_subset fun s hs => by
    rcases h.rch s hs with e | e
    · rw [e]; simp
    · exact List.mem_cons_of_mem _ (aft_body e)
  have h2 := bodies_len rs R.len
  have h3 := R.few
  simp only [List.length_cons] at h1
  omega
theorem nodup_snoc {ins : List ByteArray} {s : ByteArray} (h : ins.Nodup) (hn : inB ins s = false) : (ins ++ [s]).Nodup := by
  rw [List.nodup_append]
  refine ⟨h, by simp, fun a ha b hb e => ?_⟩
  rw [List.mem_singleton] at hb
  subst hb e
  rw [(inB_iff _ _).2 ha] at hn; cases hn
theorem WayR.more {rs : List RuleD} {ix : List Nat} {ins : List ByteArray} (h : WayR rs ix ins) {i : Nat} (hi : i < rs.length) (hx : i ∈ ix) (h1 : inB ins rs[i].head = true) {s : ByteArray} (hs : s ∈ rs[i].body) (hn : inB ins s = false) : WayR rs ix (ins ++ [s]) := by
  refine ⟨nodup_snoc h.nodup hn, fun t ht => ?_, List.mem_append_left _ h.start⟩
  rw [List.mem_append, List.mem_singleton] at ht
  rcases ht with ht | rfl
  · exact h.rch t ht
  · refine .inr (Aft.step hi hx ?_ hs)
    rcases h.rch _ ((inB_iff _ _).1 h1) with e | e
    · exact .inl e
    · exact .inr e
/-- closed at a rule -/
def Shut (rs : List RuleD) (ix : List Nat) (ins : List ByteArray) (i : Nat) : Prop := ∀ hi : i < rs.length, i ∈ ix → inB ins rs[i].head = true → ∀ s ∈ rs[i].body, headB s = true → inB ins s = true
theorem WayR.full {rs : List RuleD} {ix : List Nat} {ins : List ByteArray} (h : WayR rs ix ins) (R : Rt rs) (hc : ∀ i, i < rs.length → Shut rs ix ins i) {s : ByteArray} (hs : headB s = true) : inB ins s = true ↔ Rch rs ix s := by
  constructor
  · intro h1; exact h.rch s ((inB_iff _ _).1 h1)
  · rintro (rfl | ha)
    · exact (inB_iff _ _).2 h.start
    · induction ha with
      | one i hi hx he s ht => exact hc i hi hi hx (by rw [he]; exact (inB_iff _ _).2 h.start) s ht hs
      | more i hi hx ha s ht ih => exact hc i hi hi hx (ih (R.head i hi)) s ht hs
open Classical in
/-- the heads that are reached by the rules of these numbers -/
noncomputable def reachBy (rs : List RuleD) (ix : List Nat) : List ByteArray := (hsOf rs).filter fun s => decide (Rch rs ix s)
theorem WayR.out {rs : List RuleD} {ix : List Nat} {ins : List ByteArray} (h : WayR rs ix ins) (R : Rt rs) (hc : ∀ i, i < rs.length → Shut rs ix ins i) : ((hsOf rs).filter fun s => inB ins s) = reachBy rs ix := by
  unfold reachBy
  apply List.filter_congr
  intro s hs
  rw [Bool.eq_iff_iff, h.full R hc (R.hs_head hs)]
  simp

theorem Sts.lit1 (w : World) {base : Nat} (hb : base ≤ w.heap.size) (s : ByteArray) : Sts (w.alloc (.cells #[.string s] 9)) base (.slice (some ⟨w.heap.size, 0, none⟩) 1 1) [s] := World.ownsRow_lit w #[.string s] 1 hb (by unfold maxLen; omega) rfl

end Go.Proofs.Ytiochjagolijfaa
