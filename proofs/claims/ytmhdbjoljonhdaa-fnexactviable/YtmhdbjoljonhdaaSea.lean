/- The search in memory: its maps, its queue, the rows of those that wait; what a call may turn. -/
import Derived.Test.YtmhdbjoljonhdaaKeys
import Derived.Test.YtmhdbjoljonhdaaEarP
import Derived.Test.YtmhdbjoljonhdaaComm
namespace Go.Proofs.Ytmhdbjoljonhdaa
open Go.RowKit Go.Maps

open Classical in
noncomputable def memF (ks : List Lit) : Lit → Option (DataW Unit) := fun l => if l ∈ ks then some (.lit (.bool true)) else none
theorem memF_in {ks : List Lit} {l : Lit} (h : l ∈ ks) : memF ks l = some (.lit (.bool true)) := by unfold memF; rw [if_pos h]
theorem memF_out {ks : List Lit} {l : Lit} (h : l ∉ ks) : memF ks l = none := by unfold memF; rw [if_neg h]
theorem memF_snoc (ks : List Lit) (k l : Lit) : memF (ks ++ [k]) l = putF (memF ks) k (.lit (.bool true)) l := by
  by_cases e : l = k
  · rw [e, memF_in (List.mem_append_right _ (by simp)), putF_same]
  · rw [putF_other _ _ e]
    by_cases h : l ∈ ks
    · rw [memF_in (List.mem_append_left _ h), memF_in h]
    · rw [memF_out (fun h' => (List.mem_append.1 h').elim h fun h'' => e (List.mem_singleton.1 h'')), memF_out h]
theorem memF_nil (l : Lit) : memF [] l = none := memF_out (by simp)
noncomputable def boolE : Rd := plainElem Try.prog 4
theorem zeroBool (w : World) : (zeroValue 4).run Try.prog w = .ok (.bool false) w := by kernel_rfl
theorem plain_bool_inv {P : Program} {e : TypeId} (he : P.underlying e = some .bool) {v : Value} {x : Bool} {ps : List MemPlace} (h : plainElem (H := Unit) P e v = some (.lit (.bool x), ps)) : v = .bool x := by
  unfold plainElem at h
  rw [he] at h
  cases v <;> simp at h
  rw [h.1]
theorem boolE_inv {v : Value} {x : Bool} {ps : List MemPlace} (h : boolE v = some (.lit (.bool x), ps)) : v = .bool x := plain_bool_inv Try.underlying4 h
section
variable {w : World} {kt t : TypeId} {b n : Nat} {ks : List Lit} {key : Value} {kl : Lit}
theorem set_in (h : MapAt w kt boolE b n (memF ks)) (K : Keyed Try.prog kt) (ht : Try.prog.underlying t = some (.map kt 4)) (hkey : keyOf Try.prog kt key = some kl) (hm : kl ∈ ks) : (Instr.lookup t (.map (some b)) key false).run Try.prog w = .ok (.bool true) w := by
  obtain ⟨v, ps, h1, h2⟩ := h.look K ht (zeroBool w) (plainElem_bool Try.underlying4 false) hkey
  have e : (memF ks kl).getD (.lit (.bool false)) = .lit (.bool true) := by rw [memF_in hm]; rfl
  rw [e] at h2
  rw [h1, boolE_inv h2]
theorem set_out (h : MapAt w kt boolE b n (memF ks)) (K : Keyed Try.prog kt) (ht : Try.prog.underlying t = some (.map kt 4)) (hkey : keyOf Try.prog kt key = some kl) (hm : kl ∉ ks) : (Instr.lookup t (.map (some b)) key false).run Try.prog w = .ok (.bool false) w := by
  obtain ⟨v, ps, h1, h2⟩ := h.look K ht (zeroBool w) (plainElem_bool Try.underlying4 false) hkey
  have e : (memF ks kl).getD (.lit (.bool false)) = .lit (.bool false) := by rw [memF_out hm]; rfl
  rw [e] at h2
  rw [h1, boolE_inv h2]
theorem set_put (h : MapAt w kt boolE b n (memF ks)) (K : Keyed Try.prog kt) (ht : Try.prog.underlying t = some (.map kt 4)) (hn : n < maxLen) (hkey : keyOf Try.prog kt key = some kl) :
    ∃ w', (Instr.mapUpdate t (.map (some b)) key (.bool true)).run Try.prog w = .ok () w' ∧ MapAt w' kt boolE b (n + 1) (memF (ks ++ [kl])) ∧ w.grownBy w' (some b) ∧ w'.heap.size = w.heap.size := by
  obtain ⟨w', h1, h2, h3, h4⟩ := h.put K ht hn hkey (plainElem_bool Try.underlying4 true)
  exact ⟨w', h1, h2.like fun l => memF_snoc ks kl l, h3, h4⟩
end

/-- how a waiting list's slice reads, as a map's element -/
def rawE : Rd
  | .slice none 0 0 => some (.nil, [])
  | .slice (some ⟨b, 0, none⟩) n c => some (.agg [.lit (.int .i64 (b : Int)), .lit (.int .i64 (n : Int)), .lit (.int .i64 (c : Int))], [])
  | _ => none
def rawD (b n c : Nat) : DataW Unit := .agg [.lit (.int .i64 (b : Int)), .lit (.int .i64 (n : Int)), .lit (.int .i64 (c : Int))]
theorem rawE_some (b n c : Nat) : rawE (.slice (some ⟨b, 0, none⟩) n c) = some (rawD b n c, []) := rfl
theorem rawE_inv {v : Value} {b n c : Nat} {ps : List MemPlace} (h : rawE v = some (rawD b n c, ps)) : v = .slice (some ⟨b, 0, none⟩) n c := by
  unfold rawE at h
  split at h
  · simp [rawD] at h
  · simp only [rawD, Option.some.injEq, Prod.mk.injEq, DataW.agg.injEq, List.cons.injEq, DataW.lit.injEq, Lit.int.injEq, true_and, and_true, Int.ofNat_inj] at h
    obtain ⟨⟨rfl, rfl, rfl⟩, _⟩ := h
    rfl
  · cases h
theorem rawE_nil {v : Value} {ps : List MemPlace} (h : rawE v = some (.nil, ps)) : v = .slice none 0 0 := by
  unfold rawE at h
  split at h
  · rfl
  · simp at h
  · cases h
structure WtM where
  head : ByteArray
  fr : Nat
  ls : List Look
  blk : Nat
  cap : Nat
def WtM.v (e : WtM) : Value := .slice (some ⟨e.blk, 0, none⟩) e.ls.length e.cap
open Classical in
noncomputable def waitF (M : List WtM) : Lit → Option (DataW Unit) := fun l => (M.find? fun e => decide (goalK e.head e.fr = l)).map fun e => rawD e.blk e.ls.length e.cap
open Classical in
/-- another list stands at this goal -/
noncomputable def putM (M : List WtM) (e : WtM) : List WtM := (M.filter fun x => !decide (x.head = e.head ∧ x.fr = e.fr)) ++ [e]
theorem putM_mem {M : List WtM} {e x : WtM} : x ∈ putM M e ↔ (x ∈ M ∧ ¬ (x.head = e.head ∧ x.fr = e.fr)) ∨ x = e := by
  unfold putM
  rw [List.mem_append, List.mem_filter, List.mem_singleton, Bool.not_eq_true', decide_eq_false_iff_not]
def WtM.ok (e : WtM) : Prop := e.head.size ≤ maxLen ∧ e.fr ≤ 1000
open Classical in
theorem waitF_put {M : List WtM} {e : WtM} (hM : ∀ x ∈ M, x.ok) (he : e.ok) (l : Lit) : waitF (putM M e) l = putF (waitF M) (goalK e.head e.fr) (rawD e.blk e.ls.length e.cap) l := by
  by_cases hl : l = goalK e.head e.fr
  · subst hl
    rw [putF_same]
    unfold waitF putM
    rw [List.find?_append]
    have : (M.filter fun x => !decide (x.head = e.head ∧ x.fr = e.fr)).find? (fun x => decide (goalK x.head x.fr = goalK e.head e.fr)) = none := by
      rw [List.find?_eq_none]
      intro x hx h
      obtain ⟨hx1, hx2⟩ := List.mem_filter.1 hx
      have := goalK_inj (hM x hx1).1 (hM x hx1).2 he.1 he.2 (by simpa using h)
      simp [this.1, this.2] at hx2
    rw [this]
    simp
  · rw [putF_other _ _ hl]
    unfold waitF putM
    rw [List.find?_append, List.find?_filter]
    have e2 : [e].find? (fun a => decide (goalK a.head a.fr = l)) = none := by simp [Ne.symm hl]
    rw [e2, Option.or_none]
    congr 2
    funext a
    by_cases h : goalK a.head a.fr = l
    · have : ¬ (a.head = e.head ∧ a.fr = e.fr) := fun ⟨h1, h2⟩ => hl (by rw [← h, h1, h2])
      simp only [h, this, decide_true, decide_false, Bool.not_false, and_self]
    · simp only [h, decide_false, Bool.false_eq_true, and_false]
end Go.Proofs.Ytmhdbjoljonhdaa
