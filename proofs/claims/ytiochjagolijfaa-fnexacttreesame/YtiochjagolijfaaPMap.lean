/- Maps of the call's own whose keys may be addresses: what stands at each key, by a list of keys and values. No program stands in this text. -/
import Derived.Test.YtiochjagolijfaaOwns
import Derived.MapKept
import Derived.LaidEql
import Derived.WalkKit
namespace Go.Proofs.Ytiochjagolijfaa
open Go.RowKit

section
variable {κ ν : Type} {kv : κ → Value} {vv : ν → Value} {w w' : World} {b : Nat}
/-- block b is a map that holds just l -/
def PM (w : World) (b : Nat) (kv : κ → Value) (vv : ν → Value) (l : List (κ × ν)) : Prop :=
  ∃ es clock, w.heap[b]? = some (.map es clock) ∧ es.toList.map (fun e => (e.key, e.val)) = l.map fun x => (kv x.1, vv x.2)

theorem PM.lt {l : List (κ × ν)} (h : PM w b kv vv l) : b < w.heap.size := by
  obtain ⟨es, c, h, _⟩ := h
  rcases Nat.lt_or_ge b w.heap.size with h1 | h1
  · exact h1
  · rw [Array.getElem?_eq_none h1] at h; cases h
theorem PM.keep {l : List (κ × ν)} (h : PM w b kv vv l) (e : w'.heap[b]? = w.heap[b]?) : PM w' b kv vv l := by
  obtain ⟨es, c, h1, h2⟩ := h
  exact ⟨es, c, e.trans h1, h2⟩
theorem PM.made (w : World) : PM (w.alloc (.map #[] 0)) w.heap.size kv vv ([] : List (κ × ν)) := ⟨#[], 0, by show (w.heap.push _)[w.heap.size]? = _; simp, rfl⟩

end

section
variable {κ ν : Type} [DecidableEq κ]
def lk : List (κ × ν) → κ → Option ν
  | [], _ => none
  | x :: l, p => if p = x.1 then some x.2 else lk l p
def up : List (κ × ν) → κ → ν → List (κ × ν)
  | [], p, v => [(p, v)]
  | x :: l, p, v => if p = x.1 then (p, v) :: l else x :: up l p v
theorem lk_up (l : List (κ × ν)) (p q : κ) (v : ν) : lk (up l p v) q = if q = p then some v else lk l q := by
  induction l with
  | nil => simp [up, lk]
  | cons x l ih =>
    unfold up
    by_cases h : p = x.1
    · rw [if_pos h]
      simp only [lk]
      by_cases hq : q = p
      · simp [hq]
      · rw [if_neg hq, if_neg hq, if_neg (fun e => hq (by rw [e, h]))]
    · rw [if_neg h]
      simp only [lk]
      by_cases hq : q = x.1
      · rw [if_pos hq, if_neg (fun e => h (by rw [← e, hq])), if_pos hq]
      · rw [if_neg hq, ih, if_neg hq]
theorem lk_up_same (l : List (κ × ν)) (p : κ) (v : ν) : lk (up l p v) p = some v := by rw [lk_up, if_pos rfl]
theorem lk_up_other (l : List (κ × ν)) {p q : κ} (v : ν) (h : q ≠ p) : lk (up l p v) q = lk l q := by rw [lk_up, if_neg h]
theorem mem_up {l : List (κ × ν)} {p : κ} {v : ν} {x : κ × ν} (h : x ∈ up l p v) : x.1 = p ∨ x ∈ l := by
  induction l with
  | nil => simp [up] at h; left; rw [h]
  | cons y l ih =>
    unfold up at h
    split at h
    · rcases List.mem_cons.1 h with h | h
      · left; rw [h]
      · right; exact List.mem_cons_of_mem _ h
    · rcases List.mem_cons.1 h with h | h
      · right; rw [h]; exact List.mem_cons_self
      · rcases ih h with h | h
        · left; exact h
        · right; exact List.mem_cons_of_mem _ h
theorem up_length (l : List (κ × ν)) (p : κ) (v : ν) : (up l p v).length ≤ l.length + 1 := by
  induction l with
  | nil => simp [up]
  | cons y l ih => unfold up; split <;> simp; omega

/-- how keys of a type are told apart -/
structure KeyK (P : Program) (kt : TypeId) (kv : κ → Value) (Ok : World → κ → Prop) : Prop where
  und : ∃ d, P.underlying kt = some d ∧ ∀ a b, Instr.sameNow d a b = none
  eq : ∀ w p q, Ok w p → Ok w q → (Op.equal kt (kv p) (kv q)).run P w = .ok (decide (p = q)) w
  chk : ∀ w p e, (Instr.checkKey e 10000 kt (kv p)).run P w = .ok () w
  bits : ∀ p, Instr.sameBits 10000 (kv p) (kv p) = true

variable {P : Program} {kt et t : TypeId} {kv : κ → Value} {Ok : World → κ → Prop} {vv : ν → Value} {w w' : World} {b : Nat}

theorem askP_any (K : KeyK P kt kv Ok) (p : κ) (hp : Ok w p) : ∀ (l : List (κ × ν)) (es : List MapEntry) (i : Nat), es.map (fun e => (e.key, e.val)) = l.map (fun x => (kv x.1, vv x.2)) → (∀ x ∈ l, Ok w x.1) →
    (lk l p = none ∧ (Instr.findAsking kt (kv p) es i).run P w = .ok none w ∧ ∀ v, up l p v = l ++ [(p, v)]) ∨
    (∃ j v e, lk l p = some v ∧ (Instr.findAsking kt (kv p) es i).run P w = .ok (some (i + j, vv v)) w ∧ es[j]? = some e ∧ e.key = kv p ∧ ∀ v', (es.modify j fun e => { e with key := kv p, val := vv v' }).map (fun e => (e.key, e.val)) = (up l p v').map (fun x => (kv x.1, vv x.2)))
  | [], [], i, _, _ => Or.inl ⟨rfl, by simp [Instr.findAsking], fun _ => rfl⟩
  | [], _ :: _, _, h, _ => by simp at h
  | _ :: _, [], _, h, _ => by simp at h
  | x :: l, e :: es, i, h, hok => by
    simp only [List.map_cons, List.cons.injEq, Prod.mk.injEq] at h
    obtain ⟨⟨h1, h2⟩, h3⟩ := h
    have he := K.eq w p x.1 hp (hok x List.mem_cons_self)
    by_cases hx : p = x.1
    · right
      refine ⟨0, x.2, e, by simp [lk, hx], ?_, rfl, by rw [h1, hx], fun v' => ?_⟩
      · rw [decide_eq_true hx] at he
        simp [Instr.findAsking, h1, he, h2]
      · simp [up, hx, h3]
    · rw [decide_eq_false hx] at he
      rcases askP_any K p hp l es (i + 1) h3 (fun y hy => hok y (List.mem_cons_of_mem _ hy)) with ⟨a1, a2, a3⟩ | ⟨j, v, e', a1, a2, a3, a4, a5⟩
      · left
        refine ⟨by simp [lk, hx, a1], by simp [Instr.findAsking, h1, he, a2], fun v => by simp [up, hx, a3]⟩
      · right
        refine ⟨j + 1, v, e', by simp [lk, hx, a1], ?_, by simpa using a3, a4, fun v' => ?_⟩
        · simp [Instr.findAsking, h1, he, a2]; omega
        · simp [up, hx, a5, h1, h2]

theorem findP_any (K : KeyK P kt kv Ok) (p : κ) (hp : Ok w p) (l : List (κ × ν)) (es : List MapEntry) (h : es.map (fun e => (e.key, e.val)) = l.map (fun x => (kv x.1, vv x.2))) (hok : ∀ x ∈ l, Ok w x.1) :
    (lk l p = none ∧ (Instr.findKey kt (kv p) es).run P w = .ok none w ∧ ∀ v, up l p v = l ++ [(p, v)]) ∨
    (∃ j v e, lk l p = some v ∧ (Instr.findKey kt (kv p) es).run P w = .ok (some (j, vv v)) w ∧ es[j]? = some e ∧ e.key = kv p ∧ ∀ v', (es.modify j fun e => { e with key := kv p, val := vv v' }).map (fun e => (e.key, e.val)) = (up l p v').map (fun x => (kv x.1, vv x.2))) := by
  obtain ⟨d, hd, hno⟩ := K.und
  have hf : (Instr.findKey kt (kv p) es).run P w = (Instr.findAsking kt (kv p) es 0).run P w := by
    cases es with
    | nil => simp [Instr.findKey, run_underlying hd, Instr.findNow, Instr.findAsking]
    | cons e es => simp [Instr.findKey, run_underlying hd, Instr.findNow, hno]
  rw [hf]
  simpa using askP_any K p hp l es 0 h hok

theorem PM.look {l : List (κ × ν)} (h : PM w b kv vv l) (K : KeyK P kt kv Ok) (ht : P.underlying t = some (.map kt et)) (hok : ∀ x ∈ l, Ok w x.1) {z : Value} (hz : (zeroValue et).run P w = .ok z w) (p : κ) (hp : Ok w p) :
    (Instr.lookup t (.map (some b)) (kv p) false).run P w = .ok ((lk l p).elim z vv) w := by
  obtain ⟨es, c, h1, h2⟩ := h
  rcases findP_any K p hp l es.toList h2 hok with ⟨a1, a2, _⟩ | ⟨j, v, e, a1, a2, _⟩
  · simp [Instr.lookup, run_underlying ht, MapKept.run_getObj_map h1, K.chk, a2, a1, hz]
  · simp [Instr.lookup, run_underlying ht, MapKept.run_getObj_map h1, K.chk, a2, a1]
theorem PM.look2 {l : List (κ × ν)} (h : PM w b kv vv l) (K : KeyK P kt kv Ok) (ht : P.underlying t = some (.map kt et)) (hok : ∀ x ∈ l, Ok w x.1) {z : Value} (hz : (zeroValue et).run P w = .ok z w) (p : κ) (hp : Ok w p) :
    (Instr.lookup t (.map (some b)) (kv p) true).run P w = .ok (.tuple #[(lk l p).elim z vv, .bool (lk l p).isSome]) w := by
  obtain ⟨es, c, h1, h2⟩ := h
  rcases findP_any K p hp l es.toList h2 hok with ⟨a1, a2, _⟩ | ⟨j, v, e, a1, a2, _⟩
  · simp [Instr.lookup, run_underlying ht, MapKept.run_getObj_map h1, K.chk, a2, a1, hz]
  · simp [Instr.lookup, run_underlying ht, MapKept.run_getObj_map h1, K.chk, a2, a1]
theorem PM.put {l : List (κ × ν)} (h : PM w b kv vv l) (K : KeyK P kt kv Ok) (ht : P.underlying t = some (.map kt et)) (hok : ∀ x ∈ l, Ok w x.1) (p : κ) (hp : Ok w p) (v : ν) :
    ∃ w', (Instr.mapUpdate t (.map (some b)) (kv p) (vv v)).run P w = .ok () w' ∧ PM w' b kv vv (up l p v) ∧ Mid b (b + 1) w w' ∧ w'.heap.size = w.heap.size := by
  have hlt := h.lt
  obtain ⟨es, c, h1, h2⟩ := h
  have mid : ∀ o : Obj, Mid b (b + 1) w { w with heap := w.heap.setIfInBounds b o } := fun o => ⟨rfl, rfl, rfl, by simp, fun k hk hb => by
    show (w.heap.setIfInBounds b o)[k]? = _
    rw [Array.getElem?_setIfInBounds_ne (by omega)]⟩
  have at' : ∀ o : Obj, ({ w with heap := w.heap.setIfInBounds b o } : World).heap[b]? = some o := fun o => by
    show (w.heap.setIfInBounds b o)[b]? = _
    rw [Array.getElem?_setIfInBounds_self_of_lt hlt]
  rcases findP_any K p hp l es.toList h2 hok with ⟨a1, a2, a3⟩ | ⟨j, v0, e, a1, a2, a3, a4, a5⟩
  · refine ⟨_, by simp [Instr.mapUpdate, run_underlying ht, MapKept.run_getObj_map h1, K.chk, a2, MapKept.run_setObj_map _ h1]; rfl, ⟨_, _, at' _, ?_⟩, mid _, by simp⟩
    rw [a3]; simp [h2]
  · have hj : es[j]? = some e := by simpa using a3
    refine ⟨_, by simp [Instr.mapUpdate, run_underlying ht, MapKept.run_getObj_map h1, K.chk, a2, hj, a4, Instr.keyThatStays, K.bits, MapKept.run_setObj_map _ h1]; rfl, ⟨_, _, at' _, ?_⟩, mid _, by simp⟩
    rw [← a5 v]; simp
end
end Go.Proofs.Ytiochjagolijfaa
