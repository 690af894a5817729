import Derived.Test.YtiochjagolijfaaJOi
import Derived.Test.YtiochjagolijfaaJOwns
import Derived.MapKept
import Derived.LaidEql
import Derived.WalkKit
/- Terms that are laid anew in place, list by list, with a stack of those that are still to be: what holds on the way, as data. No program stands in this text but its types' numbers. -/
namespace Go.Proofs.Ytiochjagolijfaa
open Go.RowKit

/-- a place whose term still has the old list of Kids x -/
structure Pe where
  b : Nat
  o : Nat
  t : TermD
  x : Value
structure PeAt (w : World) (lo hi s0 : Nat) (e : Pe) : Prop where
  ge : s0 ≤ e.b
  row : ∃ cur, Row w e.b 47 cur ∧ e.o + 2 < cur.size ∧ cur[e.o]? = some (.int .i64 e.t.kind) ∧ cur[e.o + 1]? = some (.int .i64 e.t.num) ∧ cur[e.o + 2]? = some e.x
  three : ∃ k, e.o = k * 3
  kids : KM true w lo hi e.x e.t.kids
  top : TopM e.t
theorem PeAt.lt {w : World} {lo hi s0 : Nat} {e : Pe} (h : PeAt w lo hi s0 e) : e.b < w.heap.size := by obtain ⟨cur, hr, _⟩ := h.row; exact hr.lt
/-- all places of P are done in w', with lists X, in parts of what was made behind wr -/
structure Fin (s0 : Nat) (wr w' : World) (P : List Pe) (X : Nat → Value) (L E : Nat → Nat) : Prop where
  size : wr.heap.size ≤ w'.heap.size
  rows : ∀ p cur, s0 ≤ p → Row wr p 47 cur → ∃ cur', Row w' p 47 cur' ∧ cur'.size = cur.size ∧ ∀ j, (∀ i (h : i < P.length), P[i].b = p → P[i].o + 2 ≠ j) → cur'[j]? = cur[j]?
  here : ∀ i (h : i < P.length), w'.cell? ⟨P[i].b, P[i].o + 2, none⟩ = some (X i)
  oi : ∀ i (h : i < P.length), OI w' (L i) (E i) (X i) P[i].t.kids ∧ wr.heap.size ≤ L i ∧ L i ≤ E i ∧ E i ≤ w'.heap.size
  ord : ∀ i j, i < j → j < P.length → E j ≤ L i
def Wand (s0 : Nat) (wr : World) (P : List Pe) (G : World → Prop) : Prop := ∀ w' X L E, Fin s0 wr w' P X L E → G w'
theorem Wand.done {s0 : Nat} {wr : World} {G : World → Prop} (h : Wand s0 wr [] G) : G wr :=
  h wr (fun _ => .nilFunc) (fun _ => 0) (fun _ => 0) ⟨Nat.le_refl _, fun p cur _ hr => ⟨cur, hr, rfl, fun _ _ => rfl⟩, fun i h => by simp at h, fun i h => by simp at h, fun i j _ h => by simp at h⟩
theorem Wand.on {s0 : Nat} {wr wr' : World} {P : List Pe} {G : World → Prop} (h : Wand s0 wr P G) (hs : wr.heap.size ≤ wr'.heap.size) (hr : ∀ p cur, s0 ≤ p → Row wr p 47 cur → Row wr' p 47 cur) : Wand s0 wr' P G :=
  fun w' X L E f => h w' X L E ⟨Nat.le_trans hs f.size, fun p cur h0 h1 => f.rows p cur h0 (hr p cur h0 h1), f.here, fun i hi => by
    obtain ⟨a, b, c, d⟩ := f.oi i hi
    exact ⟨a, by omega, c, d⟩, f.ord⟩

/-- the Kids of a term, as places of a new list -/
def kidsP (g : Nat) (ts : List TermD) (U : Nat → Value) : List Pe := (List.range ts.length).map fun i => ⟨g, i * 3, ts.getD i default, U i⟩
theorem kidsP_len (g : Nat) (ts : List TermD) (U : Nat → Value) : (kidsP g ts U).length = ts.length := by simp [kidsP]
theorem kidsP_at (g : Nat) (ts : List TermD) (U : Nat → Value) (i : Nat) (h : i < (kidsP g ts U).length) : (kidsP g ts U)[i] = ⟨g, i * 3, ts[i]'(by rw [kidsP_len] at h; exact h), U i⟩ := by
  have h' : i < ts.length := by rw [kidsP_len] at h; exact h
  simp [kidsP, List.getD, h']
theorem app_left {α : Type} (a b : List α) (i : Nat) (h : i < a.length) (h' : i < (a ++ b).length) : (a ++ b)[i] = a[i] := List.getElem_append_left h
theorem app_right {α : Type} (a b : List α) (i : Nat) (h : i < b.length) (h' : a.length + i < (a ++ b).length) : (a ++ b)[a.length + i] = b[i] := by
  rw [List.getElem_append_right (by omega)]; simp
/-- one place is done, those of its Kids are to be -/
theorem Wand.turn {s0 : Nat} {wr wr2 : World} {R : List Pe} {e : Pe} {G : World → Prop} {S : Value} {g : Nat} {U : Nat → Value} (h : Wand s0 wr (R ++ [e]) G)
    (hs0 : s0 ≤ wr.heap.size) (hsz : wr.heap.size ≤ wr2.heap.size) (he0 : s0 ≤ e.b)
    (hrow : ∀ p cur, s0 ≤ p → Row wr p 47 cur → Row wr2 p 47 (if p = e.b then cur.setIfInBounds (e.o + 2) S else cur))
    (he : ∃ cur, Row wr e.b 47 cur ∧ e.o + 2 < cur.size)
    (hR : ∀ i (h : i < R.length), R[i].b < wr.heap.size) (hdist : ∀ i (h : i < R.length), R[i].b = e.b → R[i].o ≠ e.o)
    (hS : (e.t.kids = [] ∧ S = .slice none 0 0) ∨ (0 < e.t.kids.length ∧ wr.heap.size ≤ g ∧ ∃ (c : Nat) (gcur : Array Value), S = .slice (some ⟨g, 0, none⟩) e.t.kids.length c ∧ e.t.kids.length ≤ c ∧ c ≤ maxLen ∧ Row wr2 g 47 gcur ∧ e.t.kids.length * 3 ≤ gcur.size ∧
      ∀ i (h : i < e.t.kids.length), TopM e.t.kids[i] ∧ gcur[i * 3]? = some (.int .i64 e.t.kids[i].kind) ∧ gcur[i * 3 + 1]? = some (.int .i64 e.t.kids[i].num))) :
    Wand s0 wr2 (R ++ kidsP g e.t.kids U) G := by
  intro w' X L E f
  have hlen : (R ++ kidsP g e.t.kids U).length = R.length + e.t.kids.length := by rw [List.length_append, kidsP_len]
  have hlen1 : (R ++ [e]).length = R.length + 1 := by simp
  have fR : ∀ i (hi : i < R.length) (h' : i < (R ++ kidsP g e.t.kids U).length), (R ++ kidsP g e.t.kids U)[i] = R[i] := fun i hi h' => app_left _ _ i hi h'
  have fK : ∀ i (hi : i < e.t.kids.length) (h' : R.length + i < (R ++ kidsP g e.t.kids U).length), (R ++ kidsP g e.t.kids U)[R.length + i] = ⟨g, i * 3, e.t.kids[i], U i⟩ := fun i hi h' => by
    rw [app_right _ _ i (by rw [kidsP_len]; exact hi) h', kidsP_at]
  have split : ∀ i, i < R.length + e.t.kids.length → i < R.length ∨ ∃ k, k < e.t.kids.length ∧ i = R.length + k := fun i hi => by
    rcases Nat.lt_or_ge i R.length with h1 | h1
    · exact .inl h1
    · exact .inr ⟨i - R.length, by omega, by omega⟩
  -- what a row of old becomes
  have frow : ∀ p cur, s0 ≤ p → Row wr p 47 cur → ∃ cur', Row w' p 47 cur' ∧ cur'.size = cur.size ∧ (∀ j, (∀ i (h : i < R.length), R[i].b = p → R[i].o + 2 ≠ j) → cur'[j]? = (if p = e.b then cur.setIfInBounds (e.o + 2) S else cur)[j]?) := fun p cur h0 hr => by
    obtain ⟨cur', r1, r2, r3⟩ := f.rows p _ h0 (hrow p cur h0 hr)
    refine ⟨cur', r1, by rw [r2]; split <;> simp, fun j hj => r3 j fun i hi hb => ?_⟩
    rcases split i (by omega) with h1 | ⟨k, h1, rfl⟩
    · rw [fR i h1] at hb ⊢
      exact hj i h1 hb
    · rw [fK k h1] at hb
      have := hr.lt
      rcases hS with ⟨h2, _⟩ | ⟨_, h2, _⟩
      · rw [h2] at h1; simp at h1
      · simp only at hb; omega
  have eAt : w'.cell? ⟨e.b, e.o + 2, none⟩ = some S := by
    obtain ⟨cur, hr, hc⟩ := he
    obtain ⟨cur', r1, r2, r3⟩ := frow e.b cur he0 hr
    have := r3 (e.o + 2) fun i hi hb hj => hdist i hi hb (by omega)
    rw [r1.cell, this, if_pos rfl, Array.getElem?_setIfInBounds_self_of_lt hc]
  have oiR : ∀ i (hi : i < R.length), OI w' (L i) (E i) (X i) R[i].t.kids ∧ wr2.heap.size ≤ L i ∧ L i ≤ E i ∧ E i ≤ w'.heap.size := fun i hi => by
    have := f.oi i (by omega)
    rw [fR i hi] at this
    exact this
  have eTop : ∃ Et, OI w' wr.heap.size Et S e.t.kids ∧ wr.heap.size ≤ Et ∧ Et ≤ w'.heap.size ∧ ∀ i, i < R.length → Et ≤ L i := by
    rcases hS with ⟨h1, rfl⟩ | ⟨h1, h2, c, gcur, rfl, h3, h4, h5, h6, h7⟩
    · refine ⟨wr2.heap.size, ?_, hsz, f.size, fun i hi => (oiR i hi).2.1⟩
      rw [h1]
      exact OI.none w' _ _ 0 Option.none (by unfold maxLen; omega)
    · have oiK : ∀ i (hi : i < e.t.kids.length), OI w' (L (R.length + i)) (E (R.length + i)) (X (R.length + i)) e.t.kids[i].kids ∧ wr2.heap.size ≤ L (R.length + i) ∧ L (R.length + i) ≤ E (R.length + i) ∧ E (R.length + i) ≤ w'.heap.size := fun i hi => by
        have := f.oi (R.length + i) (by omega)
        rw [fK i hi] at this
        exact this
      have g2 := h5.lt
      have o0 := oiK 0 h1
      rw [Nat.add_zero] at o0
      refine ⟨E R.length, ?_, by omega, o0.2.2.2, fun i hi => f.ord i R.length hi (by omega)⟩
      obtain ⟨cur', r1, r2, r3⟩ := f.rows g gcur (by omega) h5
      refine .mk _ _ _ c _ (fun i => X (R.length + i)) (fun i => L (R.length + i)) (fun i => E (R.length + i)) h3 h4 (fun i hi => (h7 i hi).1) (fun _ => ⟨g, cur', rfl, h2, by omega, r1, by omega, fun i hi => ?_⟩) (fun i hi => ?_) (fun i j hi hj hij => ?_) (fun i hi => (oiK i hi).1)
      · have free : ∀ j, (∀ k, j ≠ k * 3 + 2) → cur'[j]? = gcur[j]? := fun j hj => r3 j fun k hk hb => by
          rcases split k (by omega) with q | ⟨m, q, rfl⟩
          · rw [fR k q] at hb
            have := hR k q
            omega
          · rw [fK m q]
            exact fun hh => hj m hh.symm
        refine ⟨?_, ?_, ?_, .inr ?_⟩
        · rw [free (i * 3) (fun k => by omega)]; exact (h7 i hi).2.1
        · rw [free (i * 3 + 1) (fun k => by omega)]; exact (h7 i hi).2.2
        · have := f.here (R.length + i) (by omega)
          rw [fK i hi] at this
          rw [← this, r1.cell]
        · have := (oiK i hi).2.1; omega
      · have a := oiK i hi
        refine ⟨by omega, a.2.2.1, ?_⟩
        rcases Nat.eq_zero_or_pos i with rfl | hp
        · exact Nat.le_refl _
        · have := f.ord R.length (R.length + i) (by omega) (by omega)
          omega
      · rcases Nat.lt_or_gt_of_ne hij with q | q
        · exact .inr (f.ord (R.length + i) (R.length + j) (by omega) (by omega))
        · exact .inl (f.ord (R.length + j) (R.length + i) (by omega) (by omega))
  obtain ⟨Et, t1, t2, t3, t4⟩ := eTop
  have sp1 : ∀ i, i < R.length + 1 → i < R.length ∨ i = R.length := fun i hi => by omega
  have f1 : ∀ i (hi : i < R.length) (h' : i < (R ++ [e]).length), (R ++ [e])[i] = R[i] := fun i hi h' => app_left _ _ i hi h'
  have f2 : ∀ (h' : R.length < (R ++ [e]).length), (R ++ [e])[R.length] = e := fun h' => by simp
  refine h w' (fun i => if i < R.length then X i else S) (fun i => if i < R.length then L i else wr.heap.size) (fun i => if i < R.length then E i else Et) ⟨Nat.le_trans hsz f.size, fun p cur h0 hr => ?_, fun i hi => ?_, fun i hi => ?_, fun i j hij hj => ?_⟩
  · obtain ⟨cur', r1, r2, r3⟩ := frow p cur h0 hr
    refine ⟨cur', r1, r2, fun j hj => ?_⟩
    rw [r3 j fun i hi hb => by have := hj i (by omega); rw [f1 i hi] at this; exact this hb]
    split
    · rename_i hp
      have := hj R.length (by omega)
      rw [f2] at this
      rw [Array.getElem?_setIfInBounds_ne (this hp.symm)]
    · rfl
  · rcases sp1 i (by omega) with q | rfl
    · simp only [if_pos q]
      rw [f1 i q]
      have := f.here i (by omega)
      rw [fR i q] at this
      exact this
    · rw [f2, if_neg (by omega)]
      exact eAt
  · rcases sp1 i (by omega) with q | rfl
    · simp only [if_pos q]
      rw [f1 i q]
      have := oiR i q
      exact ⟨this.1, by omega, this.2.2⟩
    · simp only [if_neg (Nat.lt_irrefl R.length)]
      rw [f2]
      exact ⟨t1, Nat.le_refl _, t2, t3⟩
  · have q : i < R.length := by omega
    simp only [if_pos q]
    by_cases q2 : j < R.length
    · simp only [if_pos q2]
      exact f.ord i j hij (by omega)
    · simp only [if_neg q2]
      exact t4 i q
end Go.Proofs.Ytiochjagolijfaa

/- Maps of the call's own whose keys may be addresses: what stands at each key, by a list of keys and values. No program stands in this text. -/
namespace Go.Proofs.Ytiochjagolijfaa
open Go.RowKit

section
variable {κ ν : Type} {kv : κ → Value} {vv : ν → Value} {w w' : World} {b : Nat}
/-- block b is a map that holds just l -/
def PM (w : World) (b : Nat) (kv : κ → Value) (vv : ν → Value) (l : List (κ × ν)) : Prop :=
  ∃ es clock, w.heap[b]? = some (.map es clock) ∧ es.toList.map (fun e => (e.key, e.val)) = l.map fun x => (kv x.1, vv x.2)

theorem PM.lt {l : List (κ × ν)} (h : PM w b kv vv l) : b < w.heap.size := by
  obtain ⟨es, c, h, _⟩ := h
  rcases Nat.lt_or_ge b w.heap.size with h1 | h1
  · exact h1
  · rw [Array.getElem?_eq_none h1] at h; cases h
theorem PM.keep {l : List (κ × ν)} (h : PM w b kv vv l) (e : w'.heap[b]? = w.heap[b]?) : PM w' b kv vv l := by
  obtain ⟨es, c, h1, h2⟩ := h
  exact ⟨es, c, e.trans h1, h2⟩
theorem PM.made (w : World) : PM (w.alloc (.map #[] 0)) w.heap.size kv vv ([] : List (κ × ν)) := ⟨#[], 0, by show (w.heap.push _)[w.heap.size]? = _; simp, rfl⟩

end

section
variable {κ ν : Type} [DecidableEq κ]
def lk : List (κ × ν) → κ → Option ν
  | [], _ => none
  | x :: l, p => if p = x.1 then some x.2 else lk l p
def up : List (κ × ν) → κ → ν → List (κ × ν)
  | [], p, v => [(p, v)]
  | x :: l, p, v => if p = x.1 then (p, v) :: l else x :: up l p v
theorem lk_up (l : List (κ × ν)) (p q : κ) (v : ν) : lk (up l p v) q = if q = p then some v else lk l q := by
  induction l with
  | nil => simp [up, lk]
  | cons x l ih =>
    unfold up
    by_cases h : p = x.1
    · rw [if_pos h]
      simp only [lk]
      by_cases hq : q = p
      · simp [hq]
      · rw [if_neg hq, if_neg hq, if_neg (fun e => hq (by rw [e, h]))]
    · rw [if_neg h]
      simp only [lk]
      by_cases hq : q = x.1
      · rw [if_pos hq, if_neg (fun e => h (by rw [← e, hq])), if_pos hq]
      · rw [if_neg hq, ih, if_neg hq]
theorem lk_up_same (l : List (κ × ν)) (p : κ) (v : ν) : lk (up l p v) p = some v := by rw [lk_up, if_pos rfl]
theorem lk_up_other (l : List (κ × ν)) {p q : κ} (v : ν) (h : q ≠ p) : lk (up l p v) q = lk l q := by rw [lk_up, if_neg h]
theorem mem_up {l : List (κ × ν)} {p : κ} {v : ν} {x : κ × ν} (h : x ∈ up l p v) : x.1 = p ∨ x ∈ l := by
  induction l with
  | nil => simp [up] at h; left; rw [h]
  | cons y l ih =>
    unfold up at h
    split at h
    · rcases List.mem_cons.1 h with h | h
      · left; rw [h]
      · right; exact List.mem_cons_of_mem _ h
    · rcases List.mem_cons.1 h with h | h
      · right; rw [h]; exact List.mem_cons_self
      · rcases ih h with h | h
        · left; exact h
        · right; exact List.mem_cons_of_mem _ h
theorem up_length (l : List (κ × ν)) (p : κ) (v : ν) : (up l p v).length ≤ l.length + 1 := by
  induction l with
  | nil => simp [up]
  | cons y l ih => unfold up; split <;> simp; omega

/-- how keys of a type are told apart -/
structure KeyK (P : Program) (kt : TypeId) (kv : κ → Value) (Ok : World → κ → Prop) : Prop where
  und : ∃ d, P.underlying kt = some d ∧ ∀ a b, Instr.sameNow d a b = none
  eq : ∀ w p q, Ok w p → Ok w q → (Op.equal kt (kv p) (kv q)).run P w = .ok (decide (p = q)) w
  chk : ∀ w p e, (Instr.checkKey e 10000 kt (kv p)).run P w = .ok () w
  bits : ∀ p, Instr.sameBits 10000 (kv p) (kv p) = true

variable {P : Program} {kt et t : TypeId} {kv : κ → Value} {Ok : World → κ → Prop} {vv : ν → Value} {w w' : World} {b : Nat}

theorem askP_any (K : KeyK P kt kv Ok) (p : κ) (hp : Ok w p) : ∀ (l : List (κ × ν)) (es : List MapEntry) (i : Nat), es.map (fun e => (e.key, e.val)) = l.map (fun x => (kv x.1, vv x.2)) → (∀ x ∈ l, Ok w x.1) →
    (lk l p = none ∧ (Instr.findAsking kt (kv p) es i).run P w = .ok none w ∧ ∀ v, up l p v = l ++ [(p, v)]) ∨
    (∃ j v e, lk l p = some v ∧ (Instr.findAsking kt (kv p) es i).run P w = .ok (some (i + j, vv v)) w ∧ es[j]? = some e ∧ e.key = kv p ∧ ∀ v', (es.modify j fun e => { e with key := kv p, val := vv v' }).map (fun e => (e.key, e.val)) = (up l p v').map (fun x => (kv x.1, vv x.2)))
  | [], [], i, _, _ => Or.inl ⟨rfl, by simp [Instr.findAsking], fun _ => rfl⟩
  | [], _ :: _, _, h, _ => by simp at h
  | _ :: _, [], _, h, _ => by simp at h
  | x :: l, e :: es, i, h, hok => by
    simp only [List.map_cons, List.cons.injEq, Prod.mk.injEq] at h
    obtain ⟨⟨h1, h2⟩, h3⟩ := h
    have he := K.eq w p x.1 hp (hok x List.mem_cons_self)
    by_cases hx : p = x.1
    · right
      refine ⟨0, x.2, e, by simp [lk, hx], ?_, rfl, by rw [h1, hx], fun v' => ?_⟩
      · rw [decide_eq_true hx] at he
        simp [Instr.findAsking, h1, he, h2]
      · simp [up, hx, h3]
    · rw [decide_eq_false hx] at he
      rcases askP_any K p hp l es (i + 1) h3 (fun y hy => hok y (List.mem_cons_of_mem _ hy)) with ⟨a1, a2, a3⟩ | ⟨j, v, e', a1, a2, a3, a4, a5⟩
      · left
        refine ⟨by simp [lk, hx, a1], by simp [Instr.findAsking, h1, he, a2], fun v => by simp [up, hx, a3]⟩
      · right
        refine ⟨j + 1, v, e', by simp [lk, hx, a1], ?_, by simpa using a3, a4, fun v' => ?_⟩
        · simp [Instr.findAsking, h1, he, a2]; omega
        · simp [up, hx, a5, h1, h2]

theorem findP_any (K : KeyK P kt kv Ok) (p : κ) (hp : Ok w p) (l : List (κ × ν)) (es : List MapEntry) (h : es.map (fun e => (e.key, e.val)) = l.map (fun x => (kv x.1, vv x.2))) (hok : ∀ x ∈ l, Ok w x.1) :
    (lk l p = none ∧ (Instr.findKey kt (kv p) es).run P w = .ok none w ∧ ∀ v, up l p v = l ++ [(p, v)]) ∨
    (∃ j v e, lk l p = some v ∧ (Instr.findKey kt (kv p) es).run P w = .ok (some (j, vv v)) w ∧ es[j]? = some e ∧ e.key = kv p ∧ ∀ v', (es.modify j fun e => { e with key := kv p, val := vv v' }).map (fun e => (e.key, e.val)) = (up l p v').map (fun x => (kv x.1, vv x.2))) := by
  obtain ⟨d, hd, hno⟩ := K.und
  have hf : (Instr.findKey kt (kv p) es).run P w = (Instr.findAsking kt (kv p) es 0).run P w := by
    cases es with
    | nil => simp [Instr.findKey, run_underlying hd, Instr.findNow, Instr.findAsking]
    | cons e es => simp [Instr.findKey, run_underlying hd, Instr.findNow, hno]
  rw [hf]
  simpa using askP_any K p hp l es 0 h hok

theorem PM.look {l : List (κ × ν)} (h : PM w b kv vv l) (K : KeyK P kt kv Ok) (ht : P.underlying t = some (.map kt et)) (hok : ∀ x ∈ l, Ok w x.1) {z : Value} (hz : (zeroValue et).run P w = .ok z w) (p : κ) (hp : Ok w p) :
    (Instr.lookup t (.map (some b)) (kv p) false).run P w = .ok ((lk l p).elim z vv) w := by
  obtain ⟨es, c, h1, h2⟩ := h
  rcases findP_any K p hp l es.toList h2 hok with ⟨a1, a2, _⟩ | ⟨j, v, e, a1, a2, _⟩
  · simp [Instr.lookup, run_underlying ht, MapKept.run_getObj_map h1, K.chk, a2, a1, hz]
  · simp [Instr.lookup, run_underlying ht, MapKept.run_getObj_map h1, K.chk, a2, a1]
theorem PM.look2 {l : List (κ × ν)} (h : PM w b kv vv l) (K : KeyK P kt kv Ok) (ht : P.underlying t = some (.map kt et)) (hok : ∀ x ∈ l, Ok w x.1) {z : Value} (hz : (zeroValue et).run P w = .ok z w) (p : κ) (hp : Ok w p) :
    (Instr.lookup t (.map (some b)) (kv p) true).run P w = .ok (.tuple #[(lk l p).elim z vv, .bool (lk l p).isSome]) w := by
  obtain ⟨es, c, h1, h2⟩ := h
  rcases findP_any K p hp l es.toList h2 hok with ⟨a1, a2, _⟩ | ⟨j, v, e, a1, a2, _⟩
  · simp [Instr.lookup, run_underlying ht, MapKept.run_getObj_map h1, K.chk, a2, a1, hz]
  · simp [Instr.lookup, run_underlying ht, MapKept.run_getObj_map h1, K.chk, a2, a1]
theorem PM.put {l : List (κ × ν)} (h : PM w b kv vv l) (K : KeyK P kt kv Ok) (ht : P.underlying t = some (.map kt et)) (hok : ∀ x ∈ l, Ok w x.1) (p : κ) (hp : Ok w p) (v : ν) :
    ∃ w', (Instr.mapUpdate t (.map (some b)) (kv p) (vv v)).run P w = .ok () w' ∧ PM w' b kv vv (up l p v) ∧ Mid b (b + 1) w w' ∧ w'.heap.size = w.heap.size := by
  have hlt := h.lt
  obtain ⟨es, c, h1, h2⟩ := h
  have mid : ∀ o : Obj, Mid b (b + 1) w { w with heap := w.heap.setIfInBounds b o } := fun o => ⟨rfl, rfl, rfl, by simp, fun k hk hb => by
    show (w.heap.setIfInBounds b o)[k]? = _
    rw [Array.getElem?_setIfInBounds_ne (by omega)]⟩
  have at' : ∀ o : Obj, ({ w with heap := w.heap.setIfInBounds b o } : World).heap[b]? = some o := fun o => by
    show (w.heap.setIfInBounds b o)[b]? = _
    rw [Array.getElem?_setIfInBounds_self_of_lt hlt]
  rcases findP_any K p hp l es.toList h2 hok with ⟨a1, a2, a3⟩ | ⟨j, v0, e, a1, a2, a3, a4, a5⟩
  · refine ⟨_, by simp [Instr.mapUpdate, run_underlying ht, MapKept.run_getObj_map h1, K.chk, a2, MapKept.run_setObj_map _ h1]; rfl, ⟨_, _, at' _, ?_⟩, mid _, by simp⟩
    rw [a3]; simp [h2]
  · have hj : es[j]? = some e := by simpa using a3
    refine ⟨_, by simp [Instr.mapUpdate, run_underlying ht, MapKept.run_getObj_map h1, K.chk, a2, hj, a4, Instr.keyThatStays, K.bits, MapKept.run_setObj_map _ h1]; rfl, ⟨_, _, at' _, ?_⟩, mid _, by simp⟩
    rw [← a5 v]; simp
end
end Go.Proofs.Ytiochjagolijfaa
