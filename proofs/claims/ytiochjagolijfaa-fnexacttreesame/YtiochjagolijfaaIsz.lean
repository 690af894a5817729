/- Counting a tree with a stack of open lists, as data: what holds from round to round. -/
import Derived.Test.YtiochjagolijfaaJIad
namespace Go.Proofs.Ytiochjagolijfaa
open Go.RowKit

/-- a list that is being counted, and how many of it are done -/
structure Ent where
  v : Value
  ts : List TreeD
  dn : Nat
/-- the Kids of the i-th tree of v are u -/
def KidV (w : World) (v : Value) (i : Nat) (u : Value) : Prop := ∃ b off n c, v = .slice (some ⟨b, off, none⟩) n c ∧ w.cell? ⟨b, off + i * 3 + 2, none⟩ = some u
/-- each open list hangs from the one below it -/
def Ch (w : World) (root : List TreeD) : Value → List TreeD → List Ent → Prop
  | _, ts, [] => ts = root
  | v, ts, e :: r => 0 < ts.length ∧ (∃ h : e.dn < e.ts.length, e.ts[e.dn].kids = ts) ∧ KidV w e.v e.dn v ∧ Ch w root e.v e.ts r
theorem Ch.lt {w : World} {root : List TreeD} : ∀ {r : List Ent} {v : Value} {ts : List TreeD}, Ch w root v ts r → (∀ e ∈ r, sizeTs ts < sizeTs e.ts) ∧ sizeTs ts ≤ sizeTs root
  | [], _, _, h => ⟨by simp, by rw [show _ = root from h]; exact Nat.le_refl _⟩
  | e :: r, v, ts, h => by
    obtain ⟨h0, ⟨h1, h2⟩, h3, h4⟩ := h
    have a := Ch.lt h4
    have b := sizeTs_get e.ts e.dn h1
    have c := sizeT_eq e.ts[e.dn]
    rw [h2] at c
    refine ⟨fun x hx => ?_, by omega⟩
    rcases List.mem_cons.1 hx with rfl | hx
    · omega
    · have := a.1 x hx; omega
theorem Ch.depth {w : World} {root : List TreeD} : ∀ {r : List Ent} {v : Value} {ts : List TreeD}, Ch w root v ts r → r.length + sizeTs ts ≤ sizeTs root
  | [], _, _, h => by rw [show _ = root from h]; simp
  | e :: r, v, ts, h => by
    obtain ⟨h0, ⟨h1, h2⟩, h3, h4⟩ := h
    have a := Ch.depth h4
    have b := sizeTs_get e.ts e.dn h1
    have c := sizeT_eq e.ts[e.dn]
    rw [h2] at c
    simp only [List.length_cons]
    omega
theorem sizeTs_drop (ts : List TreeD) (k : Nat) (h : k < ts.length) : sizeTs (ts.drop k) = 1 + sizeTs ts[k].kids + sizeTs (ts.drop (k + 1)) := by
  rw [List.drop_eq_getElem_cons h]
  simp only [sizeTs, sizeT_eq]
structure SzI (w : World) (lo hi : Nat) (root : List TreeD) (top : Ent) (r : List Ent) (M : List (Place × Int)) (rd : Bool) : Prop where
  kd : ∀ e ∈ top :: r, Kd true w lo hi e.v e.ts ∧ e.dn ≤ e.ts.length
  ch : Ch w root top.v top.ts r
  mok : ∀ p x, lk M p = some x → (∃ c ts, Kd true w lo hi (.slice (some p.1) p.2 c) ts ∧ x = sizeTs ts) ∨ (∃ e ∈ top :: r, ∃ c, e.v = .slice (some p.1) p.2 c)
  mfree : ∀ x ∈ M, plOk w x.1 ∧ x.1.1.block < hi
  rdy : rd = true → top.dn < top.ts.length ∧ ∃ p c, KidV w top.v top.dn (.slice (some p.1) p.2 c) ∧ (lk M p).isSome = true
  small : sizeTs root ≤ 2097152
def costU : List Ent → Nat
  | [] => 0
  | e :: r => 3 * sizeTs (e.ts.drop (e.dn + 1)) + 2 + costU r
def cost (top : Ent) (r : List Ent) (rd : Bool) : Nat := costU r + (if rd then 3 * sizeTs (top.ts.drop (top.dn + 1)) + 2 else 3 * sizeTs (top.ts.drop top.dn) + 1)
theorem cost_add (top : Ent) (r : List Ent) (rd : Bool) (h : top.dn < top.ts.length) : cost { top with dn := top.dn + 1 } r false < cost top r rd := by
  have := sizeTs_drop top.ts top.dn h
  unfold cost
  cases rd <;> simp <;> omega
theorem cost_push (top : Ent) (r : List Ent) (u : Value) (h : top.dn < top.ts.length) : cost ⟨u, top.ts[top.dn].kids, 0⟩ (top :: r) false < cost top r false := by
  have := sizeTs_drop top.ts top.dn h
  simp [cost, costU]
  omega
theorem cost_pop (top e : Ent) (r : List Ent) (h : top.dn = top.ts.length) : cost e r true < cost top (e :: r) false := by
  simp [cost, costU, h, sizeTs]
  omega

section
variable {w : World} {lo hi : Nat} {root : List TreeD} {top : Ent} {r : List Ent} {M : List (Place × Int)} {rd : Bool}
theorem SzI.start {v : Value} (h : Kd true w lo hi v root) (hs : sizeTs root ≤ 2097152) : SzI w lo hi root ⟨v, root, 0⟩ [] [] false where
  kd := fun e he => by
    simp at he; subst he
    exact ⟨h, Nat.zero_le _⟩
  ch := rfl
  mok := fun p x h => by simp [lk] at h
  mfree := by simp
  rdy := fun h => by cases h
  small := hs
theorem SzI.le (h : SzI w lo hi root top r M rd) : sizeTs top.ts ≤ 2097152 := by have := h.ch.lt.2; have := h.small; omega
theorem SzI.add (h : SzI w lo hi root top r M rd) (hl : top.dn < top.ts.length) : SzI w lo hi root { top with dn := top.dn + 1 } r M false where
  kd := fun e he => by
    rcases List.mem_cons.1 he with rfl | he
    · exact ⟨(h.kd top List.mem_cons_self).1, hl⟩
    · exact h.kd e (List.mem_cons_of_mem _ he)
  ch := h.ch
  mok := fun p x hx => by
    rcases h.mok p x hx with h1 | ⟨e, he, c, hc⟩
    · exact .inl h1
    · rcases List.mem_cons.1 he with rfl | he
      · exact .inr ⟨_, List.mem_cons_self, c, hc⟩
      · exact .inr ⟨e, List.mem_cons_of_mem _ he, c, hc⟩
  mfree := h.mfree
  rdy := fun h => by cases h
  small := h.small
/-- what is known of a list that is met with is its size -/
theorem SzI.known (h : SzI w lo hi root top r M rd) (hl : top.dn < top.ts.length) {p : Place} {c : Nat} {x : Int} (hk : Kd true w lo hi (.slice (some p.1) p.2 c) top.ts[top.dn].kids) (hx : lk M p = some x) : x = sizeTs top.ts[top.dn].kids := by
  rcases h.mok p x hx with ⟨c', ts, h1, h2⟩ | ⟨e, he, c', hc⟩
  · rw [h1.same rfl hk]; exact h2
  · have he2 := (h.kd e he).1
    rw [hc] at he2
    have e1 := he2.same rfl hk
    have a := sizeTs_get top.ts top.dn hl
    have b := sizeT_eq top.ts[top.dn]
    rw [e1] at b
    rcases List.mem_cons.1 he with rfl | he
    · omega
    · have := h.ch.lt.1 e he; omega
theorem SzI.push (h : SzI w lo hi root top r M false) (hl : top.dn < top.ts.length) {p : Place} {c : Nat} (hk : Kd true w lo hi (.slice (some p.1) p.2 c) top.ts[top.dn].kids) (hkv : KidV w top.v top.dn (.slice (some p.1) p.2 c)) (hp : plOk w p) (hb : p.1.block < hi)
    (hn : 0 < top.ts[top.dn].kids.length) : SzI w lo hi root ⟨.slice (some p.1) p.2 c, top.ts[top.dn].kids, 0⟩ (top :: r) (up M p endl) false where
  kd := fun e he => by
    rcases List.mem_cons.1 he with rfl | he
    · exact ⟨hk, Nat.zero_le _⟩
    · exact h.kd e he
  ch := ⟨hn, ⟨hl, rfl⟩, hkv, h.ch⟩
  mok := fun q x hx => by
    by_cases e : q = p
    · subst e
      exact .inr ⟨_, List.mem_cons_self, c, rfl⟩
    · rw [lk_up_other _ _ e] at hx
      rcases h.mok q x hx with h1 | ⟨e, he, c, hc⟩
      · exact .inl h1
      · exact .inr ⟨e, List.mem_cons_of_mem _ he, c, hc⟩
  mfree := fun x hx => by
    rcases mem_up hx with e | hx
    · rw [e]; exact ⟨hp, hb⟩
    · exact h.mfree x hx
  rdy := fun h => by cases h
  small := h.small
theorem SzI.pop {e : Ent} (h : SzI w lo hi root top (e :: r) M rd) {p : Place} {c : Nat} (hv : top.v = .slice (some p.1) p.2 c) (hp : plOk w p) (hb : p.1.block < hi) : SzI w lo hi root e r (up M p (sizeTs top.ts : Int)) true where
  kd := fun x hx => h.kd x (List.mem_cons_of_mem _ hx)
  ch := h.ch.2.2.2
  mok := fun q x hx => by
    by_cases e' : q = p
    · subst e'
      rw [lk_up_same] at hx
      injection hx with hx
      exact .inl ⟨c, top.ts, by rw [← hv]; exact (h.kd top List.mem_cons_self).1, hx.symm⟩
    · rw [lk_up_other _ _ e'] at hx
      rcases h.mok q x hx with h1 | ⟨a, ha, c', hc⟩
      · exact .inl h1
      · rcases List.mem_cons.1 ha with rfl | ha
        · rw [hv] at hc
          injection hc with h1 h2 h3
          injection h1 with h1
          exact absurd (Prod.ext h1.symm h2.symm) e'
        · exact .inr ⟨a, ha, c', hc⟩
  mfree := fun x hx => by
    rcases mem_up hx with e | hx
    · rw [e]; exact ⟨hp, hb⟩
    · exact h.mfree x hx
  rdy := fun _ => by
    obtain ⟨_, ⟨h1, _⟩, h3, _⟩ := h.ch
    rw [hv] at h3
    exact ⟨h1, p, c, h3, by rw [lk_up_same]; rfl⟩
  small := h.small
theorem SzI.ready (h : SzI w lo hi root top r M true) {u : Value} (hk : KidV w top.v top.dn u) : ∃ p c, u = .slice (some p.1) p.2 c ∧ (lk M p).isSome = true := by
  obtain ⟨_, p, c, ⟨b, off, n, c1, e1, e2⟩, h3⟩ := h.rdy rfl
  obtain ⟨b', off', n', c1', e1', e2'⟩ := hk
  rw [e1] at e1'
  injection e1' with e1' _ _
  injection e1' with e1'
  injection e1' with eb eo
  subst eb eo
  rw [e2] at e2'
  injection e2' with e2'
  exact ⟨p, c, e2'.symm, h3⟩
end

/-- the stack in memory -/
def flatE (L : List Ent) : List Value := L.flatMap fun e => [e.v, .int .i64 (e.dn : Int), .int .i64 (sizeTs (e.ts.take e.dn) : Int)]
theorem flatE_snoc (L : List Ent) (e : Ent) : flatE (L ++ [e]) = flatE L ++ [e.v, .int .i64 (e.dn : Int), .int .i64 (sizeTs (e.ts.take e.dn) : Int)] := by simp [flatE]
theorem flatE_len (L : List Ent) : (flatE L).length = L.length * 3 := by
  induction L with
  | nil => rfl
  | cons x l ih => simp only [flatE, List.flatMap_cons, List.length_append, List.length_cons, List.length_nil] at ih ⊢; omega
end Go.Proofs.Ytiochjagolijfaa
