import Derived.Test.YtokdhgocgicdnaaGreatDoorJIpu
/- One more of a list is counted: (*tally).add. -/
namespace Go.Proofs.YtokdhgocgicdnaaGreatDoor
open Go.RowKit

set_option maxRecDepth 100000 in
set_option maxHeartbeats 1000000 in
theorem add_any (g o : Nat) (d s x : Int) (w : World) (h1 : w.cell? ⟨g, o + 1, none⟩ = some (.int .i64 d)) (h2 : w.cell? ⟨g, o + 2, none⟩ = some (.int .i64 s)) (f1 : w.frozen? ⟨g, o + 1, none⟩ = false) (f2 : w.frozen? ⟨g, o + 2, none⟩ = false)
    (d0 : 0 ≤ d) (d1 : d ≤ 2097152) (s0 : 0 ≤ s) (s1 : s ≤ 2097152) (x0 : 0 ≤ x) (x1 : x ≤ 2097152) :
    Calls Tryz.prog 71 #[.pointer (some ⟨g, o, none⟩), .int .i64 (1 + x)] w fun e w' => e = .returned (.tuple #[]) ∧ w' = (w.setCell ⟨g, o + 1, none⟩ (.int .i64 (d + 1))).setCell ⟨g, o + 2, none⟩ (.int .i64 (s + (1 + x))) := by
  go_enter Tryz.func71, Tryz.ntmps71
  go_wp2_with fail
  refine (plus_any s (1 + x) _ (by omega) (by omega) (by omega) (by omega)).mono ?_
  rintro e w1 ⟨rfl, rfl⟩
  go_wp2
  first | go_end0 | go_ret
  exact ⟨rfl, rfl⟩
end Go.Proofs.YtokdhgocgicdnaaGreatDoor

/- Counting a tree with a stack of open lists, as data: what holds from round to round. -/
namespace Go.Proofs.YtokdhgocgicdnaaGreatDoor
open Go.RowKit

/-- a list that is being counted, and how many of it are done -/
structure Ent where
  v : Value
  ts : List TreeD
  dn : Nat
/-- the Kids of the i-th tree of v are u -/
def KidV (w : World) (v : Value) (i : Nat) (u : Value) : Prop := ∃ b off n c, v = .slice (some ⟨b, off, none⟩) n c ∧ w.cell? ⟨b, off + i * 3 + 2, none⟩ = some u
/-- each open list hangs from the one below it -/
def Ch (w : World) (root : List TreeD) : Value → List TreeD → List Ent → Prop
  | _, ts, [] => ts = root
  | v, ts, e :: r => 0 < ts.length ∧ (∃ h : e.dn < e.ts.length, e.ts[e.dn].kids = ts) ∧ KidV w e.v e.dn v ∧ Ch w root e.v e.ts r
theorem Ch.lt {w : World} {root : List TreeD} : ∀ {r : List Ent} {v : Value} {ts : List TreeD}, Ch w root v ts r → (∀ e ∈ r, sizeTs ts < sizeTs e.ts) ∧ sizeTs ts ≤ sizeTs root
  | [], _, _, h => ⟨by simp, by rw [show _ = root from h]; exact Nat.le_refl _⟩
  | e :: r, v, ts, h => by
    obtain ⟨h0, ⟨h1, h2⟩, h3, h4⟩ := h
    have a := Ch.lt h4
    have b := sizeTs_get e.ts e.dn h1
    have c := sizeT_eq e.ts[e.dn]
    rw [h2] at c
    refine ⟨fun x hx => ?_, by omega⟩
    rcases List.mem_cons.1 hx with rfl | hx
    · omega
    · have := a.1 x hx; omega
theorem Ch.depth {w : World} {root : List TreeD} : ∀ {r : List Ent} {v : Value} {ts : List TreeD}, Ch w root v ts r → r.length + sizeTs ts ≤ sizeTs root
  | [], _, _, h => by rw [show _ = root from h]; simp
  | e :: r, v, ts, h => by
    obtain ⟨h0, ⟨h1, h2⟩, h3, h4⟩ := h
    have a := Ch.depth h4
    have b := sizeTs_get e.ts e.dn h1
    have c := sizeT_eq e.ts[e.dn]
    rw [h2] at c
    simp only [List.length_cons]
    omega
theorem sizeTs_drop (ts : List TreeD) (k : Nat) (h : k < ts.length) : sizeTs (ts.drop k) = 1 + sizeTs ts[k].kids + sizeTs (ts.drop (k + 1)) := by
  rw [List.drop_eq_getElem_cons h]
  simp only [sizeTs, sizeT_eq]
structure SzI (w : World) (lo hi : Nat) (root : List TreeD) (top : Ent) (r : List Ent) (M : List (Place × Int)) (rd : Bool) : Prop where
  kd : ∀ e ∈ top :: r, Kd true w lo hi e.v e.ts ∧ e.dn ≤ e.ts.length
  ch : Ch w root top.v top.ts r
  mok : ∀ p x, lk M p = some x → (∃ c ts, Kd true w lo hi (.slice (some p.1) p.2 c) ts ∧ x = sizeTs ts) ∨ (∃ e ∈ top :: r, ∃ c, e.v = .slice (some p.1) p.2 c)
  mfree : ∀ x ∈ M, plOk w x.1 ∧ x.1.1.block < hi
  rdy : rd = true → top.dn < top.ts.length ∧ ∃ p c, KidV w top.v top.dn (.slice (some p.1) p.2 c) ∧ (lk M p).isSome = true
  small : sizeTs root ≤ 2097152
def costU : List Ent → Nat
  | [] => 0
  | e :: r => 3 * sizeTs (e.ts.drop (e.dn + 1)) + 2 + costU r
def cost (top : Ent) (r : List Ent) (rd : Bool) : Nat := costU r + (if rd then 3 * sizeTs (top.ts.drop (top.dn + 1)) + 2 else 3 * sizeTs (top.ts.drop top.dn) + 1)
theorem cost_add (top : Ent) (r : List Ent) (rd : Bool) (h : top.dn < top.ts.length) : cost { top with dn := top.dn + 1 } r false < cost top r rd := by
  have := sizeTs_drop top.ts top.dn h
  unfold cost
  cases rd <;> simp <;> omega
theorem cost_push (top : Ent) (r : List Ent) (u : Value) (h : top.dn < top.ts.length) : cost ⟨u, top.ts[top.dn].kids, 0⟩ (top :: r) false < cost top r false := by
  have := sizeTs_drop top.ts top.dn h
  simp [cost, costU]
  omega
theorem cost_pop (top e : Ent) (r : List Ent) (h : top.dn = top.ts.length) : cost e r true < cost top (e :: r) false := by
  simp [cost, costU, h, sizeTs]
  omega

section
variable {w : World} {lo hi : Nat} {root : List TreeD} {top : Ent} {r : List Ent} {M : List (Place × Int)} {rd : Bool}
theorem SzI.start {v : Value} (h : Kd true w lo hi v root) (hs : sizeTs root ≤ 2097152) : SzI w lo hi root ⟨v, root, 0⟩ [] [] false where
  kd := fun e he => by
    simp at he; subst he
    exact ⟨h, Nat.zero_le _⟩
  ch := rfl
  mok := fun p x h => by simp [lk] at h
  mfree := by simp
  rdy := fun h => by cases h
  small := hs
theorem SzI.le (h : SzI w lo hi root top r M rd) : sizeTs top.ts ≤ 2097152 := by have := h.ch.lt.2; have := h.small; omega
theorem SzI.add (h : SzI w lo hi root top r M rd) (hl : top.dn < top.ts.length) : SzI w lo hi root { top with dn := top.dn + 1 } r M false where
  kd := fun e he => by
    rcases List.mem_cons.1 he with rfl | he
    · exact ⟨(h.kd top List.mem_cons_self).1, hl⟩
    · exact h.kd e (List.mem_cons_of_mem _ he)
  ch := h.ch
  mok := fun p x hx => by
    rcases h.mok p x hx with h1 | ⟨e, he, c, hc⟩
    · exact .inl h1
    · rcases List.mem_cons.1 he with rfl | he
      · exact .inr ⟨_, List.mem_cons_self, c, hc⟩
      · exact .inr ⟨e, List.mem_cons_of_mem _ he, c, hc⟩
  mfree := h.mfree
  rdy := fun h => by cases h
  small := h.small
/-- what is known of a list that is met with is its size -/
theorem SzI.known (h : SzI w lo hi root top r M rd) (hl : top.dn < top.ts.length) {p : Place} {c : Nat} {x : Int} (hk : Kd true w lo hi (.slice (some p.1) p.2 c) top.ts[top.dn].kids) (hx : lk M p = some x) : x = sizeTs top.ts[top.dn].kids := by
  rcases h.mok p x hx with ⟨c', ts, h1, h2⟩ | ⟨e, he, c', hc⟩
  · rw [h1.same rfl hk]; exact h2
  · have he2 := (h.kd e he).1
    rw [hc] at he2
    have e1 := he2.same rfl hk
    have a := sizeTs_get top.ts top.dn hl
    have b := sizeT_eq top.ts[top.dn]
    rw [e1] at b
    rcases List.mem_cons.1 he with rfl | he
    · omega
    · have := h.ch.lt.1 e he; omega
theorem SzI.push (h : SzI w lo hi root top r M false) (hl : top.dn < top.ts.length) {p : Place} {c : Nat} (hk : Kd true w lo hi (.slice (some p.1) p.2 c) top.ts[top.dn].kids) (hkv : KidV w top.v top.dn (.slice (some p.1) p.2 c)) (hp : plOk w p) (hb : p.1.block < hi)
    (hn : 0 < top.ts[top.dn].kids.length) : SzI w lo hi root ⟨.slice (some p.1) p.2 c, top.ts[top.dn].kids, 0⟩ (top :: r) (up M p endl) false where
  kd := fun e he => by
    rcases List.mem_cons.1 he with rfl | he
    · exact ⟨hk, Nat.zero_le _⟩
    · exact h.kd e he
  ch := ⟨hn, ⟨hl, rfl⟩, hkv, h.ch⟩
  mok := fun q x hx => by
    by_cases e : q = p
    · subst e
      exact .inr ⟨_, List.mem_cons_self, c, rfl⟩
    · rw [lk_up_other _ _ e] at hx
      rcases h.mok q x hx with h1 | ⟨e, he, c, hc⟩
      · exact .inl h1
      · exact .inr ⟨e, List.mem_cons_of_mem _ he, c, hc⟩
  mfree := fun x hx => by
    rcases mem_up hx with e | hx
    · rw [e]; exact ⟨hp, hb⟩
    · exact h.mfree x hx
  rdy := fun h => by cases h
  small := h.small
theorem SzI.pop {e : Ent} (h : SzI w lo hi root top (e :: r) M rd) {p : Place} {c : Nat} (hv : top.v = .slice (some p.1) p.2 c) (hp : plOk w p) (hb : p.1.block < hi) : SzI w lo hi root e r (up M p (sizeTs top.ts : Int)) true where
  kd := fun x hx => h.kd x (List.mem_cons_of_mem _ hx)
  ch := h.ch.2.2.2
  mok := fun q x hx => by
    by_cases e' : q = p
    · subst e'
      rw [lk_up_same] at hx
      injection hx with hx
      exact .inl ⟨c, top.ts, by rw [← hv]; exact (h.kd top List.mem_cons_self).1, hx.symm⟩
    · rw [lk_up_other _ _ e'] at hx
      rcases h.mok q x hx with h1 | ⟨a, ha, c', hc⟩
      · exact .inl h1
      · rcases List.mem_cons.1 ha with rfl | ha
        · rw [hv] at hc
          injection hc with h1 h2 h3
          injection h1 with h1
          exact absurd (Prod.ext h1.symm h2.symm) e'
        · exact .inr ⟨a, ha, c', hc⟩
  mfree := fun x hx => by
    rcases mem_up hx with e | hx
    · rw [e]; exact ⟨hp, hb⟩
    · exact h.mfree x hx
  rdy := fun _ => by
    obtain ⟨_, ⟨h1, _⟩, h3, _⟩ := h.ch
    rw [hv] at h3
    exact ⟨h1, p, c, h3, by rw [lk_up_same]; rfl⟩
  small := h.small
theorem SzI.ready (h : SzI w lo hi root top r M true) {u : Value} (hk : KidV w top.v top.dn u) : ∃ p c, u = .slice (some p.1) p.2 c ∧ (lk M p).isSome = true := by
  obtain ⟨_, p, c, ⟨b, off, n, c1, e1, e2⟩, h3⟩ := h.rdy rfl
  obtain ⟨b', off', n', c1', e1', e2'⟩ := hk
  rw [e1] at e1'
  injection e1' with e1' _ _
  injection e1' with e1'
  injection e1' with eb eo
  subst eb eo
  rw [e2] at e2'
  injection e2' with e2'
  exact ⟨p, c, e2'.symm, h3⟩
end

/-- the stack in memory -/
def flatE (L : List Ent) : List Value := L.flatMap fun e => [e.v, .int .i64 (e.dn : Int), .int .i64 (sizeTs (e.ts.take e.dn) : Int)]
theorem flatE_snoc (L : List Ent) (e : Ent) : flatE (L ++ [e]) = flatE L ++ [e.v, .int .i64 (e.dn : Int), .int .i64 (sizeTs (e.ts.take e.dn) : Int)] := by simp [flatE]
theorem flatE_len (L : List Ent) : (flatE L).length = L.length * 3 := by
  induction L with
  | nil => rfl
  | cons x l ih => simp only [flatE, List.flatMap_cons, List.length_append, List.length_cons, List.length_nil] at ih ⊢; omega
def Stk (w : World) (base : Nat) (v : Value) (L : List Ent) : Prop := w.ownsRow base 131 3 v L.length (flatE L)
theorem Stk.keep {w w' : World} {base : Nat} {v : Value} {L : List Ent} (h : Stk w base v L) (k : ∀ g, v.ownBlock = some g → w'.heap[g]? = w.heap[g]?) : Stk w' base v L := by
  refine ⟨h.1, ?_⟩
  rcases h.2 with a | ⟨g, cap, cur, rfl, hb, hh, rest⟩
  · exact .inl a
  · exact .inr ⟨g, cap, cur, rfl, hb, (k g rfl).trans hh, rest⟩
theorem Stk.parts {w : World} {base : Nat} {v : Value} {L : List Ent} {e : Ent} (h : Stk w base v (L ++ [e])) :
    ∃ g cap cur, v = .slice (some ⟨g, 0, none⟩) (L.length + 1) cap ∧ base ≤ g ∧ Row w g 131 cur ∧ L.length + 1 ≤ cap ∧ cap ≤ maxLen ∧ cur.size = cap * 3 ∧
      w.cell? ⟨g, L.length * 3, none⟩ = some e.v ∧ w.cell? ⟨g, L.length * 3 + 1, none⟩ = some (.int .i64 (e.dn : Int)) ∧ w.cell? ⟨g, L.length * 3 + 2, none⟩ = some (.int .i64 (sizeTs (e.ts.take e.dn) : Int)) ∧
      Stk w base (.slice (some ⟨g, 0, none⟩) L.length cap) L ∧
      (∀ e' : Ent, e'.v = e.v → Stk ((w.setCell ⟨g, L.length * 3 + 1, none⟩ (.int .i64 (e'.dn : Int))).setCell ⟨g, L.length * 3 + 2, none⟩ (.int .i64 (sizeTs (e'.ts.take e'.dn) : Int))) base v (L ++ [e'])) := by
  have hl : (L ++ [e]).length = L.length + 1 := by simp
  unfold Stk at h
  rw [flatE_snoc, hl] at h
  have hf := flatE_len L
  obtain ⟨h1, h2⟩ := h
  rcases h2 with ⟨_, h0⟩ | ⟨g, cap, cur, rfl, hb, hh, hc, hm, hs, ht⟩
  · omega
  have hr : Row w g 131 cur := hh
  have cell : ∀ j, j < (L.length + 1) * 3 → cur[j]? = (flatE L ++ [e.v, .int .i64 (e.dn : Int), .int .i64 (sizeTs (e.ts.take e.dn) : Int)])[j]? := fun j hj => by
    rw [← ht, List.getElem?_take_of_lt hj, Array.getElem?_toList]
  refine ⟨g, cap, cur, rfl, hb, hr, hc, hm, hs, ?_, ?_, ?_, ?_, ?_⟩
  · rw [hr.cell, cell _ (by omega), List.getElem?_append_right (by omega), hf]; simp
  · rw [hr.cell, cell _ (by omega), List.getElem?_append_right (by omega), hf]; simp [show L.length * 3 + 1 - L.length * 3 = 1 by omega]
  · rw [hr.cell, cell _ (by omega), List.getElem?_append_right (by omega), hf]; simp [show L.length * 3 + 2 - L.length * 3 = 2 by omega]
  · refine ⟨hf, .inr ⟨g, cap, cur, rfl, hb, hh, by omega, hm, hs, ?_⟩⟩
    have := congrArg (List.take (L.length * 3)) ht
    rw [List.take_take, Nat.min_eq_left (by omega), List.take_append_of_le_length (by omega)] at this
    rw [this]
    exact List.take_of_length_le (by omega)
  · intro e' hv
    have hl' : (L ++ [e']).length = L.length + 1 := by simp
    unfold Stk
    rw [flatE_snoc, hl', hv]
    have r2 := (hr.put (L.length * 3 + 1) (.int .i64 (e'.dn : Int))).put (L.length * 3 + 2) (.int .i64 (sizeTs (e'.ts.take e'.dn) : Int))
    refine ⟨by simp [hf]; omega, .inr ⟨g, cap, _, rfl, hb, r2, hc, hm, by simp [hs], ?_⟩⟩
    refine List.ext_getElem? fun j => ?_
    by_cases hj : j < (L.length + 1) * 3
    · rw [List.getElem?_take_of_lt hj, Array.getElem?_toList]
      by_cases j2 : j = L.length * 3 + 2
      · subst j2
        rw [Array.getElem?_setIfInBounds_self_of_lt (by simp; omega), List.getElem?_append_right (by omega), hf]; simp [show L.length * 3 + 2 - L.length * 3 = 2 by omega]
      · rw [Array.getElem?_setIfInBounds_ne (fun e => j2 e.symm)]
        by_cases j1 : j = L.length * 3 + 1
        · subst j1
          rw [Array.getElem?_setIfInBounds_self_of_lt (by omega), List.getElem?_append_right (by omega), hf]; simp [show L.length * 3 + 1 - L.length * 3 = 1 by omega]
        · rw [Array.getElem?_setIfInBounds_ne (fun e => j1 e.symm), cell j hj]
          by_cases j0 : j < L.length * 3
          · rw [List.getElem?_append_left (by omega), List.getElem?_append_left (by omega)]
          · obtain rfl : j = L.length * 3 := by omega
            rw [List.getElem?_append_right (by omega), List.getElem?_append_right (by omega), hf]; simp
    · rw [List.getElem?_take_eq_none (by omega), List.getElem?_eq_none (by simp [hf]; omega)]
end Go.Proofs.YtokdhgocgicdnaaGreatDoor
