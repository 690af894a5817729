/- Two trees held against each other with a stack of pairs of lists, as data: what holds from round to round. -/
import Derived.Test.YtonfiahihmcmlaaTsu
import Derived.Test.YtonfiahihmcmlaaIsz
namespace Go.Proofs.Ytonfiahihmcmlaa
open Go.RowKit

/-- two lists that are still to be looked at -/
structure Pr where
  va : Value
  vb : Value
  a : List TreeD
  b : List TreeD
abbrev Place2 := Place × Place
abbrev Lists2 := List (List TreeD × List TreeD)
/-- the first n of two lists are alike at their tops, and their Kids have been seen -/
def Cls (D : Lists2) (x y : List TreeD) (n : Nat) : Prop := TopsEq x y ∧ ∀ j (h : j < x.length) (h' : j < y.length), j < n → x[j].kids = [] ∨ (x[j].kids, y[j].kids) ∈ D
theorem Cls.mono {D D' : Lists2} {x y : List TreeD} {n : Nat} (h : Cls D x y n) (hd : ∀ e ∈ D, e ∈ D') : Cls D' x y n :=
  ⟨h.1, fun j hj hj' hn => (h.2 j hj hj' hn).imp id (fun e => hd _ e)⟩
structure SmI (w : World) (lo hi : Nat) (ra rb : List TreeD) (L : List Pr) (M : List (Place2 × Bool)) (D : Lists2) (cur : Option (List TreeD × List TreeD)) : Prop where
  kd : ∀ p ∈ L, Kd true w lo hi p.va p.a ∧ Kd true w lo hi p.vb p.b
  same : ra = rb → ∀ p ∈ L, p.a = p.b
  root : (ra, rb) ∈ D
  cls : ∀ e ∈ D, (∃ p ∈ L, p.a = e.1 ∧ p.b = e.2) ∨ Cls D e.1 e.2 e.1.length ∨ cur = some e
  mok : ∀ q x, lk M q = some x → x = true ∧ ∃ c c' y z, Kd true w lo hi (.slice (some q.1.1) q.1.2 c) y ∧ Kd true w lo hi (.slice (some q.2.1) q.2.2 c') z ∧ (y, z) ∈ D
  mfree : ∀ x ∈ M, (plOk w x.1.1 ∧ x.1.1.1.block < hi) ∧ plOk w x.1.2 ∧ x.1.2.1.block < hi
def costP (L : List Pr) : Nat := (L.map fun p => sizeTs p.a + 1).sum
theorem costP_snoc (L : List Pr) (p : Pr) : costP (L ++ [p]) = costP L + (sizeTs p.a + 1) := by simp [costP]
theorem costP_len (L : List Pr) : L.length ≤ costP L := by
  induction L with
  | nil => simp
  | cons p L ih => simp [costP] at ih ⊢; omega
section
variable {w : World} {lo hi : Nat} {ra rb : List TreeD} {L : List Pr} {M : List (Place2 × Bool)} {D : Lists2}
theorem SmI.start {va vb : Value} (ha : Kd true w lo hi va ra) (hb : Kd true w lo hi vb rb) : SmI w lo hi ra rb [⟨va, vb, ra, rb⟩] [] [(ra, rb)] none where
  kd := fun p hp => by simp at hp; subst hp; exact ⟨ha, hb⟩
  same := fun h p hp => by simp at hp; subst hp; exact h
  root := by simp
  cls := fun e he => by simp at he; subst he; exact .inl ⟨_, List.mem_singleton_self _, rfl, rfl⟩
  mok := fun q x h => by simp [lk] at h
  mfree := by simp
/-- a pair is taken off -/
theorem SmI.take {p : Pr} (h : SmI w lo hi ra rb (L ++ [p]) M D none) : SmI w lo hi ra rb L M D (some (p.a, p.b)) where
  kd := fun q hq => h.kd q (List.mem_append_left _ hq)
  same := fun e q hq => h.same e q (List.mem_append_left _ hq)
  root := h.root
  cls := fun e he => by
    rcases h.cls e he with ⟨q, hq, h1, h2⟩ | h1 | h1
    · rcases List.mem_append.1 hq with hq | hq
      · exact .inl ⟨q, hq, h1, h2⟩
      · rw [List.mem_singleton] at hq
        subst hq
        exact .inr (.inr (by rw [h1, h2]))
    · exact .inr (.inl h1)
    · cases h1
  mok := h.mok
  mfree := h.mfree
/-- a pair is done -/
theorem SmI.done {x y : List TreeD} (h : SmI w lo hi ra rb L M D (some (x, y))) (hc : Cls D x y x.length) : SmI w lo hi ra rb L M D none where
  kd := h.kd
  same := h.same
  root := h.root
  cls := fun e he => by
    rcases h.cls e he with h1 | h1 | h1
    · exact .inl h1
    · exact .inr (.inl h1)
    · injection h1 with h1
      subst h1
      exact .inr (.inl hc)
  mok := h.mok
  mfree := h.mfree
/-- the Kids of two trees are laid on the stack -/
theorem SmI.push {cur : Option (List TreeD × List TreeD)} (h : SmI w lo hi ra rb L M D cur) {p q : Place} {c d : Nat} {x y : List TreeD} (hx : Kd true w lo hi (.slice (some p.1) p.2 c) x) (hy : Kd true w lo hi (.slice (some q.1) q.2 d) y)
    (hp : plOk w p ∧ p.1.block < hi) (hq : plOk w q ∧ q.1.block < hi) (he : ra = rb → x = y) :
    SmI w lo hi ra rb (L ++ [⟨.slice (some p.1) p.2 c, .slice (some q.1) q.2 d, x, y⟩]) (up M (p, q) true) ((x, y) :: D) cur where
  kd := fun r hr => by
    rcases List.mem_append.1 hr with hr | hr
    · exact h.kd r hr
    · rw [List.mem_singleton] at hr; subst hr; exact ⟨hx, hy⟩
  same := fun e r hr => by
    rcases List.mem_append.1 hr with hr | hr
    · exact h.same e r hr
    · rw [List.mem_singleton] at hr; subst hr; exact he e
  root := List.mem_cons_of_mem _ h.root
  cls := fun e hm => by
    rcases List.mem_cons.1 hm with rfl | hm
    · exact .inl ⟨_, List.mem_append_right _ (List.mem_singleton_self _), rfl, rfl⟩
    · rcases h.cls e hm with ⟨r, hr, h1, h2⟩ | h1 | h1
      · exact .inl ⟨r, List.mem_append_left _ hr, h1, h2⟩
      · exact .inr (.inl (h1.mono fun e he => List.mem_cons_of_mem _ he))
      · exact .inr (.inr h1)
  mok := fun k v hk => by
    by_cases e : k = (p, q)
    · subst e
      rw [lk_up_same] at hk
      injection hk with hk
      exact ⟨hk.symm, c, d, x, y, hx, hy, List.mem_cons_self⟩
    · rw [lk_up_other _ _ e] at hk
      obtain ⟨h1, c1, c2, y1, z1, h2, h3, h4⟩ := h.mok k v hk
      exact ⟨h1, c1, c2, y1, z1, h2, h3, List.mem_cons_of_mem _ h4⟩
  mfree := fun r hr => by
    rcases mem_up hr with e | hr
    · rw [e]; exact ⟨hp, hq⟩
    · exact h.mfree r hr
/-- two lists that were seen are among those that are known -/
theorem SmI.seen {cur : Option (List TreeD × List TreeD)} (h : SmI w lo hi ra rb L M D cur) {p q : Place} {c d : Nat} {x y : List TreeD} {v : Bool} (hx : Kd true w lo hi (.slice (some p.1) p.2 c) x) (hy : Kd true w lo hi (.slice (some q.1) q.2 d) y)
    (hk : lk M (p, q) = some v) : v = true ∧ (x, y) ∈ D := by
  obtain ⟨h1, c1, c2, y1, z1, h2, h3, h4⟩ := h.mok (p, q) v hk
  rw [h2.same rfl hx, h3.same rfl hy]
  exact ⟨h1, h4⟩
theorem SmI.all (h : SmI w lo hi ra rb [] M D none) : ra = rb := by
  have key : ∀ n (x y : List TreeD), (x, y) ∈ D → sizeTs x ≤ n → x = y := by
    intro n
    induction n with
    | zero =>
      intro x y hm hs
      rcases h.cls _ hm with ⟨p, hp, _⟩ | h1 | h1
      · simp at hp
      · have := length_sizeTs x
        have h0 : x = [] := List.eq_nil_of_length_eq_zero (by omega)
        subst h0
        have := h1.1.1
        exact (List.eq_nil_of_length_eq_zero (by simpa using this.symm)).symm
      · cases h1
    | succ n ih =>
      intro x y hm hs
      rcases h.cls _ hm with ⟨p, hp, _⟩ | h1 | h1
      · simp at hp
      · refine List.ext_getElem h1.1.1 fun i hi hi' => ?_
        obtain ⟨t1, t2, t3⟩ := h1.1.2 i hi hi'
        refine TreeD.ext_of t1 t2 ?_
        rcases h1.2 i hi hi' hi with e | e
        · rw [e] at t3 ⊢
          exact (List.eq_nil_of_length_eq_zero (by simpa using t3.symm)).symm
        · have a := sizeTs_get x i hi
          have b := sizeT_eq x[i]
          exact ih _ _ e (by omega)
      · cases h1
  exact key _ _ _ h.root (Nat.le_refl _)
end
theorem tops_of_eq {x y : List TreeD} (h : x = y) : TopsEq x y := by subst h; exact ⟨rfl, fun _ _ _ => ⟨rfl, rfl, rfl⟩⟩

/-- the stack in memory -/
def flatP (L : List Pr) : List Value := L.flatMap fun p => [p.va, p.vb]
theorem flatP_snoc (L : List Pr) (p : Pr) : flatP (L ++ [p]) = flatP L ++ [p.va, p.vb] := by simp [flatP]
theorem flatP_len (L : List Pr) : (flatP L).length = L.length * 2 := by
  induction L with
  | nil => rfl
  | cons x l ih => simp only [flatP, List.flatMap_cons, List.length_append, List.length_cons, List.length_nil] at ih ⊢; omega
def Stp (w : World) (base : Nat) (v : Value) (L : List Pr) : Prop := w.ownsRow base 157 2 v L.length (flatP L)
theorem Stp.keep {w w' : World} {base : Nat} {v : Value} {L : List Pr} (h : Stp w base v L) (k : ∀ g, v.ownBlock = some g → w'.heap[g]? = w.heap[g]?) : Stp w' base v L := by
  refine ⟨h.1, ?_⟩
  rcases h.2 with a | ⟨g, cap, cur, rfl, hb, hh, rest⟩
  · exact .inl a
  · exact .inr ⟨g, cap, cur, rfl, hb, (k g rfl).trans hh, rest⟩
theorem Stp.block {w : World} {base : Nat} {v : Value} {L : List Pr} (h : Stp w base v L) : ∀ g, v.ownBlock = some g → base ≤ g ∧ g < w.heap.size := fun g hg => World.ownsRow.lt h g hg
theorem Stp.form {w : World} {base : Nat} {v : Value} {L : List Pr} (h : Stp w base v L) : ∃ A cap, v = .slice A L.length cap ∧ L.length ≤ cap ∧ cap ≤ maxLen := by
  rcases h.2 with ⟨rfl, h0⟩ | ⟨g, cap, cur, rfl, hb, hh, h1, h2, _⟩
  · exact ⟨none, 0, by rw [h0], by omega, by unfold maxLen; omega⟩
  · exact ⟨_, cap, rfl, h1, h2⟩
theorem Stp.parts {w : World} {base : Nat} {v : Value} {L : List Pr} {p : Pr} (h : Stp w base v (L ++ [p])) :
    ∃ g cap, v = .slice (some ⟨g, 0, none⟩) (L.length + 1) cap ∧ base ≤ g ∧ g < w.heap.size ∧ L.length + 1 ≤ cap ∧ cap ≤ maxLen ∧
      w.cell? ⟨g, L.length * 2, none⟩ = some p.va ∧ w.cell? ⟨g, L.length * 2 + 1, none⟩ = some p.vb ∧ Stp w base (.slice (some ⟨g, 0, none⟩) L.length cap) L := by
  have hl : (L ++ [p]).length = L.length + 1 := by simp
  unfold Stp at h
  rw [flatP_snoc, hl] at h
  have hf := flatP_len L
  obtain ⟨h1, h2⟩ := h
  rcases h2 with ⟨_, h0⟩ | ⟨g, cap, cur, rfl, hb, hh, hc, hm, hs, ht⟩
  · omega
  have hr : Row w g 157 cur := hh
  have cell : ∀ j, j < (L.length + 1) * 2 → cur[j]? = (flatP L ++ [p.va, p.vb])[j]? := fun j hj => by
    rw [← ht, List.getElem?_take_of_lt hj, Array.getElem?_toList]
  refine ⟨g, cap, rfl, hb, hr.lt, hc, hm, ?_, ?_, ?_⟩
  · rw [hr.cell, cell _ (by omega), List.getElem?_append_right (by omega), hf]; simp
  · rw [hr.cell, cell _ (by omega), List.getElem?_append_right (by omega), hf]; simp [show L.length * 2 + 1 - L.length * 2 = 1 by omega]
  · refine ⟨hf, .inr ⟨g, cap, cur, rfl, hb, hh, by omega, hm, hs, ?_⟩⟩
    have := congrArg (List.take (L.length * 2)) ht
    rw [List.take_take, Nat.min_eq_left (by omega), List.take_append_of_le_length (by omega)] at this
    rw [this]
    exact List.take_of_length_le (by omega)
end Go.Proofs.Ytonfiahihmcmlaa
