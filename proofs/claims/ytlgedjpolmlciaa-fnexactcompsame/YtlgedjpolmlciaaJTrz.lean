import Derived.Test.YtlgedjpolmlciaaJPMap
import Derived.Test.YtlgedjpolmlciaaTre
import Derived.Test.YtlgedjpolmlciaaJTmz
/- Lists that were taken for alike, as data: what follows from them; places that stand for others, and how their ways grow shorter. No program stands in this text. -/
namespace Go.Proofs.Ytlgedjpolmlciaa
open Go.RowKit

section
variable {α β : Type} {own : α → β} {kids : α → List α}
/-- what follows from lists that were taken for alike -/
inductive Eqv (D : List (List α × List α)) : List α → List α → Prop
  | refl (x : List α) : Eqv D x x
  | pair (x y : List α) (h : (x, y) ∈ D) : Eqv D x y
  | symm (x y : List α) (h : Eqv D x y) : Eqv D y x
  | trans (x y z : List α) (h : Eqv D x y) (k : Eqv D y z) : Eqv D x z
theorem Eqv.mono {D D' : List (List α × List α)} {x y : List α} (h : Eqv D x y) (hd : ∀ e ∈ D, e ∈ D') : Eqv D' x y := by
  induction h with
  | refl x => exact .refl x
  | pair x y h => exact .pair x y (hd _ h)
  | symm x y _ ih => exact .symm _ _ ih
  | trans x y z _ _ ih1 ih2 => exact .trans _ _ _ ih1 ih2
/-- alike down to a depth -/
def Agree (own : α → β) (kids : α → List α) : Nat → List α → List α → Prop
  | 0, _, _ => True
  | n + 1, x, y => x.length = y.length ∧ ∀ i (h : i < x.length) (h' : i < y.length), own x[i] = own y[i] ∧ Agree own kids n (kids x[i]) (kids y[i])
theorem Agree.refl : ∀ (n : Nat) (x : List α), Agree own kids n x x
  | 0, _ => trivial
  | n + 1, _ => ⟨rfl, fun _ _ _ => ⟨rfl, Agree.refl n _⟩⟩
theorem Agree.symm : ∀ (n : Nat) (x y : List α), Agree own kids n x y → Agree own kids n y x
  | 0, _, _, _ => trivial
  | n + 1, _, _, h => ⟨h.1.symm, fun i h1 h2 => ⟨(h.2 i h2 h1).1.symm, Agree.symm n _ _ (h.2 i h2 h1).2⟩⟩
theorem Agree.trans : ∀ (n : Nat) (x y z : List α), Agree own kids n x y → Agree own kids n y z → Agree own kids n x z
  | 0, _, _, _, _, _ => trivial
  | n + 1, _, _, _, h, k => ⟨h.1.trans k.1, fun i h1 h2 => ⟨(h.2 i h1 (h.1 ▸ h1)).1.trans (k.2 i (h.1 ▸ h1) h2).1, Agree.trans n _ _ _ (h.2 i h1 (h.1 ▸ h1)).2 (k.2 i (h.1 ▸ h1) h2).2⟩⟩
/-- two lists are as long as each other, their own parts are alike, and of the first n the Kids are taken for alike -/
structure ClsU (own : α → β) (kids : α → List α) (D : List (List α × List α)) (x y : List α) (n : Nat) : Prop where
  len : x.length = y.length
  own_ : ∀ i (h : i < x.length) (h' : i < y.length), own x[i] = own y[i]
  kid : ∀ j (h : j < x.length) (h' : j < y.length), j < n → (kids x[j]).length = (kids y[j]).length ∧ (kids x[j] = [] ∨ Eqv D (kids x[j]) (kids y[j]))
theorem ClsU.mono {D D' : List (List α × List α)} {x y : List α} {n : Nat} (h : ClsU own kids D x y n) (hd : ∀ e ∈ D, e ∈ D') : ClsU own kids D' x y n :=
  ⟨h.len, h.own_, fun j h1 h2 hn => ⟨(h.kid j h1 h2 hn).1, (h.kid j h1 h2 hn).2.imp id fun e => e.mono hd⟩⟩
theorem agree_of {D : List (List α × List α)} (hc : ∀ e ∈ D, ClsU own kids D e.1 e.2 e.1.length) : ∀ (n : Nat) (x y : List α), Eqv D x y → Agree own kids n x y := by
  intro n
  induction n with
  | zero => intro _ _ _; trivial
  | succ n ih =>
    intro x y h
    induction h with
    | refl x => exact Agree.refl _ _
    | pair x y h =>
      have c := hc _ h
      refine ⟨c.len, fun i h1 h2 => ⟨c.own_ i h1 h2, ?_⟩⟩
      obtain ⟨k1, k2⟩ := c.kid i h1 h2 h1
      rcases k2 with e | e
      · rw [e] at k1 ⊢
        rw [List.eq_nil_of_length_eq_zero k1.symm]
        exact Agree.refl _ _
      · exact ih _ _ e
    | symm x y _ ih1 => exact Agree.symm _ _ _ ih1
    | trans x y z _ _ ih1 ih2 => exact Agree.trans _ _ _ _ ih1 ih2
theorem eq_of_agree {sz : List α → Nat} (hsz : ∀ (x : List α) i (h : i < x.length), sz (kids x[i]) < sz x) (ext : ∀ a b, own a = own b → kids a = kids b → a = b) : ∀ (n : Nat) (x y : List α), Agree own kids n x y → sz x < n → x = y := by
  intro n
  induction n with
  | zero => intro _ _ _ h; omega
  | succ n ih =>
    intro x y h hs
    refine List.ext_getElem h.1 fun i h1 h2 => ?_
    obtain ⟨a1, a2⟩ := h.2 i h1 h2
    have := hsz x i h1
    exact ext _ _ a1 (ih _ _ a2 (by omega))
theorem same_of {sz : List α → Nat} (hsz : ∀ (x : List α) i (h : i < x.length), sz (kids x[i]) < sz x) (ext : ∀ a b, own a = own b → kids a = kids b → a = b) {D : List (List α × List α)} (hc : ∀ e ∈ D, ClsU own kids D e.1 e.2 e.1.length) {x y : List α} (h : Eqv D x y) : x = y :=
  eq_of_agree hsz ext _ x y (agree_of hc (sz x + 1) x y h) (Nat.lt_succ_self _)

/-- each place leads to one that is taken for alike, later and later -/
structure UfT {κ : Type} [DecidableEq κ] (At : κ → List α → Prop) (D : List (List α × List α)) (M : List (κ × κ)) (t : κ → Nat) (T : Nat) : Prop where
  link : ∀ p q, lk M p = some q → ∃ x y, At p x ∧ At q y ∧ Eqv D x y
  time : ∀ p q, lk M p = some q → t p < T ∧ ∀ r, lk M q = some r → t p < t q
section
variable {κ : Type} [DecidableEq κ] {At : κ → List α → Prop} {D D' : List (List α × List α)} {M : List (κ × κ)} {t : κ → Nat} {T : Nat}
theorem lk_mem {l : List (κ × κ)} {x : κ × κ} (h : x ∈ l) : ∃ q, lk l x.1 = some q := by
  induction l with
  | nil => cases h
  | cons y l ih =>
    unfold lk
    by_cases e : x.1 = y.1
    · exact ⟨y.2, by rw [if_pos e]⟩
    · rw [if_neg e]
      rcases List.mem_cons.1 h with rfl | h
      · exact absurd rfl e
      · exact ih h
theorem UfT.nil (At : κ → List α → Prop) (D : List (List α × List α)) : UfT At D ([] : List (κ × κ)) (fun _ => 0) 0 := ⟨(fun _ _ h => by cases h), (fun _ _ h => by cases h)⟩
theorem UfT.mono (a : UfT At D M t T) (hd : ∀ e ∈ D, e ∈ D') : UfT At D' M t T := ⟨fun p q h => by
  obtain ⟨x, y, h1, h2, h3⟩ := a.link p q h
  exact ⟨x, y, h1, h2, h3.mono hd⟩, a.time⟩
theorem UfT.key (a : UfT At D M t T) {x : κ × κ} (h : x ∈ M) : ∃ y, At x.1 y := by
  obtain ⟨q, hq⟩ := lk_mem h
  obtain ⟨y, _, h1, _⟩ := a.link _ _ hq
  exact ⟨y, h1⟩
theorem UfT.short (hfun : ∀ p x y, At p x → At p y → x = y) (a : UfT At D M t T) {p q r : κ} (h1 : lk M p = some q) (h2 : lk M q = some r) : UfT At D (up M p r) t T := by
  obtain ⟨x, y, p1, p2, p3⟩ := a.link p q h1
  obtain ⟨y', z, q1, q2, q3⟩ := a.link q r h2
  obtain rfl := hfun _ _ _ p2 q1
  have hpq := (a.time p q h1).2 r h2
  refine ⟨fun u v h => ?_, fun u v h => ?_⟩
  · rw [lk_up] at h
    by_cases e : u = p
    · subst e
      rw [if_pos rfl] at h
      injection h with h
      subst h
      exact ⟨x, z, p1, q2, .trans _ _ _ p3 q3⟩
    · rw [if_neg e] at h
      exact a.link u v h
  · rw [lk_up] at h
    by_cases e : u = p
    · subst e
      rw [if_pos rfl] at h
      injection h with h
      subst h
      refine ⟨(a.time u q h1).1, fun s hs => ?_⟩
      rw [lk_up] at hs
      by_cases e2 : r = u
      · subst e2
        have := (a.time q r h2).2 q h1
        omega
      · rw [if_neg e2] at hs
        have := (a.time q r h2).2 s hs
        omega
    · rw [if_neg e] at h
      refine ⟨(a.time u v h).1, fun s hs => ?_⟩
      rw [lk_up] at hs
      by_cases e2 : v = p
      · subst e2
        exact (a.time u v h).2 q h1
      · rw [if_neg e2] at hs
        exact (a.time u v h).2 s hs
theorem UfT.join (a : UfT At D M t T) {p q : κ} (hp : lk M p = none) (hq : lk M q = none) (hne : p ≠ q) {x y : List α} (h1 : At p x) (h2 : At q y) (h3 : Eqv D x y) : ∃ t' T', UfT At D (up M p q) t' T' := by
  refine ⟨fun u => if u = p then T else t u, T + 1, fun u v h => ?_, fun u v h => ?_⟩
  · rw [lk_up] at h
    by_cases e : u = p
    · subst e
      rw [if_pos rfl] at h
      injection h with h
      subst h
      exact ⟨x, y, h1, h2, h3⟩
    · rw [if_neg e] at h
      exact a.link u v h
  · rw [lk_up] at h
    by_cases e : u = p
    · subst e
      rw [if_pos rfl] at h
      injection h with h
      subst h
      refine ⟨by rw [if_pos rfl]; omega, fun s hs => ?_⟩
      rw [lk_up, if_neg (Ne.symm hne), hq] at hs
      cases hs
    · rw [if_neg e] at h
      have ht := (a.time u v h).1
      refine ⟨by rw [if_neg e]; omega, fun s hs => ?_⟩
      rw [lk_up] at hs
      rw [if_neg e]
      by_cases e2 : v = p
      · rw [if_pos e2]; exact ht
      · rw [if_neg e2] at hs
        rw [if_neg e2]
        exact (a.time u v h).2 s hs
end
/-- two lists that are still to be looked at -/
structure Pr2 (α : Type) where
  va : Value
  vb : Value
  a : List α
  b : List α
structure SmJ (own : α → β) (kids : α → List α) (K : Value → List α → Prop) (ra rb : List α) (L : List (Pr2 α)) (D : List (List α × List α)) (cur : Option (List α × List α)) : Prop where
  kd : ∀ p ∈ L, K p.va p.a ∧ K p.vb p.b
  same : ra = rb → ∀ p ∈ L, p.a = p.b
  root : (ra, rb) ∈ D
  cls : ∀ e ∈ D, (∃ p ∈ L, p.a = e.1 ∧ p.b = e.2) ∨ ClsU own kids D e.1 e.2 e.1.length ∨ cur = some e
section
variable {K : Value → List α → Prop} {ra rb : List α} {L : List (Pr2 α)} {D : List (List α × List α)}
theorem SmJ.start {va vb : Value} (ha : K va ra) (hb : K vb rb) : SmJ own kids K ra rb [⟨va, vb, ra, rb⟩] [(ra, rb)] none where
  kd := fun p hp => by simp at hp; subst hp; exact ⟨ha, hb⟩
  same := fun h p hp => by simp at hp; subst hp; exact h
  root := by simp
  cls := fun e he => by simp at he; subst he; exact .inl ⟨_, List.mem_singleton_self _, rfl, rfl⟩
theorem SmJ.take {p : Pr2 α} (h : SmJ own kids K ra rb (L ++ [p]) D none) : SmJ own kids K ra rb L D (some (p.a, p.b)) where
  kd := fun q hq => h.kd q (List.mem_append_left _ hq)
  same := fun e q hq => h.same e q (List.mem_append_left _ hq)
  root := h.root
  cls := fun e he => by
    rcases h.cls e he with ⟨q, hq, h1, h2⟩ | h1 | h1
    · rcases List.mem_append.1 hq with hq | hq
      · exact .inl ⟨q, hq, h1, h2⟩
      · rw [List.mem_singleton] at hq
        subst hq
        exact .inr (.inr (by rw [h1, h2]))
    · exact .inr (.inl h1)
    · cases h1
theorem SmJ.done {x y : List α} (h : SmJ own kids K ra rb L D (some (x, y))) (hc : ClsU own kids D x y x.length) : SmJ own kids K ra rb L D none where
  kd := h.kd
  same := h.same
  root := h.root
  cls := fun e he => by
    rcases h.cls e he with h1 | h1 | h1
    · exact .inl h1
    · exact .inr (.inl h1)
    · injection h1 with h1
      subst h1
      exact .inr (.inl hc)
theorem SmJ.push {cur : Option (List α × List α)} (h : SmJ own kids K ra rb L D cur) {p : Pr2 α} (h1 : K p.va p.a) (h2 : K p.vb p.b) (he : ra = rb → p.a = p.b) : SmJ own kids K ra rb (L ++ [p]) ((p.a, p.b) :: D) cur where
  kd := fun r hr => by
    rcases List.mem_append.1 hr with hr | hr
    · exact h.kd r hr
    · rw [List.mem_singleton] at hr; subst hr; exact ⟨h1, h2⟩
  same := fun e r hr => by
    rcases List.mem_append.1 hr with hr | hr
    · exact h.same e r hr
    · rw [List.mem_singleton] at hr; subst hr; exact he e
  root := List.mem_cons_of_mem _ h.root
  cls := fun e hm => by
    rcases List.mem_cons.1 hm with rfl | hm
    · exact .inl ⟨_, List.mem_append_right _ (List.mem_singleton_self _), rfl, rfl⟩
    · rcases h.cls e hm with ⟨r, hr, a1, a2⟩ | a1 | a1
      · exact .inl ⟨r, List.mem_append_left _ hr, a1, a2⟩
      · exact .inr (.inl (a1.mono fun e he => List.mem_cons_of_mem _ he))
      · exact .inr (.inr a1)
theorem SmJ.all (h : SmJ own kids K ra rb [] D none) {sz : List α → Nat} (hsz : ∀ (x : List α) i (h : i < x.length), sz (kids x[i]) < sz x) (ext : ∀ a b, own a = own b → kids a = kids b → a = b) : ra = rb := by
  refine same_of hsz ext (fun e he => ?_) (.pair _ _ h.root)
  rcases h.cls e he with ⟨p, hp, _⟩ | h1 | h1
  · simp at hp
  · exact h1
  · cases h1
end
end
end Go.Proofs.Ytlgedjpolmlciaa

/- The law's own measure of a tree that came in: szTreeS, szTree. -/
namespace Go.Proofs.Ytlgedjpolmlciaa
open Go.RowKit

theorem bulkTs_sum (ts : List TreeD) : bulkTs ts = ts.length + (ts.map bulkT).sum := by
  induction ts with
  | nil => simp [bulkTs]
  | cons t ts ih => simp [bulkTs, ih]; omega
def kidsTo (ts : List TreeD) (k : Nat) : Nat := ((ts.take k).map bulkT).sum
theorem kidsTo_succ (ts : List TreeD) (k : Nat) (h : k < ts.length) : kidsTo ts (k + 1) = kidsTo ts k + bulkT ts[k] := by
  unfold kidsTo; rw [List.take_succ_eq_append_getElem h, List.map_append, List.sum_append]; simp
theorem kidsTo_le (ts : List TreeD) (k : Nat) : ts.length + kidsTo ts k ≤ bulkTs ts := by
  rw [bulkTs_sum]; unfold kidsTo
  conv => rhs; rw [← List.take_append_drop k ts]
  rw [List.map_append, List.sum_append]; simp
theorem kidsTo_all (ts : List TreeD) : ts.length + kidsTo ts ts.length = bulkTs ts := by rw [bulkTs_sum]; unfold kidsTo; rw [List.take_length]

/-- what is told of all lists from what is told of the lists below them -/
theorem kids_ind {p : List TreeD → Prop} (h : ∀ ts : List TreeD, (∀ i (h : i < ts.length), p ts[i].kids) → p ts) (ts : List TreeD) : p ts := by
  have key : ∀ n (ts : List TreeD), sizeTs ts ≤ n → p ts := by
    intro n
    induction n with
    | zero =>
      intro ts hs
      refine h ts fun i hi => ?_
      have := sizeTs_get ts i hi
      have := sizeT_eq ts[i]
      omega
    | succ n ih =>
      intro ts hs
      refine h ts fun i hi => ih _ ?_
      have := sizeTs_get ts i hi
      have := sizeT_eq ts[i]
      omega
  exact key _ ts (Nat.le_refl _)

end Go.Proofs.Ytlgedjpolmlciaa
