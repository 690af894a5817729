import Derived.Test.YtlgedjpolmlciaaJRnw
import Derived.Test.YtlgedjpolmlciaaJTxt
import Derived.Deep.LoopGhost
import Derived.Test.YtlgedjpolmlciaaJOi
import Derived.Test.YtlgedjpolmlciaaJMa
/- A term is laid anew in memory of the call's own: the walk of (*room).renew. -/
namespace Go.Proofs.Ytlgedjpolmlciaa
open Go.RowKit

theorem Try.infoTermR : (Try.prog.info? 39).map (fun i => (i.zero, i.size, i.bytes)) = some (some (.agg #[.int .i64 0, .int .i64 0, .slice none 0 0]), 3, 40) := by kernel_rfl
theorem Try.infoPtrR : (Try.prog.info? 88).map (fun i => (i.zero, i.size, i.bytes)) = some (some (.pointer none), 1, 8) := by kernel_rfl
def ptrs (P : List Pe) : List Value := P.map fun e => .pointer (some ⟨e.b, e.o, none⟩)
theorem ptrs_len (P : List Pe) : (ptrs P).length = P.length := by simp [ptrs]
theorem ptrs_app (P Q : List Pe) : ptrs (P ++ Q) = ptrs P ++ ptrs Q := by simp [ptrs]
def costP (P : List Pe) : Nat := (P.map fun e => sizeM e.t).sum
theorem costP_app (P Q : List Pe) : costP (P ++ Q) = costP P + costP Q := by simp [costP, List.sum_append]
theorem costP_len (P : List Pe) : P.length ≤ costP P := by
  induction P with
  | nil => simp [costP]
  | cons e P ih =>
    have := sizeM_eq e.t
    simp only [costP, List.map_cons, List.sum_cons, List.length_cons] at ih ⊢
    omega
theorem costP_kids (g : Nat) (ts : List TermD) (U : Nat → Value) : costP (kidsP g ts U) = sizeMs ts := by
  have h : ∀ k, k ≤ ts.length → costP ((kidsP g ts U).take k) = sizeMs (ts.take k) := fun k hk => by
    induction k with
    | zero => simp [costP, sizeMs]
    | succ k ih =>
      have hl : k < (kidsP g ts U).length := by rw [kidsP_len]; omega
      rw [List.take_succ_eq_append_getElem hl, costP_app, ih (by omega), sizeMs_take ts k (by omega), kidsP_at]
      simp [costP]
  have := h ts.length (Nat.le_refl _)
  rw [List.take_length] at this
  rw [← this, ← kidsP_len g ts U, List.take_length]
/-- what stands on the way -/
structure RnI (w0 wr : World) (lo hi s0 : Nat) (P : List Pe) (G : World → Prop) : Prop where
  bel : Below s0 w0 wr
  each : ∀ i (h : i < P.length), PeAt wr lo hi s0 P[i]
  apart : ∀ i (h : i < P.length), P[i].b ≠ s0 + 1
  dist : ∀ i j (h1 : i < P.length) (h2 : j < P.length), i ≠ j → P[i].b = P[j].b → P[i].o ≠ P[j].o
  res : Row wr (s0 + 1) 39 #[.int .i64 0, .int .i64 0, .slice none 0 0]
  wand : Wand s0 wr P G
  room : costP P ≤ 2097152
theorem PeAt.on {w w' : World} {lo hi s0 : Nat} {e : Pe} (h : PeAt w lo hi s0 e) (hhi : hi ≤ s0) (hb : Keeps 0 s0 w w') (hr : ∀ p cur, s0 ≤ p → Row w p 39 cur → Row w' p 39 cur) : PeAt w' lo hi s0 e := by
  obtain ⟨cur, a, b⟩ := h.row
  exact ⟨h.ge, ⟨cur, hr _ _ h.ge a, b⟩, h.three, h.kids.keep (hb.mono (Nat.zero_le _) hhi), h.top⟩
/-- nothing but blocks of another type are written -/
theorem RnI.on {w0 wr wr' : World} {lo hi s0 : Nat} {P : List Pe} {G : World → Prop} (h : RnI w0 wr lo hi s0 P G) (hhi : hi ≤ s0) (hb : Below s0 wr wr') (hr : ∀ p cur, s0 ≤ p → Row wr p 39 cur → Row wr' p 39 cur) : RnI w0 wr' lo hi s0 P G where
  bel := h.bel.trans hb
  each := fun i hi' => (h.each i hi').on hhi (Keeps.below hb (Nat.le_refl _)) hr
  apart := h.apart
  dist := h.dist
  res := hr _ _ (by omega) h.res
  wand := h.wand.on hb.size hr
  room := h.room
/-- one place is done -/
theorem RnI.turn {w0 wr wr2 : World} {lo hi s0 g : Nat} {R : List Pe} {e : Pe} {G : World → Prop} {S : Value} {U : Nat → Value} (h : RnI w0 wr lo hi s0 (R ++ [e]) G) (hhi : hi ≤ s0) (hs0 : s0 ≤ wr.heap.size)
    (hb : Below s0 wr wr2) (hrow : ∀ p cur, s0 ≤ p → Row wr p 39 cur → Row wr2 p 39 (if p = e.b then cur.setIfInBounds (e.o + 2) S else cur))
    (hS : (e.t.kids = [] ∧ S = .slice none 0 0) ∨ (0 < e.t.kids.length ∧ wr.heap.size ≤ g ∧ ∃ (c : Nat) (gcur : Array Value), S = .slice (some ⟨g, 0, none⟩) e.t.kids.length c ∧ e.t.kids.length ≤ c ∧ c ≤ maxLen ∧ Row wr2 g 39 gcur ∧ e.t.kids.length * 3 ≤ gcur.size ∧
      ∀ i (h : i < e.t.kids.length), TopM e.t.kids[i] ∧ gcur[i * 3]? = some (.int .i64 e.t.kids[i].kind) ∧ gcur[i * 3 + 1]? = some (.int .i64 e.t.kids[i].num) ∧ gcur[i * 3 + 2]? = some (U i) ∧ KM true wr lo hi (U i) e.t.kids[i].kids)) :
    RnI w0 wr2 lo hi s0 (R ++ kidsP g e.t.kids U) G := by
  have hlen : (R ++ kidsP g e.t.kids U).length = R.length + e.t.kids.length := by rw [List.length_append, kidsP_len]
  have hlen1 : (R ++ [e]).length = R.length + 1 := by simp
  have fR : ∀ i (hi : i < R.length) (h' : i < (R ++ kidsP g e.t.kids U).length), (R ++ kidsP g e.t.kids U)[i] = R[i] := fun i hi h' => app_left _ _ i hi h'
  have fK : ∀ i (hi : i < e.t.kids.length) (h' : R.length + i < (R ++ kidsP g e.t.kids U).length), (R ++ kidsP g e.t.kids U)[R.length + i] = ⟨g, i * 3, e.t.kids[i], U i⟩ := fun i hi h' => by
    rw [app_right _ _ i (by rw [kidsP_len]; exact hi) h', kidsP_at]
  have split : ∀ i, i < R.length + e.t.kids.length → i < R.length ∨ ∃ k, k < e.t.kids.length ∧ i = R.length + k := fun i hi => by
    rcases Nat.lt_or_ge i R.length with h1 | h1
    · exact .inl h1
    · exact .inr ⟨i - R.length, by omega, by omega⟩
  have f1 : ∀ i (hi : i < R.length) (h' : i < (R ++ [e]).length), (R ++ [e])[i] = R[i] := fun i hi h' => app_left _ _ i hi h'
  have f2 : ∀ (h' : R.length < (R ++ [e]).length), (R ++ [e])[R.length] = e := fun h' => by simp
  have eachR : ∀ i (hi' : i < R.length), PeAt wr lo hi s0 R[i] := fun i hi' => by have := h.each i (by omega); rw [f1 i hi'] at this; exact this
  have eachE : PeAt wr lo hi s0 e := by have := h.each R.length (by omega); rw [f2] at this; exact this
  have dist1 : ∀ i (hi' : i < R.length), R[i].b = e.b → R[i].o ≠ e.o := fun i hi' hh => by
    have := h.dist i R.length (by omega) (by omega) (by omega)
    rw [f1 i hi', f2] at this
    exact this hh
  have gE : ∀ i, i < e.t.kids.length → wr.heap.size ≤ g ∧ g < wr2.heap.size := fun i hi' => by
    rcases hS with ⟨h1, _⟩ | ⟨_, h1, c, gcur, _, _, _, h2, _⟩
    · rw [h1] at hi'; simp at hi'
    · exact ⟨h1, h2.lt⟩
  have keepK : Keeps 0 s0 wr wr2 := Keeps.below hb (Nat.le_refl _)
  refine ⟨h.bel.trans hb, fun i hi' => ?_, fun i hi' => ?_, fun i j hi' hj' hij hbb => ?_, ?_, ?_, ?_⟩
  · rcases split i (by omega) with q | ⟨k, q, rfl⟩
    · rw [fR i q]
      obtain ⟨cur, a1, a2, a3, a4, a5⟩ := (eachR i q).row
      obtain ⟨m1, e1⟩ := (eachR i q).three
      obtain ⟨m2, e2⟩ := eachE.three
      refine ⟨(eachR i q).ge, ⟨_, hrow _ _ (eachR i q).ge a1, ?_⟩, (eachR i q).three, (eachR i q).kids.keep (keepK.mono (Nat.zero_le _) hhi), (eachR i q).top⟩
      split
      · rename_i hb1
        have := dist1 i q hb1
        refine ⟨by simp; exact a2, ?_, ?_, ?_⟩
        · rw [Array.getElem?_setIfInBounds_ne (by omega)]; exact a3
        · rw [Array.getElem?_setIfInBounds_ne (by omega)]; exact a4
        · rw [Array.getElem?_setIfInBounds_ne (by omega)]; exact a5
      · exact ⟨a2, a3, a4, a5⟩
    · rw [fK k q]
      rcases hS with ⟨h1, _⟩ | ⟨_, h1, c, gcur, _, _, _, h2, h3, h4⟩
      · rw [h1] at q; simp at q
      · obtain ⟨b0, b1, b2, b3, b4⟩ := h4 k q
        exact ⟨by show s0 ≤ g; omega, ⟨gcur, h2, by show k * 3 + 2 < _; omega, b1, b2, b3⟩, ⟨k, rfl⟩, b4.keep (keepK.mono (Nat.zero_le _) hhi), b0⟩
  · rcases split i (by omega) with q | ⟨k, q, rfl⟩
    · rw [fR i q]
      have := h.apart i (by omega)
      rw [f1 i q] at this
      exact this
    · rw [fK k q]
      have := (gE k q).1
      have := h.res.lt
      show g ≠ s0 + 1
      omega
  · rcases split i (by omega) with q | ⟨k, q, rfl⟩ <;> rcases split j (by omega) with r | ⟨m, r, rfl⟩
    · rw [fR i q, fR j r] at *
      have := h.dist i j (by omega) (by omega) hij
      rw [f1 i q, f1 j r] at this
      exact this hbb
    · rw [fR i q, fK m r] at *
      have := (eachR i q).lt
      have := (gE m r).1
      simp only at hbb
      omega
    · rw [fK k q, fR j r] at *
      have := (eachR j r).lt
      have := (gE k q).1
      simp only at hbb
      omega
    · rw [fK k q, fK m r] at *
      show k * 3 ≠ m * 3
      omega
  · have := hrow (s0 + 1) _ (by omega) h.res
    rw [if_neg (fun hh => h.apart R.length (by omega) (by rw [f2]; exact hh.symm))] at this
    exact this
  · refine h.wand.turn hs0 hb.size eachE.ge hrow (by obtain ⟨cur, a1, a2, _⟩ := eachE.row; exact ⟨cur, a1, a2⟩) (fun i hi' => (eachR i hi').lt) dist1 ?_
    rcases hS with h1 | ⟨h1, h2, c, gcur, h3, h4, h5, h6, h7, h8⟩
    · exact .inl h1
    · exact .inr ⟨h1, h2, c, gcur, h3, h4, h5, h6, h7, fun i hi' => ⟨(h8 i hi').1, (h8 i hi').2.1, (h8 i hi').2.2.1⟩⟩
  · have := h.room
    rw [costP_app] at this ⊢
    rw [costP_kids]
    have e1 : costP [e] = sizeM e.t := by simp [costP]
    have e2 := sizeM_eq e.t
    omega
/-- at the start there is one place, in the call's own box -/
theorem RnI.start {w : World} {lo hi s0 : Nat} {t : TermD} {x : Value} (hr : Row w s0 39 #[.int .i64 t.kind, .int .i64 t.num, x]) (hr1 : Row w (s0 + 1) 39 #[.int .i64 0, .int .i64 0, .slice none 0 0]) (hk : KM true w lo hi x t.kids) (ht : TopM t) (hn : sizeM t ≤ 2097152) :
    RnI w w lo hi s0 [⟨s0, 0, t, x⟩] (fun w' => ∃ x' L E, w'.cell? ⟨s0, 0, none⟩ = some (.int .i64 t.kind) ∧ w'.cell? ⟨s0, 1, none⟩ = some (.int .i64 t.num) ∧ w'.cell? ⟨s0, 2, none⟩ = some x' ∧ OI w' L E x' t.kids ∧ w.heap.size ≤ L ∧ E ≤ w'.heap.size) where
  bel := Below.refl _ _
  each := fun i hi => by
    obtain rfl : i = 0 := by simpa using hi
    exact ⟨Nat.le_refl _, ⟨_, hr, by simp, rfl, rfl, rfl⟩, ⟨0, rfl⟩, hk, ht⟩
  apart := fun i hi => by
    obtain rfl : i = 0 := by simpa using hi
    show s0 ≠ s0 + 1
    omega
  dist := fun i j hi hj hij => by simp at hi hj; omega
  res := hr1
  wand := fun w' X L E f => by
    obtain ⟨cur', r1, r2, r3⟩ := f.rows s0 _ (Nat.le_refl _) hr
    have o := f.oi 0 (by simp)
    refine ⟨X 0, L 0, E 0, ?_, ?_, f.here 0 (by simp), o.1, o.2.1, o.2.2.2⟩
    · rw [r1.cell, r3 0 (fun i hi _ => by obtain rfl : i = 0 := by simpa using hi
                                          show (0 : Nat) + 2 ≠ 0; omega)]; rfl
    · rw [r1.cell, r3 1 (fun i hi _ => by obtain rfl : i = 0 := by simpa using hi
                                          show (0 : Nat) + 2 ≠ 1; omega)]; rfl
  room := by simp [costP]; omega
end Go.Proofs.Ytlgedjpolmlciaa

/- A list of Mades that grows by append, what hangs from each in blocks of their own. No program stands in this text but its types' numbers. -/
namespace Go.Proofs.Ytlgedjpolmlciaa
open Go.RowKit

/-- a Made, the values of its Body and its Kids; its Kids lie from l on ahead of e, its Body in block gb from e on ahead of h -/
structure Gx where
  m : MadeD
  u : Value
  x : Value
  gb : Nat
  l : Nat
  e : Nat
  h : Nat
def Gx.cells (x : Gx) : List Value := [.string x.m.head, x.u, .int .i64 x.m.term.kind, .int .i64 x.m.term.num, x.x]
structure GxAt (w : World) (base : Nat) (x : Gx) : Prop where
  head : x.m.head.size ≤ maxLen
  top : TopM x.m.term
  body : OwnS w x.gb x.u x.m.body
  inb : x.m.body ≠ [] → x.e ≤ x.gb ∧ x.gb < x.h
  kids : OI w x.l x.e x.x x.m.term.kids
  ord : base ≤ x.l ∧ x.l ≤ x.e ∧ x.e ≤ x.h ∧ x.h ≤ w.heap.size
theorem GxAt.keep {w w' : World} {base : Nat} {x : Gx} (a : GxAt w base x) (hs : w.heap.size ≤ w'.heap.size) (k : Keeps x.l x.h w w') : GxAt w' base x where
  head := a.head
  top := a.top
  body := a.body.keep fun hn => k _ (by have := a.inb hn; have := a.ord; omega) (a.inb hn).2
  inb := a.inb
  kids := a.kids.keep (k.mono (Nat.le_refl _) a.ord.2.2.1)
  ord := ⟨a.ord.1, a.ord.2.1, a.ord.2.2.1, Nat.le_trans a.ord.2.2.2 hs⟩
def flatD (xs : List Gx) : List Value := xs.flatMap Gx.cells
theorem flatD_snoc (xs : List Gx) (x : Gx) : flatD (xs ++ [x]) = flatD xs ++ x.cells := by simp [flatD]
theorem flatD_len (xs : List Gx) : (flatD xs).length = xs.length * 5 := by
  induction xs with
  | nil => rfl
  | cons x l ih => simp only [flatD, Gx.cells, List.flatMap_cons, List.length_append, List.length_cons, List.length_nil] at ih ⊢; omega
theorem flatD_at (xs : List Gx) (i j : Nat) (h : i < xs.length) (hj : j < 5) : (flatD xs)[i * 5 + j]? = xs[i].cells[j]? := by
  induction xs generalizing i with
  | nil => simp at h
  | cons x l ih =>
    have e : flatD (x :: l) = x.cells ++ flatD l := rfl
    have hc : x.cells.length = 5 := rfl
    rw [e]
    cases i with
    | zero => rw [List.getElem?_append_left (by omega)]; simp
    | succ i =>
      rw [List.getElem?_append_right (by omega), hc, show (i + 1) * 5 + j - 5 = i * 5 + j by omega]
      exact ih i (by simpa using h)
structure GrowD (w : World) (base : Nat) (v : Value) (xs : List Gx) : Prop where
  row : w.ownsRow base 53 5 v xs.length (flatD xs)
  each : ∀ x ∈ xs, GxAt w base x
  pair : xs.Pairwise fun a b => a.h ≤ b.l
  out : ∀ g, v.ownBlock = some g → ∀ x ∈ xs, g < x.l ∨ x.h ≤ g
theorem GrowD.nil (w : World) (base : Nat) : GrowD w base (.slice none 0 0) [] := ⟨World.ownsRow_nil _ _ _ _, by simp, List.Pairwise.nil, by simp⟩
theorem GrowD.move {w w' : World} {base : Nat} {v : Value} {xs : List Gx} (a : GrowD w base v xs) (hs : w.heap.size ≤ w'.heap.size)
    (h1 : ∀ g, v.ownBlock = some g → w'.heap[g]? = w.heap[g]?) (h2 : ∀ x ∈ xs, Keeps x.l x.h w w') : GrowD w' base v xs where
  row := by
    refine ⟨a.row.1, ?_⟩
    rcases a.row.2 with a2 | ⟨g, cap, cur, rfl, hb, hh, r⟩
    · exact .inl a2
    · exact .inr ⟨g, cap, cur, rfl, hb, (h1 g rfl).trans hh, r⟩
  each := fun x hx => (a.each x hx).keep hs (h2 x hx)
  pair := a.pair
  out := a.out
theorem GrowD.below {w w' : World} {base : Nat} {v : Value} {xs : List Gx} (a : GrowD w base v xs) (k : Below w.heap.size w w') : GrowD w' base v xs :=
  a.move k.size (fun g hg => k.block g (a.row.lt g hg).2) fun x hx p _ hp => k.block p (by have := (a.each x hx).ord; omega)
theorem GrowD.snoc {w w' : World} {base g cap : Nat} {v : Value} {xs : List Gx} {y : Gx} (a : GrowD w base v xs) (hy : GxAt w base y) (hx : ∀ x ∈ xs, x.h ≤ y.l) (hv : ∀ q, v.ownBlock = some q → q < y.l)
    (ho : w'.ownsRow base 53 5 (.slice (some ⟨g, 0, none⟩) (xs.length + 1) cap) (xs.length + 1) (flatD xs ++ y.cells)) (hg : w.grownBy w' v.ownBlock) (hat : v.ownBlock = some g ∨ g = w.heap.size) :
    GrowD w' base (.slice (some ⟨g, 0, none⟩) (xs.length + 1) cap) (xs ++ [y]) where
  row := by rw [flatD_snoc, List.length_append]; exact ho
  each := fun x hm => by
    rw [List.mem_append, List.mem_singleton] at hm
    rcases hm with hm | rfl
    · refine (a.each x hm).keep hg.size fun p p1 p2 => hg.block p (by have := (a.each x hm).ord; omega) fun e => ?_
      have := a.out p e.symm x hm
      omega
    · refine hy.keep hg.size fun p p1 p2 => hg.block p (by have := hy.ord; omega) fun e => ?_
      have := hv p e.symm
      omega
  pair := by
    rw [List.pairwise_append]
    refine ⟨a.pair, by simp, fun x h1 z h2 => ?_⟩
    rw [List.mem_singleton] at h2
    subst h2
    exact hx x h1
  out := fun q hq x hm => by
    obtain rfl : g = q := by simpa [Value.ownBlock] using hq
    rw [List.mem_append, List.mem_singleton] at hm
    rcases hat with e | rfl
    · rcases hm with hm | rfl
      · exact a.out _ e x hm
      · exact .inl (hv _ e)
    · rcases hm with hm | rfl
      · exact .inr (a.each x hm).ord.2.2.2
      · exact .inr hy.ord.2.2.2
/-- what it reads as -/
theorem GrowD.dm {w : World} {base : Nat} {v : Value} {xs : List Gx} (a : GrowD w base v xs) : DM true w base w.heap.size v (xs.map (·.m)) := by
  rcases a.row.2 with ⟨rfl, h0⟩ | ⟨g, cap, cur, rfl, hb, hh, hc, hm, hs, ht⟩
  · obtain rfl : xs = [] := List.eq_nil_of_length_eq_zero h0
    exact ⟨none, 0, rfl, Nat.le_refl _, by unfold maxLen; omega, fun h => by simp at h⟩
  · have hr : Row w g 53 cur := hh
    refine ⟨some ⟨g, 0, none⟩, cap, by simp, by simpa using hc, hm, fun hp => ⟨g, 0, rfl, hb, hr.lt, fun _ => ⟨_, _, hr⟩, fun i hi => ?_⟩⟩
    have hi' : i < xs.length := by simpa using hi
    have q := a.each xs[i] (List.getElem_mem hi')
    have cell : ∀ j, j < 5 → cur[i * 5 + j]? = xs[i].cells[j]? := fun j hj => by
      rw [← flatD_at xs i j hi' hj, ← ht, List.getElem?_take_of_lt (by omega), Array.getElem?_toList]
    rw [List.getElem_map]
    have c0 := cell 0 (by omega)
    rw [Nat.add_zero] at c0
    refine ⟨q.head, q.top, by rw [Nat.zero_add, hr.cell, c0]; rfl, xs[i].u, xs[i].x, ?_, ?_, ?_, ?_, q.body.strs fun hn => ?_, q.kids.km.more q.ord.1 (by have := q.ord; omega)⟩
    · rw [Nat.zero_add, hr.cell, cell 1 (by omega)]; rfl
    · rw [Nat.zero_add, hr.cell, cell 2 (by omega)]; rfl
    · rw [Nat.zero_add, hr.cell, cell 3 (by omega)]; rfl
    · rw [Nat.zero_add, hr.cell, cell 4 (by omega)]; rfl
    · have := q.inb hn
      have := q.ord
      omega
end Go.Proofs.Ytlgedjpolmlciaa
