import Derived.Test.YtiochjagolijfaaJTo
import Derived.Test.YtiochjagolijfaaJTm
import Derived.Test.YtiochjagolijfaaJOwns
/- Terms in memory of a call's own, each list in blocks of its own; what becomes of them when numbers are laid into them. No program stands in this text but its types' numbers. -/
namespace Go.Proofs.Ytiochjagolijfaa
open Go.RowKit

/-- a list of terms in blocks from lo on ahead of hi, that of each term's Kids in a part of these, no two parts with one in common -/
inductive OI (w : World) : Nat → Nat → Value → List TermD → Prop
  | mk (lo hi : Nat) (A : Option Addr) (c : Nat) (ts : List TermD) (U : Nat → Value) (L E : Nat → Nat) (hl : ts.length ≤ c) (hc : c ≤ maxLen)
    (hs : ∀ i (h : i < ts.length), TopM ts[i])
    (hcell : 0 < ts.length → ∃ b cur, A = some ⟨b, 0, none⟩ ∧ lo ≤ b ∧ b < hi ∧ Row w b 47 cur ∧ ts.length * 3 ≤ cur.size ∧ ∀ i (h : i < ts.length), cur[i * 3]? = some (.int .i64 ts[i].kind) ∧ cur[i * 3 + 1]? = some (.int .i64 ts[i].num) ∧ cur[i * 3 + 2]? = some (U i) ∧ (E i ≤ b ∨ b < L i))
    (hin : ∀ i, i < ts.length → lo ≤ L i ∧ L i ≤ E i ∧ E i ≤ hi)
    (hap : ∀ i j, i < ts.length → j < ts.length → i ≠ j → E i ≤ L j ∨ E j ≤ L i)
    (sub : ∀ i (h : i < ts.length), OI w (L i) (E i) (U i) ts[i].kids) : OI w lo hi (.slice A ts.length c) ts
theorem OI.parts {w : World} {lo hi : Nat} {v : Value} {ts : List TermD} (h : OI w lo hi v ts) :
    ∃ (A : Option Addr) (c : Nat) (U : Nat → Value) (L E : Nat → Nat), v = .slice A ts.length c ∧ ts.length ≤ c ∧ c ≤ maxLen ∧ (∀ i (h : i < ts.length), TopM ts[i]) ∧
      (0 < ts.length → ∃ b cur, A = some ⟨b, 0, none⟩ ∧ lo ≤ b ∧ b < hi ∧ Row w b 47 cur ∧ ts.length * 3 ≤ cur.size ∧ ∀ i (h : i < ts.length), cur[i * 3]? = some (.int .i64 ts[i].kind) ∧ cur[i * 3 + 1]? = some (.int .i64 ts[i].num) ∧ cur[i * 3 + 2]? = some (U i) ∧ (E i ≤ b ∨ b < L i)) ∧
      (∀ i, i < ts.length → lo ≤ L i ∧ L i ≤ E i ∧ E i ≤ hi) ∧ (∀ i j, i < ts.length → j < ts.length → i ≠ j → E i ≤ L j ∨ E j ≤ L i) ∧ (∀ i (h : i < ts.length), OI w (L i) (E i) (U i) ts[i].kids) := by
  cases h with
  | mk _ _ A c ts U L E hl hc hs hcell hin hap sub => exact ⟨A, c, U, L, E, rfl, hl, hc, hs, hcell, hin, hap, sub⟩
theorem OI.keep {w w' : World} {lo hi : Nat} {v : Value} {ts : List TermD} (h : OI w lo hi v ts) : Keeps lo hi w w' → OI w' lo hi v ts := by
  induction h with
  | mk lo hi A c ts U L E hl hc hs hcell hin hap sub ih =>
    intro k
    refine .mk lo hi A c ts U L E hl hc hs (fun hp => ?_) hin hap fun i hi => ih i hi (k.mono (hin i hi).1 (hin i hi).2.2)
    obtain ⟨b, cur, e, h1, h2, hr, hz, hcc⟩ := hcell hp
    exact ⟨b, cur, e, h1, h2, hr.same (k b h1 h2), hz, hcc⟩
theorem OI.under {w w' : World} {lo hi : Nat} {v : Value} {ts : List TermD} (h : OI w lo hi v ts) {B : Nat} (b : Below B w w') (hB : hi ≤ B) : OI w' lo hi v ts := h.keep (Keeps.below b hB)
theorem OI.more {w : World} {lo hi lo' hi' : Nat} {v : Value} {ts : List TermD} (h : OI w lo hi v ts) (g1 : lo' ≤ lo) (g2 : hi ≤ hi') : OI w lo' hi' v ts := by
  cases h with
  | mk _ _ A c ts U L E hl hc hs hcell hin hap sub =>
    refine .mk lo' hi' A c ts U L E hl hc hs (fun hp => ?_) (fun i hi => ?_) hap sub
    · obtain ⟨b, cur, e, h1, h2, hr, hz, hcc⟩ := hcell hp
      exact ⟨b, cur, e, by omega, by omega, hr, hz, hcc⟩
    · have := hin i hi; omega
theorem OI.km {w : World} {lo hi : Nat} {v : Value} {ts : List TermD} (h : OI w lo hi v ts) : KM true w lo hi v ts := by
  induction h with
  | mk lo hi A c ts U L E hl hc hs hcell hin hap sub ih =>
    refine .mk A c ts U hl hc hs (fun hp => ?_) fun i hi => (ih i hi).more (hin i hi).1 (hin i hi).2.2
    obtain ⟨b, cur, e, h1, h2, hr, hz, hcc⟩ := hcell hp
    refine ⟨b, 0, e, h1, h2, fun _ => ⟨_, _, hr⟩, fun i hi => ?_⟩
    obtain ⟨a1, a2, a3, _⟩ := hcc i hi
    exact ⟨by rw [Nat.zero_add, hr.cell]; exact a1, by rw [Nat.zero_add, hr.cell]; exact a2, by rw [Nat.zero_add, hr.cell]; exact a3⟩
/-- a list of none -/
theorem OI.none (w : World) (lo hi c : Nat) (A : Option Addr) (hc : c ≤ maxLen) : OI w lo hi (.slice A 0 c) [] :=
  .mk lo hi A c [] (fun _ => .nilFunc) (fun _ => 0) (fun _ => 0) (Nat.zero_le _) hc (fun i h => by simp at h) (fun h => by simp at h) (fun i h => by simp at h) (fun i j h => by simp at h) (fun i h => by simp at h)
/-- the j-th term of a list, and what is to be shown when it becomes another one -/
theorem OI.turn {w : World} {lo hi : Nat} {v : Value} {ts : List TermD} (h : OI w lo hi v ts) {j : Nat} (hj : j < ts.length) :
    ∃ b c cur u l e, v = .slice (some ⟨b, 0, Option.none⟩) ts.length c ∧ lo ≤ b ∧ b < hi ∧ Row w b 47 cur ∧ j * 3 + 2 < cur.size ∧ cur[j * 3]? = some (.int .i64 ts[j].kind) ∧ cur[j * 3 + 1]? = some (.int .i64 ts[j].num) ∧ cur[j * 3 + 2]? = some u ∧ lo ≤ l ∧ l ≤ e ∧ e ≤ hi ∧ (e ≤ b ∨ b < l) ∧ OI w l e u ts[j].kids ∧
      ∀ (w' : World) (t' : TermD), TopM t' → Row w' b 47 ((cur.setIfInBounds (j * 3) (.int .i64 t'.kind)).setIfInBounds (j * 3 + 1) (.int .i64 t'.num)) → OI w' l e u t'.kids → (∀ p, lo ≤ p → p < hi → p ≠ b → (p < l ∨ e ≤ p) → w'.heap[p]? = w.heap[p]?) → OI w' lo hi v (ts.set j t') := by
  obtain ⟨A, c, U, L, E, rfl, hl, hc, hs, hcell, hin, hap, sub⟩ := h.parts
  obtain ⟨b, cur, rfl, h1, h2, hr, hz, hcc⟩ := hcell (by omega)
  obtain ⟨a1, a2, a3, a4⟩ := hcc j hj
  obtain ⟨i1, i2, i3⟩ := hin j hj
  refine ⟨b, c, cur, U j, L j, E j, rfl, h1, h2, hr, by omega, a1, a2, a3, i1, i2, i3, a4, sub j hj, fun w' t' ht hr' ho hk => ?_⟩
  have hlen : (ts.set j t').length = ts.length := List.length_set
  have key : OI w' lo hi (.slice (some ⟨b, 0, Option.none⟩) (ts.set j t').length c) (ts.set j t') := by
    refine .mk lo hi _ c _ U L E (by omega) hc (fun i hi => ?_) (fun _ => ⟨b, _, rfl, h1, h2, hr', by simp; omega, fun i hi => ?_⟩) (fun i hi => hin i (by omega)) (fun i k hi hk => hap i k (by omega) (by omega)) (fun i hi => ?_)
    · rw [List.getElem_set]
      split
      · exact ht
      · exact hs i (by omega)
    · rw [List.getElem_set]
      by_cases e : j = i
      · subst e
        rw [if_pos rfl]
        refine ⟨?_, ?_, ?_, a4⟩
        · rw [Array.getElem?_setIfInBounds_ne (by omega), Array.getElem?_setIfInBounds_self_of_lt (by omega)]
        · rw [Array.getElem?_setIfInBounds_self_of_lt (by simp; omega)]
        · rw [Array.getElem?_setIfInBounds_ne (by omega), Array.getElem?_setIfInBounds_ne (by omega)]; exact a3
      · rw [if_neg e]
        obtain ⟨x1, x2, x3, x4⟩ := hcc i (by omega)
        refine ⟨?_, ?_, ?_, x4⟩
        · rw [Array.getElem?_setIfInBounds_ne (by omega), Array.getElem?_setIfInBounds_ne (by omega)]; exact x1
        · rw [Array.getElem?_setIfInBounds_ne (by omega), Array.getElem?_setIfInBounds_ne (by omega)]; exact x2
        · rw [Array.getElem?_setIfInBounds_ne (by omega), Array.getElem?_setIfInBounds_ne (by omega)]; exact x3
    · by_cases e : j = i
      · subst e
        rw [show (ts.set j t')[j] = t' by rw [List.getElem_set, if_pos rfl]]
        exact ho
      · rw [show (ts.set j t')[i] = ts[i]'(by omega) by rw [List.getElem_set, if_neg e]]
        have hi' : i < ts.length := by omega
        have q := hin i hi'
        refine (sub i hi').keep fun p p1 p2 => hk p (by omega) (by omega) ?_ ?_
        · have := (hcc i hi').2.2.2; omega
        · have := hap i j hi' hj (fun h => e h.symm); omega
  rw [hlen] at key
  exact key

mutual
/-- a term into which numbers from k on are laid -/
def markM : Nat → TermD → TermD
  | k, .node _ _ ks => .node k (k + 1 : Nat) (markMs (k + 2) ks)
def markMs : Nat → List TermD → List TermD
  | _, [] => []
  | k, t :: ts => markM k t :: markMs (k + 2 * sizeM t) ts
end
theorem markM_kind (k : Nat) (t : TermD) : (markM k t).kind = k := by cases t; rfl
theorem markM_num (k : Nat) (t : TermD) : (markM k t).num = (k + 1 : Nat) := by cases t; rfl
theorem markM_kids (k : Nat) (t : TermD) : (markM k t).kids = markMs (k + 2) t.kids := by cases t; rfl
theorem markMs_len (k : Nat) (ts : List TermD) : (markMs k ts).length = ts.length := by
  induction ts generalizing k with
  | nil => rfl
  | cons t ts ih => simp [markMs, ih]
theorem markMs_at (k : Nat) (ts : List TermD) (i : Nat) (h : i < (markMs k ts).length) : (markMs k ts)[i] = markM (k + 2 * sizeMs (ts.take i)) (ts[i]'(by rw [markMs_len] at h; exact h)) := by
  induction ts generalizing k i with
  | nil => simp [markMs] at h
  | cons t ts ih =>
    cases i with
    | zero => simp [markMs, sizeMs]
    | succ i =>
      have h' : i < (markMs (k + 2 * sizeM t) ts).length := by simpa [markMs] using h
      have := ih (k + 2 * sizeM t) i h'
      simp only [markMs, List.getElem_cons_succ, List.take_succ_cons, sizeMs]
      rw [this]
      congr 1
      omega
/-- the first j of a list marked -/
def markUp (k : Nat) (ts : List TermD) (j : Nat) : List TermD := (markMs k ts).take j ++ ts.drop j
theorem markUp_zero (k : Nat) (ts : List TermD) : markUp k ts 0 = ts := by simp [markUp]
theorem markUp_all (k : Nat) (ts : List TermD) : markUp k ts ts.length = markMs k ts := by
  unfold markUp
  rw [List.drop_length, List.append_nil, ← markMs_len k ts, List.take_length]
theorem markUp_len (k : Nat) (ts : List TermD) (j : Nat) : (markUp k ts j).length = ts.length := by
  unfold markUp
  rw [List.length_append, List.length_take, List.length_drop, markMs_len]
  omega
theorem markUp_here (k : Nat) (ts : List TermD) (j : Nat) (h : j < ts.length) : (markUp k ts j)[j]'(by rw [markUp_len]; exact h) = ts[j] := by
  have e : ((markMs k ts).take j).length = j := by rw [List.length_take, markMs_len]; omega
  simp only [markUp]
  rw [List.getElem_append_right (by omega)]
  simp [e]
theorem markUp_step (k : Nat) (ts : List TermD) (j : Nat) (h : j < ts.length) : (markUp k ts j).set j (markM (k + 2 * sizeMs (ts.take j)) ts[j]) = markUp k ts (j + 1) := by
  have e : ((markMs k ts).take j).length = j := by rw [List.length_take, markMs_len]; omega
  have hm : j < (markMs k ts).length := by rw [markMs_len]; exact h
  unfold markUp
  rw [List.set_append_right _ _ (by omega), e, Nat.sub_self, List.take_succ_eq_append_getElem hm, markMs_at k ts j hm, List.append_assoc]
  congr 1
  rw [List.drop_eq_getElem_cons h]
  rfl
end Go.Proofs.Ytiochjagolijfaa

/- Mades, as data, and as memory holds them: a list of Mades in a slice, five cells each. No program stands in this text but its types' numbers. -/
namespace Go.Proofs.Ytiochjagolijfaa
open Go.RowKit

/-- a Made, as data -/
structure MadeD where
  head : ByteArray
  body : List ByteArray
  term : TermD

/-- a Made in five cells from an address on -/
def MadeAt (z : Bool) (w : World) (lo hi b o : Nat) (m : MadeD) : Prop :=
  m.head.size ≤ maxLen ∧ TopM m.term ∧ w.cell? ⟨b, o, none⟩ = some (.string m.head) ∧
    ∃ u x, w.cell? ⟨b, o + 1, none⟩ = some u ∧ w.cell? ⟨b, o + 2, none⟩ = some (.int .i64 m.term.kind) ∧ w.cell? ⟨b, o + 3, none⟩ = some (.int .i64 m.term.num) ∧ w.cell? ⟨b, o + 4, none⟩ = some x ∧
      Strs w lo hi u m.body ∧ KM z w lo hi x m.term.kids
/-- a list of Mades, in blocks from lo on ahead of hi; z: none of these is frozen -/
def DM (z : Bool) (w : World) (lo hi : Nat) (v : Value) (ms : List MadeD) : Prop :=
  ∃ A c, v = .slice A ms.length c ∧ ms.length ≤ c ∧ c ≤ maxLen ∧
    (0 < ms.length → ∃ b off, A = some ⟨b, off, none⟩ ∧ lo ≤ b ∧ b < hi ∧ (z = true → FreeB w b) ∧ ∀ i (h : i < ms.length), MadeAt z w lo hi b (off + i * 5) ms[i])
theorem MadeAt.keep {z : Bool} {w w' : World} {lo hi b o : Nat} {m : MadeD} (h : MadeAt z w lo hi b o m) (h1 : lo ≤ b) (h2 : b < hi) (k : Keeps lo hi w w') : MadeAt z w' lo hi b o m := by
  obtain ⟨a1, a2, a3, u, x, a4, a5, a6, a7, a8, a9⟩ := h
  exact ⟨a1, a2, (k.cell (p := ⟨b, o, none⟩) h1 h2).trans a3, u, x, (k.cell (p := ⟨b, o + 1, none⟩) h1 h2).trans a4, (k.cell (p := ⟨b, o + 2, none⟩) h1 h2).trans a5, (k.cell (p := ⟨b, o + 3, none⟩) h1 h2).trans a6, (k.cell (p := ⟨b, o + 4, none⟩) h1 h2).trans a7, a8.keep k, a9.keep k⟩
theorem MadeAt.more {z : Bool} {w : World} {lo hi lo' hi' b o : Nat} {m : MadeD} (h : MadeAt z w lo hi b o m) (g1 : lo' ≤ lo) (g2 : hi ≤ hi') : MadeAt z w lo' hi' b o m := by
  obtain ⟨a1, a2, a3, u, x, a4, a5, a6, a7, a8, a9⟩ := h
  exact ⟨a1, a2, a3, u, x, a4, a5, a6, a7, a8.more g1 g2, a9.more g1 g2⟩
theorem DM.keep {z : Bool} {w w' : World} {lo hi : Nat} {v : Value} {ms : List MadeD} (h : DM z w lo hi v ms) (k : Keeps lo hi w w') : DM z w' lo hi v ms := by
  obtain ⟨A, c, h1, h2, h3, h4⟩ := h
  refine ⟨A, c, h1, h2, h3, fun hp => ?_⟩
  obtain ⟨b, off, e, hl, hh, hz, hc⟩ := h4 hp
  exact ⟨b, off, e, hl, hh, fun e => by obtain ⟨x, y, hh'⟩ := hz e; exact ⟨x, y, (k b hl hh).trans hh'⟩, fun i hi => (hc i hi).keep hl hh k⟩
theorem DM.more {z : Bool} {w : World} {lo hi lo' hi' : Nat} {v : Value} {ms : List MadeD} (h : DM z w lo hi v ms) (g1 : lo' ≤ lo) (g2 : hi ≤ hi') : DM z w lo' hi' v ms := by
  obtain ⟨A, c, h1, h2, h3, h4⟩ := h
  refine ⟨A, c, h1, h2, h3, fun hp => ?_⟩
  obtain ⟨b, off, e, hl, hh, hz, hc⟩ := h4 hp
  exact ⟨b, off, e, by omega, by omega, hz, fun i hi => (hc i hi).more g1 g2⟩
theorem DM.under {z : Bool} {w w' : World} {lo hi : Nat} {v : Value} {ms : List MadeD} (h : DM z w lo hi v ms) {B : Nat} (b : Below B w w') (hB : hi ≤ B) : DM z w' lo hi v ms := h.keep (Keeps.below b hB)
theorem DM.drewN {z : Bool} {w : World} {lo hi : Nat} {v : Value} {ms : List MadeD} (h : DM z w lo hi v ms) (n : Nat) : DM z (w.drewN n) lo hi v ms := h.keep (fun _ _ _ => rfl)
theorem MadeAt.loose {z : Bool} {w : World} {lo hi b o : Nat} {m : MadeD} (h : MadeAt z w lo hi b o m) : MadeAt false w lo hi b o m := by
  obtain ⟨a1, a2, a3, u, x, a4, a5, a6, a7, a8, a9⟩ := h
  exact ⟨a1, a2, a3, u, x, a4, a5, a6, a7, a8, a9.loose⟩
theorem DM.loose {z : Bool} {w : World} {lo hi : Nat} {v : Value} {ms : List MadeD} (h : DM z w lo hi v ms) : DM false w lo hi v ms := by
  obtain ⟨A, c, h1, h2, h3, h4⟩ := h
  refine ⟨A, c, h1, h2, h3, fun hp => ?_⟩
  obtain ⟨b, off, e, hl, hh, hz, hc⟩ := h4 hp
  exact ⟨b, off, e, hl, hh, (fun e => by cases e), fun i hi => (hc i hi).loose⟩
/-- the value of a Made -/
def mdV (m : MadeD) (u x : Value) : Value := .agg #[.string m.head, u, .int .i64 m.term.kind, .int .i64 m.term.num, x]

/-- how many values and letters the law counts in a list of Mades -/
def bulkD (m : MadeD) : Nat := m.head.size + bulkS m.body + sizeMs m.term.kids
def bulkDs (ms : List MadeD) : Nat := ms.length + (ms.map bulkD).sum
def madesTo (ms : List MadeD) (k : Nat) : Nat := ((ms.take k).map bulkD).sum
theorem madesTo_succ (ms : List MadeD) (k : Nat) (h : k < ms.length) : madesTo ms (k + 1) = madesTo ms k + bulkD ms[k] := by
  unfold madesTo; rw [List.take_succ_eq_append_getElem h, List.map_append, List.sum_append]; simp
theorem madesTo_le (ms : List MadeD) (k : Nat) : ms.length + madesTo ms k ≤ bulkDs ms := by
  unfold bulkDs madesTo
  conv => rhs; rw [← List.take_append_drop k ms]
  rw [List.map_append, List.sum_append]; simp
theorem madesTo_all (ms : List MadeD) : ms.length + madesTo ms ms.length = bulkDs ms := by unfold madesTo bulkDs; rw [List.take_length]
theorem bulkD_get {ms : List MadeD} {k : Nat} (h : k < ms.length) : ms.length + bulkD ms[k] ≤ bulkDs ms := by
  have h1 := madesTo_succ ms k h
  have h2 := madesTo_le ms (k + 1)
  omega
end Go.Proofs.Ytiochjagolijfaa

/- A list of Mades that grows by append, what hangs from each in blocks of their own. No program stands in this text but its types' numbers. -/
namespace Go.Proofs.Ytiochjagolijfaa
open Go.RowKit

/-- a Made, the values of its Body and its Kids; its Kids lie from l on ahead of e, its Body in block gb from e on ahead of h -/
structure Gx where
  m : MadeD
  u : Value
  x : Value
  gb : Nat
  l : Nat
  e : Nat
  h : Nat
def Gx.cells (x : Gx) : List Value := [.string x.m.head, x.u, .int .i64 x.m.term.kind, .int .i64 x.m.term.num, x.x]
structure GxAt (w : World) (base : Nat) (x : Gx) : Prop where
  head : x.m.head.size ≤ maxLen
  top : TopM x.m.term
  body : OwnS w x.gb x.u x.m.body
  inb : x.m.body ≠ [] → x.e ≤ x.gb ∧ x.gb < x.h
  kids : OI w x.l x.e x.x x.m.term.kids
  ord : base ≤ x.l ∧ x.l ≤ x.e ∧ x.e ≤ x.h ∧ x.h ≤ w.heap.size
theorem GxAt.keep {w w' : World} {base : Nat} {x : Gx} (a : GxAt w base x) (hs : w.heap.size ≤ w'.heap.size) (k : Keeps x.l x.h w w') : GxAt w' base x where
  head := a.head
  top := a.top
  body := a.body.keep fun hn => k _ (by have := a.inb hn; have := a.ord; omega) (a.inb hn).2
  inb := a.inb
  kids := a.kids.keep (k.mono (Nat.le_refl _) a.ord.2.2.1)
  ord := ⟨a.ord.1, a.ord.2.1, a.ord.2.2.1, Nat.le_trans a.ord.2.2.2 hs⟩
def flatD (xs : List Gx) : List Value := xs.flatMap Gx.cells
theorem flatD_snoc (xs : List Gx) (x : Gx) : flatD (xs ++ [x]) = flatD xs ++ x.cells := by simp [flatD]
theorem flatD_len (xs : List Gx) : (flatD xs).length = xs.length * 5 := by
  induction xs with
  | nil => rfl
  | cons x l ih => simp only [flatD, Gx.cells, List.flatMap_cons, List.length_append, List.length_cons, List.length_nil] at ih ⊢; omega
theorem flatD_at (xs : List Gx) (i j : Nat) (h : i < xs.length) (hj : j < 5) : (flatD xs)[i * 5 + j]? = xs[i].cells[j]? := by
  induction xs generalizing i with
  | nil => simp at h
  | cons x l ih =>
    have e : flatD (x :: l) = x.cells ++ flatD l := rfl
    have hc : x.cells.length = 5 := rfl
    rw [e]
    cases i with
    | zero => rw [List.getElem?_append_left (by omega)]; simp
    | succ i =>
      rw [List.getElem?_append_right (by omega), hc, show (i + 1) * 5 + j - 5 = i * 5 + j by omega]
      exact ih i (by simpa using h)
structure GrowD (w : World) (base : Nat) (v : Value) (xs : List Gx) : Prop where
  row : w.ownsRow base 67 5 v xs.length (flatD xs)
  each : ∀ x ∈ xs, GxAt w base x
  pair : xs.Pairwise fun a b => a.h ≤ b.l
  out : ∀ g, v.ownBlock = some g → ∀ x ∈ xs, g < x.l ∨ x.h ≤ g
theorem GrowD.nil (w : World) (base : Nat) : GrowD w base (.slice none 0 0) [] := ⟨World.ownsRow_nil _ _ _ _, by simp, List.Pairwise.nil, by simp⟩
theorem GrowD.move {w w' : World} {base : Nat} {v : Value} {xs : List Gx} (a : GrowD w base v xs) (hs : w.heap.size ≤ w'.heap.size)
    (h1 : ∀ g, v.ownBlock = some g → w'.heap[g]? = w.heap[g]?) (h2 : ∀ x ∈ xs, Keeps x.l x.h w w') : GrowD w' base v xs where
  row := by
    refine ⟨a.row.1, ?_⟩
    rcases a.row.2 with a2 | ⟨g, cap, cur, rfl, hb, hh, r⟩
    · exact .inl a2
    · exact .inr ⟨g, cap, cur, rfl, hb, (h1 g rfl).trans hh, r⟩
  each := fun x hx => (a.each x hx).keep hs (h2 x hx)
  pair := a.pair
  out := a.out
theorem GrowD.below {w w' : World} {base : Nat} {v : Value} {xs : List Gx} (a : GrowD w base v xs) (k : Below w.heap.size w w') : GrowD w' base v xs :=
  a.move k.size (fun g hg => k.block g (a.row.lt g hg).2) fun x hx p _ hp => k.block p (by have := (a.each x hx).ord; omega)
theorem GrowD.snoc {w w' : World} {base g cap : Nat} {v : Value} {xs : List Gx} {y : Gx} (a : GrowD w base v xs) (hy : GxAt w base y) (hx : ∀ x ∈ xs, x.h ≤ y.l) (hv : ∀ q, v.ownBlock = some q → q < y.l)
    (ho : w'.ownsRow base 67 5 (.slice (some ⟨g, 0, none⟩) (xs.length + 1) cap) (xs.length + 1) (flatD xs ++ y.cells)) (hg : w.grownBy w' v.ownBlock) (hat : v.ownBlock = some g ∨ g = w.heap.size) :
    GrowD w' base (.slice (some ⟨g, 0, none⟩) (xs.length + 1) cap) (xs ++ [y]) where
  row := by rw [flatD_snoc, List.length_append]; exact ho
  each := fun x hm => by
    rw [List.mem_append, List.mem_singleton] at hm
    rcases hm with hm | rfl
    · refine (a.each x hm).keep hg.size fun p p1 p2 => hg.block p (by have := (a.each x hm).ord; omega) fun e => ?_
      have := a.out p e.symm x hm
      omega
    · refine hy.keep hg.size fun p p1 p2 => hg.block p (by have := hy.ord; omega) fun e => ?_
      have := hv p e.symm
      omega
  pair := by
    rw [List.pairwise_append]
    refine ⟨a.pair, by simp, fun x h1 z h2 => ?_⟩
    rw [List.mem_singleton] at h2
    subst h2
    exact hx x h1
  out := fun q hq x hm => by
    obtain rfl : g = q := by simpa [Value.ownBlock] using hq
    rw [List.mem_append, List.mem_singleton] at hm
    rcases hat with e | rfl
    · rcases hm with hm | rfl
      · exact a.out _ e x hm
      · exact .inl (hv _ e)
    · rcases hm with hm | rfl
      · exact .inr (a.each x hm).ord.2.2.2
      · exact .inr hy.ord.2.2.2
/-- what it reads as -/
theorem GrowD.dm {w : World} {base : Nat} {v : Value} {xs : List Gx} (a : GrowD w base v xs) : DM true w base w.heap.size v (xs.map (·.m)) := by
  rcases a.row.2 with ⟨rfl, h0⟩ | ⟨g, cap, cur, rfl, hb, hh, hc, hm, hs, ht⟩
  · obtain rfl : xs = [] := List.eq_nil_of_length_eq_zero h0
    exact ⟨none, 0, rfl, Nat.le_refl _, by unfold maxLen; omega, fun h => by simp at h⟩
  · have hr : Row w g 67 cur := hh
    refine ⟨some ⟨g, 0, none⟩, cap, by simp, by simpa using hc, hm, fun hp => ⟨g, 0, rfl, hb, hr.lt, fun _ => ⟨_, _, hr⟩, fun i hi => ?_⟩⟩
    have hi' : i < xs.length := by simpa using hi
    have q := a.each xs[i] (List.getElem_mem hi')
    have cell : ∀ j, j < 5 → cur[i * 5 + j]? = xs[i].cells[j]? := fun j hj => by
      rw [← flatD_at xs i j hi' hj, ← ht, List.getElem?_take_of_lt (by omega), Array.getElem?_toList]
    rw [List.getElem_map]
    have c0 := cell 0 (by omega)
    rw [Nat.add_zero] at c0
    refine ⟨q.head, q.top, by rw [Nat.zero_add, hr.cell, c0]; rfl, xs[i].u, xs[i].x, ?_, ?_, ?_, ?_, q.body.strs fun hn => ?_, q.kids.km.more q.ord.1 (by have := q.ord; omega)⟩
    · rw [Nat.zero_add, hr.cell, cell 1 (by omega)]; rfl
    · rw [Nat.zero_add, hr.cell, cell 2 (by omega)]; rfl
    · rw [Nat.zero_add, hr.cell, cell 3 (by omega)]; rfl
    · rw [Nat.zero_add, hr.cell, cell 4 (by omega)]; rfl
    · have := q.inb hn
      have := q.ord
      omega
end Go.Proofs.Ytiochjagolijfaa
