import Derived.Test.YtlgedjpolmlciaaJOi
import Derived.Test.YtlgedjpolmlciaaRows
import Derived.WalkKit
import Derived.WalkSpells
import Derived.WalkLawsBesides
import Derived.Lib.Hide
import Derived.Below
import Derived.Laws.RangeAny
/- Terms that are laid anew in place, list by list, with a stack of those that are still to be: what holds on the way, as data. No program stands in this text but its types' numbers. -/
namespace Go.Proofs.Ytlgedjpolmlciaa
open Go.RowKit

/-- a place whose term still has the old list of Kids x -/
structure Pe where
  b : Nat
  o : Nat
  t : TermD
  x : Value
structure PeAt (w : World) (lo hi s0 : Nat) (e : Pe) : Prop where
  ge : s0 ≤ e.b
  row : ∃ cur, Row w e.b 39 cur ∧ e.o + 2 < cur.size ∧ cur[e.o]? = some (.int .i64 e.t.kind) ∧ cur[e.o + 1]? = some (.int .i64 e.t.num) ∧ cur[e.o + 2]? = some e.x
  three : ∃ k, e.o = k * 3
  kids : KM true w lo hi e.x e.t.kids
  top : TopM e.t
theorem PeAt.lt {w : World} {lo hi s0 : Nat} {e : Pe} (h : PeAt w lo hi s0 e) : e.b < w.heap.size := by obtain ⟨cur, hr, _⟩ := h.row; exact hr.lt
/-- all places of P are done in w', with lists X, in parts of what was made behind wr -/
structure Fin (s0 : Nat) (wr w' : World) (P : List Pe) (X : Nat → Value) (L E : Nat → Nat) : Prop where
  size : wr.heap.size ≤ w'.heap.size
  rows : ∀ p cur, s0 ≤ p → Row wr p 39 cur → ∃ cur', Row w' p 39 cur' ∧ cur'.size = cur.size ∧ ∀ j, (∀ i (h : i < P.length), P[i].b = p → P[i].o + 2 ≠ j) → cur'[j]? = cur[j]?
  here : ∀ i (h : i < P.length), w'.cell? ⟨P[i].b, P[i].o + 2, none⟩ = some (X i)
  oi : ∀ i (h : i < P.length), OI w' (L i) (E i) (X i) P[i].t.kids ∧ wr.heap.size ≤ L i ∧ L i ≤ E i ∧ E i ≤ w'.heap.size
  ord : ∀ i j, i < j → j < P.length → E j ≤ L i
def Wand (s0 : Nat) (wr : World) (P : List Pe) (G : World → Prop) : Prop := ∀ w' X L E, Fin s0 wr w' P X L E → G w'
theorem Wand.done {s0 : Nat} {wr : World} {G : World → Prop} (h : Wand s0 wr [] G) : G wr :=
  h wr (fun _ => .nilFunc) (fun _ => 0) (fun _ => 0) ⟨Nat.le_refl _, fun p cur _ hr => ⟨cur, hr, rfl, fun _ _ => rfl⟩, fun i h => by simp at h, fun i h => by simp at h, fun i j _ h => by simp at h⟩
theorem Wand.on {s0 : Nat} {wr wr' : World} {P : List Pe} {G : World → Prop} (h : Wand s0 wr P G) (hs : wr.heap.size ≤ wr'.heap.size) (hr : ∀ p cur, s0 ≤ p → Row wr p 39 cur → Row wr' p 39 cur) : Wand s0 wr' P G :=
  fun w' X L E f => h w' X L E ⟨Nat.le_trans hs f.size, fun p cur h0 h1 => f.rows p cur h0 (hr p cur h0 h1), f.here, fun i hi => by
    obtain ⟨a, b, c, d⟩ := f.oi i hi
    exact ⟨a, by omega, c, d⟩, f.ord⟩

/-- the Kids of a term, as places of a new list -/
def kidsP (g : Nat) (ts : List TermD) (U : Nat → Value) : List Pe := (List.range ts.length).map fun i => ⟨g, i * 3, ts.getD i default, U i⟩
theorem kidsP_len (g : Nat) (ts : List TermD) (U : Nat → Value) : (kidsP g ts U).length = ts.length := by simp [kidsP]
theorem kidsP_at (g : Nat) (ts : List TermD) (U : Nat → Value) (i : Nat) (h : i < (kidsP g ts U).length) : (kidsP g ts U)[i] = ⟨g, i * 3, ts[i]'(by rw [kidsP_len] at h; exact h), U i⟩ := by
  have h' : i < ts.length := by rw [kidsP_len] at h; exact h
  simp [kidsP, List.getD, h']
theorem app_left {α : Type} (a b : List α) (i : Nat) (h : i < a.length) (h' : i < (a ++ b).length) : (a ++ b)[i] = a[i] := List.getElem_append_left h
theorem app_right {α : Type} (a b : List α) (i : Nat) (h : i < b.length) (h' : a.length + i < (a ++ b).length) : (a ++ b)[a.length + i] = b[i] := by
  rw [List.getElem_append_right (by omega)]; simp
/-- one place is done, those of its Kids are to be -/
theorem Wand.turn {s0 : Nat} {wr wr2 : World} {R : List Pe} {e : Pe} {G : World → Prop} {S : Value} {g : Nat} {U : Nat → Value} (h : Wand s0 wr (R ++ [e]) G)
    (hs0 : s0 ≤ wr.heap.size) (hsz : wr.heap.size ≤ wr2.heap.size) (he0 : s0 ≤ e.b)
    (hrow : ∀ p cur, s0 ≤ p → Row wr p 39 cur → Row wr2 p 39 (if p = e.b then cur.setIfInBounds (e.o + 2) S else cur))
    (he : ∃ cur, Row wr e.b 39 cur ∧ e.o + 2 < cur.size)
    (hR : ∀ i (h : i < R.length), R[i].b < wr.heap.size) (hdist : ∀ i (h : i < R.length), R[i].b = e.b → R[i].o ≠ e.o)
    (hS : (e.t.kids = [] ∧ S = .slice none 0 0) ∨ (0 < e.t.kids.length ∧ wr.heap.size ≤ g ∧ ∃ (c : Nat) (gcur : Array Value), S = .slice (some ⟨g, 0, none⟩) e.t.kids.length c ∧ e.t.kids.length ≤ c ∧ c ≤ maxLen ∧ Row wr2 g 39 gcur ∧ e.t.kids.length * 3 ≤ gcur.size ∧
      ∀ i (h : i < e.t.kids.length), TopM e.t.kids[i] ∧ gcur[i * 3]? = some (.int .i64 e.t.kids[i].kind) ∧ gcur[i * 3 + 1]? = some (.int .i64 e.t.kids[i].num))) :
    Wand s0 wr2 (R ++ kidsP g e.t.kids U) G := by
  intro w' X L E f
  have hlen : (R ++ kidsP g e.t.kids U).length = R.length + e.t.kids.length := by rw [List.length_append, kidsP_len]
  have hlen1 : (R ++ [e]).length = R.length + 1 := by simp
  have fR : ∀ i (hi : i < R.length) (h' : i < (R ++ kidsP g e.t.kids U).length), (R ++ kidsP g e.t.kids U)[i] = R[i] := fun i hi h' => app_left _ _ i hi h'
  have fK : ∀ i (hi : i < e.t.kids.length) (h' : R.length + i < (R ++ kidsP g e.t.kids U).length), (R ++ kidsP g e.t.kids U)[R.length + i] = ⟨g, i * 3, e.t.kids[i], U i⟩ := fun i hi h' => by
    rw [app_right _ _ i (by rw [kidsP_len]; exact hi) h', kidsP_at]
  have split : ∀ i, i < R.length + e.t.kids.length → i < R.length ∨ ∃ k, k < e.t.kids.length ∧ i = R.length + k := fun i hi => by
    rcases Nat.lt_or_ge i R.length with h1 | h1
    · exact .inl h1
    · exact .inr ⟨i - R.length, by omega, by omega⟩
  -- what a row of old becomes
  have frow : ∀ p cur, s0 ≤ p → Row wr p 39 cur → ∃ cur', Row w' p 39 cur' ∧ cur'.size = cur.size ∧ (∀ j, (∀ i (h : i < R.length), R[i].b = p → R[i].o + 2 ≠ j) → cur'[j]? = (if p = e.b then cur.setIfInBounds (e.o + 2) S else cur)[j]?) := fun p cur h0 hr => by
    obtain ⟨cur', r1, r2, r3⟩ := f.rows p _ h0 (hrow p cur h0 hr)
    refine ⟨cur', r1, by rw [r2]; split <;> simp, fun j hj => r3 j fun i hi hb => ?_⟩
    rcases split i (by omega) with h1 | ⟨k, h1, rfl⟩
    · rw [fR i h1] at hb ⊢
      exact hj i h1 hb
    · rw [fK k h1] at hb
      have := hr.lt
      rcases hS with ⟨h2, _⟩ | ⟨_, h2, _⟩
      · rw [h2] at h1; simp at h1
      · simp only at hb; omega
  have eAt : w'.cell? ⟨e.b, e.o + 2, none⟩ = some S := by
    obtain ⟨cur, hr, hc⟩ := he
    obtain ⟨cur', r1, r2, r3⟩ := frow e.b cur he0 hr
    have := r3 (e.o + 2) fun i hi hb hj => hdist i hi hb (by omega)
    rw [r1.cell, this, if_pos rfl, Array.getElem?_setIfInBounds_self_of_lt hc]
  have oiR : ∀ i (hi : i < R.length), OI w' (L i) (E i) (X i) R[i].t.kids ∧ wr2.heap.size ≤ L i ∧ L i ≤ E i ∧ E i ≤ w'.heap.size := fun i hi => by
    have := f.oi i (by omega)
    rw [fR i hi] at this
    exact this
  have eTop : ∃ Et, OI w' wr.heap.size Et S e.t.kids ∧ wr.heap.size ≤ Et ∧ Et ≤ w'.heap.size ∧ ∀ i, i < R.length → Et ≤ L i := by
    rcases hS with ⟨h1, rfl⟩ | ⟨h1, h2, c, gcur, rfl, h3, h4, h5, h6, h7⟩
    · refine ⟨wr2.heap.size, ?_, hsz, f.size, fun i hi => (oiR i hi).2.1⟩
      rw [h1]
      exact OI.none w' _ _ 0 Option.none (by unfold maxLen; omega)
    · have oiK : ∀ i (hi : i < e.t.kids.length), OI w' (L (R.length + i)) (E (R.length + i)) (X (R.length + i)) e.t.kids[i].kids ∧ wr2.heap.size ≤ L (R.length + i) ∧ L (R.length + i) ≤ E (R.length + i) ∧ E (R.length + i) ≤ w'.heap.size := fun i hi => by
        have := f.oi (R.length + i) (by omega)
        rw [fK i hi] at this
        exact this
      have g2 := h5.lt
      have o0 := oiK 0 h1
      rw [Nat.add_zero] at o0
      refine ⟨E R.length, ?_, by omega, o0.2.2.2, fun i hi => f.ord i R.length hi (by omega)⟩
      obtain ⟨cur', r1, r2, r3⟩ := f.rows g gcur (by omega) h5
      refine .mk _ _ _ c _ (fun i => X (R.length + i)) (fun i => L (R.length + i)) (fun i => E (R.length + i)) h3 h4 (fun i hi => (h7 i hi).1) (fun _ => ⟨g, cur', rfl, h2, by omega, r1, by omega, fun i hi => ?_⟩) (fun i hi => ?_) (fun i j hi hj hij => ?_) (fun i hi => (oiK i hi).1)
      · have free : ∀ j, (∀ k, j ≠ k * 3 + 2) → cur'[j]? = gcur[j]? := fun j hj => r3 j fun k hk hb => by
          rcases split k (by omega) with q | ⟨m, q, rfl⟩
          · rw [fR k q] at hb
            have := hR k q
            omega
          · rw [fK m q]
            exact fun hh => hj m hh.symm
        refine ⟨?_, ?_, ?_, .inr ?_⟩
        · rw [free (i * 3) (fun k => by omega)]; exact (h7 i hi).2.1
        · rw [free (i * 3 + 1) (fun k => by omega)]; exact (h7 i hi).2.2
        · have := f.here (R.length + i) (by omega)
          rw [fK i hi] at this
          rw [← this, r1.cell]
        · have := (oiK i hi).2.1; omega
      · have a := oiK i hi
        refine ⟨by omega, a.2.2.1, ?_⟩
        rcases Nat.eq_zero_or_pos i with rfl | hp
        · exact Nat.le_refl _
        · have := f.ord R.length (R.length + i) (by omega) (by omega)
          omega
      · rcases Nat.lt_or_gt_of_ne hij with q | q
        · exact .inr (f.ord (R.length + i) (R.length + j) (by omega) (by omega))
        · exact .inl (f.ord (R.length + j) (R.length + i) (by omega) (by omega))
  obtain ⟨Et, t1, t2, t3, t4⟩ := eTop
  have sp1 : ∀ i, i < R.length + 1 → i < R.length ∨ i = R.length := fun i hi => by omega
  have f1 : ∀ i (hi : i < R.length) (h' : i < (R ++ [e]).length), (R ++ [e])[i] = R[i] := fun i hi h' => app_left _ _ i hi h'
  have f2 : ∀ (h' : R.length < (R ++ [e]).length), (R ++ [e])[R.length] = e := fun h' => by simp
  refine h w' (fun i => if i < R.length then X i else S) (fun i => if i < R.length then L i else wr.heap.size) (fun i => if i < R.length then E i else Et) ⟨Nat.le_trans hsz f.size, fun p cur h0 hr => ?_, fun i hi => ?_, fun i hi => ?_, fun i j hij hj => ?_⟩
  · obtain ⟨cur', r1, r2, r3⟩ := frow p cur h0 hr
    refine ⟨cur', r1, r2, fun j hj => ?_⟩
    rw [r3 j fun i hi hb => by have := hj i (by omega); rw [f1 i hi] at this; exact this hb]
    split
    · rename_i hp
      have := hj R.length (by omega)
      rw [f2] at this
      rw [Array.getElem?_setIfInBounds_ne (this hp.symm)]
    · rfl
  · rcases sp1 i (by omega) with q | rfl
    · simp only [if_pos q]
      rw [f1 i q]
      have := f.here i (by omega)
      rw [fR i q] at this
      exact this
    · rw [f2, if_neg (by omega)]
      exact eAt
  · rcases sp1 i (by omega) with q | rfl
    · simp only [if_pos q]
      rw [f1 i q]
      have := oiR i q
      exact ⟨this.1, by omega, this.2.2⟩
    · simp only [if_neg (Nat.lt_irrefl R.length)]
      rw [f2]
      exact ⟨t1, Nat.le_refl _, t2, t3⟩
  · have q : i < R.length := by omega
    simp only [if_pos q]
    by_cases q2 : j < R.length
    · simp only [if_pos q2]
      exact f.ord i j hij (by omega)
    · simp only [if_neg q2]
      exact t4 i q
end Go.Proofs.Ytlgedjpolmlciaa

/- The walks of isSymbol and l02Of, of IsHead and IsToken: both programs say of a text whether it is a symbol by one and the same function, symB. -/
namespace Go.Proofs.Ytlgedjpolmlciaa
open Go.RowKit

theorem ret_bool {a b : Bool} (h : a = b) : Ending.returned (.bool a) = .returned (.bool b) := by rw [h]

/-- is each of the first k bytes of s one from lo to hi? -/
def AllIn (lo hi : Nat) (s : ByteArray) (k : Nat) : Prop := ∀ j, (h : j < s.size) → j < k → lo ≤ s[j].toNat ∧ s[j].toNat ≤ hi
def symB (lo hi : Nat) (s : ByteArray) : Bool := decide (1 ≤ s.size) && decide (s.size ≤ 4) && s.data.toList.all (fun c => decide (lo ≤ c.toNat) && decide (c.toNat ≤ hi))

theorem symB_iff (lo hi : Nat) (s : ByteArray) : symB lo hi s = true ↔ 1 ≤ s.size ∧ s.size ≤ 4 ∧ AllIn lo hi s s.size := by
  simp only [symB, Bool.and_eq_true, decide_eq_true_eq, List.all_eq_true, AllIn]
  constructor
  · rintro ⟨⟨h1, h2⟩, h3⟩
    exact ⟨h1, h2, fun j hj _ => h3 s[j] (by show s.data[j] ∈ _; simp)⟩
  · rintro ⟨h1, h2, h3⟩
    refine ⟨⟨h1, h2⟩, fun c hc => ?_⟩
    obtain ⟨j, hj, rfl⟩ := List.getElem_of_mem hc
    exact h3 j (by simpa using hj) (by simpa using hj)
theorem symB_t {lo hi : Nat} {s : ByteArray} (h1 : 1 ≤ s.size) (h2 : s.size ≤ 4) (h : AllIn lo hi s s.size) : symB lo hi s = true := (symB_iff lo hi s).2 ⟨h1, h2, h⟩
theorem symB_f {lo hi : Nat} {s : ByteArray} {k : Nat} (h1 : k < s.size) (h : ¬ (lo ≤ s[k].toNat ∧ s[k].toNat ≤ hi)) : symB lo hi s = false := by
  rw [Bool.eq_false_iff]; intro e
  exact h (((symB_iff lo hi s).1 e).2.2 k h1 h1)
theorem symB_len {lo hi : Nat} {s : ByteArray} (h : ¬ (1 ≤ s.size ∧ s.size ≤ 4)) : symB lo hi s = false := by
  rw [Bool.eq_false_iff]; intro e
  have := (symB_iff lo hi s).1 e
  exact h ⟨this.1, this.2.1⟩
theorem AllIn.succ {lo hi : Nat} {s : ByteArray} {k : Nat} (h : AllIn lo hi s k) (hk : k < s.size) (h1 : lo ≤ s[k].toNat ∧ s[k].toNat ≤ hi) : AllIn lo hi s (k + 1) := by
  intro j hj hjk
  rcases Nat.lt_or_ge j k with h2 | h2
  · exact h j hj h2
  · have : j = k := by omega
    subst this; exact h1

def headB (s : ByteArray) : Bool := symB 65 90 s
def tokB (s : ByteArray) : Bool := symB 97 122 s

end Go.Proofs.Ytlgedjpolmlciaa
