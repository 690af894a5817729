import Derived.Test.YtiochjagolijfaaJShr
import Derived.Test.YtiochjagolijfaaJKMap
import Derived.Test.YtiochjagolijfaaJFixS
import Derived.Deep.LoopGhost
/- The Mades of a list by their heads, in a map of the call's own: map[string][]impl.Made; and how it grows. -/
namespace Go.Proofs.Ytiochjagolijfaa
open Go.RowKit Go.Maps

/-- how a list's slice reads, as a map's element -/
def rowE : Rd
  | .slice none 0 0 => some (.nil, [])
  | .slice (some ⟨b, 0, none⟩) n c => some (.agg [.lit (.int .i64 (b : Int)), .lit (.int .i64 (n : Int)), .lit (.int .i64 (c : Int))], [])
  | _ => none
def rowD (b n c : Nat) : DataW Unit := .agg [.lit (.int .i64 (b : Int)), .lit (.int .i64 (n : Int)), .lit (.int .i64 (c : Int))]
theorem rowE_inv {v : Value} {b n c : Nat} {ps : List MemPlace} (h : rowE v = some (rowD b n c, ps)) : v = .slice (some ⟨b, 0, none⟩) n c := by
  unfold rowE at h
  split at h
  · simp [rowD] at h
  · simp only [rowD, Option.some.injEq, Prod.mk.injEq, DataW.agg.injEq, List.cons.injEq, DataW.lit.injEq, Lit.int.injEq, true_and, and_true, Int.ofNat_inj] at h
    obtain ⟨⟨rfl, rfl, rfl⟩, _⟩ := h
    rfl
  · cases h
theorem rowE_nil {v : Value} {ps : List MemPlace} (h : rowE v = some (.nil, ps)) : v = .slice none 0 0 := by
  unfold rowE at h
  split at h
  · rfl
  · simp at h
  · cases h
structure HdE where
  xs : List Gx
  blk : Nat
  cap : Nat
def HdE.v (e : HdE) : Value := .slice (some ⟨e.blk, 0, none⟩) e.xs.length e.cap
abbrev HdF := ByteArray → Option HdE
def hdF (f : HdF) : Lit → Option (DataW Unit)
  | .string s => (f ⟨s.toArray⟩).map fun e => rowD e.blk e.xs.length e.cap
  | _ => none
theorem hdF_key (f : HdF) (s : ByteArray) : hdF f (symKey s) = (f s).map fun e => rowD e.blk e.xs.length e.cap := by
  show Option.map _ (f ⟨s.data.toList.toArray⟩) = _
  rw [show (⟨s.data.toList.toArray⟩ : ByteArray) = s by cases s; rfl]
open Classical in
noncomputable def updH (f : HdF) (s : ByteArray) (e : HdE) : HdF := fun t => if t = s then some e else f t
theorem updH_same (f : HdF) (s : ByteArray) (e : HdE) : updH f s e s = some e := by unfold updH; simp
theorem updH_other (f : HdF) {s t : ByteArray} (e : HdE) (h : t ≠ s) : updH f s e t = f t := by unfold updH; simp [h]
theorem hdF_upd (f : HdF) (s : ByteArray) (e : HdE) (l : Lit) : hdF (updH f s e) l = putF (hdF f) (symKey s) (rowD e.blk e.xs.length e.cap) l := by
  by_cases hl : l = symKey s
  · subst hl
    rw [putF_same, hdF_key, updH_same]; rfl
  · rw [putF_other _ _ hl]
    unfold hdF
    cases l with
    | string t =>
      have : (⟨t.toArray⟩ : ByteArray) ≠ s := fun q => hl (by subst q; unfold symKey; simp)
      show Option.map _ (updH f s e ⟨t.toArray⟩) = _
      rw [updH_other _ _ this]
    | _ => rfl

def ofHead (T : List MadeD) (s : ByteArray) : List MadeD := T.filter fun m => decide (m.head = s)
theorem ofHead_snoc (T : List MadeD) (m : MadeD) : ofHead (T ++ [m]) m.head = ofHead T m.head ++ [m] := by simp [ofHead]
theorem ofHead_other (T : List MadeD) {m : MadeD} {s : ByteArray} (h : s ≠ m.head) : ofHead (T ++ [m]) s = ofHead T s := by simp [ofHead, Ne.symm h]
theorem GrowH.move {w w' : World} {base : Nat} {v : Value} {xs : List Gx} (a : GrowH w base v xs) (k : Keeps 0 base w w') (h : ∀ g, v.ownBlock = some g → w'.heap[g]? = w.heap[g]?) : GrowH w' base v xs where
  row := own_keep a.row h
  each := fun x hx => (a.each x hx).keep k
/-- block b is the map of these Mades by their heads -/
structure ByH (w : World) (base b : Nat) (T : List MadeD) (f : HdF) : Prop where
  map : MapAt w 9 rowE b T.length (hdF f)
  far : base ≤ b
  gone : ∀ s, f s = none → ofHead T s = []
  held : ∀ s e, f s = some e → GrowH w base e.v e.xs ∧ e.blk ≠ b ∧ e.xs.map (·.m) = ofHead T s
  apart : ∀ s e t e', f s = some e → f t = some e' → s ≠ t → e.blk ≠ e'.blk
theorem ByH.made (w : World) : ByH (w.alloc (.map #[] 0)) w.heap.size w.heap.size [] (fun _ => .none) where
  map := (MapAt.made w _ _).like fun l => by cases l <;> rfl
  far := Nat.le_refl _
  gone := fun _ _ => rfl
  held := fun _ _ h => by cases h
  apart := fun _ _ _ _ h => by cases h
section
variable {w : World} {base b : Nat} {T : List MadeD} {f : HdF}
theorem HdE.block (e : HdE) : e.v.ownBlock = Option.some e.blk := rfl
theorem ByH.lt (h : ByH w base b T f) : b < w.heap.size := h.map.lt
theorem ByH.below {w' : World} (h : ByH w base b T f) (hb : base ≤ w.heap.size) (k : Below w.heap.size w w') : ByH w' base b T f where
  map := h.map.keep (k.block b h.lt)
  far := h.far
  gone := h.gone
  held := fun s e he => ⟨(h.held s e he).1.below hb k, (h.held s e he).2⟩
  apart := h.apart
/-- what stands at a head -/
structure AtH (w : World) (base b : Nat) (T : List MadeD) (f : HdF) (s : ByteArray) (v : Value) (xs : List Gx) : Prop where
  run : (Instr.lookup 78 (.map (Option.some b)) (.string s) false).run Try.prog w = .ok v w
  grow : GrowH w base v xs
  mades : xs.map (·.m) = ofHead T s
  own : ∀ g, v.ownBlock = Option.some g → g ≠ b ∧ g < w.heap.size ∧ ∀ t e, t ≠ s → f t = Option.some e → e.blk ≠ g
theorem zeroRow (w : World) : (zeroValue 24).run Try.prog w = .ok (.slice none 0 0) w := by kernel_rfl
def valH (f : HdF) (s : ByteArray) : Value := match f s with
  | .none => .slice .none 0 0
  | .some e => e.v
def xsH (f : HdF) (s : ByteArray) : List Gx := match f s with
  | .none => []
  | .some e => e.xs
theorem ByH.look (h : ByH w base b T f) {s : ByteArray} (hs : s.size ≤ maxLen) : AtH w base b T f s (valH f s) (xsH f s) := by
  obtain ⟨v, ps, h1, h2⟩ := h.map.look keyLaw Try.underlying78 (zeroRow w) (zd := .nil) (zp := []) rfl (WideMaps.keyOf_string_mk Try.underlying9 hs)
  change rowE v = Option.some ((hdF f (symKey s)).getD .nil, ps) at h2
  rw [hdF_key] at h2
  unfold valH xsH
  cases e : f s with
  | none =>
    rw [e] at h2
    obtain rfl := rowE_nil h2
    exact ⟨h1, GrowH.nil w base, (h.gone s e).symm, fun g hg => by cases hg⟩
  | some x =>
    rw [e] at h2
    obtain rfl := rowE_inv h2
    obtain ⟨a1, a2, a3⟩ := h.held s x e
    refine ⟨h1, a1, a3, fun g hg => ?_⟩
    obtain rfl : x.blk = g := by simpa [Value.ownBlock, HdE.v] using hg
    exact ⟨a2, (a1.row.lt x.blk rfl).2, fun t y ht hy => h.apart t y s x hy e ht⟩
/-- one more -/
theorem ByH.put {w2 : World} {v : Value} {xs : List Gx} {y : Gx} {g cap : Nat} (h : ByH w base b T f) (hb : base ≤ w.heap.size) (hT : T.length < 1048576) (hs : y.m.head.size ≤ maxLen) (a : AtH w base b T f y.m.head v xs) (hy : ShAt w base y)
    (ho : w2.ownsRow base 67 5 (.slice (Option.some ⟨g, 0, none⟩) (xs.length + 1) cap) (xs.length + 1) (flatD xs ++ y.cells)) (hg : w.grownBy w2 v.ownBlock) (hat : v.ownBlock = Option.some g ∨ g = w.heap.size) :
    ∃ w3, (Instr.mapUpdate 78 (.map (Option.some b)) (.string y.m.head) (.slice (Option.some ⟨g, 0, none⟩) (xs.length + 1) cap)).run Try.prog w2 = .ok () w3 ∧ ByH w3 base b (T ++ [y.m]) (updH f y.m.head ⟨xs ++ [y], g, cap⟩) ∧ Below base w w3 := by
  have hlt := h.lt
  have hfar := h.far
  have hvb : ∀ q, v.ownBlock = Option.some q → base ≤ q ∧ q < w.heap.size := a.grow.row.lt
  have hb2 : w2.heap[b]? = w.heap[b]? := hg.block b hlt fun e => (a.own b e.symm).1 rfl
  have hne : g ≠ b := by
    rcases hat with e | rfl
    · exact (a.own g e).1
    · omega
  have hgb : base ≤ g := by
    rcases hat with e | rfl
    · exact (hvb g e).1
    · exact hb
  obtain ⟨w3, h1, h2, h3, h4⟩ := (h.map.keep hb2).put keyLaw Try.underlying78 (val := .slice (Option.some ⟨g, 0, none⟩) (xs.length + 1) cap) (d := rowD g (xs.length + 1) cap) (ps := []) (by unfold maxLen; omega) (WideMaps.keyOf_string_mk Try.underlying9 hs) rfl
  have hz2 := hg.size
  have k23 : ∀ q, q < w2.heap.size → q ≠ b → w3.heap[q]? = w2.heap[q]? := fun q hq hn => h3.block q hq fun e => by injection e with e; exact hn e
  have k12 : ∀ q, q < base → w3.heap[q]? = w.heap[q]? := fun q hq => (k23 q (by omega) (by omega)).trans (hg.block q (by omega) fun e => by have := (hvb q e.symm).1; omega)
  refine ⟨w3, h1, ⟨?_, h.far, fun s hs2 => ?_, fun s e he => ?_, fun s e t e' he he' hst => ?_⟩, ⟨h3.os.trans hg.os, h3.tape.trans hg.tape, h3.output.trans hg.output, by omega, k12⟩⟩
  · rw [List.length_append, List.length_singleton]
    exact h2.like fun l => by rw [hdF_upd, List.length_append]; rfl
  · by_cases q : s = y.m.head
    · subst q; rw [updH_same] at hs2; cases hs2
    · rw [updH_other _ _ q] at hs2
      rw [ofHead_other _ q]
      exact h.gone s hs2
  · by_cases q : s = y.m.head
    · subst q
      rw [updH_same] at he
      injection he with he
      subst he
      refine ⟨?_, hne, ?_⟩
      · have := (a.grow.snoc hb hy ho hg).move (w' := w3) (fun p _ hp => k23 p (by omega) (by omega)) fun q hq => by
          obtain rfl : g = q := by simpa [Value.ownBlock] using hq
          exact k23 g (ho.lt g rfl).2 hne
        unfold HdE.v
        rw [List.length_append]
        exact this
      · rw [List.map_append, a.mades, ofHead_snoc]; rfl
    · rw [updH_other _ _ q] at he
      obtain ⟨a1, a2, a3⟩ := h.held s e he
      have hel := (a1.row.lt e.blk rfl).2
      refine ⟨a1.move (fun p _ hp => k12 p hp) fun r hr => ?_, a2, by rw [ofHead_other _ q]; exact a3⟩
      obtain rfl : e.blk = r := by simpa [Value.ownBlock, HdE.v] using hr
      exact (k23 _ (by omega) a2).trans (hg.block _ hel fun e1 => (a.own _ e1.symm).2.2 s e q he rfl)
  · have key : ∀ s e, s ≠ y.m.head → f s = Option.some e → e.blk ≠ g := fun s e q he => by
      obtain ⟨a1, a2, a3⟩ := h.held s e he
      have hel := (a1.row.lt e.blk rfl).2
      rcases hat with e1 | rfl
      · exact (a.own g e1).2.2 s e q he
      · omega
    by_cases q : s = y.m.head
    · subst q
      rw [updH_same] at he
      injection he with he
      subst he
      rw [updH_other _ _ (Ne.symm hst)] at he'
      exact Ne.symm (key t e' (Ne.symm hst) he')
    · rw [updH_other _ _ q] at he
      by_cases q' : t = y.m.head
      · subst q'
        rw [updH_same] at he'
        injection he' with he'
        subst he'
        exact key s e q he
      · rw [updH_other _ _ q'] at he'
        exact h.apart s e t e' he he' hst
end
end Go.Proofs.Ytiochjagolijfaa

/- A term is laid anew in memory of the call's own: the walk of (*room).renew. -/
namespace Go.Proofs.Ytiochjagolijfaa
open Go.RowKit

theorem Try.infoTermR : (Try.prog.info? 47).map (fun i => (i.zero, i.size, i.bytes)) = some (some (.agg #[.int .i64 0, .int .i64 0, .slice none 0 0]), 3, 40) := by kernel_rfl
theorem Try.infoPtrR : (Try.prog.info? 135).map (fun i => (i.zero, i.size, i.bytes)) = some (some (.pointer none), 1, 8) := by kernel_rfl
def ptrs (P : List Pe) : List Value := P.map fun e => .pointer (some ⟨e.b, e.o, none⟩)
theorem ptrs_len (P : List Pe) : (ptrs P).length = P.length := by simp [ptrs]
theorem ptrs_app (P Q : List Pe) : ptrs (P ++ Q) = ptrs P ++ ptrs Q := by simp [ptrs]
def costP (P : List Pe) : Nat := (P.map fun e => sizeM e.t).sum
theorem costP_app (P Q : List Pe) : costP (P ++ Q) = costP P + costP Q := by simp [costP, List.sum_append]
theorem costP_len (P : List Pe) : P.length ≤ costP P := by
  induction P with
  | nil => simp [costP]
  | cons e P ih =>
    have := sizeM_eq e.t
    simp only [costP, List.map_cons, List.sum_cons, List.length_cons] at ih ⊢
    omega
theorem costP_kids (g : Nat) (ts : List TermD) (U : Nat → Value) : costP (kidsP g ts U) = sizeMs ts := by
  have h : ∀ k, k ≤ ts.length → costP ((kidsP g ts U).take k) = sizeMs (ts.take k) := fun k hk => by
    induction k with
    | zero => simp [costP, sizeMs]
    | succ k ih =>
      have hl : k < (kidsP g ts U).length := by rw [kidsP_len]; omega
      rw [List.take_succ_eq_append_getElem hl, costP_app, ih (by omega), sizeMs_take ts k (by omega), kidsP_at]
      simp [costP]
  have := h ts.length (Nat.le_refl _)
  rw [List.take_length] at this
  rw [← this, ← kidsP_len g ts U, List.take_length]
/-- what stands on the way -/
structure RnI (w0 wr : World) (lo hi s0 : Nat) (P : List Pe) (G : World → Prop) : Prop where
  bel : Below s0 w0 wr
  each : ∀ i (h : i < P.length), PeAt wr lo hi s0 P[i]
  apart : ∀ i (h : i < P.length), P[i].b ≠ s0 + 1
  dist : ∀ i j (h1 : i < P.length) (h2 : j < P.length), i ≠ j → P[i].b = P[j].b → P[i].o ≠ P[j].o
  res : Row wr (s0 + 1) 47 #[.int .i64 0, .int .i64 0, .slice none 0 0]
  wand : Wand s0 wr P G
  room : costP P ≤ 2097152
theorem PeAt.on {w w' : World} {lo hi s0 : Nat} {e : Pe} (h : PeAt w lo hi s0 e) (hhi : hi ≤ s0) (hb : Keeps 0 s0 w w') (hr : ∀ p cur, s0 ≤ p → Row w p 47 cur → Row w' p 47 cur) : PeAt w' lo hi s0 e := by
  obtain ⟨cur, a, b⟩ := h.row
  exact ⟨h.ge, ⟨cur, hr _ _ h.ge a, b⟩, h.three, h.kids.keep (hb.mono (Nat.zero_le _) hhi), h.top⟩
/-- nothing but blocks of another type are written -/
theorem RnI.on {w0 wr wr' : World} {lo hi s0 : Nat} {P : List Pe} {G : World → Prop} (h : RnI w0 wr lo hi s0 P G) (hhi : hi ≤ s0) (hb : Below s0 wr wr') (hr : ∀ p cur, s0 ≤ p → Row wr p 47 cur → Row wr' p 47 cur) : RnI w0 wr' lo hi s0 P G where
  bel := h.bel.trans hb
  each := fun i hi' => (h.each i hi').on hhi (Keeps.below hb (Nat.le_refl _)) hr
  apart := h.apart
  dist := h.dist
  res := hr _ _ (by omega) h.res
  wand := h.wand.on hb.size hr
  room := h.room
/-- one place is done -/
theorem RnI.turn {w0 wr wr2 : World} {lo hi s0 g : Nat} {R : List Pe} {e : Pe} {G : World → Prop} {S : Value} {U : Nat → Value} (h : RnI w0 wr lo hi s0 (R ++ [e]) G) (hhi : hi ≤ s0) (hs0 : s0 ≤ wr.heap.size)
    (hb : Below s0 wr wr2) (hrow : ∀ p cur, s0 ≤ p → Row wr p 47 cur → Row wr2 p 47 (if p = e.b then cur.setIfInBounds (e.o + 2) S else cur))
    (hS : (e.t.kids = [] ∧ S = .slice none 0 0) ∨ (0 < e.t.kids.length ∧ wr.heap.size ≤ g ∧ ∃ (c : Nat) (gcur : Array Value), S = .slice (some ⟨g, 0, none⟩) e.t.kids.length c ∧ e.t.kids.length ≤ c ∧ c ≤ maxLen ∧ Row wr2 g 47 gcur ∧ e.t.kids.length * 3 ≤ gcur.size ∧
      ∀ i (h : i < e.t.kids.length), TopM e.t.kids[i] ∧ gcur[i * 3]? = some (.int .i64 e.t.kids[i].kind) ∧ gcur[i * 3 + 1]? = some (.int .i64 e.t.kids[i].num) ∧ gcur[i * 3 + 2]? = some (U i) ∧ KM true wr lo hi (U i) e.t.kids[i].kids)) :
    RnI w0 wr2 lo hi s0 (R ++ kidsP g e.t.kids U) G := by
  have hlen : (R ++ kidsP g e.t.kids U).length = R.length + e.t.kids.length := by rw [List.length_append, kidsP_len]
  have hlen1 : (R ++ [e]).length = R.length + 1 := by simp
  have fR : ∀ i (hi : i < R.length) (h' : i < (R ++ kidsP g e.t.kids U).length), (R ++ kidsP g e.t.kids U)[i] = R[i] := fun i hi h' => app_left _ _ i hi h'
  have fK : ∀ i (hi : i < e.t.kids.length) (h' : R.length + i < (R ++ kidsP g e.t.kids U).length), (R ++ kidsP g e.t.kids U)[R.length + i] = ⟨g, i * 3, e.t.kids[i], U i⟩ := fun i hi h' => by
    rw [app_right _ _ i (by rw [kidsP_len]; exact hi) h', kidsP_at]
  have split : ∀ i, i < R.length + e.t.kids.length → i < R.length ∨ ∃ k, k < e.t.kids.length ∧ i = R.length + k := fun i hi => by
    rcases Nat.lt_or_ge i R.length with h1 | h1
    · exact .inl h1
    · exact .inr ⟨i - R.length, by omega, by omega⟩
  have f1 : ∀ i (hi : i < R.length) (h' : i < (R ++ [e]).length), (R ++ [e])[i] = R[i] := fun i hi h' => app_left _ _ i hi h'
  have f2 : ∀ (h' : R.length < (R ++ [e]).length), (R ++ [e])[R.length] = e := fun h' => by simp
  have eachR : ∀ i (hi' : i < R.length), PeAt wr lo hi s0 R[i] := fun i hi' => by have := h.each i (by omega); rw [f1 i hi'] at this; exact this
  have eachE : PeAt wr lo hi s0 e := by have := h.each R.length (by omega); rw [f2] at this; exact this
  have dist1 : ∀ i (hi' : i < R.length), R[i].b = e.b → R[i].o ≠ e.o := fun i hi' hh => by
    have := h.dist i R.length (by omega) (by omega) (by omega)
    rw [f1 i hi', f2] at this
    exact this hh
  have gE : ∀ i, i < e.t.kids.length → wr.heap.size ≤ g ∧ g < wr2.heap.size := fun i hi' => by
    rcases hS with ⟨h1, _⟩ | ⟨_, h1, c, gcur, _, _, _, h2, _⟩
    · rw [h1] at hi'; simp at hi'
    · exact ⟨h1, h2.lt⟩
  have keepK : Keeps 0 s0 wr wr2 := Keeps.below hb (Nat.le_refl _)
  refine ⟨h.bel.trans hb, fun i hi' => ?_, fun i hi' => ?_, fun i j hi' hj' hij hbb => ?_, ?_, ?_, ?_⟩
  · rcases split i (by omega) with q | ⟨k, q, rfl⟩
    · rw [fR i q]
      obtain ⟨cur, a1, a2, a3, a4, a5⟩ := (eachR i q).row
      obtain ⟨m1, e1⟩ := (eachR i q).three
      obtain ⟨m2, e2⟩ := eachE.three
      refine ⟨(eachR i q).ge, ⟨_, hrow _ _ (eachR i q).ge a1, ?_⟩, (eachR i q).three, (eachR i q).kids.keep (keepK.mono (Nat.zero_le _) hhi), (eachR i q).top⟩
      split
      · rename_i hb1
        have := dist1 i q hb1
        refine ⟨by simp; exact a2, ?_, ?_, ?_⟩
        · rw [Array.getElem?_setIfInBounds_ne (by omega)]; exact a3
        · rw [Array.getElem?_setIfInBounds_ne (by omega)]; exact a4
        · rw [Array.getElem?_setIfInBounds_ne (by omega)]; exact a5
      · exact ⟨a2, a3, a4, a5⟩
    · rw [fK k q]
      rcases hS with ⟨h1, _⟩ | ⟨_, h1, c, gcur, _, _, _, h2, h3, h4⟩
      · rw [h1] at q; simp at q
      · obtain ⟨b0, b1, b2, b3, b4⟩ := h4 k q
        exact ⟨by show s0 ≤ g; omega, ⟨gcur, h2, by show k * 3 + 2 < _; omega, b1, b2, b3⟩, ⟨k, rfl⟩, b4.keep (keepK.mono (Nat.zero_le _) hhi), b0⟩
  · rcases split i (by omega) with q | ⟨k, q, rfl⟩
    · rw [fR i q]
      have := h.apart i (by omega)
      rw [f1 i q] at this
      exact this
    · rw [fK k q]
      have := (gE k q).1
      have := h.res.lt
      show g ≠ s0 + 1
      omega
  · rcases split i (by omega) with q | ⟨k, q, rfl⟩ <;> rcases split j (by omega) with r | ⟨m, r, rfl⟩
    · rw [fR i q, fR j r] at *
      have := h.dist i j (by omega) (by omega) hij
      rw [f1 i q, f1 j r] at this
      exact this hbb
    · rw [fR i q, fK m r] at *
      have := (eachR i q).lt
      have := (gE m r).1
      simp only at hbb
      omega
    · rw [fK k q, fR j r] at *
      have := (eachR j r).lt
      have := (gE k q).1
      simp only at hbb
      omega
    · rw [fK k q, fK m r] at *
      show k * 3 ≠ m * 3
      omega
  · have := hrow (s0 + 1) _ (by omega) h.res
    rw [if_neg (fun hh => h.apart R.length (by omega) (by rw [f2]; exact hh.symm))] at this
    exact this
  · refine h.wand.turn hs0 hb.size eachE.ge hrow (by obtain ⟨cur, a1, a2, _⟩ := eachE.row; exact ⟨cur, a1, a2⟩) (fun i hi' => (eachR i hi').lt) dist1 ?_
    rcases hS with h1 | ⟨h1, h2, c, gcur, h3, h4, h5, h6, h7, h8⟩
    · exact .inl h1
    · exact .inr ⟨h1, h2, c, gcur, h3, h4, h5, h6, h7, fun i hi' => ⟨(h8 i hi').1, (h8 i hi').2.1, (h8 i hi').2.2.1⟩⟩
  · have := h.room
    rw [costP_app] at this ⊢
    rw [costP_kids]
    have e1 : costP [e] = sizeM e.t := by simp [costP]
    have e2 := sizeM_eq e.t
    omega
/-- at the start there is one place, in the call's own box -/
theorem RnI.start {w : World} {lo hi s0 : Nat} {t : TermD} {x : Value} (hr : Row w s0 47 #[.int .i64 t.kind, .int .i64 t.num, x]) (hr1 : Row w (s0 + 1) 47 #[.int .i64 0, .int .i64 0, .slice none 0 0]) (hk : KM true w lo hi x t.kids) (ht : TopM t) (hn : sizeM t ≤ 2097152) :
    RnI w w lo hi s0 [⟨s0, 0, t, x⟩] (fun w' => ∃ x' L E, w'.cell? ⟨s0, 0, none⟩ = some (.int .i64 t.kind) ∧ w'.cell? ⟨s0, 1, none⟩ = some (.int .i64 t.num) ∧ w'.cell? ⟨s0, 2, none⟩ = some x' ∧ OI w' L E x' t.kids ∧ w.heap.size ≤ L ∧ E ≤ w'.heap.size) where
  bel := Below.refl _ _
  each := fun i hi => by
    obtain rfl : i = 0 := by simpa using hi
    exact ⟨Nat.le_refl _, ⟨_, hr, by simp, rfl, rfl, rfl⟩, ⟨0, rfl⟩, hk, ht⟩
  apart := fun i hi => by
    obtain rfl : i = 0 := by simpa using hi
    show s0 ≠ s0 + 1
    omega
  dist := fun i j hi hj hij => by simp at hi hj; omega
  res := hr1
  wand := fun w' X L E f => by
    obtain ⟨cur', r1, r2, r3⟩ := f.rows s0 _ (Nat.le_refl _) hr
    have o := f.oi 0 (by simp)
    refine ⟨X 0, L 0, E 0, ?_, ?_, f.here 0 (by simp), o.1, o.2.1, o.2.2.2⟩
    · rw [r1.cell, r3 0 (fun i hi _ => by obtain rfl : i = 0 := by simpa using hi
                                          show (0 : Nat) + 2 ≠ 0; omega)]; rfl
    · rw [r1.cell, r3 1 (fun i hi _ => by obtain rfl : i = 0 := by simpa using hi
                                          show (0 : Nat) + 2 ≠ 1; omega)]; rfl
  room := by simp [costP]; omega
end Go.Proofs.Ytiochjagolijfaa
