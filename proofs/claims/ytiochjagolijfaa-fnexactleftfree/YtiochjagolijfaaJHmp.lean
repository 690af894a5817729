import Derived.Test.YtiochjagolijfaaEar
import Derived.Test.YtiochjagolijfaaJOwns
import Derived.Maps.OwnSet
import Derived.Maps.RangeWalk
import Derived.WideKeyEntry
import Derived.DeepKeys4
import Derived.WalkKit
import Derived.Test.YtiochjagolijfaaJShr
/- Maps of the call's own, told by what stands at each key; keys that are structs: looks, pieces, goals. -/
namespace Go.Proofs.Ytiochjagolijfaa
open Go.RowKit Go.Maps Go.ChangeMaps

theorem same_entry {l : List MapEntry} (h : l.Pairwise (fun x y => x.key ≠ y.key)) {a b : MapEntry} (ha : a ∈ l) (hb : b ∈ l) (e : a.key = b.key) : a = b := by
  induction l with
  | nil => cases ha
  | cons x l ih =>
    rw [List.pairwise_cons] at h
    rcases List.mem_cons.1 ha with h1 | h1 <;> rcases List.mem_cons.1 hb with h2 | h2
    · rw [h1, h2]
    · exact absurd (h1 ▸ e) (h.1 b h2)
    · exact absurd (h2 ▸ e.symm) (h.1 a h1)
    · exact ih h.2 h1 h2
theorem ok_inj {α : Type} {a b : α} {w w' : World} (h : Result.ok a w = Result.ok b w') : a = b ∧ w = w' := by cases h; exact ⟨rfl, rfl⟩

abbrev Rd := Value → Option (DataW Unit × List MemPlace)
/-- block b is a map of at most n entries; at each key there stands what f tells -/
def MapAt (w : World) (kt : TypeId) (R : Rd) (b n : Nat) (f : Lit → Option (DataW Unit)) : Prop :=
  ∃ D, w.ownsMap Try.prog kt R b n D ∧ ∀ l, WideAt.IsKeyLit l → ∀ z, D.atKey l z = (f l).getD z
section
variable {w w' : World} {kt et t : TypeId} {R : Rd} {b n : Nat} {f : Lit → Option (DataW Unit)}
theorem MapAt.lt (h : MapAt w kt R b n f) : b < w.heap.size := by obtain ⟨D, h, _⟩ := h; exact World.ownsMap.lt h
theorem MapAt.keep (h : MapAt w kt R b n f) (e : w'.heap[b]? = w.heap[b]?) : MapAt w' kt R b n f := by
  obtain ⟨D, ⟨es, clock, h1, h2⟩, h3⟩ := h
  exact ⟨D, ⟨es, clock, e.trans h1, h2⟩, h3⟩
theorem MapAt.like {f' : Lit → Option (DataW Unit)} (h : MapAt w kt R b n f) (e : ∀ l, f' l = f l) : MapAt w kt R b n f' := by
  obtain ⟨D, h1, h2⟩ := h
  exact ⟨D, h1, fun l hl z => by rw [e]; exact h2 l hl z⟩
theorem MapAt.made (w : World) (kt : TypeId) (R : Rd) : MapAt (w.alloc (.map #[] 0)) kt R w.heap.size 0 (fun _ => none) := ⟨_, World.ownsMap_made w _ _ _, fun _ _ _ => rfl⟩
theorem MapAt.look (h : MapAt w kt R b n f) (K : Keyed Try.prog kt) (ht : Try.prog.underlying t = some (.map kt et)) {z : Value} (hz : (zeroValue et).run Try.prog w = .ok z w) {zd : DataW Unit} {zp : List MemPlace} (hzd : R z = some (zd, zp)) {key : Value} {kl : Lit} (hkey : keyOf Try.prog kt key = some kl) :
    ∃ v ps, (Instr.lookup t (.map (some b)) key false).run Try.prog w = .ok v w ∧ R v = some ((f kl).getD zd, ps) := by
  obtain ⟨D, h1, h2⟩ := h
  obtain ⟨v, ps, h3, h4⟩ := h1.lookup K ht hz hzd hkey
  exact ⟨v, ps, h3, by rw [← h2 kl (K.key hkey)]; exact h4⟩
open Classical in
noncomputable def putF (f : Lit → Option (DataW Unit)) (k : Lit) (d : DataW Unit) : Lit → Option (DataW Unit) := fun l => if l = k then some d else f l
theorem putF_same (f : Lit → Option (DataW Unit)) (k : Lit) (d : DataW Unit) : putF f k d k = some d := by unfold putF; simp
theorem putF_other (f : Lit → Option (DataW Unit)) {k l : Lit} (d : DataW Unit) (h : l ≠ k) : putF f k d l = f l := by unfold putF; simp [h]
theorem MapAt.put_data {D : DataW Unit} (hm : IsMap D) (h2 : ∀ l, WideAt.IsKeyLit l → ∀ z, D.atKey l z = (f l).getD z) {kl : Lit} (hk : WideAt.IsKeyLit kl) (d : DataW Unit) : ∀ l, WideAt.IsKeyLit l → ∀ z, (D.put kl d).atKey l z = (putF f kl d l).getD z := by
  intro l hl z
  by_cases e : l = kl
  · subst e
    rw [atKey_put_same hm hk, putF_same]; rfl
  · rw [atKey_put_other e, putF_other f d e]; exact h2 l hl z
theorem MapAt.put (h : MapAt w kt R b n f) (K : Keyed Try.prog kt) (ht : Try.prog.underlying t = some (.map kt et)) (hn : n < maxLen) {key val : Value} {kl : Lit} (hkey : keyOf Try.prog kt key = some kl) {d : DataW Unit} {ps : List MemPlace} (hv : R val = some (d, ps)) :
    ∃ w', (Instr.mapUpdate t (.map (some b)) key val).run Try.prog w = .ok () w' ∧ MapAt w' kt R b (n + 1) (putF f kl d) ∧ w.grownBy w' (some b) ∧ w'.heap.size = w.heap.size := by
  obtain ⟨D, h1, h2⟩ := h
  obtain ⟨w1, h3, h4, h5⟩ := h1.store K ht hn hkey hv
  refine ⟨w1, h3, ⟨_, h4, MapAt.put_data h1.isMap h2 (K.key hkey) d⟩, h5.grown, ?_⟩
  obtain ⟨es, clock, es', clock', hb, rfl⟩ := h5
  simp [setBlock]
/-- m[k] = f(m[k]), in two steps -/
theorem MapAt.entry (h : MapAt w kt R b n f) (L : WideMaps.KeyLaw Try.prog kt) (ht : Try.prog.underlying t = some (.map kt et)) {z : Value} (hz : ∀ u : World, (zeroValue et).run Try.prog u = .ok z u) {zd : DataW Unit} {zp : List MemPlace} (hzd : R z = some (zd, zp)) (hn : n < maxLen) {key : Value} {kl : Lit} (hkey : keyOf Try.prog kt key = some kl) :
    ∃ v st w1 ps, (Instr.mapEntry t (.map (some b)) key).run Try.prog w = .ok (.tuple #[v, goInt st]) w1 ∧ R v = some ((f kl).getD zd, ps) ∧ w.grownBy w1 (some b) ∧ w1.heap.size = w.heap.size ∧
      ∀ (w2 : World) (val : Value) (d : DataW Unit) (ps' : List MemPlace), w2.heap[b]? = w1.heap[b]? → R val = some (d, ps') →
        ∃ w3, (Instr.entryStore t (.map (some b)) (goInt st) val).run Try.prog w2 = .ok () w3 ∧ MapAt w3 kt R b (n + 1) (putF f kl d) ∧ w2.grownBy w3 (some b) ∧ w3.heap.size = w2.heap.size := by
  have K := Keyed.of_law L
  obtain ⟨v', ps, hl1, hl2⟩ := h.look K ht (hz w) hzd hkey
  obtain ⟨D, h1, h2⟩ := h
  have h1' := h1
  obtain ⟨es, clock, hb, F, hs, hD⟩ := h1'
  obtain ⟨v0, st, es1, clock1, h3, h4, h5⟩ := WideElems.entry_then_store L ht hz hb F hkey
  have hv : R v0 = some ((f kl).getD zd, ps) := by
    rcases Maps.fit_look false K ht (hz w) hb F hkey with ⟨hrun, hno, hat⟩ | ⟨e0, y, hm, hk, hrun, hRv, hat, _⟩
    · have hrun : v' = z := (ok_inj (hl1.symm.trans hrun)).1
      rcases h4 with ⟨e0, hm, hk, rfl⟩ | ⟨_, rfl⟩
      · exact absurd hk (hno e0 hm)
      · rw [← hrun]; exact hl2
    · have hrun : v' = e0.val := (ok_inj (hl1.symm.trans hrun)).1
      rcases h4 with ⟨e1, hm1, hk1, rfl⟩ | ⟨hno, rfl⟩
      · have := same_entry ((MapKept.stamped_iff es clock).1 F.stamped).2.2 hm1 hm (hk1.trans hk.symm)
        rw [this, ← hrun]; exact hl2
      · exact absurd hk (hno e0 hm)
  have grow : ∀ (u : World) (es2 : Array MapEntry) (c2 : Nat), (∃ o, u.heap[b]? = some o) → u.grownBy (setBlock u b (.map es2 c2)) (some b) ∧ (setBlock u b (.map es2 c2)).heap.size = u.heap.size := by
    rintro u es2 c2 ⟨o, ho⟩
    refine ⟨⟨rfl, rfl, rfl, by simp [setBlock], fun i _ hi => ?_⟩, by simp [setBlock]⟩
    simp only [setBlock]
    rw [Array.getElem?_setIfInBounds_ne (fun e => hi (by rw [e]))]
  refine ⟨v0, st, _, ps, h3, hv, (grow w es1 clock1 ⟨_, hb⟩).1, (grow w es1 clock1 ⟨_, hb⟩).2, fun w2 val d ps' hw2 hRv => ?_⟩
  have hw1 : (setBlock w b (.map es1 clock1)).heap[b]? = some (.map es1 clock1) := heap_setBlock_same hb _
  obtain ⟨es', clock', h6, h7⟩ := h5 w2 val (hw2.trans hw1)
  obtain ⟨w4, h8, h9, h10⟩ := h1.store K ht hn hkey hRv
  obtain rfl := (ok_inj (h7.symm.trans h8)).2
  have hs2 : (setBlock w2 b (.map es' clock')).heap[b]? = some (.map es' clock') := heap_setBlock_same (hw2.trans hw1) _
  have hs1 : (setBlock w b (.map es' clock')).heap[b]? = some (.map es' clock') := heap_setBlock_same hb _
  have g2 := grow w2 es' clock' ⟨_, hw2.trans hw1⟩
  refine ⟨_, h6, ⟨_, ?_, MapAt.put_data h1.isMap h2 (K.key hkey) d⟩, g2.1, g2.2⟩
  obtain ⟨e5, c5, k1, k2⟩ := h9
  exact ⟨e5, c5, hs2.trans (hs1.symm.trans k1), k2⟩
end
end Go.Proofs.Ytiochjagolijfaa

/- The Mades of a list by their heads, in a map of the call's own: map[string][]impl.Made; and how it grows. -/
namespace Go.Proofs.Ytiochjagolijfaa
open Go.RowKit Go.Maps

/-- how a list's slice reads, as a map's element -/
def rowE : Rd
  | .slice none 0 0 => some (.nil, [])
  | .slice (some ⟨b, 0, none⟩) n c => some (.agg [.lit (.int .i64 (b : Int)), .lit (.int .i64 (n : Int)), .lit (.int .i64 (c : Int))], [])
  | _ => none
def rowD (b n c : Nat) : DataW Unit := .agg [.lit (.int .i64 (b : Int)), .lit (.int .i64 (n : Int)), .lit (.int .i64 (c : Int))]
theorem rowE_inv {v : Value} {b n c : Nat} {ps : List MemPlace} (h : rowE v = some (rowD b n c, ps)) : v = .slice (some ⟨b, 0, none⟩) n c := by
  unfold rowE at h
  split at h
  · simp [rowD] at h
  · simp only [rowD, Option.some.injEq, Prod.mk.injEq, DataW.agg.injEq, List.cons.injEq, DataW.lit.injEq, Lit.int.injEq, true_and, and_true, Int.ofNat_inj] at h
    obtain ⟨⟨rfl, rfl, rfl⟩, _⟩ := h
    rfl
  · cases h
theorem rowE_nil {v : Value} {ps : List MemPlace} (h : rowE v = some (.nil, ps)) : v = .slice none 0 0 := by
  unfold rowE at h
  split at h
  · rfl
  · simp at h
  · cases h
structure HdE where
  xs : List Gx
  blk : Nat
  cap : Nat
def HdE.v (e : HdE) : Value := .slice (some ⟨e.blk, 0, none⟩) e.xs.length e.cap
abbrev HdF := ByteArray → Option HdE
def hdF (f : HdF) : Lit → Option (DataW Unit)
  | .string s => (f ⟨s.toArray⟩).map fun e => rowD e.blk e.xs.length e.cap
  | _ => none
theorem hdF_key (f : HdF) (s : ByteArray) : hdF f (symKey s) = (f s).map fun e => rowD e.blk e.xs.length e.cap := by
  show Option.map _ (f ⟨s.data.toList.toArray⟩) = _
  rw [show (⟨s.data.toList.toArray⟩ : ByteArray) = s by cases s; rfl]
open Classical in
noncomputable def updH (f : HdF) (s : ByteArray) (e : HdE) : HdF := fun t => if t = s then some e else f t
theorem updH_same (f : HdF) (s : ByteArray) (e : HdE) : updH f s e s = some e := by unfold updH; simp
theorem updH_other (f : HdF) {s t : ByteArray} (e : HdE) (h : t ≠ s) : updH f s e t = f t := by unfold updH; simp [h]
theorem hdF_upd (f : HdF) (s : ByteArray) (e : HdE) (l : Lit) : hdF (updH f s e) l = putF (hdF f) (symKey s) (rowD e.blk e.xs.length e.cap) l := by
  by_cases hl : l = symKey s
  · subst hl
    rw [putF_same, hdF_key, updH_same]; rfl
  · rw [putF_other _ _ hl]
    unfold hdF
    cases l with
    | string t =>
      have : (⟨t.toArray⟩ : ByteArray) ≠ s := fun q => hl (by subst q; unfold symKey; simp)
      show Option.map _ (updH f s e ⟨t.toArray⟩) = _
      rw [updH_other _ _ this]
    | _ => rfl

def ofHead (T : List MadeD) (s : ByteArray) : List MadeD := T.filter fun m => decide (m.head = s)
theorem ofHead_snoc (T : List MadeD) (m : MadeD) : ofHead (T ++ [m]) m.head = ofHead T m.head ++ [m] := by simp [ofHead]
theorem ofHead_other (T : List MadeD) {m : MadeD} {s : ByteArray} (h : s ≠ m.head) : ofHead (T ++ [m]) s = ofHead T s := by simp [ofHead, Ne.symm h]
theorem GrowH.move {w w' : World} {base : Nat} {v : Value} {xs : List Gx} (a : GrowH w base v xs) (k : Keeps 0 base w w') (h : ∀ g, v.ownBlock = some g → w'.heap[g]? = w.heap[g]?) : GrowH w' base v xs where
  row := own_keep a.row h
  each := fun x hx => (a.each x hx).keep k
/-- block b is the map of these Mades by their heads -/
structure ByH (w : World) (base b : Nat) (T : List MadeD) (f : HdF) : Prop where
  map : MapAt w 9 rowE b T.length (hdF f)
  far : base ≤ b
  gone : ∀ s, f s = none → ofHead T s = []
  held : ∀ s e, f s = some e → GrowH w base e.v e.xs ∧ e.blk ≠ b ∧ e.xs.map (·.m) = ofHead T s
  apart : ∀ s e t e', f s = some e → f t = some e' → s ≠ t → e.blk ≠ e'.blk
theorem ByH.made (w : World) : ByH (w.alloc (.map #[] 0)) w.heap.size w.heap.size [] (fun _ => .none) where
  map := (MapAt.made w _ _).like fun l => by cases l <;> rfl
  far := Nat.le_refl _
  gone := fun _ _ => rfl
  held := fun _ _ h => by cases h
  apart := fun _ _ _ _ h => by cases h
section
variable {w : World} {base b : Nat} {T : List MadeD} {f : HdF}
theorem HdE.block (e : HdE) : e.v.ownBlock = Option.some e.blk := rfl
theorem ByH.lt (h : ByH w base b T f) : b < w.heap.size := h.map.lt
theorem ByH.below {w' : World} (h : ByH w base b T f) (hb : base ≤ w.heap.size) (k : Below w.heap.size w w') : ByH w' base b T f where
  map := h.map.keep (k.block b h.lt)
  far := h.far
  gone := h.gone
  held := fun s e he => ⟨(h.held s e he).1.below hb k, (h.held s e he).2⟩
  apart := h.apart
/-- what stands at a head -/
structure AtH (w : World) (base b : Nat) (T : List MadeD) (f : HdF) (s : ByteArray) (v : Value) (xs : List Gx) : Prop where
  run : (Instr.lookup 78 (.map (Option.some b)) (.string s) false).run Try.prog w = .ok v w
  grow : GrowH w base v xs
  mades : xs.map (·.m) = ofHead T s
  own : ∀ g, v.ownBlock = Option.some g → g ≠ b ∧ g < w.heap.size ∧ ∀ t e, t ≠ s → f t = Option.some e → e.blk ≠ g
theorem zeroRow (w : World) : (zeroValue 24).run Try.prog w = .ok (.slice none 0 0) w := by kernel_rfl
def valH (f : HdF) (s : ByteArray) : Value := match f s with
  | .none => .slice .none 0 0
  | .some e => e.v
def xsH (f : HdF) (s : ByteArray) : List Gx := match f s with
  | .none => []
  | .some e => e.xs
theorem ByH.look (h : ByH w base b T f) {s : ByteArray} (hs : s.size ≤ maxLen) : AtH w base b T f s (valH f s) (xsH f s) := by
  obtain ⟨v, ps, h1, h2⟩ := h.map.look keyLaw Try.underlying78 (zeroRow w) (zd := .nil) (zp := []) rfl (WideMaps.keyOf_string_mk Try.underlying9 hs)
  change rowE v = Option.some ((hdF f (symKey s)).getD .nil, ps) at h2
  rw [hdF_key] at h2
  unfold valH xsH
  cases e : f s with
  | none =>
    rw [e] at h2
    obtain rfl := rowE_nil h2
    exact ⟨h1, GrowH.nil w base, (h.gone s e).symm, fun g hg => by cases hg⟩
  | some x =>
    rw [e] at h2
    obtain rfl := rowE_inv h2
    obtain ⟨a1, a2, a3⟩ := h.held s x e
    refine ⟨h1, a1, a3, fun g hg => ?_⟩
    obtain rfl : x.blk = g := by simpa [Value.ownBlock, HdE.v] using hg
    exact ⟨a2, (a1.row.lt x.blk rfl).2, fun t y ht hy => h.apart t y s x hy e ht⟩
/-- one more -/
theorem ByH.put {w2 : World} {v : Value} {xs : List Gx} {y : Gx} {g cap : Nat} (h : ByH w base b T f) (hb : base ≤ w.heap.size) (hT : T.length < 1048576) (hs : y.m.head.size ≤ maxLen) (a : AtH w base b T f y.m.head v xs) (hy : ShAt w base y)
    (ho : w2.ownsRow base 67 5 (.slice (Option.some ⟨g, 0, none⟩) (xs.length + 1) cap) (xs.length + 1) (flatD xs ++ y.cells)) (hg : w.grownBy w2 v.ownBlock) (hat : v.ownBlock = Option.some g ∨ g = w.heap.size) :
    ∃ w3, (Instr.mapUpdate 78 (.map (Option.some b)) (.string y.m.head) (.slice (Option.some ⟨g, 0, none⟩) (xs.length + 1) cap)).run Try.prog w2 = .ok () w3 ∧ ByH w3 base b (T ++ [y.m]) (updH f y.m.head ⟨xs ++ [y], g, cap⟩) ∧ Below base w w3 := by
  have hlt := h.lt
  have hfar := h.far
  have hvb : ∀ q, v.ownBlock = Option.some q → base ≤ q ∧ q < w.heap.size := a.grow.row.lt
  have hb2 : w2.heap[b]? = w.heap[b]? := hg.block b hlt fun e => (a.own b e.symm).1 rfl
  have hne : g ≠ b := by
    rcases hat with e | rfl
    · exact (a.own g e).1
    · omega
  have hgb : base ≤ g := by
    rcases hat with e | rfl
    · exact (hvb g e).1
    · exact hb
  obtain ⟨w3, h1, h2, h3, h4⟩ := (h.map.keep hb2).put keyLaw Try.underlying78 (val := .slice (Option.some ⟨g, 0, none⟩) (xs.length + 1) cap) (d := rowD g (xs.length + 1) cap) (ps := []) (by unfold maxLen; omega) (WideMaps.keyOf_string_mk Try.underlying9 hs) rfl
  have hz2 := hg.size
  have k23 : ∀ q, q < w2.heap.size → q ≠ b → w3.heap[q]? = w2.heap[q]? := fun q hq hn => h3.block q hq fun e => by injection e with e; exact hn e
  have k12 : ∀ q, q < base → w3.heap[q]? = w.heap[q]? := fun q hq => (k23 q (by omega) (by omega)).trans (hg.block q (by omega) fun e => by have := (hvb q e.symm).1; omega)
  refine ⟨w3, h1, ⟨?_, h.far, fun s hs2 => ?_, fun s e he => ?_, fun s e t e' he he' hst => ?_⟩, ⟨h3.os.trans hg.os, h3.tape.trans hg.tape, h3.output.trans hg.output, by omega, k12⟩⟩
  · rw [List.length_append, List.length_singleton]
    exact h2.like fun l => by rw [hdF_upd, List.length_append]; rfl
  · by_cases q : s = y.m.head
    · subst q; rw [updH_same] at hs2; cases hs2
    · rw [updH_other _ _ q] at hs2
      rw [ofHead_other _ q]
      exact h.gone s hs2
  · by_cases q : s = y.m.head
    · subst q
      rw [updH_same] at he
      injection he with he
      subst he
      refine ⟨?_, hne, ?_⟩
      · have := (a.grow.snoc hb hy ho hg).move (w' := w3) (fun p _ hp => k23 p (by omega) (by omega)) fun q hq => by
          obtain rfl : g = q := by simpa [Value.ownBlock] using hq
          exact k23 g (ho.lt g rfl).2 hne
        unfold HdE.v
        rw [List.length_append]
        exact this
      · rw [List.map_append, a.mades, ofHead_snoc]; rfl
    · rw [updH_other _ _ q] at he
      obtain ⟨a1, a2, a3⟩ := h.held s e he
      have hel := (a1.row.lt e.blk rfl).2
      refine ⟨a1.move (fun p _ hp => k12 p hp) fun r hr => ?_, a2, by rw [ofHead_other _ q]; exact a3⟩
      obtain rfl : e.blk = r := by simpa [Value.ownBlock, HdE.v] using hr
      exact (k23 _ (by omega) a2).trans (hg.block _ hel fun e1 => (a.own _ e1.symm).2.2 s e q he rfl)
  · have key : ∀ s e, s ≠ y.m.head → f s = Option.some e → e.blk ≠ g := fun s e q he => by
      obtain ⟨a1, a2, a3⟩ := h.held s e he
      have hel := (a1.row.lt e.blk rfl).2
      rcases hat with e1 | rfl
      · exact (a.own g e1).2.2 s e q he
      · omega
    by_cases q : s = y.m.head
    · subst q
      rw [updH_same] at he
      injection he with he
      subst he
      rw [updH_other _ _ (Ne.symm hst)] at he'
      exact Ne.symm (key t e' (Ne.symm hst) he')
    · rw [updH_other _ _ q] at he
      by_cases q' : t = y.m.head
      · subst q'
        rw [updH_same] at he'
        injection he' with he'
        subst he'
        exact key s e q he
      · rw [updH_other _ _ q'] at he'
        exact h.apart s e t e' he he' hst
end
end Go.Proofs.Ytiochjagolijfaa
