/- What stands while a right grammar is drawn: the rules so far, the rule that is under way. -/
import Derived.Test.YtokdhgocgicdnaaGreatDoorJDtp
namespace Go.Proofs.YtokdhgocgicdnaaGreatDoor.Dr
open Go.RowKit
open Go.Proofs.YtokdhgocgicdnaaGreatDoor

theorem fit_of {t : ByteArray} (h : fit t = true) : 1 ≤ (readOut t).1.length ∧ (readOut t).1.length ≤ 20 ∧ (∀ r ∈ (readOut t).1, r.body.length ≤ 5) ∧ (∀ r, (readOut t).1.head? = some r → r.body ≠ []) := by
  unfold fit at h
  simp only [Bool.and_eq_true, decide_eq_true_eq, List.all_eq_true] at h
  obtain ⟨⟨⟨h1, h2⟩, h3⟩, h4⟩ := h
  refine ⟨h1, h2, h3, fun r hr e => ?_⟩
  rw [hr] at h4
  simp [e] at h4

/-- what stands in the loop of the rules -/
structure Inv (w : World) (p B k : Nat) (v : Value) (xs : List (RuleD × Value × Nat)) (wr : World) : Prop where
  fr : Fr w.heap.size w p B v wr
  full : Full wr (w.heap.size + 3) v xs
  len : xs.length = k
  short : ∀ x ∈ xs, x.1.body.length ≤ 3
  bare : ∀ x ∈ xs, x.1.body = [] → x.2.1 = .slice none 0 0
theorem field_gram (a b : Value) (w : World) : (Instr.field 124 (.agg #[a, b]) 0).run Tryz.prog w = .ok (.agg #[a]) w := by kernel_rfl
/-- the rule that is under way: its box at block rb, its head and its body -/
structure Pk (w : World) (p B k : Nat) (v : Value) (xs : List (RuleD × Value × Nat)) (rb : Nat) (h : ByteArray) (bv : Value) (ss : List ByteArray) (wr : World) : Prop where
  inv : Inv w p B k v xs wr
  box : Row wr rb 45 #[.string h, bv]
  hsz : h.size ≤ 10
  sts : Sts wr (rb + 1) bv ss
  bare : ss = [] → bv = .slice none 0 0
  small : ∀ s ∈ ss, s.size ≤ 10
  len : ss.length ≤ 3
  rbb : w.heap.size + 3 ≤ rb
  old : ∀ x ∈ xs, x.1.body ≠ [] → x.2.2 < rb
  vold : ∀ g, v.ownBlock = some g → g < rb
section
variable {w wr wr' : World} {p B k rb : Nat} {v bv : Value} {xs : List (RuleD × Value × Nat)} {h : ByteArray} {ss : List ByteArray}
theorem Inv.only (I : Inv w p B k v xs wr) (o : Only p wr wr') (s : Src wr' p B) (hp : p < w.heap.size) : Inv w p B k v xs wr' := ⟨I.fr.only o s hp, Full.only I.full o (by omega), I.len, I.short, I.bare⟩
theorem Inv.alloc (I : Inv w p B k v xs wr) (o : Obj) (hp : p < w.heap.size) : Inv w p B k v xs (wr.alloc o) := ⟨I.fr.alloc o hp rfl, I.full.below (al1 wr o), I.len, I.short, I.bare⟩
theorem Pk.start (I : Inv w p B k v xs wr) (h : ByteArray) (hh : h.size ≤ 10) (hp : p < w.heap.size) : Pk w p B k v xs wr.heap.size h (.slice none 0 0) [] (wr.alloc (.cells #[.string h, .slice none 0 0] 45)) :=
  ⟨I.alloc _ hp, Row.made wr _ _, hh, World.ownsRow_nil _ _ _ _, fun _ => rfl, by simp, by simp, I.fr.heads.lt, fun x hx hn => ((I.full.2.1 x hx).2.2 hn).2, fun g hg => (I.full.1.lt g hg).2⟩
theorem Pk.head (P : Pk w p B k v xs rb h bv ss wr) (h' : ByteArray) (hh : h'.size ≤ 10) (hp : p < w.heap.size) : Pk w p B k v xs rb h' bv ss (wr.setCell ⟨rb, 0, none⟩ (.string h')) := by
  have hr := P.rbb
  refine ⟨⟨P.inv.fr.set (q := ⟨rb, 0, none⟩) hr _ hp rfl, P.inv.full.move (by simp [World.setCell]) (fun g hg => Below.heap_setCell _ _ _ _ (by have := P.vold g hg; show g ≠ rb; omega)) (fun x hx hn => Below.heap_setCell _ _ _ _ (by have := P.old x hx hn; show x.2.2 ≠ rb; omega)), P.inv.len, P.inv.short, P.inv.bare⟩, by simpa using P.box.put 0 (.string h'), hh, P.sts.same fun g hg => Below.heap_setCell _ _ _ _ (by have := (World.ownsRow.lt P.sts g hg).1; show g ≠ rb; omega), P.bare, P.small, P.len, P.rbb, P.old, P.vold⟩
theorem Pk.only (P : Pk w p B k v xs rb h bv ss wr) (o : Only p wr wr') (s : Src wr' p B) (hp : p < w.heap.size) : Pk w p B k v xs rb h bv ss wr' := by
  have hr := P.rbb
  exact ⟨P.inv.only o s hp, P.box.same (o.block _ (by omega)), P.hsz, Sts.only P.sts o (by omega), P.bare, P.small, P.len, P.rbb, P.old, P.vold⟩
theorem Pk.alloc (P : Pk w p B k v xs rb h bv ss wr) (o : Obj) (hp : p < w.heap.size) : Pk w p B k v xs rb h bv ss (wr.alloc o) :=
  ⟨P.inv.alloc o hp, P.box.alloc o, P.hsz, World.ownsRow.alloc P.sts o, P.bare, P.small, P.len, P.rbb, P.old, P.vold⟩
theorem Inv.heap (P : Inv w p B k v xs wr) (e : wr'.heap = wr.heap) (e1 : wr'.os = wr.os) (e2 : wr'.tape = wr.tape) (e3 : wr'.output = wr.output) : Inv w p B k v xs wr' :=
  ⟨⟨P.fr.src.heap e, ⟨e1.trans P.fr.grw.os, e2.trans P.fr.grw.tape, e3.trans P.fr.grw.output, by rw [e]; exact P.fr.grw.size, by rw [e]; exact P.fr.grw.block⟩, P.fr.box.heap e, P.fr.gram.heap e, P.fr.heads.heap e⟩, P.full.heap e, P.len, P.short, P.bare⟩
theorem Pk.heap (P : Pk w p B k v xs rb h bv ss wr) (e : wr'.heap = wr.heap) (e1 : wr'.os = wr.os) (e2 : wr'.tape = wr.tape) (e3 : wr'.output = wr.output) : Pk w p B k v xs rb h bv ss wr' :=
  ⟨⟨⟨P.inv.fr.src.heap e, ⟨e1.trans P.inv.fr.grw.os, e2.trans P.inv.fr.grw.tape, e3.trans P.inv.fr.grw.output, by rw [e]; exact P.inv.fr.grw.size, by rw [e]; exact P.inv.fr.grw.block⟩, P.inv.fr.box.heap e, P.inv.fr.gram.heap e, P.inv.fr.heads.heap e⟩, P.inv.full.heap e, P.inv.len, P.inv.short, P.inv.bare⟩, P.box.heap e, P.hsz, P.sts.heap e, P.bare, P.small, P.len, P.rbb, P.old, P.vold⟩
theorem Pk.grown {w6 : World} (P : Pk w p B k v xs rb h bv ss wr) (hg : wr.grownBy w6 bv.ownBlock) : Row w6 rb 45 #[.string h, bv] :=
  P.box.same (hg.block _ P.box.lt (fun e => by have := (World.ownsRow.lt P.sts _ e.symm).1; omega))
theorem Pk.more {w6 : World} {gg cap : Nat} {t : ByteArray} (P : Pk w p B k v xs rb h bv ss wr) (hg : wr.grownBy w6 bv.ownBlock)
    (ho : w6.ownsRow (rb + 1) 9 1 (.slice (some ⟨gg, 0, none⟩) (ss.length + 1) cap) (ss.length + 1) (ss.map Value.string ++ [.string t])) (ht : t.size ≤ 10) (hl : ss.length < 3) (hp : p < w.heap.size) :
    Pk w p B k v xs rb h (.slice (some ⟨gg, 0, none⟩) (ss.length + 1) cap) (ss ++ [t]) (w6.setCell ⟨rb, 1, none⟩ (.slice (some ⟨gg, 0, none⟩) (ss.length + 1) cap)) := by
  have hr := P.rbb
  have hrl := P.box.lt
  have far : ∀ q, q < rb → (w6.setCell ⟨rb, 1, none⟩ (.slice (some ⟨gg, 0, none⟩) (ss.length + 1) cap)).heap[q]? = wr.heap[q]? := fun q hq =>
    (Below.heap_setCell _ _ _ _ (by show q ≠ rb; omega)).trans (hg.block q (by omega) (fun e => by have := (World.ownsRow.lt P.sts _ e.symm).1; omega))
  have st : Sts w6 (rb + 1) (.slice (some ⟨gg, 0, none⟩) (ss.length + 1) cap) (ss ++ [t]) := Sts.one t ho
  refine ⟨⟨(P.inv.fr.own hg (fun q e => by have := (World.ownsRow.lt P.sts _ e).1; omega) hp rfl).set (q := ⟨rb, 1, none⟩) hr _ hp rfl, P.inv.full.move (by simp [World.setCell]; exact hg.size) (fun g hg => far g (P.vold g hg)) (fun x hx hn => far _ (P.old x hx hn)), P.inv.len, P.inv.short, P.inv.bare⟩, by simpa using (P.grown hg).put 1 (.slice (some ⟨gg, 0, none⟩) (ss.length + 1) cap), P.hsz, st.same fun g hg => Below.heap_setCell _ _ _ _ (by have := (World.ownsRow.lt st g hg).1; show g ≠ rb; omega), fun e => by simp at e, fun s hs => ?_, by simp; omega, P.rbb, P.old, P.vold⟩
  rw [List.mem_append, List.mem_singleton] at hs
  rcases hs with hs | rfl
  · exact P.small s hs
  · exact ht
/-- a rule is put behind the others -/
theorem Inv.push {w8 : World} {gv cv gu : Nat} (I : Inv w p B k v xs wr) (hg : wr.grownBy w8 v.ownBlock)
    (ho : w8.ownsRow (w.heap.size + 3) 45 2 (.slice (some ⟨gv, 0, none⟩) (xs.length + 1) cv) (xs.length + 1) (flatX xs ++ [.string h, bv])) (hh : h.size ≤ 10) (ou : OwnS wr gu bv ss)
    (hgu : ss ≠ [] → w.heap.size + 3 ≤ gu ∧ gu < wr.heap.size) (hd : ss ≠ [] → ∀ x ∈ xs, x.1.body ≠ [] → x.2.2 ≠ gu) (hst : ss ≠ [] → Sts wr (w.heap.size + 3) bv ss) (hl : ss.length ≤ 3) (hbare : ss = [] → bv = .slice none 0 0) (hp : p < w.heap.size) :
    ∃ xs', Inv w p B (k + 1) (.slice (some ⟨gv, 0, none⟩) (xs.length + 1) cv) xs' (w8.setCell ⟨w.heap.size + 1, 0, none⟩ (.slice (some ⟨gv, 0, none⟩) (xs.length + 1) cv)) := by
  have F8 := I.full.snoc (r := ⟨h, ss⟩) (u := bv) (g := gu) ho hg ou (by show h.size ≤ maxLen; unfold maxLen; omega) hgu hd hst
  have fr8 := I.fr.own hg (fun q e => (I.full.1.lt q e).1) hp rfl
  refine ⟨_, fr8.put _ hp rfl, F8.put (p := ⟨w.heap.size + 1, 0, none⟩) (by show w.heap.size + 1 < _; omega) _, by rw [List.length_append, I.len]; rfl, fun x hx => ?_, fun x hx he => ?_⟩
  · rw [List.mem_append, List.mem_singleton] at hx
    rcases hx with hx | rfl
    · exact I.short x hx
    · exact hl
  · rw [List.mem_append, List.mem_singleton] at hx
    rcases hx with hx | rfl
    · exact I.bare x hx he
    · exact hbare he
theorem Pk.push {w8 : World} {gv cv : Nat} (P : Pk w p B k v xs rb h bv ss wr) (hg : (wr.alloc (.cells #[.string h, bv] 45)).grownBy w8 v.ownBlock)
    (ho : w8.ownsRow (w.heap.size + 3) 45 2 (.slice (some ⟨gv, 0, none⟩) (xs.length + 1) cv) (xs.length + 1) (flatX xs ++ [.string h, bv])) (hp : p < w.heap.size) :
    ∃ xs', Inv w p B (k + 1) (.slice (some ⟨gv, 0, none⟩) (xs.length + 1) cv) xs' (w8.setCell ⟨w.heap.size + 1, 0, none⟩ (.slice (some ⟨gv, 0, none⟩) (xs.length + 1) cv)) := by
  have hr := P.rbb
  have A := P.alloc (.cells #[.string h, bv] 45) hp
  obtain ⟨gu, ou, hgu⟩ := Sts.own A.sts (fun s hs => by have := P.small s hs; unfold maxLen; omega)
  exact A.inv.push hg ho P.hsz ou (fun hn => by have := hgu hn; omega) (fun hn x hx hxn => by have := hgu hn; have := P.old x hx hxn; omega) (fun hn => Sts.lower A.sts (by omega)) P.len P.bare hp
/-- a rule of one symbol, made on the spot -/
theorem Inv.one {w8 : World} {gv cv : Nat} {t : ByteArray} {o : Obj} (I : Inv w p B k v xs wr) (hg : ((wr.alloc (.cells #[.string t] 9)).alloc o).grownBy w8 v.ownBlock)
    (ho : w8.ownsRow (w.heap.size + 3) 45 2 (.slice (some ⟨gv, 0, none⟩) (xs.length + 1) cv) (xs.length + 1) (flatX xs ++ [.string h, .slice (some ⟨wr.heap.size, 0, none⟩) 1 1])) (hh : h.size ≤ 10) (ht : t.size ≤ 10) (hp : p < w.heap.size) :
    ∃ xs', Inv w p B (k + 1) (.slice (some ⟨gv, 0, none⟩) (xs.length + 1) cv) xs' (w8.setCell ⟨w.heap.size + 1, 0, none⟩ (.slice (some ⟨gv, 0, none⟩) (xs.length + 1) cv)) := by
  have hl := I.fr.heads.lt
  have st : Sts ((wr.alloc (.cells #[.string t] 9)).alloc o) (w.heap.size + 3) (.slice (some ⟨wr.heap.size, 0, none⟩) 1 1) [t] := World.ownsRow.alloc (World.ownsRow_lit wr #[.string t] 1 (by omega) (by unfold maxLen; omega) rfl) o
  obtain ⟨gu, ou, hgu⟩ := Sts.own st (fun s hs => by rw [List.mem_singleton] at hs; subst hs; unfold maxLen; omega)
  have hb := ou.block (by simp)
  have e : wr.heap.size = gu := by simpa [Value.ownBlock] using hb
  exact ((I.alloc _ hp).alloc o hp).push hg ho hh ou hgu (fun hn x hx hxn => by have := ((I.full.2.1 x hx).2.2 hxn).2; omega) (fun _ => st) (by simp) (fun e => by simp at e) hp
/-- the grammar is handed back -/
theorem Inv.fin (I : Inv w p B k v xs wr) (h1 : 1 ≤ k) (h2 : k ≤ 20) (hp : p < w.heap.size) : DrawG w p B (.returned (.agg #[v])) (wr.setCell ⟨w.heap.size, 0, none⟩ v) := by
  have hl := I.len
  have hB := I.fr.src.1
  have hs := I.fr.grw.size
  refine ⟨v, xs, rfl, (I.full.put (p := ⟨w.heap.size, 0, none⟩) (by show w.heap.size < _; omega) _).lower (by omega), by omega, by omega, fun x hx => by have := I.short x hx; omega, fun x hx he => I.bare x (List.mem_of_head? hx) he, I.fr.src.only fun q hq => Below.heap_setCell _ _ _ _ ?_, grw_set I.fr.grw (Nat.le_refl _) _⟩
  show q ≠ w.heap.size
  omega
end
end Go.Proofs.YtokdhgocgicdnaaGreatDoor.Dr
