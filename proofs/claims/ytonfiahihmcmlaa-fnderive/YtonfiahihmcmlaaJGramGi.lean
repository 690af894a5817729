import Derived.Test.YtonfiahihmcmlaaJWd6
/- What stands while a right grammar is drawn: the rules so far, the rule that is under way. -/
namespace Go.Proofs.Ytonfiahihmcmlaa.Dr
open Go.RowKit
open Go.Proofs.Ytonfiahihmcmlaa

theorem fit_of {t : ByteArray} (h : fit t = true) : 1 ≤ (readOut t).1.length ∧ (readOut t).1.length ≤ 20 ∧ (∀ r ∈ (readOut t).1, r.body.length ≤ 5) ∧ (∀ r, (readOut t).1.head? = some r → r.body ≠ []) := by
  unfold fit at h
  simp only [Bool.and_eq_true, decide_eq_true_eq, List.all_eq_true] at h
  obtain ⟨⟨⟨h1, h2⟩, h3⟩, h4⟩ := h
  refine ⟨h1, h2, h3, fun r hr e => ?_⟩
  rw [hr] at h4
  simp [e] at h4

/-- what stands in the loop of the rules -/
structure Inv (w : World) (p B k : Nat) (v : Value) (xs : List (RuleD × Value × Nat)) (wr : World) : Prop where
  fr : Fr w.heap.size w p B v wr
  full : Full wr (w.heap.size + 3) v xs
  len : xs.length = k
  short : ∀ x ∈ xs, x.1.body.length ≤ 3
  bare : ∀ x ∈ xs, x.1.body = [] → x.2.1 = .slice none 0 0
theorem field_gram (a b : Value) (w : World) : (Instr.field 30 (.agg #[a, b]) 0).run Try.prog w = .ok (.agg #[a]) w := by kernel_rfl
/-- the rule that is under way: its box at block rb, its head and its body -/
structure Pk (w : World) (p B k : Nat) (v : Value) (xs : List (RuleD × Value × Nat)) (rb : Nat) (h : ByteArray) (bv : Value) (ss : List ByteArray) (wr : World) : Prop where
  inv : Inv w p B k v xs wr
  box : Row wr rb 49 #[.string h, bv]
  hsz : h.size ≤ 10
  sts : Sts wr (rb + 1) bv ss
  bare : ss = [] → bv = .slice none 0 0
  small : ∀ s ∈ ss, s.size ≤ 10
  len : ss.length ≤ 3
  rbb : w.heap.size + 3 ≤ rb
  old : ∀ x ∈ xs, x.1.body ≠ [] → x.2.2 < rb
  vold : ∀ g, v.ownBlock = some g → g < rb
section
variable {w wr wr' : World} {p B k rb : Nat} {v bv : Value} {xs : List (RuleD × Value × Nat)} {h : ByteArray} {ss : List ByteArray}
theorem Inv.only (I : Inv w p B k v xs wr) (o : Only p wr wr') (s : Src wr' p B) (hp : p < w.heap.size) : Inv w p B k v xs wr' := ⟨I.fr.only o s hp, Full.only I.full o (by omega), I.len, I.short, I.bare⟩
theorem Inv.alloc (I : Inv w p B k v xs wr) (o : Obj) (hp : p < w.heap.size) : Inv w p B k v xs (wr.alloc o) := ⟨I.fr.alloc o hp rfl, I.full.below (al1 wr o), I.len, I.short, I.bare⟩
theorem Pk.start (I : Inv w p B k v xs wr) (h : ByteArray) (hh : h.size ≤ 10) (hp : p < w.heap.size) : Pk w p B k v xs wr.heap.size h (.slice none 0 0) [] (wr.alloc (.cells #[.string h, .slice none 0 0] 49)) :=
  ⟨I.alloc _ hp, Row.made wr _ _, hh, World.ownsRow_nil _ _ _ _, fun _ => rfl, by simp, by simp, I.fr.heads.lt, fun x hx hn => ((I.full.2.1 x hx).2.2 hn).2, fun g hg => (I.full.1.lt g hg).2⟩
theorem Pk.head (P : Pk w p B k v xs rb h bv ss wr) (h' : ByteArray) (hh : h'.size ≤ 10) (hp : p < w.heap.size) : Pk w p B k v xs rb h' bv ss (wr.setCell ⟨rb, 0, none⟩ (.string h')) := by
  have hr := P.rbb
  refine ⟨⟨P.inv.fr.set (q := ⟨rb, 0, none⟩) hr _ hp rfl, P.inv.full.move (by simp [World.setCell]) (fun g hg => Below.heap_setCell _ _ _ _ (by have := P.vold g hg; show g ≠ rb; omega)) (fun x hx hn => Below.heap_setCell _ _ _ _ (by have := P.old x hx hn; show x.2.2 ≠ rb; omega)), P.inv.len, P.inv.short, P.inv.bare⟩, by simpa using P.box.put 0 (.string h'), hh, P.sts.same fun g hg => Below.heap_setCell _ _ _ _ (by have := (World.ownsRow.lt P.sts g hg).1; show g ≠ rb; omega), P.bare, P.small, P.len, P.rbb, P.old, P.vold⟩
theorem Pk.only (P : Pk w p B k v xs rb h bv ss wr) (o : Only p wr wr') (s : Src wr' p B) (hp : p < w.heap.size) : Pk w p B k v xs rb h bv ss wr' := by
  have hr := P.rbb
  exact ⟨P.inv.only o s hp, P.box.same (o.block _ (by omega)), P.hsz, Sts.only P.sts o (by omega), P.bare, P.small, P.len, P.rbb, P.old, P.vold⟩
theorem Pk.alloc (P : Pk w p B k v xs rb h bv ss wr) (o : Obj) (hp : p < w.heap.size) : Pk w p B k v xs rb h bv ss (wr.alloc o) :=
  ⟨P.inv.alloc o hp, P.box.alloc o, P.hsz, World.ownsRow.alloc P.sts o, P.bare, P.small, P.len, P.rbb, P.old, P.vold⟩
theorem Inv.heap (P : Inv w p B k v xs wr) (e : wr'.heap = wr.heap) (e1 : wr'.os = wr.os) (e2 : wr'.tape = wr.tape) (e3 : wr'.output = wr.output) : Inv w p B k v xs wr' :=
  ⟨⟨P.fr.src.heap e, ⟨e1.trans P.fr.grw.os, e2.trans P.fr.grw.tape, e3.trans P.fr.grw.output, by rw [e]; exact P.fr.grw.size, by rw [e]; exact P.fr.grw.block⟩, P.fr.box.heap e, P.fr.gram.heap e, P.fr.heads.heap e⟩, P.full.heap e, P.len, P.short, P.bare⟩
theorem Pk.heap (P : Pk w p B k v xs rb h bv ss wr) (e : wr'.heap = wr.heap) (e1 : wr'.os = wr.os) (e2 : wr'.tape = wr.tape) (e3 : wr'.output = wr.output) : Pk w p B k v xs rb h bv ss wr' :=
  ⟨⟨⟨P.inv.fr.src.heap e, ⟨e1.trans P.inv.fr.grw.os, e2.trans P.inv.fr.grw.tape, e3.trans P.inv.fr.grw.output, by rw [e]; exact P.inv.fr.grw.size, by rw [e]; exact P.inv.fr.grw.block⟩, P.inv.fr.box.heap e, P.inv.fr.gram.heap e, P.inv.fr.heads.heap e⟩, P.inv.full.heap e, P.inv.len, P.inv.short, P.inv.bare⟩, P.box.heap e, P.hsz, P.sts.heap e, P.bare, P.small, P.len, P.rbb, P.old, P.vold⟩
theorem Pk.grown {w6 : World} (P : Pk w p B k v xs rb h bv ss wr) (hg : wr.grownBy w6 bv.ownBlock) : Row w6 rb 49 #[.string h, bv] :=
  P.box.same (hg.block _ P.box.lt (fun e => by have := (World.ownsRow.lt P.sts _ e.symm).1; omega))
theorem Pk.more {w6 : World} {gg cap : Nat} {t : ByteArray} (P : Pk w p B k v xs rb h bv ss wr) (hg : wr.grownBy w6 bv.ownBlock)
    (ho : w6.ownsRow (rb + 1) 9 1 (.slice (some ⟨gg, 0, none⟩) (ss.length + 1) cap) (ss.length + 1) (ss.map Value.string ++ [.string t])) (ht : t.size ≤ 10) (hl : ss.length < 3) (hp : p < w.heap.size) :
    Pk w p B k v xs rb h (.slice (some ⟨gg, 0, none⟩) (ss.length + 1) cap) (ss ++ [t]) (w6.setCell ⟨rb, 1, none⟩ (.slice (some ⟨gg, 0, none⟩) (ss.length + 1) cap)) := by
  have hr := P.rbb
  have hrl := P.box.lt
  have far : ∀ q, q < rb → (w6.setCell ⟨rb, 1, none⟩ (.slice (some ⟨gg, 0, none⟩) (ss.length + 1) cap)).heap[q]? = wr.heap[q]? := fun q hq =>
    (Below.heap_setCell _ _ _ _ (by show q ≠ rb; omega)).trans (hg.block q (by omega) (fun e => by have := (World.ownsRow.lt P.sts _ e.symm).1; omega))
  have st : Sts w6 (rb + 1) (.slice (some ⟨gg, 0, none⟩) (ss.length + 1) cap) (ss ++ [t]) := Sts.one t ho
  refine ⟨⟨(P.inv.fr.own hg (fun q e => by have := (World.ownsRow.lt P.sts _ e).1; omega) hp rfl).set (q := ⟨rb, 1, none⟩) hr _ hp rfl, P.inv.full.move (by simp [World.setCell]; exact hg.size) (fun g hg => far g (P.vold g hg)) (fun x hx hn => far _ (P.old x hx hn)), P.inv.len, P.inv.short, P.inv.bare⟩, by simpa using (P.grown hg).put 1 (.slice (some ⟨gg, 0, none⟩) (ss.length + 1) cap), P.hsz, st.same fun g hg => Below.heap_setCell _ _ _ _ (by have := (World.ownsRow.lt st g hg).1; show g ≠ rb; omega), fun e => by simp at e, fun s hs => ?_, by simp; omega, P.rbb, P.old, P.vold⟩
  rw [List.mem_append, List.mem_singleton] at hs
  rcases hs with hs | rfl
  · exact P.small s hs
  · exact ht
/-- a rule is put behind the others -/
theorem Inv.push {w8 : World} {gv cv gu : Nat} (I : Inv w p B k v xs wr) (hg : wr.grownBy w8 v.ownBlock)
    (ho : w8.ownsRow (w.heap.size + 3) 49 2 (.slice (some ⟨gv, 0, none⟩) (xs.length + 1) cv) (xs.length + 1) (flatX xs ++ [.string h, bv])) (hh : h.size ≤ 10) (ou : OwnS wr gu bv ss)
    (hgu : ss ≠ [] → w.heap.size + 3 ≤ gu ∧ gu < wr.heap.size) (hd : ss ≠ [] → ∀ x ∈ xs, x.1.body ≠ [] → x.2.2 ≠ gu) (hst : ss ≠ [] → Sts wr (w.heap.size + 3) bv ss) (hl : ss.length ≤ 3) (hbare : ss = [] → bv = .slice none 0 0) (hp : p < w.heap.size) :
    ∃ xs', Inv w p B (k + 1) (.slice (some ⟨gv, 0, none⟩) (xs.length + 1) cv) xs' (w8.setCell ⟨w.heap.size + 1, 0, none⟩ (.slice (some ⟨gv, 0, none⟩) (xs.length + 1) cv)) := by
  have F8 := I.full.snoc (r := ⟨h, ss⟩) (u := bv) (g := gu) ho hg ou (by show h.size ≤ maxLen; unfold maxLen; omega) hgu hd hst
  have fr8 := I.fr.own hg (fun q e => (I.full.1.lt q e).1) hp rfl
  refine ⟨_, fr8.put _ hp rfl, F8.put (p := ⟨w.heap.size + 1, 0, none⟩) (by show w.heap.size + 1 < _; omega) _, by rw [List.length_append, I.len]; rfl, fun x hx => ?_, fun x hx he => ?_⟩
  · rw [List.mem_append, List.mem_singleton] at hx
    rcases hx with hx | rfl
    · exact I.short x hx
    · exact hl
  · rw [List.mem_append, List.mem_singleton] at hx
    rcases hx with hx | rfl
    · exact I.bare x hx he
    · exact hbare he
theorem Pk.push {w8 : World} {gv cv : Nat} (P : Pk w p B k v xs rb h bv ss wr) (hg : (wr.alloc (.cells #[.string h, bv] 49)).grownBy w8 v.ownBlock)
    (ho : w8.ownsRow (w.heap.size + 3) 49 2 (.slice (some ⟨gv, 0, none⟩) (xs.length + 1) cv) (xs.length + 1) (flatX xs ++ [.string h, bv])) (hp : p < w.heap.size) :
    ∃ xs', Inv w p B (k + 1) (.slice (some ⟨gv, 0, none⟩) (xs.length + 1) cv) xs' (w8.setCell ⟨w.heap.size + 1, 0, none⟩ (.slice (some ⟨gv, 0, none⟩) (xs.length + 1) cv)) := by
  have hr := P.rbb
  have A := P.alloc (.cells #[.string h, bv] 49) hp
  obtain ⟨gu, ou, hgu⟩ := Sts.own A.sts (fun s hs => by have := P.small s hs; unfold maxLen; omega)
  exact A.inv.push hg ho P.hsz ou (fun hn => by have := hgu hn; omega) (fun hn x hx hxn => by have := hgu hn; have := P.old x hx hxn; omega) (fun hn => Sts.lower A.sts (by omega)) P.len P.bare hp
/-- a rule of one symbol, made on the spot -/
theorem Inv.one {w8 : World} {gv cv : Nat} {t : ByteArray} {o : Obj} (I : Inv w p B k v xs wr) (hg : ((wr.alloc (.cells #[.string t] 9)).alloc o).grownBy w8 v.ownBlock)
    (ho : w8.ownsRow (w.heap.size + 3) 49 2 (.slice (some ⟨gv, 0, none⟩) (xs.length + 1) cv) (xs.length + 1) (flatX xs ++ [.string h, .slice (some ⟨wr.heap.size, 0, none⟩) 1 1])) (hh : h.size ≤ 10) (ht : t.size ≤ 10) (hp : p < w.heap.size) :
    ∃ xs', Inv w p B (k + 1) (.slice (some ⟨gv, 0, none⟩) (xs.length + 1) cv) xs' (w8.setCell ⟨w.heap.size + 1, 0, none⟩ (.slice (some ⟨gv, 0, none⟩) (xs.length + 1) cv)) := by
  have hl := I.fr.heads.lt
  have st : Sts ((wr.alloc (.cells #[.string t] 9)).alloc o) (w.heap.size + 3) (.slice (some ⟨wr.heap.size, 0, none⟩) 1 1) [t] := World.ownsRow.alloc (World.ownsRow_lit wr #[.string t] 1 (by omega) (by unfold maxLen; omega) rfl) o
  obtain ⟨gu, ou, hgu⟩ := Sts.own st (fun s hs => by rw [List.mem_singleton] at hs; subst hs; unfold maxLen; omega)
  have hb := ou.block (by simp)
  have e : wr.heap.size = gu := by simpa [Value.ownBlock] using hb
  exact ((I.alloc _ hp).alloc o hp).push hg ho hh ou hgu (fun hn x hx hxn => by have := ((I.full.2.1 x hx).2.2 hxn).2; omega) (fun _ => st) (by simp) (fun e => by simp at e) hp
/-- the grammar is handed back -/
theorem Inv.fin (I : Inv w p B k v xs wr) (h1 : 1 ≤ k) (h2 : k ≤ 20) (hp : p < w.heap.size) : DrawG w p B (.returned (.agg #[v])) (wr.setCell ⟨w.heap.size, 0, none⟩ v) := by
  have hl := I.len
  have hB := I.fr.src.1
  have hs := I.fr.grw.size
  refine ⟨v, xs, rfl, (I.full.put (p := ⟨w.heap.size, 0, none⟩) (by show w.heap.size < _; omega) _).lower (by omega), by omega, by omega, fun x hx => by have := I.short x hx; omega, fun x hx he => I.bare x (List.mem_of_head? hx) he, I.fr.src.only fun q hq => Below.heap_setCell _ _ _ _ ?_, grw_set I.fr.grw (Nat.le_refl _) _⟩
  show q ≠ w.heap.size
  omega
end
end Go.Proofs.Ytonfiahihmcmlaa.Dr

/- What stands while a drawn grammar is changed: its box, its rules; a rule put behind it; a symbol put behind the first rule's body. -/
namespace Go.Proofs.Ytonfiahihmcmlaa.Dr
open Go.RowKit
open Go.Proofs.Ytonfiahihmcmlaa

/-- a grammar that a draw has made, as it is read -/
def DrawR (w : World) (p B : Nat) (e : Ending) (w' : World) : Prop := ∃ v rs, e = .returned (.agg #[v]) ∧ Rules w' w.heap.size w'.heap.size v rs ∧ Src w' p B ∧ w.grownBy w' (some p)
structure Gm (w : World) (p B G : Nat) (v : Value) (xs : List (RuleD × Value × Nat)) (wr : World) : Prop where
  src : Src wr p B
  grw : w.grownBy wr (some p)
  box : Row wr w.heap.size 25 #[.slice none 0 0]
  gram : Row wr G 25 #[v]
  gb : w.heap.size < G
  full : Full wr (w.heap.size + 1) v xs
section
variable {w wr wr' : World} {p B G : Nat} {v : Value} {xs : List (RuleD × Value × Nat)} {h : ByteArray}
theorem Gm.only (I : Gm w p B G v xs wr) (o : Only p wr wr') (s : Src wr' p B) (hp : p < w.heap.size) : Gm w p B G v xs wr' := by
  have := I.gb
  exact ⟨s, grw_trans I.grw o.grown, I.box.same (o.block _ (by omega)), I.gram.same (o.block _ (by omega)), I.gb, Full.only I.full o (by omega)⟩
theorem Gm.alloc (I : Gm w p B G v xs wr) (o : Obj) (hp : p < w.heap.size) : Gm w p B G v xs (wr.alloc o) :=
  ⟨I.src.own (World.grownBy_alloc wr o none) hp (fun _ e => by cases e), grw_alloc I.grw o, I.box.alloc o, I.gram.alloc o, I.gb, I.full.below (al1 wr o)⟩
theorem Gm.heap (P : Gm w p B G v xs wr) (e : wr'.heap = wr.heap) (e1 : wr'.os = wr.os) (e2 : wr'.tape = wr.tape) (e3 : wr'.output = wr.output) : Gm w p B G v xs wr' :=
  ⟨P.src.heap e, ⟨e1.trans P.grw.os, e2.trans P.grw.tape, e3.trans P.grw.output, by rw [e]; exact P.grw.size, by rw [e]; exact P.grw.block⟩, P.box.heap e, P.gram.heap e, P.gb, P.full.heap e⟩
theorem Gm.grown {w8 : World} (I : Gm w p B G v xs wr) (hg : wr.grownBy w8 v.ownBlock) : Row w8 G 25 #[v] := Tx.row_grown I.gram I.full.1 (by decide) hg
theorem Gm.push {w8 : World} {gv cv : Nat} (I : Gm w p B G v xs wr) (hg : wr.grownBy w8 v.ownBlock)
    (ho : w8.ownsRow (w.heap.size + 1) 49 2 (.slice (some ⟨gv, 0, none⟩) (xs.length + 1) cv) (xs.length + 1) (flatX xs ++ [.string h, .slice none 0 0])) (hh : h.size ≤ 10) (hp : p < w.heap.size) :
    Gm w p B G (.slice (some ⟨gv, 0, none⟩) (xs.length + 1) cv) (xs ++ [(⟨h, []⟩, .slice none 0 0, 0)]) (w8.setCell ⟨G, 0, none⟩ (.slice (some ⟨gv, 0, none⟩) (xs.length + 1) cv)) := by
  have hgb := I.gb
  have hB := I.src.1
  have F8 := I.full.snoc (r := ⟨h, []⟩) (u := .slice none 0 0) (g := 0) ho hg ⟨none, 0, rfl, Nat.le_refl _, by unfold maxLen; omega, by simp, fun hp => by simp at hp⟩ (by show h.size ≤ maxLen; unfold maxLen; omega) (fun hn => absurd rfl hn) (fun hn => absurd rfl hn) (fun hn => absurd rfl hn)
  have s8 : Src w8 p B := I.src.own hg hp (fun k hk => by have := (I.full.1.lt k hk).1; omega)
  have g8 := grw_own I.grw hg (fun k hk => by have := (I.full.1.lt k hk).1; omega)
  have b8 := Tx.row_grown I.box I.full.1 (by decide) hg
  have r8 := I.grown hg
  exact ⟨s8.only fun k hk => Below.heap_setCell _ _ _ _ (by show k ≠ G; omega), grw_set g8 (by show w.heap.size ≤ G; omega) _, b8.away (p := ⟨G, 0, none⟩) (by show w.heap.size ≠ G; omega) _, by simpa using r8.put 0 _, hgb, F8.away (p := ⟨G, 0, none⟩) r8 (by decide) (by decide) _⟩
theorem Gm.fin (I : Gm w p B G v xs wr) (hp : p < w.heap.size) : DrawR w p B (.returned (.agg #[v])) (wr.setCell ⟨w.heap.size, 0, none⟩ v) := by
  have hB := I.src.1
  have F := I.full.put (p := ⟨w.heap.size, 0, none⟩) (by show w.heap.size < _; omega) v
  exact ⟨v, _, rfl, F.done.rules.more (by omega) (Nat.le_refl _), I.src.only fun k hk => Below.heap_setCell _ _ _ _ (by show k ≠ w.heap.size; omega), grw_set I.grw (Nat.le_refl _) _⟩
/-- the first rule's body, as it stands -/
theorem Gm.first {gv cv : Nat} {x : RuleD × Value × Nat} {ys : List (RuleD × Value × Nat)} (I : Gm w p B G (.slice (some ⟨gv, 0, none⟩) (ys.length + 1) cv) (x :: ys) wr) (hb : x.1.body = [] → x.2.1 = .slice none 0 0) :
    wr.cell? ⟨gv, 1, none⟩ = some x.2.1 ∧ wr.frozen? ⟨gv, 1, none⟩ = false ∧ Sts wr (w.heap.size + 1) x.2.1 x.1.body ∧ gv < wr.heap.size := by
  refine ⟨?_, ?_, ?_, ?_⟩
  · exact (World.ownsRow.cellAt I.full.1 1 (by omega)).trans rfl
  · exact World.ownsRow.frozenAt I.full.1 1
  · by_cases hn : x.1.body = []
    · rw [hb hn, hn]; exact World.ownsRow_nil _ _ _ _
    · exact I.full.2.2.2 x (by simp) hn
  · exact (I.full.1.lt gv rfl).2
/-- the state behind a change of the first rule's body -/
structure Gr (w : World) (p B G : Nat) (v : Value) (rs : List RuleD) (wr : World) : Prop where
  src : Src wr p B
  grw : w.grownBy wr (some p)
  box : Row wr w.heap.size 25 #[.slice none 0 0]
  gram : Row wr G 25 #[v]
  rules : Rules wr (w.heap.size + 1) wr.heap.size v rs
theorem Gr.fin {rs : List RuleD} (I : Gr w p B G v rs wr) (hp : p < w.heap.size) : DrawR w p B (.returned (.agg #[v])) (wr.setCell ⟨w.heap.size, 0, none⟩ v) := by
  have hB := I.src.1
  have k : Keeps (w.heap.size + 1) wr.heap.size wr (wr.setCell ⟨w.heap.size, 0, none⟩ v) := fun q h1 _ => Below.heap_setCell _ _ _ _ (by show q ≠ w.heap.size; omega)
  exact ⟨v, rs, rfl, (I.rules.keep k).more (by omega) (by simp [World.setCell]), I.src.only fun k hk => Below.heap_setCell _ _ _ _ (by show k ≠ w.heap.size; omega), grw_set I.grw (Nat.le_refl _) _⟩
theorem Gm.symbol {w8 : World} {gv cv gg cap : Nat} {t : ByteArray} {x : RuleD × Value × Nat} {ys : List (RuleD × Value × Nat)} (I : Gm w p B G (.slice (some ⟨gv, 0, none⟩) (ys.length + 1) cv) (x :: ys) wr) (hb : x.1.body = [] → x.2.1 = .slice none 0 0)
    (hg : wr.grownBy w8 x.2.1.ownBlock) (ho : w8.ownsRow (w.heap.size + 1) 9 1 (.slice (some ⟨gg, 0, none⟩) (x.1.body.length + 1) cap) (x.1.body.length + 1) (x.1.body.map Value.string ++ [.string t])) (hz : ∀ s ∈ x.1.body, s.size ≤ maxLen) (ht : t.size ≤ 10) (hp : p < w.heap.size) :
    Gr w p B G (.slice (some ⟨gv, 0, none⟩) (ys.length + 1) cv) (⟨x.1.head, x.1.body ++ [t]⟩ :: ys.map (·.1)) (w8.setCell ⟨gv, 1, none⟩ (.slice (some ⟨gg, 0, none⟩) (x.1.body.length + 1) cap)) ∧ w8.cell? ⟨gv, 1, none⟩ = some x.2.1 ∧ w8.frozen? ⟨gv, 1, none⟩ = false ∧ w8.cell? ⟨G, 0, none⟩ = some (.slice (some ⟨gv, 0, none⟩) (ys.length + 1) cv) := by
  have hgb := I.gb
  have hB := I.src.1
  obtain ⟨c1, f1, st, hgv⟩ := I.first hb
  obtain ⟨hn, ⟨h', _⟩ | ⟨g', cap', cur, h', hbase, hblk, hc1, hc2, hc3, htake⟩⟩ := I.full.1
  · simp at h'
  simp only [List.length_cons, Value.slice.injEq, Option.some.injEq, Addr.mk.injEq, and_true, true_and] at h'
  obtain ⟨rfl, rfl⟩ := h'
  have rV : Row wr gv 49 cur := hblk
  have rV8 : Row w8 gv 49 cur := Tx.row_grown rV st (by decide) hg
  have rG8 := Tx.row_grown I.gram st (by decide) hg
  have rB8 := Tx.row_grown I.box st (by decide) hg
  have s8 : Src w8 p B := I.src.own hg hp (fun k hk => by have := (World.ownsRow.lt st k hk).1; omega)
  have g8 := grw_own I.grw hg (fun k hk => by have := (World.ownsRow.lt st k hk).1; omega)
  have hGv : gv ≠ G := rV.apart I.gram (by decide)
  have st8 : Sts w8 (w.heap.size + 1) (.slice (some ⟨gg, 0, none⟩) (x.1.body.length + 1) cap) (x.1.body ++ [t]) := Sts.one t ho
  obtain ⟨gu, ou, hgu⟩ := Sts.own st8 (fun s hs => by
    rw [List.mem_append, List.mem_singleton] at hs
    rcases hs with hs | rfl
    · exact hz s hs
    · unfold maxLen; omega)
  have hcell : ∀ j, j < (ys.length + 1) * 2 → cur[j]? = (flatX (x :: ys))[j]? := fun j hj => by
    have hj' : j < (x :: ys).length * 2 := hj
    rw [← htake, List.getElem?_take_of_lt hj', Array.getElem?_toList]
  have far : ∀ (y : RuleD × Value × Nat), OwnS wr y.2.2 y.2.1 y.1.body → y.1.body ≠ [] → (x.1.body ≠ [] → x.2.2 ≠ y.2.2) → (w8.setCell ⟨gv, 1, none⟩ (.slice (some ⟨gg, 0, none⟩) (x.1.body.length + 1) cap)).heap[y.2.2]? = wr.heap[y.2.2]? := fun y hy hne hd => by
    obtain ⟨A, c, _, _, _, _, p5⟩ := hy
    obtain ⟨off, cu, _, q1, _⟩ := p5 (List.length_pos_iff.2 hne)
    rw [Below.heap_setCell _ _ _ _ (fun e => q1.apart rV (by decide) e)]
    refine hg.block _ q1.lt fun e => ?_
    by_cases hx : x.1.body = []
    · rw [hb hx] at e; simp [Value.ownBlock] at e
    · rw [(I.full.2.1 x (by simp)).1.block hx] at e
      injection e with e
      exact hd hx e.symm
  refine ⟨⟨s8.only fun k hk => Below.heap_setCell _ _ _ _ (by show k ≠ gv; omega), grw_set g8 (by show w.heap.size ≤ gv; omega) _, rB8.away (p := ⟨gv, 1, none⟩) (by show w.heap.size ≠ gv; omega) _, rG8.away (p := ⟨gv, 1, none⟩) (fun e => hGv e.symm) _, ?_⟩, ?_, ?_, ?_⟩
  · have rV9 := rV8.put 1 (.slice (some ⟨gg, 0, none⟩) (x.1.body.length + 1) cap)
    refine ⟨_, cv, by simp, by simpa using hc1, hc2, fun _ => ⟨gv, 0, rfl, hbase, by simp [World.setCell]; exact rV8.lt, fun i hi => ?_⟩⟩
    have hcs : (ys.length + 1) * 2 ≤ cur.size := by
      have := hc1; simp only [List.length_cons] at this; rw [hc3]; omega
    cases i with
    | zero =>
      refine ⟨(I.full.2.1 x (by simp)).2.1, ?_, .slice (some ⟨gg, 0, none⟩) (x.1.body.length + 1) cap, ?_, ?_⟩
      · rw [rV9.cell]
        simp only [Nat.zero_mul, Nat.add_zero, List.getElem_cons_zero]
        rw [Array.getElem?_setIfInBounds_ne (by omega), hcell 0 (by omega)]; rfl
      · rw [rV9.cell]
        simp only [Nat.zero_mul, Nat.add_zero, Nat.zero_add]
        rw [Array.getElem?_setIfInBounds_self_of_lt (by omega)]
      · have o9 : OwnS (w8.setCell ⟨gv, 1, none⟩ (.slice (some ⟨gg, 0, none⟩) (x.1.body.length + 1) cap)) gu (.slice (some ⟨gg, 0, none⟩) (x.1.body.length + 1) cap) (x.1.body ++ [t]) := ou.keep fun hne => by
          obtain ⟨A, c, _, _, _, _, p5⟩ := ou
          obtain ⟨off, cu, _, q1, _⟩ := p5 (List.length_pos_iff.2 hne)
          exact Below.heap_setCell _ _ _ _ (fun e => q1.apart rV8 (by decide) e)
        exact o9.strs fun hne => by have := hgu hne; simp [World.setCell]; omega
    | succ i =>
      have hi' : i < ys.length := by simpa using hi
      obtain ⟨b1, b2, b3⟩ := I.full.2.1 ys[i] (by simp)
      have hpw := (List.pairwise_cons.1 I.full.2.2.1).1 ys[i] (List.getElem_mem hi')
      obtain ⟨f1, f2⟩ := flatX_at (x :: ys) (i + 1) (by simp; omega)
      simp only [List.getElem_cons_succ] at f1 f2
      simp only [List.getElem_cons_succ, List.getElem_map, Nat.zero_add]
      refine ⟨b2, ?_, ys[i].2.1, ?_, ?_⟩
      · rw [rV9.cell, Array.getElem?_setIfInBounds_ne (by omega), hcell _ (by omega)]; exact f1
      · rw [rV9.cell, Array.getElem?_setIfInBounds_ne (by omega), hcell _ (by omega)]; exact f2
      · have o9 : OwnS (w8.setCell ⟨gv, 1, none⟩ (.slice (some ⟨gg, 0, none⟩) (x.1.body.length + 1) cap)) ys[i].2.2 ys[i].2.1 ys[i].1.body := b1.keep fun hne => far ys[i] b1 hne (fun hx => hpw hx hne)
        exact o9.strs fun hne => by have := b3 hne; have := hg.size; simp [World.setCell]; omega
  · rw [rV8.cell, ← rV.cell]; exact c1
  · exact rV8.free 1
  · exact (rG8.cell 0).trans rfl
end
end Go.Proofs.Ytonfiahihmcmlaa.Dr
