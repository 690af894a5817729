import Derived.Test.YtokdhgocgicdnaaGreatDoorJEar
import Derived.Test.YtokdhgocgicdnaaGreatDoorJTre
import Derived.Maps.OwnSet
import Derived.Maps.RangeWalk
import Derived.WideKeyEntry
import Derived.DeepKeys4
import Derived.WalkKit
/- Maps of the call's own, told by what stands at each key; keys that are structs: looks, pieces, goals. -/
namespace Go.Proofs.YtokdhgocgicdnaaGreatDoor
open Go.RowKit Go.Maps Go.ChangeMaps

theorem same_entry {l : List MapEntry} (h : l.Pairwise (fun x y => x.key ≠ y.key)) {a b : MapEntry} (ha : a ∈ l) (hb : b ∈ l) (e : a.key = b.key) : a = b := by
  induction l with
  | nil => cases ha
  | cons x l ih =>
    rw [List.pairwise_cons] at h
    rcases List.mem_cons.1 ha with h1 | h1 <;> rcases List.mem_cons.1 hb with h2 | h2
    · rw [h1, h2]
    · exact absurd (h1 ▸ e) (h.1 b h2)
    · exact absurd (h2 ▸ e.symm) (h.1 a h1)
    · exact ih h.2 h1 h2
theorem ok_inj {α : Type} {a b : α} {w w' : World} (h : Result.ok a w = Result.ok b w') : a = b ∧ w = w' := by cases h; exact ⟨rfl, rfl⟩

abbrev Rd := Value → Option (DataW Unit × List MemPlace)
/-- block b is a map of at most n entries; at each key there stands what f tells -/
def MapAt (w : World) (kt : TypeId) (R : Rd) (b n : Nat) (f : Lit → Option (DataW Unit)) : Prop :=
  ∃ D, w.ownsMap Tryz.prog kt R b n D ∧ ∀ l, WideAt.IsKeyLit l → ∀ z, D.atKey l z = (f l).getD z
section
variable {w w' : World} {kt et t : TypeId} {R : Rd} {b n : Nat} {f : Lit → Option (DataW Unit)}
theorem MapAt.lt (h : MapAt w kt R b n f) : b < w.heap.size := by obtain ⟨D, h, _⟩ := h; exact World.ownsMap.lt h
theorem MapAt.keep (h : MapAt w kt R b n f) (e : w'.heap[b]? = w.heap[b]?) : MapAt w' kt R b n f := by
  obtain ⟨D, ⟨es, clock, h1, h2⟩, h3⟩ := h
  exact ⟨D, ⟨es, clock, e.trans h1, h2⟩, h3⟩
theorem MapAt.like {f' : Lit → Option (DataW Unit)} (h : MapAt w kt R b n f) (e : ∀ l, f' l = f l) : MapAt w kt R b n f' := by
  obtain ⟨D, h1, h2⟩ := h
  exact ⟨D, h1, fun l hl z => by rw [e]; exact h2 l hl z⟩
theorem MapAt.made (w : World) (kt : TypeId) (R : Rd) : MapAt (w.alloc (.map #[] 0)) kt R w.heap.size 0 (fun _ => none) := ⟨_, World.ownsMap_made w _ _ _, fun _ _ _ => rfl⟩
theorem MapAt.look (h : MapAt w kt R b n f) (K : Keyed Tryz.prog kt) (ht : Tryz.prog.underlying t = some (.map kt et)) {z : Value} (hz : (zeroValue et).run Tryz.prog w = .ok z w) {zd : DataW Unit} {zp : List MemPlace} (hzd : R z = some (zd, zp)) {key : Value} {kl : Lit} (hkey : keyOf Tryz.prog kt key = some kl) :
    ∃ v ps, (Instr.lookup t (.map (some b)) key false).run Tryz.prog w = .ok v w ∧ R v = some ((f kl).getD zd, ps) := by
  obtain ⟨D, h1, h2⟩ := h
  obtain ⟨v, ps, h3, h4⟩ := h1.lookup K ht hz hzd hkey
  exact ⟨v, ps, h3, by rw [← h2 kl (K.key hkey)]; exact h4⟩
open Classical in
noncomputable def putF (f : Lit → Option (DataW Unit)) (k : Lit) (d : DataW Unit) : Lit → Option (DataW Unit) := fun l => if l = k then some d else f l
theorem putF_same (f : Lit → Option (DataW Unit)) (k : Lit) (d : DataW Unit) : putF f k d k = some d := by unfold putF; simp
theorem putF_other (f : Lit → Option (DataW Unit)) {k l : Lit} (d : DataW Unit) (h : l ≠ k) : putF f k d l = f l := by unfold putF; simp [h]
theorem MapAt.put_data {D : DataW Unit} (hm : IsMap D) (h2 : ∀ l, WideAt.IsKeyLit l → ∀ z, D.atKey l z = (f l).getD z) {kl : Lit} (hk : WideAt.IsKeyLit kl) (d : DataW Unit) : ∀ l, WideAt.IsKeyLit l → ∀ z, (D.put kl d).atKey l z = (putF f kl d l).getD z := by
  intro l hl z
  by_cases e : l = kl
  · subst e
    rw [atKey_put_same hm hk, putF_same]; rfl
  · rw [atKey_put_other e, putF_other f d e]; exact h2 l hl z
theorem MapAt.put (h : MapAt w kt R b n f) (K : Keyed Tryz.prog kt) (ht : Tryz.prog.underlying t = some (.map kt et)) (hn : n < maxLen) {key val : Value} {kl : Lit} (hkey : keyOf Tryz.prog kt key = some kl) {d : DataW Unit} {ps : List MemPlace} (hv : R val = some (d, ps)) :
    ∃ w', (Instr.mapUpdate t (.map (some b)) key val).run Tryz.prog w = .ok () w' ∧ MapAt w' kt R b (n + 1) (putF f kl d) ∧ w.grownBy w' (some b) ∧ w'.heap.size = w.heap.size := by
  obtain ⟨D, h1, h2⟩ := h
  obtain ⟨w1, h3, h4, h5⟩ := h1.store K ht hn hkey hv
  refine ⟨w1, h3, ⟨_, h4, MapAt.put_data h1.isMap h2 (K.key hkey) d⟩, h5.grown, ?_⟩
  obtain ⟨es, clock, es', clock', hb, rfl⟩ := h5
  simp [setBlock]
/-- m[k] = f(m[k]), in two steps -/
theorem MapAt.entry (h : MapAt w kt R b n f) (L : WideMaps.KeyLaw Tryz.prog kt) (ht : Tryz.prog.underlying t = some (.map kt et)) {z : Value} (hz : ∀ u : World, (zeroValue et).run Tryz.prog u = .ok z u) {zd : DataW Unit} {zp : List MemPlace} (hzd : R z = some (zd, zp)) (hn : n < maxLen) {key : Value} {kl : Lit} (hkey : keyOf Tryz.prog kt key = some kl) :
    ∃ v st w1 ps, (Instr.mapEntry t (.map (some b)) key).run Tryz.prog w = .ok (.tuple #[v, goInt st]) w1 ∧ R v = some ((f kl).getD zd, ps) ∧ w.grownBy w1 (some b) ∧ w1.heap.size = w.heap.size ∧
      ∀ (w2 : World) (val : Value) (d : DataW Unit) (ps' : List MemPlace), w2.heap[b]? = w1.heap[b]? → R val = some (d, ps') →
        ∃ w3, (Instr.entryStore t (.map (some b)) (goInt st) val).run Tryz.prog w2 = .ok () w3 ∧ MapAt w3 kt R b (n + 1) (putF f kl d) ∧ w2.grownBy w3 (some b) ∧ w3.heap.size = w2.heap.size := by
  have K := Keyed.of_law L
  obtain ⟨v', ps, hl1, hl2⟩ := h.look K ht (hz w) hzd hkey
  obtain ⟨D, h1, h2⟩ := h
  have h1' := h1
  obtain ⟨es, clock, hb, F, hs, hD⟩ := h1'
  obtain ⟨v0, st, es1, clock1, h3, h4, h5⟩ := WideElems.entry_then_store L ht hz hb F hkey
  have hv : R v0 = some ((f kl).getD zd, ps) := by
    rcases Maps.fit_look false K ht (hz w) hb F hkey with ⟨hrun, hno, hat⟩ | ⟨e0, y, hm, hk, hrun, hRv, hat, _⟩
    · have hrun : v' = z := (ok_inj (hl1.symm.trans hrun)).1
      rcases h4 with ⟨e0, hm, hk, rfl⟩ | ⟨_, rfl⟩
      · exact absurd hk (hno e0 hm)
      · rw [← hrun]; exact hl2
    · have hrun : v' = e0.val := (ok_inj (hl1.symm.trans hrun)).1
      rcases h4 with ⟨e1, hm1, hk1, rfl⟩ | ⟨hno, rfl⟩
      · have := same_entry ((MapKept.stamped_iff es clock).1 F.stamped).2.2 hm1 hm (hk1.trans hk.symm)
        rw [this, ← hrun]; exact hl2
      · exact absurd hk (hno e0 hm)
  have grow : ∀ (u : World) (es2 : Array MapEntry) (c2 : Nat), (∃ o, u.heap[b]? = some o) → u.grownBy (setBlock u b (.map es2 c2)) (some b) ∧ (setBlock u b (.map es2 c2)).heap.size = u.heap.size := by
    rintro u es2 c2 ⟨o, ho⟩
    refine ⟨⟨rfl, rfl, rfl, by simp [setBlock], fun i _ hi => ?_⟩, by simp [setBlock]⟩
    simp only [setBlock]
    rw [Array.getElem?_setIfInBounds_ne (fun e => hi (by rw [e]))]
  refine ⟨v0, st, _, ps, h3, hv, (grow w es1 clock1 ⟨_, hb⟩).1, (grow w es1 clock1 ⟨_, hb⟩).2, fun w2 val d ps' hw2 hRv => ?_⟩
  have hw1 : (setBlock w b (.map es1 clock1)).heap[b]? = some (.map es1 clock1) := heap_setBlock_same hb _
  obtain ⟨es', clock', h6, h7⟩ := h5 w2 val (hw2.trans hw1)
  obtain ⟨w4, h8, h9, h10⟩ := h1.store K ht hn hkey hRv
  obtain rfl := (ok_inj (h7.symm.trans h8)).2
  have hs2 : (setBlock w2 b (.map es' clock')).heap[b]? = some (.map es' clock') := heap_setBlock_same (hw2.trans hw1) _
  have hs1 : (setBlock w b (.map es' clock')).heap[b]? = some (.map es' clock') := heap_setBlock_same hb _
  have g2 := grow w2 es' clock' ⟨_, hw2.trans hw1⟩
  refine ⟨_, h6, ⟨_, ?_, MapAt.put_data h1.isMap h2 (K.key hkey) d⟩, g2.1, g2.2⟩
  obtain ⟨e5, c5, k1, k2⟩ := h9
  exact ⟨e5, c5, hs2.trans (hs1.symm.trans k1), k2⟩
end
end Go.Proofs.YtokdhgocgicdnaaGreatDoor

/- Looks, pieces and goals as values, and as keys of maps. -/
namespace Go.Proofs.YtokdhgocgicdnaaGreatDoor
open Go.RowKit Go.Maps

def lookV (l : Look) : Value := .agg #[.int .i64 (l.rule : Int), .int .i64 (l.done : Int), .int .i64 (l.fr : Int), .int .i64 (l.at' : Int)]
def pieceV (h : ByteArray) (i k : Nat) : Value := .agg #[.string h, .int .i64 (i : Int), .int .i64 (k : Int)]
def goalV (h : ByteArray) (i : Nat) : Value := .agg #[.string h, .int .i64 (i : Int)]
def lookK (l : Look) : Lit := .string (keyBytes [.int .i64 (l.rule : Int), .int .i64 (l.done : Int), .int .i64 (l.fr : Int), .int .i64 (l.at' : Int)])
def pieceK (h : ByteArray) (i k : Nat) : Lit := .string (keyBytes [.string h.data.toList, .int .i64 (i : Int), .int .i64 (k : Int)])
def goalK (h : ByteArray) (i : Nat) : Lit := .string (keyBytes [.string h.data.toList, .int .i64 (i : Int)])
/-- the look's numbers are small -/
def Look.ok (l : Look) : Prop := l.rule ≤ 1000 ∧ l.done ≤ 1000 ∧ l.fr ≤ 1000 ∧ l.at' ≤ 1000

theorem laidOut4 : laidOutB Tryz.prog = true := by kernel_rfl
theorem rowLook : (151 : TypeId) < Tryz.prog.types.size := of_decide_eq_true (by kernel_rfl)
theorem rowPiece : (82 : TypeId) < Tryz.prog.types.size := of_decide_eq_true (by kernel_rfl)
theorem rowGoal : (122 : TypeId) < Tryz.prog.types.size := of_decide_eq_true (by kernel_rfl)
theorem lawLook : WideMaps.KeyLaw Tryz.prog 151 := deep_law_laid laidOut4 (m := 2) (by omega) rowLook (by kernel_rfl) (by rw [Tryz.underlying151])
theorem lawPiece : WideMaps.KeyLaw Tryz.prog 82 := deep_law_laid laidOut4 (m := 2) (by omega) rowPiece (by kernel_rfl) (by rw [Tryz.underlying82])
theorem lawGoal : WideMaps.KeyLaw Tryz.prog 122 := deep_law_laid laidOut4 (m := 2) (by omega) rowGoal (by kernel_rfl) (by rw [Tryz.underlying122])
theorem kLook : Keyed Tryz.prog 151 := Keyed.of_law lawLook
theorem kPiece : Keyed Tryz.prog 82 := Keyed.of_law lawPiece
theorem kGoal : Keyed Tryz.prog 122 := Keyed.of_law lawGoal
theorem typeLook : Tryz.prog.keyType 151 = true := by kernel_rfl
theorem typePiece : Tryz.prog.keyType 82 = true := by kernel_rfl
theorem typeGoal : Tryz.prog.keyType 122 = true := by kernel_rfl
theorem cellsLook : Tryz.prog.cellsOf 151 = 4 := by kernel_rfl
theorem cellsPiece : Tryz.prog.cellsOf 82 = 3 := by kernel_rfl
theorem cellsGoal : Tryz.prog.cellsOf 122 = 2 := by kernel_rfl
theorem cellsInt4 : Tryz.prog.cellsOf 3 = 1 := by kernel_rfl
theorem cellsStr4 : Tryz.prog.cellsOf 9 = 1 := by kernel_rfl
theorem wf_nat {n : Nat} (h : n ≤ 1000) : (Lit.int .i64 (n : Int)).wf = true := WalkArith.wf_i64 (by omega)
section
variable {P : Program} {t ti ts : TypeId} {d : Nat}
theorem lits_int (h : P.underlying ti = some (.int .i64)) {n : Int} (hw : (Lit.int .i64 n).wf = true) : P.keyLits (d + 1) ti [.int .i64 n] = some [.int .i64 n] := by simp [Program.keyLits, h, hw]
theorem lits_str (h : P.underlying ts = some .string) {s : ByteArray} (hs : s.size ≤ maxLen) : P.keyLits (d + 1) ts [.string s] = some [.string s.data.toList] := by simp [Program.keyLits, h, hs]
theorem lits4 {f0 f1 f2 f3 : Field} (hu : P.underlying t = some (.struct #[f0, f1, f2, f3])) (hn : #[f0, f1, f2, f3].all (fun f : Field => f.name != "_") = true) (hc : P.cellsOf t = 4) (hci : P.cellsOf ti = 1) (t0 : f0.type = ti) (t1 : f1.type = ti) (t2 : f2.type = ti) (t3 : f3.type = ti) (o0 : f0.offset = 0) (o1 : f1.offset = 1) (o2 : f2.offset = 2) (o3 : f3.offset = 3)
    {a b c e : Value} {la lb lc le : List Lit} (ha : P.keyLits d ti [a] = some la) (hb : P.keyLits d ti [b] = some lb) (hcc : P.keyLits d ti [c] = some lc) (he : P.keyLits d ti [e] = some le) : P.keyLits (d + 1) t [a, b, c, e] = some (la ++ lb ++ lc ++ le) := by
  simp only [Program.keyLits, hu, hn, hc, List.length_cons, List.length_nil, and_true]
  simp [t0, t1, t2, t3, o0, o1, o2, o3, hci, ha, hb, hcc, he]
theorem lits3 {f0 f1 f2 : Field} (hu : P.underlying t = some (.struct #[f0, f1, f2])) (hn : #[f0, f1, f2].all (fun f : Field => f.name != "_") = true) (hc : P.cellsOf t = 3) (hcs : P.cellsOf ts = 1) (hci : P.cellsOf ti = 1) (t0 : f0.type = ts) (t1 : f1.type = ti) (t2 : f2.type = ti) (o0 : f0.offset = 0) (o1 : f1.offset = 1) (o2 : f2.offset = 2)
    {a b c : Value} {la lb lc : List Lit} (ha : P.keyLits d ts [a] = some la) (hb : P.keyLits d ti [b] = some lb) (hcc : P.keyLits d ti [c] = some lc) : P.keyLits (d + 1) t [a, b, c] = some (la ++ lb ++ lc) := by
  simp only [Program.keyLits, hu, hn, hc, List.length_cons, List.length_nil, and_true]
  simp [t0, t1, t2, o0, o1, o2, hci, hcs, ha, hb, hcc]
theorem lits2 {f0 f1 : Field} (hu : P.underlying t = some (.struct #[f0, f1])) (hn : #[f0, f1].all (fun f : Field => f.name != "_") = true) (hc : P.cellsOf t = 2) (hcs : P.cellsOf ts = 1) (hci : P.cellsOf ti = 1) (t0 : f0.type = ts) (t1 : f1.type = ti) (o0 : f0.offset = 0) (o1 : f1.offset = 1)
    {a b : Value} {la lb : List Lit} (ha : P.keyLits d ts [a] = some la) (hb : P.keyLits d ti [b] = some lb) : P.keyLits (d + 1) t [a, b] = some (la ++ lb) := by
  simp only [Program.keyLits, hu, hn, hc, List.length_cons, List.length_nil, and_true]
  simp [t0, t1, o0, o1, hci, hcs, ha, hb]
theorem keyOf_wide {fs : Array Field} (hu : P.underlying t = some (.struct fs)) (hk : P.keyType t = true) {v : Value} (hf : v.formed P t = true) {m : Nat} (hm : P.types.size = m + 1) {ls : List Lit} (h : P.keyLits (m + 1 + 1) t v.cells.toList = some ls) : keyOf P t v = some (.string (keyBytes ls)) := by
  unfold keyOf
  rw [hu]
  simp [hk, hf, hm, h]
theorem formed_agg {fs : Array Field} (hu : P.underlying t = some (.struct fs)) {xs : Array Value} (hc : P.cellsOf t = xs.size) : (Value.agg xs).formed P t = true := by simp [Value.formed, hu, hc]
end
theorem types4 : Tryz.prog.types.size = (210 - 1) + 1 := by kernel_rfl
theorem keyLook {l : Look} (h : l.ok) : keyOf Tryz.prog 151 (lookV l) = some (lookK l) :=
  keyOf_wide Tryz.underlying151 typeLook (formed_agg (xs := _) Tryz.underlying151 (by simpa using cellsLook)) types4
    (lits4 Tryz.underlying151 (by kernel_rfl) cellsLook cellsInt4 rfl rfl rfl rfl rfl rfl rfl rfl (lits_int Tryz.underlying3 (wf_nat h.1)) (lits_int Tryz.underlying3 (wf_nat h.2.1)) (lits_int Tryz.underlying3 (wf_nat h.2.2.1)) (lits_int Tryz.underlying3 (wf_nat h.2.2.2)))
theorem keyPiece {h : ByteArray} {i k : Nat} (hh : h.size ≤ maxLen) (hi : i ≤ 1000) (hk : k ≤ 1000) : keyOf Tryz.prog 82 (pieceV h i k) = some (pieceK h i k) :=
  keyOf_wide Tryz.underlying82 typePiece (formed_agg (xs := _) Tryz.underlying82 (by simpa using cellsPiece)) types4
    (lits3 Tryz.underlying82 (by kernel_rfl) cellsPiece cellsStr4 cellsInt4 rfl rfl rfl rfl rfl rfl (lits_str Tryz.underlying9 hh) (lits_int Tryz.underlying3 (wf_nat hi)) (lits_int Tryz.underlying3 (wf_nat hk)))
theorem keyGoal {h : ByteArray} {i : Nat} (hh : h.size ≤ maxLen) (hi : i ≤ 1000) : keyOf Tryz.prog 122 (goalV h i) = some (goalK h i) :=
  keyOf_wide Tryz.underlying122 typeGoal (formed_agg (xs := _) Tryz.underlying122 (by simpa using cellsGoal)) types4
    (lits2 Tryz.underlying122 (by kernel_rfl) cellsGoal cellsStr4 cellsInt4 rfl rfl rfl rfl (lits_str Tryz.underlying9 hh) (lits_int Tryz.underlying3 (wf_nat hi)))
theorem lookV_inj {a b : Look} (h : lookV a = lookV b) : a = b := by
  cases a; cases b
  simp only [lookV, Value.agg.injEq, Array.mk.injEq, List.cons.injEq, Value.int.injEq, true_and, and_true, Int.ofNat_inj] at h
  obtain ⟨h1, h2, h3, h4⟩ := h
  subst h1 h2 h3 h4; rfl
theorem lookK_inj {a b : Look} (ha : a.ok) (hb : b.ok) (h : lookK a = lookK b) : a = b := lookV_inj (kLook.inj (keyLook ha) (h ▸ keyLook hb))
theorem pieceK_inj {h h' : ByteArray} {i k i' k' : Nat} (hh : h.size ≤ maxLen) (hi : i ≤ 1000) (hk : k ≤ 1000) (hh' : h'.size ≤ maxLen) (hi' : i' ≤ 1000) (hk' : k' ≤ 1000) (e : pieceK h i k = pieceK h' i' k') : h = h' ∧ i = i' ∧ k = k' := by
  have := kPiece.inj (keyPiece hh hi hk) (e ▸ keyPiece hh' hi' hk')
  simp only [pieceV, Value.agg.injEq, Array.mk.injEq, List.cons.injEq, Value.int.injEq, Value.string.injEq, true_and, and_true, Int.ofNat_inj] at this
  exact this
theorem goalK_inj {h h' : ByteArray} {i i' : Nat} (hh : h.size ≤ maxLen) (hi : i ≤ 1000) (hh' : h'.size ≤ maxLen) (hi' : i' ≤ 1000) (e : goalK h i = goalK h' i') : h = h' ∧ i = i' := by
  have := kGoal.inj (keyGoal hh hi) (e ▸ keyGoal hh' hi')
  simp only [goalV, Value.agg.injEq, Array.mk.injEq, List.cons.injEq, Value.int.injEq, Value.string.injEq, true_and, and_true, Int.ofNat_inj] at this
  exact this
end Go.Proofs.YtokdhgocgicdnaaGreatDoor
