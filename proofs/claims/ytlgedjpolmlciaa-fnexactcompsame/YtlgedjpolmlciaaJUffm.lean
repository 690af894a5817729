import Derived.Test.YtlgedjpolmlciaaJTrz
import Derived.Deep.QuietTactic
import Derived.StillTailTactics
import Derived.Test.YtlgedjpolmlciaaJPMap
import Derived.Laws.StructEq
import Derived.Test.YtlgedjpolmlciaaJMa
/- The model's sizes of a tree: spec.SizeOf, spec.l05Size. -/
namespace Go.Proofs.Ytlgedjpolmlciaa
open Go.RowKit

theorem tree_ind {p : TreeD → Prop} (h : ∀ t : TreeD, (∀ i (h : i < t.kids.length), p t.kids[i]) → p t) (t : TreeD) : p t :=
  h t (kids_ind (p := fun ts => ∀ i (h : i < ts.length), p ts[i]) (fun _ ih i hi => h _ (ih i hi)) t.kids)

end Go.Proofs.Ytlgedjpolmlciaa

/- Where a list of Kids lies, as a value and as a key: impl.placeOf. -/
namespace Go.Proofs.Ytlgedjpolmlciaa
open Go.RowKit

/-- a place: the first tree's address, and how many there are -/
abbrev Place := Addr × Nat
def plV (p : Place) : Value := .agg #[.pointer (some p.1), .int .i64 (p.2 : Int)]
def plOk (w : World) (p : Place) : Prop := FreeB w p.1.block

theorem partInt (w : World) (xs : Array Value) (k : Nat) (v : Value) (hv : xs[k]? = some v) : (part 3 xs k).run Try.prog w = .ok v w := by simp [part, isAgg, run_underlying Try.underlying3, hv]
theorem place_eq (p q : Place) : decide (p = q) = (decide (p.1 = q.1) && ((p.2 : Int) == (q.2 : Int))) := by
  obtain ⟨a, n⟩ := p
  obtain ⟨b, m⟩ := q
  rw [Bool.eq_iff_iff]
  simp
  intro _
  omega
theorem bitsPlace (n : Nat) (p : Place) : Instr.sameBits (n + 2) (plV p) (plV p) = true := by simp [plV, Instr.sameBits]
end Go.Proofs.Ytlgedjpolmlciaa

/- Where a list of Kids lies, as a value and as a key: impl.placeOf. -/
namespace Go.Proofs.Ytlgedjpolmlciaa
open Go.RowKit

set_option maxRecDepth 100000 in
set_option maxHeartbeats 1000000 in
theorem placeOf_anyM (b off n c : Nat) (w : World) (hn : 0 < n) :
    Calls Try.prog 46 #[.slice (some ⟨b, off, none⟩) n c] w fun e w' => e = .returned (plV (⟨b, off, none⟩, n)) ∧ Below w.heap.size w w' := by
  unfold plV
  go_enter Try.func46, Try.ntmps46
  go_wp2
  refine bodyPost_ret (v := .agg #[.pointer (some ⟨b, off, none⟩), .int .i64 (n : Int)]) (by simp [results, Try.results46, go_sem]) rfl ⟨rfl, ?_⟩
  exact al1 _ _

theorem heldPlaceM : Try.prog.stoodInHeld 90 = false := by kernel_rfl
theorem und0M : Try.prog.underlying 88 = some (.pointer 39) := Try.underlying88
theorem cellsTreeM : Try.prog.cellsOf 39 = 3 := by kernel_rfl
theorem eqPtrM (d : Nat) (w : World) (a b : Addr) (ha : FreeB w a.block) (hb : FreeB w b.block) : (Op.equalIn (d + 1) 88 (.pointer (some a)) (.pointer (some b))).run Try.prog w = .ok (decide (a = b)) w := by
  obtain ⟨ca, ta, ha⟩ := ha
  obtain ⟨cb, tb, hb⟩ := hb
  obtain ⟨i0, hi0, hz0⟩ : ∃ i, Try.prog.info? 39 = some i ∧ i.size = 3 := by
    have : (Try.prog.info? 39).map (·.size) = some 3 := by kernel_rfl
    cases h : Try.prog.info? 39 with
    | none => rw [h] at this; cases this
    | some i => rw [h] at this; exact ⟨i, rfl, by simpa using this⟩
  by_cases h : a = b
  · subst h
    simp [Op.equalIn, run_underlying und0M, sizeOf, typeInfo, hi0, run_sameAddr_same]
  · simp [Op.equalIn, run_underlying und0M, sizeOf, typeInfo, hi0, hz0, run_sameAddr_other w h ha hb, h]

theorem partPtrM (w : World) (xs : Array Value) (k : Nat) (v : Value) (hv : xs[k]? = some v) : (part 88 xs k).run Try.prog w = .ok v w := by simp [part, isAgg, run_underlying und0M, hv]
theorem eqPlaceM (d : Nat) (w : World) (p q : Place) (hp : plOk w p) (hq : plOk w q) : (Op.equalIn (d + 2) 90 (plV p) (plV q)).run Try.prog w = .ok (decide (p = q)) w := by
  unfold plV
  rw [run_equalIn_struct w (d + 1) 90 _ _ (by rw [Program.fieldsOf, Try.underlying90]) heldPlaceM]
  have e1 := eqPtrM d w p.1 q.1 hp hq
  have e2 := run_equalIn_int (P := Try.prog) w d 3 .i64 .i64 (p.2 : Int) (q.2 : Int) Try.underlying3
  simp only [Program.fieldsOf, Try.underlying90]
  rw [place_eq]
  have p1 := partPtrM w #[.pointer (some p.1), .int .i64 (p.2 : Int)] 0 _ rfl
  have p2 := partPtrM w #[.pointer (some q.1), .int .i64 (q.2 : Int)] 0 _ rfl
  have p3 := partInt w #[.pointer (some p.1), .int .i64 (p.2 : Int)] 1 _ rfl
  have p4 := partInt w #[.pointer (some q.1), .int .i64 (q.2 : Int)] 1 _ rfl
  by_cases h : p.1 = q.1
  · rw [decide_eq_true h] at e1 ⊢
    cases h2 : ((p.2 : Int) == (q.2 : Int))
    all_goals
      rw [h2] at e2
      simp [Op.eqFields, p1, p2, p3, p4, e1, e2]
  · rw [decide_eq_false h] at e1 ⊢
    simp [Op.eqFields, p1, p2, e1]
theorem chkPlaceM (e : Bool) (n : Nat) (w : World) (p : Place) : (Instr.checkKey e (n + 2) 90 (plV p)).run Try.prog w = .ok () w := by
  have p1 := partPtrM w #[.pointer (some p.1), .int .i64 (p.2 : Int)] 0 _ rfl
  have p3 := partInt w #[.pointer (some p.1), .int .i64 (p.2 : Int)] 1 _ rfl
  simp [Instr.checkKey, plV, run_underlying Try.underlying90, p1, p3, run_underlying und0M, run_underlying Try.underlying3]
theorem bitsPlaceM (n : Nat) (p : Place) : Instr.sameBits (n + 2) (plV p) (plV p) = true := by simp [plV, Instr.sameBits]
theorem keyPlaceM : KeyK Try.prog 90 plV plOk where
  und := ⟨_, Try.underlying90, fun _ _ => rfl⟩
  eq := fun w p q hp hq => by
    show (Op.equalIn (9998 + 2) _ _ _).run _ _ = _
    exact eqPlaceM 9998 w p q hp hq
  chk := fun w p e => by
    show (Instr.checkKey e (9998 + 2) _ _).run _ _ = _
    exact chkPlaceM e 9998 w p
  bits := fun p => bitsPlaceM 9998 p
end Go.Proofs.Ytlgedjpolmlciaa

/- Of the blocks ahead only one has turned, a map; terms stand then as they stood. No program stands in this text but its types' numbers. -/
namespace Go.Proofs.Ytlgedjpolmlciaa
open Go.RowKit

/-- of the blocks ahead of B only m has turned -/
structure NrM (m B : Nat) (w w' : World) : Prop where
  os : w'.os = w.os
  tape : w'.tape = w.tape
  output : w'.output = w.output
  size : w.heap.size ≤ w'.heap.size
  block : ∀ k, k < B → k ≠ m → w'.heap[k]? = w.heap[k]?
theorem NrM.refl (m B : Nat) (w : World) : NrM m B w w := ⟨rfl, rfl, rfl, Nat.le_refl _, fun _ _ _ => rfl⟩
theorem NrM.below {m B C : Nat} {a b c : World} (h : NrM m B a b) (k : Below C b c) (hC : B ≤ C) : NrM m B a c :=
  ⟨k.os.trans h.os, k.tape.trans h.tape, k.output.trans h.output, Nat.le_trans h.size k.size, fun i h1 h2 => (k.block i (by omega)).trans (h.block i h1 h2)⟩
theorem NrM.mid {m B : Nat} {a b c : World} (h : NrM m B a b) (k : Mid m (m + 1) b c) (hb : B ≤ b.heap.size) : NrM m B a c :=
  ⟨k.os.trans h.os, k.tape.trans h.tape, k.output.trans h.output, Nat.le_trans h.size k.size, fun i h1 h2 => (k.block i (by omega) (by omega)).trans (h.block i h1 h2)⟩
theorem NrM.grown {m B : Nat} {a b c : World} {row : Option Nat} (h : NrM m B a b) (k : b.grownBy c row) (hb : B ≤ b.heap.size) (hr : ∀ g, row = some g → B ≤ g) : NrM m B a c :=
  ⟨k.os.trans h.os, k.tape.trans h.tape, k.output.trans h.output, Nat.le_trans h.size k.size, fun i h1 h2 => (k.block i (by omega) (fun e => by have := hr i e.symm; omega)).trans (h.block i h1 h2)⟩
theorem NrM.free {m B : Nat} {w w' : World} (h : NrM m B w w') {es : Array MapEntry} {c : Nat} (hm : w.heap[m]? = some (.map es c)) {b : Nat} (hf : FreeB w b) (hb : b < B) : FreeB w' b := by
  obtain ⟨x, y, hh⟩ := hf
  refine ⟨x, y, (h.block b hb ?_).trans hh⟩
  rintro rfl
  rw [hm] at hh
  cases hh
theorem KM.near {m B : Nat} {z : Bool} {w w' : World} {lo hi : Nat} {v : Value} {ts : List TermD} (h : KM z w lo hi v ts) (k : NrM m B w w') (hB : hi ≤ B) {es : Array MapEntry} {c : Nat} (hm : w.heap[m]? = some (.map es c)) : KM z w' lo hi v ts := by
  induction h with
  | mk A c ts U hl hc hs hcell sub ih =>
    refine .mk A c ts U hl hc hs (fun hp => ?_) ih
    obtain ⟨b, off, e, h1, h2, hz, hcc⟩ := hcell hp
    have hne : b ≠ m := by
      rintro rfl
      have := (hcc 0 hp).1
      simp [World.cell?, hm] at this
    have hbk := k.block b (by omega) hne
    have cell : ∀ j, w'.cell? ⟨b, j, none⟩ = w.cell? ⟨b, j, none⟩ := fun j => World.cell?_of_block (w := w) hbk
    exact ⟨b, off, e, h1, h2, (fun e => by obtain ⟨x, y, hh⟩ := hz e; exact ⟨x, y, hbk.trans hh⟩), fun i hi => by rw [cell, cell, cell]; exact hcc i hi⟩
end Go.Proofs.Ytlgedjpolmlciaa

/- The place that stands for another one: (takenAlike[Tree]).standFor. -/
namespace Go.Proofs.Ytlgedjpolmlciaa
open Go.RowKit

/-- a list of terms lies at a place -/
def AtTM (w : World) (hi : Nat) (p : Place) (x : List TermD) : Prop := plOk w p ∧ p.1.block < hi ∧ ∃ c, KM true w 0 hi (.slice (some p.1) p.2 c) x
theorem AtTM.func {w : World} {hi : Nat} : ∀ (p : Place) (x y : List TermD), AtTM w hi p x → AtTM w hi p y → x = y := fun p x y h k => by
  obtain ⟨_, _, c, h⟩ := h
  obtain ⟨_, _, d, k⟩ := k
  exact k.same rfl h
theorem zeroPlM (w : World) : (zeroValue 90).run Try.prog w = .ok (.agg #[.pointer none, .int .i64 0]) w := by kernel_rfl
/-- the map of what was taken for alike, in memory -/
structure UfMM (w5 : World) (m hi : Nat) (w : World) (M : List (Place × Place)) : Prop where
  map : PM w m plV plV M
  key : ∀ x ∈ M, ∃ y, AtTM w5 hi x.1 y
  near : NrM m hi w5 w
  here : ∃ es c, w5.heap[m]? = some (.map es c)
theorem UfMM.ok {w5 w : World} {m hi : Nat} {M : List (Place × Place)} (h : UfMM w5 m hi w M) {p : Place} {x : List TermD} (hp : AtTM w5 hi p x) : plOk w p := by
  obtain ⟨es, c, hm⟩ := h.here
  exact h.near.free hm hp.1 hp.2.1
theorem UfMM.keep {w5 w w' : World} {m hi : Nat} {M : List (Place × Place)} (h : UfMM w5 m hi w M) (b : Below w.heap.size w w') (hh : hi ≤ w.heap.size) : UfMM w5 m hi w' M := ⟨h.map.keep (b.block _ h.map.lt), h.key, h.near.below b hh, h.here⟩
theorem UfMM.look {w5 w : World} {m hi : Nat} {M : List (Place × Place)} (h : UfMM w5 m hi w M) {p : Place} {x : List TermD} (hp : AtTM w5 hi p x) :
    (Instr.lookup 82 (.map (some m)) (plV p) true).run Try.prog w = .ok (.tuple #[(lk M p).elim (.agg #[.pointer none, .int .i64 0]) plV, .bool (lk M p).isSome]) w :=
  h.map.look2 keyPlaceM Try.underlying82 (fun x hx => by obtain ⟨y, hy⟩ := h.key x hx; exact h.ok hy) (zeroPlM w) p (h.ok hp)
theorem UfMM.put {w5 w : World} {m hi : Nat} {M : List (Place × Place)} (h : UfMM w5 m hi w M) {p q : Place} {x : List TermD} (hp : AtTM w5 hi p x) (hh : hi ≤ w.heap.size) :
    ∃ w', (Instr.mapUpdate 82 (.map (some m)) (plV p) (plV q)).run Try.prog w = .ok () w' ∧ UfMM w5 m hi w' (up M p q) ∧ Mid m (m + 1) w w' ∧ w'.heap.size = w.heap.size := by
  obtain ⟨w', h1, h2, h3, h4⟩ := h.map.put keyPlaceM Try.underlying82 (fun x hx => by obtain ⟨y, hy⟩ := h.key x hx; exact h.ok hy) p (h.ok hp) q
  refine ⟨w', h1, ⟨h2, fun y hy => ?_, h.near.mid h3 hh, h.here⟩, h3, h4⟩
  rcases mem_up hy with e | e
  · rw [e]; exact ⟨x, hp⟩
  · exact h.key y e
/-- where the way from a place has come to -/
structure StPM (w5 : World) (hi : Nat) (D : List (List TermD × List TermD)) (M0 M : List (Place × Place)) (t : Place → Nat) (T : Nat) (x : List TermD) (q : Place) (y : List TermD) : Prop where
  uf : UfT (AtTM w5 hi) D M t T
  keys : ∀ q, lk M q = none ↔ lk M0 q = none
  at_ : AtTM w5 hi q y
  eqv : Eqv D x y
def stepsPM (M : List (Place × Place)) (t : Place → Nat) (T : Nat) (q : Place) : Nat := match lk M q with
  | none => 0
  | some _ => T - t q
theorem StPM.next {w5 : World} {hi : Nat} {D : List (List TermD × List TermD)} {M0 M : List (Place × Place)} {t : Place → Nat} {T : Nat} {x y : List TermD} {q r : Place} (a : StPM w5 hi D M0 M t T x q y) (h : lk M q = some r) : ∃ z, StPM w5 hi D M0 M t T x r z ∧ stepsPM M t T r < stepsPM M t T q := by
  obtain ⟨u, v, h1, h2, h3⟩ := a.uf.link q r h
  obtain rfl := AtTM.func _ _ _ h1 a.at_
  refine ⟨v, ⟨a.uf, a.keys, h2, .trans _ _ _ a.eqv h3⟩, ?_⟩
  obtain ⟨t1, t2⟩ := a.uf.time q r h
  unfold stepsPM
  rw [h]
  cases hr : lk M r with
  | none => show 0 < T - t q; omega
  | some s =>
    have := t2 s hr
    have := (a.uf.time r s hr).1
    show T - t r < T - t q
    omega
theorem StPM.short {w5 : World} {hi : Nat} {D : List (List TermD × List TermD)} {M0 M : List (Place × Place)} {t : Place → Nat} {T : Nat} {x y : List TermD} {q r s : Place} (a : StPM w5 hi D M0 M t T x q y) (h : lk M q = some r) (h2 : lk M r = some s) : ∃ z, StPM w5 hi D M0 (up M q s) t T x r z ∧ stepsPM (up M q s) t T r < stepsPM M t T q := by
  obtain ⟨z, b, hb⟩ := a.next h
  have hne : r ≠ q := fun e => by
    subst e
    have := (a.uf.time r r h).2 r h
    omega
  refine ⟨z, ⟨a.uf.short AtTM.func h h2, fun u => ?_, b.at_, b.eqv⟩, ?_⟩
  · rw [lk_up, ← a.keys u]
    by_cases e : u = q
    · subst e; rw [if_pos rfl, h]; simp
    · rw [if_neg e]
  · have : stepsPM (up M q s) t T r = stepsPM M t T r := by
      unfold stepsPM
      rw [lk_up_other _ _ hne]
    rw [this]; exact hb
end Go.Proofs.Ytlgedjpolmlciaa
