import Derived.Test.YtnfmeggnalgcnaaGreatDoorJTsu
import Derived.Test.YtnfmeggnalgcnaaGreatDoorJIsz
import Derived.ChangeKeysEq
import Derived.Test.YtnfmeggnalgcnaaGreatDoorJIrs
import Derived.RegionTactic
/- Two trees held against each other with a stack of pairs of lists, as data: what holds from round to round. -/
namespace Go.Proofs.YtnfmeggnalgcnaaGreatDoor
open Go.RowKit

/-- two lists that are still to be looked at -/
structure Pr where
  va : Value
  vb : Value
  a : List TreeD
  b : List TreeD
abbrev Place2 := Place × Place
abbrev Lists2 := List (List TreeD × List TreeD)
/-- the first n of two lists are alike at their tops, and their Kids have been seen -/
def Cls (D : Lists2) (x y : List TreeD) (n : Nat) : Prop := TopsEq x y ∧ ∀ j (h : j < x.length) (h' : j < y.length), j < n → x[j].kids = [] ∨ (x[j].kids, y[j].kids) ∈ D
theorem Cls.mono {D D' : Lists2} {x y : List TreeD} {n : Nat} (h : Cls D x y n) (hd : ∀ e ∈ D, e ∈ D') : Cls D' x y n :=
  ⟨h.1, fun j hj hj' hn => (h.2 j hj hj' hn).imp id (fun e => hd _ e)⟩
structure SmI (w : World) (lo hi : Nat) (ra rb : List TreeD) (L : List Pr) (M : List (Place2 × Bool)) (D : Lists2) (cur : Option (List TreeD × List TreeD)) : Prop where
  kd : ∀ p ∈ L, Kd true w lo hi p.va p.a ∧ Kd true w lo hi p.vb p.b
  same : ra = rb → ∀ p ∈ L, p.a = p.b
  root : (ra, rb) ∈ D
  cls : ∀ e ∈ D, (∃ p ∈ L, p.a = e.1 ∧ p.b = e.2) ∨ Cls D e.1 e.2 e.1.length ∨ cur = some e
  mok : ∀ q x, lk M q = some x → x = true ∧ ∃ c c' y z, Kd true w lo hi (.slice (some q.1.1) q.1.2 c) y ∧ Kd true w lo hi (.slice (some q.2.1) q.2.2 c') z ∧ (y, z) ∈ D
  mfree : ∀ x ∈ M, (plOk w x.1.1 ∧ x.1.1.1.block < hi) ∧ plOk w x.1.2 ∧ x.1.2.1.block < hi
def costP (L : List Pr) : Nat := (L.map fun p => sizeTs p.a + 1).sum
theorem costP_snoc (L : List Pr) (p : Pr) : costP (L ++ [p]) = costP L + (sizeTs p.a + 1) := by simp [costP]
theorem costP_len (L : List Pr) : L.length ≤ costP L := by
  induction L with
  | nil => simp
  | cons p L ih => simp [costP] at ih ⊢; omega
section
variable {w : World} {lo hi : Nat} {ra rb : List TreeD} {L : List Pr} {M : List (Place2 × Bool)} {D : Lists2}
theorem SmI.start {va vb : Value} (ha : Kd true w lo hi va ra) (hb : Kd true w lo hi vb rb) : SmI w lo hi ra rb [⟨va, vb, ra, rb⟩] [] [(ra, rb)] none where
  kd := fun p hp => by simp at hp; subst hp; exact ⟨ha, hb⟩
  same := fun h p hp => by simp at hp; subst hp; exact h
  root := by simp
  cls := fun e he => by simp at he; subst he; exact .inl ⟨_, List.mem_singleton_self _, rfl, rfl⟩
  mok := fun q x h => by simp [lk] at h
  mfree := by simp
/-- a pair is taken off -/
theorem SmI.take {p : Pr} (h : SmI w lo hi ra rb (L ++ [p]) M D none) : SmI w lo hi ra rb L M D (some (p.a, p.b)) where
  kd := fun q hq => h.kd q (List.mem_append_left _ hq)
  same := fun e q hq => h.same e q (List.mem_append_left _ hq)
  root := h.root
  cls := fun e he => by
    rcases h.cls e he with ⟨q, hq, h1, h2⟩ | h1 | h1
    · rcases List.mem_append.1 hq with hq | hq
      · exact .inl ⟨q, hq, h1, h2⟩
      · rw [List.mem_singleton] at hq
        subst hq
        exact .inr (.inr (by rw [h1, h2]))
    · exact .inr (.inl h1)
    · cases h1
  mok := h.mok
  mfree := h.mfree
/-- a pair is done -/
theorem SmI.done {x y : List TreeD} (h : SmI w lo hi ra rb L M D (some (x, y))) (hc : Cls D x y x.length) : SmI w lo hi ra rb L M D none where
  kd := h.kd
  same := h.same
  root := h.root
  cls := fun e he => by
    rcases h.cls e he with h1 | h1 | h1
    · exact .inl h1
    · exact .inr (.inl h1)
    · injection h1 with h1
      subst h1
      exact .inr (.inl hc)
  mok := h.mok
  mfree := h.mfree
/-- the Kids of two trees are laid on the stack -/
theorem SmI.push {cur : Option (List TreeD × List TreeD)} (h : SmI w lo hi ra rb L M D cur) {p q : Place} {c d : Nat} {x y : List TreeD} (hx : Kd true w lo hi (.slice (some p.1) p.2 c) x) (hy : Kd true w lo hi (.slice (some q.1) q.2 d) y)
    (hp : plOk w p ∧ p.1.block < hi) (hq : plOk w q ∧ q.1.block < hi) (he : ra = rb → x = y) :
    SmI w lo hi ra rb (L ++ [⟨.slice (some p.1) p.2 c, .slice (some q.1) q.2 d, x, y⟩]) (up M (p, q) true) ((x, y) :: D) cur where
  kd := fun r hr => by
    rcases List.mem_append.1 hr with hr | hr
    · exact h.kd r hr
    · rw [List.mem_singleton] at hr; subst hr; exact ⟨hx, hy⟩
  same := fun e r hr => by
    rcases List.mem_append.1 hr with hr | hr
    · exact h.same e r hr
    · rw [List.mem_singleton] at hr; subst hr; exact he e
  root := List.mem_cons_of_mem _ h.root
  cls := fun e hm => by
    rcases List.mem_cons.1 hm with rfl | hm
    · exact .inl ⟨_, List.mem_append_right _ (List.mem_singleton_self _), rfl, rfl⟩
    · rcases h.cls e hm with ⟨r, hr, h1, h2⟩ | h1 | h1
      · exact .inl ⟨r, List.mem_append_left _ hr, h1, h2⟩
      · exact .inr (.inl (h1.mono fun e he => List.mem_cons_of_mem _ he))
      · exact .inr (.inr h1)
  mok := fun k v hk => by
    by_cases e : k = (p, q)
    · subst e
      rw [lk_up_same] at hk
      injection hk with hk
      exact ⟨hk.symm, c, d, x, y, hx, hy, List.mem_cons_self⟩
    · rw [lk_up_other _ _ e] at hk
      obtain ⟨h1, c1, c2, y1, z1, h2, h3, h4⟩ := h.mok k v hk
      exact ⟨h1, c1, c2, y1, z1, h2, h3, List.mem_cons_of_mem _ h4⟩
  mfree := fun r hr => by
    rcases mem_up hr with e | hr
    · rw [e]; exact ⟨hp, hq⟩
    · exact h.mfree r hr
/-- two lists that were seen are among those that are known -/
theorem SmI.seen {cur : Option (List TreeD × List TreeD)} (h : SmI w lo hi ra rb L M D cur) {p q : Place} {c d : Nat} {x y : List TreeD} {v : Bool} (hx : Kd true w lo hi (.slice (some p.1) p.2 c) x) (hy : Kd true w lo hi (.slice (some q.1) q.2 d) y)
    (hk : lk M (p, q) = some v) : v = true ∧ (x, y) ∈ D := by
  obtain ⟨h1, c1, c2, y1, z1, h2, h3, h4⟩ := h.mok (p, q) v hk
  rw [h2.same rfl hx, h3.same rfl hy]
  exact ⟨h1, h4⟩
theorem SmI.all (h : SmI w lo hi ra rb [] M D none) : ra = rb := by
  have key : ∀ n (x y : List TreeD), (x, y) ∈ D → sizeTs x ≤ n → x = y := by
    intro n
    induction n with
    | zero =>
      intro x y hm hs
      rcases h.cls _ hm with ⟨p, hp, _⟩ | h1 | h1
      · simp at hp
      · have := length_sizeTs x
        have h0 : x = [] := List.eq_nil_of_length_eq_zero (by omega)
        subst h0
        have := h1.1.1
        exact (List.eq_nil_of_length_eq_zero (by simpa using this.symm)).symm
      · cases h1
    | succ n ih =>
      intro x y hm hs
      rcases h.cls _ hm with ⟨p, hp, _⟩ | h1 | h1
      · simp at hp
      · refine List.ext_getElem h1.1.1 fun i hi hi' => ?_
        obtain ⟨t1, t2, t3⟩ := h1.1.2 i hi hi'
        refine TreeD.ext_of t1 t2 ?_
        rcases h1.2 i hi hi' hi with e | e
        · rw [e] at t3 ⊢
          exact (List.eq_nil_of_length_eq_zero (by simpa using t3.symm)).symm
        · have a := sizeTs_get x i hi
          have b := sizeT_eq x[i]
          exact ih _ _ e (by omega)
      · cases h1
  exact key _ _ _ h.root (Nat.le_refl _)
end
theorem tops_of_eq {x y : List TreeD} (h : x = y) : TopsEq x y := by subst h; exact ⟨rfl, fun _ _ _ => ⟨rfl, rfl, rfl⟩⟩

/-- the stack in memory -/
def flatP (L : List Pr) : List Value := L.flatMap fun p => [p.va, p.vb]
theorem flatP_snoc (L : List Pr) (p : Pr) : flatP (L ++ [p]) = flatP L ++ [p.va, p.vb] := by simp [flatP]
theorem flatP_len (L : List Pr) : (flatP L).length = L.length * 2 := by
  induction L with
  | nil => rfl
  | cons x l ih => simp only [flatP, List.flatMap_cons, List.length_append, List.length_cons, List.length_nil] at ih ⊢; omega
def Stp (w : World) (base : Nat) (v : Value) (L : List Pr) : Prop := w.ownsRow base 73 2 v L.length (flatP L)
theorem Stp.keep {w w' : World} {base : Nat} {v : Value} {L : List Pr} (h : Stp w base v L) (k : ∀ g, v.ownBlock = some g → w'.heap[g]? = w.heap[g]?) : Stp w' base v L := by
  refine ⟨h.1, ?_⟩
  rcases h.2 with a | ⟨g, cap, cur, rfl, hb, hh, rest⟩
  · exact .inl a
  · exact .inr ⟨g, cap, cur, rfl, hb, (k g rfl).trans hh, rest⟩
theorem Stp.block {w : World} {base : Nat} {v : Value} {L : List Pr} (h : Stp w base v L) : ∀ g, v.ownBlock = some g → base ≤ g ∧ g < w.heap.size := fun g hg => World.ownsRow.lt h g hg
theorem Stp.form {w : World} {base : Nat} {v : Value} {L : List Pr} (h : Stp w base v L) : ∃ A cap, v = .slice A L.length cap ∧ L.length ≤ cap ∧ cap ≤ maxLen := by
  rcases h.2 with ⟨rfl, h0⟩ | ⟨g, cap, cur, rfl, hb, hh, h1, h2, _⟩
  · exact ⟨none, 0, by rw [h0], by omega, by unfold maxLen; omega⟩
  · exact ⟨_, cap, rfl, h1, h2⟩
theorem Stp.parts {w : World} {base : Nat} {v : Value} {L : List Pr} {p : Pr} (h : Stp w base v (L ++ [p])) :
    ∃ g cap, v = .slice (some ⟨g, 0, none⟩) (L.length + 1) cap ∧ base ≤ g ∧ g < w.heap.size ∧ L.length + 1 ≤ cap ∧ cap ≤ maxLen ∧
      w.cell? ⟨g, L.length * 2, none⟩ = some p.va ∧ w.cell? ⟨g, L.length * 2 + 1, none⟩ = some p.vb ∧ Stp w base (.slice (some ⟨g, 0, none⟩) L.length cap) L := by
  have hl : (L ++ [p]).length = L.length + 1 := by simp
  unfold Stp at h
  rw [flatP_snoc, hl] at h
  have hf := flatP_len L
  obtain ⟨h1, h2⟩ := h
  rcases h2 with ⟨_, h0⟩ | ⟨g, cap, cur, rfl, hb, hh, hc, hm, hs, ht⟩
  · omega
  have hr : Row w g 73 cur := hh
  have cell : ∀ j, j < (L.length + 1) * 2 → cur[j]? = (flatP L ++ [p.va, p.vb])[j]? := fun j hj => by
    rw [← ht, List.getElem?_take_of_lt hj, Array.getElem?_toList]
  refine ⟨g, cap, rfl, hb, hr.lt, hc, hm, ?_, ?_, ?_⟩
  · rw [hr.cell, cell _ (by omega), List.getElem?_append_right (by omega), hf]; simp
  · rw [hr.cell, cell _ (by omega), List.getElem?_append_right (by omega), hf]; simp [show L.length * 2 + 1 - L.length * 2 = 1 by omega]
  · refine ⟨hf, .inr ⟨g, cap, cur, rfl, hb, hh, by omega, hm, hs, ?_⟩⟩
    have := congrArg (List.take (L.length * 2)) ht
    rw [List.take_take, Nat.min_eq_left (by omega), List.take_append_of_le_length (by omega)] at this
    rw [this]
    exact List.take_of_length_le (by omega)
end Go.Proofs.YtnfmeggnalgcnaaGreatDoor

/- Two places, as a key: an array of two. -/
namespace Go.Proofs.YtnfmeggnalgcnaaGreatDoor
open Go.RowKit

def p2V (q : Place2) : Value := .agg #[.pointer (some q.1.1), .int .i64 (q.1.2 : Int), .pointer (some q.2.1), .int .i64 (q.2.2 : Int)]
def p2Ok (w : World) (q : Place2) : Prop := plOk w q.1 ∧ plOk w q.2
theorem infoPlace : ∃ i, Tryz.prog.info? 78 = some i ∧ i.size = 2 := by
  have : (Tryz.prog.info? 78).map (·.size) = some 2 := by kernel_rfl
  cases h : Tryz.prog.info? 78 with
  | none => rw [h] at this; cases this
  | some i => rw [h] at this; exact ⟨i, rfl, by simpa using this⟩
theorem cellsPlace : Tryz.prog.cellsOf 78 = 2 := by kernel_rfl
theorem partPlace (w : World) (xs : Array Value) (k : Nat) : (part 78 xs k).run Tryz.prog w = .ok (.agg (xs.extract k (k + 2))) w := by
  obtain ⟨i, h1, h2⟩ := infoPlace
  simp [part, isAgg, run_underlying Tryz.underlying78, sizeOf, typeInfo, h1, h2]
theorem eqPlace2 (d : Nat) (w : World) (p q : Place2) (hp : p2Ok w p) (hq : p2Ok w q) : (Op.equalIn (d + 3) 80 (p2V p) (p2V q)).run Tryz.prog w = .ok (decide (p = q)) w := by
  obtain ⟨i, h1, _⟩ := infoPlace
  have e1 := eqPlace d w p.1 q.1 hp.1 hq.1
  have e2 := eqPlace d w p.2 q.2 hp.2 hq.2
  unfold plV at e1 e2
  have hd : decide (p = q) = (decide (p.1 = q.1) && decide (p.2 = q.2)) := by
    rw [Bool.eq_iff_iff, Bool.and_eq_true, decide_eq_true_eq, decide_eq_true_eq, decide_eq_true_eq]
    exact ⟨fun h => by subst h; exact ⟨rfl, rfl⟩, fun h => Prod.ext h.1 h.2⟩
  unfold p2V
  rw [show d + 3 = (d + 2) + 1 from rfl, run_equalIn_array w (d + 2) _ _ Tryz.underlying80 h1, cellsPlace, hd]
  have q1 := partPlace w #[.pointer (some p.1.1), .int .i64 (p.1.2 : Int), .pointer (some p.2.1), .int .i64 (p.2.2 : Int)] 0
  have q2 := partPlace w #[.pointer (some p.1.1), .int .i64 (p.1.2 : Int), .pointer (some p.2.1), .int .i64 (p.2.2 : Int)] 2
  have r1 := partPlace w #[.pointer (some q.1.1), .int .i64 (q.1.2 : Int), .pointer (some q.2.1), .int .i64 (q.2.2 : Int)] 0
  have r2 := partPlace w #[.pointer (some q.1.1), .int .i64 (q.1.2 : Int), .pointer (some q.2.1), .int .i64 (q.2.2 : Int)] 2
  simp at q1 q2 r1 r2
  have hr : List.range 2 = [0, 1] := rfl
  rw [hr]
  by_cases ha : p.1 = q.1
  · rw [decide_eq_true ha] at e1 ⊢
    cases hb : decide (p.2 = q.2)
    all_goals
      rw [hb] at e2
      simp [Op.eqItems, q1, q2, r1, r2, e1, e2]
  · rw [decide_eq_false ha] at e1 ⊢
    simp [Op.eqItems, q1, r1, e1]
theorem chkPlace2 (e : Bool) (n : Nat) (w : World) (p : Place2) : (Instr.checkKey e (n + 3) 80 (p2V p)).run Tryz.prog w = .ok () w := by
  have c1 := chkPlace e n w p.1
  have c2 := chkPlace e n w p.2
  unfold plV at c1 c2
  obtain ⟨i, h1, h2⟩ := infoPlace
  have q1 := partPlace w #[.pointer (some p.1.1), .int .i64 (p.1.2 : Int), .pointer (some p.2.1), .int .i64 (p.2.2 : Int)] 0
  have q2 := partPlace w #[.pointer (some p.1.1), .int .i64 (p.1.2 : Int), .pointer (some p.2.1), .int .i64 (p.2.2 : Int)] 2
  simp at q1 q2
  have hs : (sizeOf 78).run Tryz.prog w = .ok 2 w := by simp [sizeOf, typeInfo, h1, h2]
  rw [show n + 3 = (n + 2) + 1 from rfl, Instr.checkKey]
  simp [p2V, run_underlying Tryz.underlying80, Std.Legacy.Range.forIn_eq_forIn_range', Std.Legacy.Range.size, List.range', hs, q1, q2, c1, c2]
theorem bitsPlace2 (n : Nat) (p : Place2) : Instr.sameBits (n + 2) (p2V p) (p2V p) = true := by simp [p2V, Instr.sameBits]
theorem keyPlace2 : KeyK Tryz.prog 80 p2V p2Ok where
  und := ⟨_, Tryz.underlying80, fun _ _ => rfl⟩
  eq := fun w p q hp hq => by
    show (Op.equalIn (9997 + 3) _ _ _).run _ _ = _
    exact eqPlace2 9997 w p q hp hq
  chk := fun w p e => by
    show (Instr.checkKey e (9997 + 3) _ _).run _ _ = _
    exact chkPlace2 e 9997 w p
  bits := fun p => bitsPlace2 9998 p
end Go.Proofs.YtnfmeggnalgcnaaGreatDoor

/- Are two trees the same? impl.TreeSame. -/
namespace Go.Proofs.YtnfmeggnalgcnaaGreatDoor
open Go.RowKit

/-- of the blocks ahead of B only m has turned -/
structure Nr (m B : Nat) (w w' : World) : Prop where
  os : w'.os = w.os
  tape : w'.tape = w.tape
  output : w'.output = w.output
  size : w.heap.size ≤ w'.heap.size
  block : ∀ k, k < B → k ≠ m → w'.heap[k]? = w.heap[k]?
theorem Nr.refl (m B : Nat) (w : World) : Nr m B w w := ⟨rfl, rfl, rfl, Nat.le_refl _, fun _ _ _ => rfl⟩
theorem Nr.below {m B C : Nat} {a b c : World} (h : Nr m B a b) (k : Below C b c) (hC : B ≤ C) : Nr m B a c :=
  ⟨k.os.trans h.os, k.tape.trans h.tape, k.output.trans h.output, Nat.le_trans h.size k.size, fun i h1 h2 => (k.block i (by omega)).trans (h.block i h1 h2)⟩
theorem Nr.mid {m B : Nat} {a b c : World} (h : Nr m B a b) (k : Mid m (m + 1) b c) (hb : B ≤ b.heap.size) : Nr m B a c :=
  ⟨k.os.trans h.os, k.tape.trans h.tape, k.output.trans h.output, Nat.le_trans h.size k.size, fun i h1 h2 => (k.block i (by omega) (by omega)).trans (h.block i h1 h2)⟩
theorem Nr.grown {m B : Nat} {a b c : World} {row : Option Nat} (h : Nr m B a b) (k : b.grownBy c row) (hb : B ≤ b.heap.size) (hr : ∀ g, row = some g → B ≤ g) : Nr m B a c :=
  ⟨k.os.trans h.os, k.tape.trans h.tape, k.output.trans h.output, Nat.le_trans h.size k.size, fun i h1 h2 => (k.block i (by omega) (fun e => by have := hr i e.symm; omega)).trans (h.block i h1 h2)⟩
theorem Nr.free {m B : Nat} {w w' : World} (h : Nr m B w w') {es : Array MapEntry} {c : Nat} (hm : w.heap[m]? = some (.map es c)) {b : Nat} (hf : FreeB w b) (hb : b < B) : FreeB w' b := by
  obtain ⟨x, y, hh⟩ := hf
  refine ⟨x, y, (h.block b hb ?_).trans hh⟩
  rintro rfl
  rw [hm] at hh
  cases hh
theorem Kd.near {m B : Nat} {z : Bool} {w w' : World} {lo hi : Nat} {v : Value} {ts : List TreeD} (h : Kd z w lo hi v ts) (k : Nr m B w w') (hB : hi ≤ B) {es : Array MapEntry} {c : Nat} (hm : w.heap[m]? = some (.map es c)) : Kd z w' lo hi v ts := by
  induction h with
  | mk A c ts U hl hc hs hcell sub ih =>
    refine .mk A c ts U hl hc hs (fun hp => ?_) ih
    obtain ⟨b, off, e, h1, h2, hz, hcc⟩ := hcell hp
    have hne : b ≠ m := by
      rintro rfl
      have := (hcc 0 hp).1
      simp [World.cell?, hm] at this
    have hbk := k.block b (by omega) hne
    have cell : ∀ j, w'.cell? ⟨b, j, none⟩ = w.cell? ⟨b, j, none⟩ := fun j => World.cell?_of_block (w := w) hbk
    exact ⟨b, off, e, h1, h2, (fun e => by obtain ⟨x, y, hh⟩ := hz e; exact ⟨x, y, hbk.trans hh⟩), fun i hi => by rw [cell, cell, cell]; exact hcc i hi⟩
def SmR (w5 : World) (m hi : Nat) (ra rb : List TreeD) (v6 : Value) (wr : World) (L : List Pr) (M : List (Place2 × Bool)) (D : Lists2) (cur : Option (List TreeD × List TreeD)) : Prop :=
  SmI w5 0 hi ra rb L M D cur ∧ Stp wr hi v6 L ∧ PM wr m p2V (fun x => .bool x) M ∧ Nr m hi w5 wr
theorem Stp.made (w : World) (base : Nat) (p : Pr) (hb : base ≤ w.heap.size) : Stp (w.alloc (.cells #[p.va, p.vb] 73)) base (.slice (some ⟨w.heap.size, 0, none⟩) 1 1) [p] := by
  refine ⟨by simp [flatP], .inr ⟨w.heap.size, 1, _, rfl, hb, heap_alloc_new w _, by simp, by unfold maxLen; omega, rfl, ?_⟩⟩
  simp [flatP]
theorem undSeen : Tryz.prog.underlying 71 = some (.map 80 4) := Tryz.underlying71
theorem zeroBoolT (w : World) : (zeroValue 4).run Tryz.prog w = .ok (.bool false) w := by kernel_rfl
theorem Tryz.infoTwo : (Tryz.prog.info? 73).map (fun i => (i.zero, i.size, i.bytes)) = some (some (.agg #[.slice none 0 0, .slice none 0 0]), 2, 48) := by kernel_rfl
theorem twoT_one (A B : Option Addr) (n c m d : Nat) : ∀ u ∈ [Value.slice A n c, .slice B m d], u.oneCell' = true := by
  intro u hu
  simp only [List.mem_cons, List.not_mem_nil, or_false] at hu
  rcases hu with rfl | rfl <;> rfl
theorem twoT_new (w : World) (a b : Value) : ∀ j u, [a, b][j]? = some u → (w.alloc (.cells #[a, b] 73)).cell? ((⟨w.heap.size, 0, none⟩ : Addr).add j) = some u :=
  World.news_of_block (cs := #[a, b]) (t := 73) (fr := (0, 0)) (heap_alloc_new _ _)

/-- what is known ahead of the loop -/
structure SmB (w w5 : World) (a b : TreeD) : Prop where
  below : Below w.heap.size w w5
  map : w5.heap[w.heap.size + 2]? = some (.map #[] 0)
  size : w5.heap.size = w.heap.size + 5
  ka : Kd true w5 0 (w.heap.size + 5) (.slice (some ⟨w.heap.size + 3, 0, none⟩) 1 1) [a]
  kb : Kd true w5 0 (w.heap.size + 5) (.slice (some ⟨w.heap.size + 4, 0, none⟩) 1 1) [b]
theorem SmB.made (w : World) (a b : TreeD) (u v : Value) (lo hi : Nat) (ha : Kd true w lo hi u a.kids) (hb : Kd true w lo hi v b.kids) (ta : TopOk a) (tb : TopOk b) (hh : hi ≤ w.heap.size) :
    SmB w (((((w.alloc (.cells #[.int .i64 a.rule, .string a.tok, u] 29)).alloc (.cells #[.int .i64 b.rule, .string b.tok, v] 29)).alloc (.map #[] 0)).alloc (.cells #[.int .i64 a.rule, .string a.tok, u] 29)).alloc (.cells #[.int .i64 b.rule, .string b.tok, v] 29)) a b := by
  have b3 := al3 w (.cells #[.int .i64 a.rule, .string a.tok, u] 29) (.cells #[.int .i64 b.rule, .string b.tok, v] 29) (.map #[] 0)
  generalize hw3 : ((w.alloc (.cells #[.int .i64 a.rule, .string a.tok, u] 29)).alloc (.cells #[.int .i64 b.rule, .string b.tok, v] 29)).alloc (.map #[] 0) = w3 at b3 ⊢
  have z3 : w3.heap.size = w.heap.size + 3 := by rw [← hw3]; simp
  have m3 : w3.heap[w.heap.size + 2]? = some (.map #[] 0) := by
    rw [← hw3]
    have := heap_alloc_new ((w.alloc (.cells #[.int .i64 a.rule, .string a.tok, u] 29)).alloc (.cells #[.int .i64 b.rule, .string b.tok, v] 29)) (.map #[] 0)
    simpa using this
  have k1 := one_kd (ha.under b3 hh) ta (by omega)
  have a4 := al1 w3 (.cells #[.int .i64 a.rule, .string a.tok, u] 29)
  have z4 : (w3.alloc (.cells #[.int .i64 a.rule, .string a.tok, u] 29)).heap.size = w.heap.size + 4 := by simp; omega
  have a5 := al1 (w3.alloc (.cells #[.int .i64 a.rule, .string a.tok, u] 29)) (.cells #[.int .i64 b.rule, .string b.tok, v] 29)
  have k2 := one_kd ((hb.under b3 hh).under a4 (by omega)) tb (by omega)
  have k1' := k1.under a5 (by omega)
  rw [z3] at k1'
  rw [z4] at k2
  have b5 := (b3.trans (a4.mono (by omega))).trans (a5.mono (by omega))
  refine ⟨b5, ?_, by simp; omega, k1'.more (Nat.le_refl _) (by omega), k2⟩
  rw [Below.heap_alloc _ _ _ (by omega), Below.heap_alloc _ _ _ (by omega)]
  exact m3
end Go.Proofs.YtnfmeggnalgcnaaGreatDoor
