import Derived.Test.YtokdhgocgicdnaaGreatDoorJTre
import Derived.Test.YtokdhgocgicdnaaGreatDoorJFull
import Derived.Deep.AppendLies
import Derived.WalkKit
import Derived.WalkSpells
import Derived.WalkLawsBesides
import Derived.Deep.QuietTactic
import Derived.BigQuiet
import Derived.RegionTactic
import Derived.ChangeAlike
/- Trees that a draw makes: a list of Kids that can be grown. No program stands in this text but its types' numbers. -/
namespace Go.Proofs.YtokdhgocgicdnaaGreatDoor
open Go.RowKit

/-- how many letters and parts are in a drawn tree at most, by its depth, if nodes have at most five Kids and tokens four letters -/
def bulkM : Nat → Nat
  | 0 => 4
  | d + 1 => 5 + 5 * bulkM d
theorem bulkM_pos (d : Nat) : 4 ≤ bulkM d := by cases d <;> simp [bulkM]; omega
theorem bulkM_le (d : Nat) : bulkM d ≤ bulkM (d + 1) := by simp only [bulkM]; omega
/-- the cells of trees, the value of the Kids of each given -/
def flatT (xs : List (TreeD × Value)) : List Value := xs.flatMap fun x => [.int .i64 x.1.rule, .string x.1.tok, x.2]
theorem flatT_snoc (xs : List (TreeD × Value)) (x : TreeD × Value) : flatT (xs ++ [x]) = flatT xs ++ [.int .i64 x.1.rule, .string x.1.tok, x.2] := by simp [flatT]
theorem flatT_len (xs : List (TreeD × Value)) : (flatT xs).length = xs.length * 3 := by
  induction xs with
  | nil => rfl
  | cons x l ih => simp only [flatT, List.flatMap_cons, List.length_append, List.length_cons, List.length_nil] at ih ⊢; omega
theorem flatT_at (xs : List (TreeD × Value)) (i : Nat) (h : i < xs.length) : (flatT xs)[i * 3]? = some (.int .i64 xs[i].1.rule) ∧ (flatT xs)[i * 3 + 1]? = some (.string xs[i].1.tok) ∧ (flatT xs)[i * 3 + 2]? = some xs[i].2 := by
  induction xs generalizing i with
  | nil => simp at h
  | cons x l ih =>
    cases i with
    | zero => exact ⟨rfl, rfl, rfl⟩
    | succ i =>
      have := ih i (by simpa using h)
      have e : flatT (x :: l) = .int .i64 x.1.rule :: .string x.1.tok :: x.2 :: flatT l := rfl
      rw [e]
      rw [show (i + 1) * 3 = i * 3 + 1 + 1 + 1 by omega]
      simpa using this
/-- a list of trees that stands also if block g turns -/
def Far (w : World) (g lo hi : Nat) (v : Value) (ts : List TreeD) : Prop := ∀ w' : World, (∀ k, lo ≤ k → k < hi → k ≠ g → w'.heap[k]? = w.heap[k]?) → Kd true w' lo hi v ts
theorem Far.kd {w : World} {g lo hi : Nat} {v : Value} {ts : List TreeD} (h : Far w g lo hi v ts) : Kd true w lo hi v ts := h w fun _ _ _ _ => rfl
/-- a list of Kids that can be grown: its block is none of those of the trees within -/
def KidsX (w : World) (base : Nat) (v : Value) (xs : List (TreeD × Value)) : Prop :=
  w.ownsRow base 29 3 v xs.length (flatT xs) ∧ ∀ x ∈ xs, TopOk x.1 ∧ ∀ g, v.ownBlock = some g → Far w g base w.heap.size x.2 x.1.kids
def KidsR (w : World) (base : Nat) (v : Value) (ts : List TreeD) : Prop := ∃ xs : List (TreeD × Value), xs.map (·.1) = ts ∧ KidsX w base v xs
theorem KidsX.nil (w : World) (base : Nat) : KidsX w base (.slice none 0 0) [] := ⟨World.ownsRow_nil _ _ _ _, by simp⟩
theorem KidsR.nil (w : World) (base : Nat) : KidsR w base (.slice none 0 0) [] := ⟨[], rfl, KidsX.nil w base⟩
theorem KidsX.kd {w : World} {base : Nat} {v : Value} {xs : List (TreeD × Value)} (h : KidsX w base v xs) : Kd true w base w.heap.size v (xs.map (·.1)) := by
  obtain ⟨⟨_, a⟩, b⟩ := h
  rcases a with ⟨rfl, hn⟩ | ⟨g, cap, cur, rfl, hb, hh, hn, hm, hs, ht⟩
  · have : xs = [] := List.length_eq_zero_iff.1 hn
    subst this
    exact .mk none 0 [] (fun _ => .slice none 0 0) (Nat.le_refl _) (by unfold maxLen; omega) (fun i h => by simp at h) (fun h => by simp at h) (fun i h => by simp at h)
  · have key : ∀ i (hi : i < xs.length), w.cell? ⟨g, 0 + i * 3, none⟩ = some (.int .i64 xs[i].1.rule) ∧ w.cell? ⟨g, 0 + i * 3 + 1, none⟩ = some (.string xs[i].1.tok) ∧ w.cell? ⟨g, 0 + i * 3 + 2, none⟩ = some xs[i].2 := fun i hi => by
      obtain ⟨f1, f2, f3⟩ := flatT_at xs i hi
      have e : ∀ j, j < xs.length * 3 → w.cell? ⟨g, j, none⟩ = (flatT xs)[j]? := fun j hj => by
        rw [cell_of_row w g j cur 29 (0, 0) hh, ← ht, List.getElem?_take_of_lt hj]
        simp
      exact ⟨by rw [Nat.zero_add, e _ (by omega)]; exact f1, by rw [Nat.zero_add, e _ (by omega)]; exact f2, by rw [Nat.zero_add, e _ (by omega)]; exact f3⟩
    have hgl : g < w.heap.size := by
      rcases Nat.lt_or_ge g w.heap.size with h | h
      · exact h
      · rw [Array.getElem?_eq_none h] at hh; cases hh
    have e : (.slice (some ⟨g, 0, none⟩) xs.length cap : Value) = .slice (some ⟨g, 0, none⟩) (xs.map (·.1)).length cap := by simp
    rw [e]
    refine .mk _ cap _ (fun i => if h : i < xs.length then xs[i].2 else .slice none 0 0) (by simpa using hn) hm (fun i hi => ?_) (fun _ => ⟨g, 0, rfl, hb, hgl, (fun _ => ⟨cur, _, hh⟩), fun i hi => ?_⟩) (fun i hi => ?_)
    · have hi' : i < xs.length := by simpa using hi
      have := (b _ (List.getElem_mem hi')).1
      simpa [TopOk] using this
    · have hi' : i < xs.length := by simpa using hi
      simpa [hi'] using key i hi'
    · have hi' : i < xs.length := by simpa using hi
      have := ((b _ (List.getElem_mem hi')).2 g rfl).kd
      simpa [hi'] using this
theorem KidsR.kd {w : World} {base : Nat} {v : Value} {ts : List TreeD} (h : KidsR w base v ts) : Kd true w base w.heap.size v ts := by
  obtain ⟨xs, rfl, h⟩ := h
  exact h.kd
theorem KidsX.move {w w' : World} {base : Nat} {v : Value} {xs : List (TreeD × Value)} (h : KidsX w base v xs) (hs : w.heap.size ≤ w'.heap.size) (e : ∀ k, base ≤ k → k < w.heap.size → w'.heap[k]? = w.heap[k]?) : KidsX w' base v xs := by
  obtain ⟨a, b⟩ := h
  refine ⟨⟨a.1, ?_⟩, fun x hx => ⟨(b x hx).1, fun g hg w2 e2 => ((b x hx).2 g hg w2 fun k h1 h2 h3 => (e2 k h1 (by omega) h3).trans (e k h1 h2)).more (Nat.le_refl _) hs⟩⟩
  rcases a.2 with a2 | ⟨g, cap, cur, rfl, hb, hh, r⟩
  · exact .inl a2
  · have hgl : g < w.heap.size := by
      rcases Nat.lt_or_ge g w.heap.size with h | h
      · exact h
      · rw [Array.getElem?_eq_none h] at hh; cases hh
    exact .inr ⟨g, cap, cur, rfl, hb, (e g hb hgl).trans hh, r⟩
theorem KidsR.move {w w' : World} {base : Nat} {v : Value} {ts : List TreeD} (h : KidsR w base v ts) (hs : w.heap.size ≤ w'.heap.size) (e : ∀ k, base ≤ k → k < w.heap.size → w'.heap[k]? = w.heap[k]?) : KidsR w' base v ts := by
  obtain ⟨xs, h1, h⟩ := h
  exact ⟨xs, h1, h.move hs e⟩
theorem KidsX.below {w w' : World} {base : Nat} {v : Value} {xs : List (TreeD × Value)} (h : KidsX w base v xs) (b : Below w.heap.size w w') : KidsX w' base v xs := h.move b.size fun k _ h2 => b.block k h2
theorem KidsR.below {w w' : World} {base : Nat} {v : Value} {ts : List TreeD} (h : KidsR w base v ts) (b : Below w.heap.size w w') : KidsR w' base v ts := h.move b.size fun k _ h2 => b.block k h2
theorem KidsX.lower {w : World} {base base' : Nat} {v : Value} {xs : List (TreeD × Value)} (h : KidsX w base v xs) (hb : base' ≤ base) : KidsX w base' v xs := by
  obtain ⟨a, b⟩ := h
  refine ⟨⟨a.1, ?_⟩, fun x hx => ⟨(b x hx).1, fun g hg w2 e2 => ((b x hx).2 g hg w2 fun k h1 h2 h3 => e2 k (by omega) h2 h3).more hb (Nat.le_refl _)⟩⟩
  rcases a.2 with a2 | ⟨g, cap, cur, rfl, hg, r⟩
  · exact .inl a2
  · exact .inr ⟨g, cap, cur, rfl, by omega, r⟩
theorem KidsR.lower {w : World} {base base' : Nat} {v : Value} {ts : List TreeD} (h : KidsR w base v ts) (hb : base' ≤ base) : KidsR w base' v ts := by
  obtain ⟨xs, h1, h⟩ := h
  exact ⟨xs, h1, h.lower hb⟩
/-- one tree more: the list stands in the block where it stood, or in a new one -/
theorem KidsX.push {w w' : World} {base lo hi g' cap : Nat} {v u : Value} {xs : List (TreeD × Value)} {x : TreeD} (h : KidsX w base v xs) (ht : TopOk x) (hk : Kd true w lo hi u x.kids) (h1 : base ≤ lo) (h2 : hi ≤ w.heap.size)
    (h3 : ∀ g, v.ownBlock = some g → g < lo ∨ hi ≤ g) (ho : w'.ownsRow base 29 3 (.slice (some ⟨g', 0, none⟩) (xs.length + 1) cap) (xs.length + 1) (flatT xs ++ [.int .i64 x.rule, .string x.tok, u]))
    (hg : w.grownBy w' v.ownBlock) (hl : v.ownBlock = some g' ∨ g' = w.heap.size) : KidsX w' base (.slice (some ⟨g', 0, none⟩) (xs.length + 1) cap) (xs ++ [(x, u)]) := by
  obtain ⟨a, b⟩ := h
  refine ⟨by rw [flatT_snoc, List.length_append]; exact ho, fun y hy => ?_⟩
  rw [List.mem_append, List.mem_singleton] at hy
  have hgs := hg.size
  rcases hy with hy | rfl
  · refine ⟨(b y hy).1, fun g0 e0 w2 e2 => ?_⟩
    have e0 : g' = g0 := by simpa [Value.ownBlock] using e0
    subst e0
    rcases a.2 with ⟨rfl, hn⟩ | ⟨g, cap', cur, rfl, hb, hh, r⟩
    · have : xs = [] := List.length_eq_zero_iff.1 hn
      subst this
      simp at hy
    · refine ((b y hy).2 g rfl w2 fun k k1 k2 k3 => ?_).more (Nat.le_refl _) hgs
      have hne : k ≠ g' := by
        rcases hl with hl | hl
        · have : g = g' := by simpa [Value.ownBlock] using hl
          omega
        · omega
      exact (e2 k k1 (by omega) hne).trans (hg.block k k2 (fun e => k3 (by simpa [Value.ownBlock] using e)))
  · refine ⟨ht, fun g0 e0 w2 e2 => ?_⟩
    have e0 : g' = g0 := by simpa [Value.ownBlock] using e0
    subst e0
    refine (hk.keep fun k k1 k2 => ?_).more h1 (Nat.le_trans h2 hgs)
    have hne : k ≠ g' := by
      rcases hl with hl | hl
      · have := h3 _ hl; omega
      · omega
    refine (e2 k (by omega) (by omega) hne).trans (hg.block k (by omega) fun e => ?_)
    have := h3 _ e.symm; omega
theorem KidsX.own {w : World} {base g : Nat} {v : Value} {xs : List (TreeD × Value)} (h : KidsX w base v xs) (e : v.ownBlock = some g) : base ≤ g ∧ g < w.heap.size := World.ownsRow.lt h.1 g e
theorem KidsX.shape {w : World} {base : Nat} {v : Value} {xs : List (TreeD × Value)} (h : KidsX w base v xs) : ∃ A d, v = .slice A xs.length d := by
  rcases h.1.2 with ⟨rfl, h0⟩ | ⟨g, cap, cur, rfl, _⟩
  · exact ⟨none, 0, by rw [h0]⟩
  · exact ⟨_, _, rfl⟩
theorem KidsR.shape {w : World} {base : Nat} {v : Value} {ts : List TreeD} (h : KidsR w base v ts) : ∃ A d, v = .slice A ts.length d := by
  obtain ⟨xs, rfl, h⟩ := h
  obtain ⟨A, d, e⟩ := h.shape
  exact ⟨A, d, by rw [e, List.length_map]⟩
end Go.Proofs.YtokdhgocgicdnaaGreatDoor

/- What a law's draws hand out: the source of draws, a number, yes or no. A text of its own, for a seat where numbers' own texts are not. -/
namespace Go.Proofs.YtokdhgocgicdnaaGreatDoor.Dr
open Go.RowKit

theorem heap_alloc_new (w : World) (o : Obj) : (w.alloc o).heap[w.heap.size]? = some o := by
  show (w.heap.push o)[w.heap.size]? = _
  simp
/-- a slice of bytes that lies below block B -/
def IsBytes (w : World) (B : Nat) (a : Option Addr) (len : Nat) : Prop :=
  len = 0 ∨ ∃ b off, a = some ⟨b, off, none⟩ ∧ b < B ∧ ∀ i, i < len → ∃ x : Nat, x < 256 ∧ w.cell? ⟨b, off + i, none⟩ = some (.int .u8 (x : Int))
/-- the source of draws at block p, its code below block B -/
structure SrcAt (w : World) (p B : Nat) (a : Option Addr) (len cap : Nat) (at_ mix size : Int) : Prop where
  blk : w.heap[p]? = some (.cells #[.slice a len cap, .int .i64 at_, .int .u64 mix, .int .i64 size] 85 (0, 0))
  rd : IsBytes w B a len
  lo : 0 ≤ at_
  hi : at_ ≤ len
  len_le : len ≤ 1048576
  mlo : 0 ≤ mix
  mhi : mix < 18446744073709551616
  slo : 0 ≤ size
  shi : size ≤ 12
def Src (w : World) (p B : Nat) : Prop := B ≤ p ∧ ∃ a len cap at_ mix size, SrcAt w p B a len cap at_ mix size

theorem IsBytes.keep {w w' : World} {B : Nat} {a : Option Addr} {len : Nat} (h : IsBytes w B a len) (hk : ∀ q : Addr, q.block < B → w'.cell? q = w.cell? q) : IsBytes w' B a len := by
  rcases h with h | ⟨b, off, e, hb, hc⟩
  · exact .inl h
  · refine .inr ⟨b, off, e, hb, fun i hi => ?_⟩
    obtain ⟨x, hx, hq⟩ := hc i hi
    exact ⟨x, hx, (hk _ hb).trans hq⟩

/-- only block p has turned -/
structure Only (p : Nat) (w w' : World) : Prop where
  os : w'.os = w.os
  tape : w'.tape = w.tape
  output : w'.output = w.output
  size : w'.heap.size = w.heap.size
  block : ∀ k, k ≠ p → w'.heap[k]? = w.heap[k]?
theorem Only.refl (p : Nat) (w : World) : Only p w w := ⟨rfl, rfl, rfl, rfl, fun _ _ => rfl⟩
theorem Only.trans {p : Nat} {a b c : World} (h : Only p a b) (k : Only p b c) : Only p a c :=
  ⟨k.os.trans h.os, k.tape.trans h.tape, k.output.trans h.output, k.size.trans h.size, fun i hi => (k.block i hi).trans (h.block i hi)⟩
theorem Only.drew {p : Nat} {a w : World} (h : Only p a w) : Only p a w.drew := ⟨h.os, h.tape, h.output, h.size, h.block⟩
theorem Only.drewN {p : Nat} {a w : World} (h : Only p a w) (n : Nat) : Only p a (w.drewN n) := ⟨h.os, h.tape, h.output, h.size, h.block⟩
theorem Only.setCell {p i : Nat} {a w : World} (h : Only p a w) (u : Value) : Only p a (w.setCell ⟨p, i, none⟩ u) :=
  h.trans ⟨rfl, rfl, rfl, by simp [World.setCell], fun k hk => Below.heap_setCell _ _ _ _ hk⟩
theorem Only.grown {p : Nat} {w w' : World} (h : Only p w w') : w.grownBy w' (some p) :=
  ⟨h.os, h.tape, h.output, Nat.le_of_eq h.size.symm, fun k _ hk => h.block k (fun e => hk (by rw [e]))⟩
theorem Only.below {p B : Nat} {w w' : World} (h : Only p w w') (hB : B ≤ p) : Below B w w' :=
  ⟨h.os, h.tape, h.output, Nat.le_of_eq h.size.symm, fun k hk => h.block k (by omega)⟩
theorem Only.cell {p : Nat} {w w' : World} (h : Only p w w') {q : Addr} (hq : q.block ≠ p) : w'.cell? q = w.cell? q := World.cell?_of_block (h.block _ hq)

theorem blk_cell {w : World} {g : Nat} {t : TypeId} {cs : Array Value} (h : w.heap[g]? = some (.cells cs t (0, 0))) (i : Nat) : w.cell? ⟨g, i, none⟩ = cs[i]? := cell_of_row w g i cs t (0, 0) h
theorem blk_free {w : World} {g : Nat} {t : TypeId} {cs : Array Value} (h : w.heap[g]? = some (.cells cs t (0, 0))) (i : Nat) : w.frozen? ⟨g, i, none⟩ = false := by
  simp [World.frozen?, h]
theorem blk_set {w : World} {g i : Nat} {t : TypeId} {cs : Array Value} (h : w.heap[g]? = some (.cells cs t (0, 0))) (u : Value) : (w.setCell ⟨g, i, none⟩ u).heap[g]? = some (.cells (cs.setIfInBounds i u) t (0, 0)) := by
  simp [World.setCell, Array.getElem?_modify, h]

section
variable {w w' : World} {p B : Nat} {a : Option Addr} {len cap : Nat} {at_ mix size : Int}
theorem SrcAt.drew (S : SrcAt w p B a len cap at_ mix size) : SrcAt w.drew p B a len cap at_ mix size := ⟨S.blk, S.rd, S.lo, S.hi, S.len_le, S.mlo, S.mhi, S.slo, S.shi⟩
theorem SrcAt.drewN (S : SrcAt w p B a len cap at_ mix size) (n : Nat) : SrcAt (w.drewN n) p B a len cap at_ mix size := ⟨S.blk, S.rd, S.lo, S.hi, S.len_le, S.mlo, S.mhi, S.slo, S.shi⟩
theorem SrcAt.setMix (S : SrcAt w p B a len cap at_ mix size) (hB : B ≤ p) {m : Int} (h0 : 0 ≤ m) (h1 : m < 18446744073709551616) : SrcAt (w.setCell ⟨p, 2, none⟩ (.int .u64 m)) p B a len cap at_ m size :=
  ⟨(blk_set S.blk _).trans rfl, S.rd.keep fun q hq => ((Only.refl p w).setCell _).cell (by omega), S.lo, S.hi, S.len_le, h0, h1, S.slo, S.shi⟩
theorem SrcAt.setAt (S : SrcAt w p B a len cap at_ mix size) (hB : B ≤ p) {m : Int} (h0 : 0 ≤ m) (h1 : m ≤ len) : SrcAt (w.setCell ⟨p, 1, none⟩ (.int .i64 m)) p B a len cap m mix size :=
  ⟨(blk_set S.blk _).trans rfl, S.rd.keep fun q hq => ((Only.refl p w).setCell _).cell (by omega), h0, h1, S.len_le, S.mlo, S.mhi, S.slo, S.shi⟩
theorem SrcAt.setSize (S : SrcAt w p B a len cap at_ mix size) (hB : B ≤ p) {m : Int} (h0 : 0 ≤ m) (h1 : m ≤ 12) : SrcAt (w.setCell ⟨p, 3, none⟩ (.int .i64 m)) p B a len cap at_ mix m :=
  ⟨(blk_set S.blk _).trans rfl, S.rd.keep fun q hq => ((Only.refl p w).setCell _).cell (by omega), S.lo, S.hi, S.len_le, S.mlo, S.mhi, h0, h1⟩
theorem SrcAt.cells (S : SrcAt w p B a len cap at_ mix size) :
    (w.cell? ⟨p, 0, none⟩ = some (.slice a len cap) ∧ w.cell? ⟨p, 1, none⟩ = some (.int .i64 at_) ∧ w.cell? ⟨p, 2, none⟩ = some (.int .u64 mix)) ∧ w.frozen? ⟨p, 1, none⟩ = false ∧ w.frozen? ⟨p, 2, none⟩ = false :=
  ⟨⟨(blk_cell S.blk 0).trans rfl, (blk_cell S.blk 1).trans rfl, (blk_cell S.blk 2).trans rfl⟩, blk_free S.blk 1, blk_free S.blk 2⟩
theorem Src.only (hs : Src w p B) (h : ∀ k, k < B ∨ k = p → w'.heap[k]? = w.heap[k]?) : Src w' p B := by
  obtain ⟨hB, a, len, cap, at_, mix, size, S⟩ := hs
  exact ⟨hB, a, len, cap, at_, mix, size, (h p (.inr rfl)).trans S.blk, S.rd.keep fun q hq => World.cell?_of_block (h _ (.inl hq)), S.lo, S.hi, S.len_le, S.mlo, S.mhi, S.slo, S.shi⟩
end

theorem xor64 {a b : Int} (h1 : 0 ≤ a) (h2 : a < 18446744073709551616) (h3 : 0 ≤ b) (h4 : b < 18446744073709551616) : 0 ≤ bits .xor .u64 a b ∧ bits .xor .u64 a b < 18446744073709551616 := by
  rw [u64_xor a b h1 h2 h3 h4]
  have := Nat.xor_lt_two_pow (n := 64) (x := a.toNat) (y := b.toNat) (by omega) (by omega)
  omega
theorem wrap64u (a : Int) : 0 ≤ IntKind.u64.wrap a ∧ IntKind.u64.wrap a < 18446744073709551616 := by
  rw [IntKind.wrap_u64]; omega

theorem wrapMod (x : Int) {most : Int} (h1 : 1 < most) (h2 : most ≤ 9223372036854775807) : 0 ≤ wrap64 (x % most) ∧ wrap64 (x % most) < most := by
  have a := Int.emod_nonneg x (show most ≠ 0 by omega)
  have b := Int.emod_lt_of_pos x (show 0 < most by omega)
  rw [IntWalk.wrap64_in _ ⟨by omega, by omega⟩]; exact ⟨a, b⟩

/-- what a draw leaves: a number within its bounds; the source; nothing else has turned -/
def DrawN (w : World) (p B : Nat) (most : Int) (e : Ending) (w' : World) : Prop :=
  ∃ r : Int, e = .returned (.int .i64 r) ∧ (most ≤ 1 → r = 0) ∧ (1 < most → 0 ≤ r ∧ r < most) ∧ Src w' p B ∧ Only p w w'

set_option maxRecDepth 100000 in
set_option maxHeartbeats 2000000 in
theorem n_any (w : World) (p B : Nat) (most : Int) (hs : Src w p B) (hm : most ≤ 9223372036854775807) :
    Calls Tryz.prog 46 #[.pointer (some ⟨p, 0, none⟩), .int .i64 most] w (DrawN w p B most) := by
  by_cases h1 : most ≤ 1
  · go_enter Tryz.func46, Tryz.ntmps46
    go_wp2
    go_ret
    exact ⟨0, rfl, fun _ => rfl, fun h => by omega, hs, Only.refl _ _⟩
  · obtain ⟨hB, a, len, cap, at_, mix, size, S⟩ := hs
    obtain ⟨⟨c0, c1, c2⟩, f1, f2⟩ := S.cells
    have hlo := S.lo
    have hhi := S.hi
    have hll := S.len_le
    have hm0 := S.mlo
    have hm1 := S.mhi
    have O := Only.refl p w
    by_cases hlt : at_ < len
    · obtain ⟨k, rfl⟩ := Int.eq_ofNat_of_zero_le hlo
      rcases S.rd with hz | ⟨b, off, rfl, hbB, hcell⟩
      · omega
      obtain ⟨x, hx, hcx⟩ := hcell k (by omega)
      clear hcell
      go_enter Tryz.func46, Tryz.ntmps46
      go_wp2
      go_quiet (fail)
      revert nq
      intro nA
      go_wp2
      go_quiet (fail)
      go_wp2
      obtain ⟨w0, hw0⟩ : ∃ w0, w0 = (w.drewN (nA + nq)).setCell ⟨p, 1, none⟩ (.int .i64 ((k : Int) + 1)) := ⟨_, rfl⟩
      rw [← hw0]
      have S0 := (S.drewN (nA + nq)).setAt hB (m := (k : Int) + 1) (by omega) (by omega)
      have O0 := ((O.drewN (nA + nq)).setCell (i := 1) (.int .i64 ((k : Int) + 1)))
      rw [← hw0] at S0 O0
      clear hw0 c0 c1 c2 f1 f2 S O hcx
      obtain ⟨⟨c0, c1, c2⟩, f1, f2⟩ := S0.cells
      go_region
      obtain ⟨w1, hw1⟩ : ∃ w1, w1 = (w0.setCell ⟨p, 2, none⟩ (.int .u64 (bits .xor .u64 mix (IntKind.u64.wrap (mix * 8192))))).drew := ⟨_, rfl⟩
      rw [← hw1]
      have r1 := xor64 hm0 hm1 (wrap64u (mix * 8192)).1 (wrap64u (mix * 8192)).2
      have S1 := (S0.setMix hB r1.1 r1.2).drew
      have O1 := (O0.setCell (i := 2) (.int .u64 (bits .xor .u64 mix (IntKind.u64.wrap (mix * 8192))))).drew
      rw [← hw1] at S1 O1
      clear hw1 c0 c1 c2 f1 f2 S0 hm0 hm1 O0
      generalize bits .xor .u64 mix (IntKind.u64.wrap (mix * 8192)) = m1 at *
      obtain ⟨⟨c0, c1, c2⟩, f1, f2⟩ := S1.cells
      obtain ⟨hm0, hm1⟩ := r1
      go_wp2
      go_region
      obtain ⟨w2, hw2⟩ : ∃ w2, w2 = (w1.setCell ⟨p, 2, none⟩ (.int .u64 (bits .xor .u64 m1 (m1 / 128)))).drew := ⟨_, rfl⟩
      rw [← hw2]
      have r2 := xor64 hm0 hm1 (show 0 ≤ m1 / 128 by omega) (show m1 / 128 < 18446744073709551616 by omega)
      have S2 := (S1.setMix hB r2.1 r2.2).drew
      have O2 := (O1.setCell (i := 2) (.int .u64 (bits .xor .u64 m1 (m1 / 128)))).drew
      rw [← hw2] at S2 O2
      clear hw2 c0 c1 c2 f1 f2 S1 hm0 hm1 O1
      generalize bits .xor .u64 m1 (m1 / 128) = m2 at *
      obtain ⟨⟨c0, c1, c2⟩, f1, f2⟩ := S2.cells
      obtain ⟨hm0, hm1⟩ := r2
      go_wp2
      go_region
      obtain ⟨w3, hw3⟩ : ∃ w3, w3 = (w2.setCell ⟨p, 2, none⟩ (.int .u64 (bits .xor .u64 m2 (IntKind.u64.wrap (m2 * 131072))))).drew := ⟨_, rfl⟩
      rw [← hw3]
      have r3 := xor64 hm0 hm1 (wrap64u (m2 * 131072)).1 (wrap64u (m2 * 131072)).2
      have S3 := (S2.setMix hB r3.1 r3.2).drew
      have O3 := (O2.setCell (i := 2) (.int .u64 (bits .xor .u64 m2 (IntKind.u64.wrap (m2 * 131072))))).drew
      rw [← hw3] at S3 O3
      clear hw3 c0 c1 c2 f1 f2 S2 hm0 hm1 O2
      generalize bits .xor .u64 m2 (IntKind.u64.wrap (m2 * 131072)) = m3 at *
      obtain ⟨⟨c0, c1, c2⟩, f1, f2⟩ := S3.cells
      obtain ⟨hm0, hm1⟩ := r3
      go_wp2
      go_ret
      exact ⟨_, rfl, fun h => absurd h (by omega), fun _ => wrapMod _ h1 hm, ⟨hB, _, _, _, _, _, _, S3⟩, O3⟩
    · go_enter Tryz.func46, Tryz.ntmps46
      go_wp2
      go_quiet (fail)
      go_wp2
      go_region
      obtain ⟨w1, hw1⟩ : ∃ w1, w1 = (w.drewN (nq + 1)).setCell ⟨p, 2, none⟩ (.int .u64 (bits .xor .u64 mix (IntKind.u64.wrap (mix * 8192)))) := ⟨_, rfl⟩
      rw [← hw1]
      have r1 := xor64 hm0 hm1 (wrap64u (mix * 8192)).1 (wrap64u (mix * 8192)).2
      have S1 := (S.drewN (nq + 1)).setMix hB r1.1 r1.2
      have O1 := ((O.drewN (nq + 1)).setCell (i := 2) (.int .u64 (bits .xor .u64 mix (IntKind.u64.wrap (mix * 8192)))))
      rw [← hw1] at S1 O1
      clear hw1 c0 c1 c2 f1 f2 S hm0 hm1 O
      generalize bits .xor .u64 mix (IntKind.u64.wrap (mix * 8192)) = m1 at *
      obtain ⟨⟨c0, c1, c2⟩, f1, f2⟩ := S1.cells
      obtain ⟨hm0, hm1⟩ := r1
      go_wp2
      go_region
      obtain ⟨w2, hw2⟩ : ∃ w2, w2 = (w1.setCell ⟨p, 2, none⟩ (.int .u64 (bits .xor .u64 m1 (m1 / 128)))).drew := ⟨_, rfl⟩
      rw [← hw2]
      have r2 := xor64 hm0 hm1 (show 0 ≤ m1 / 128 by omega) (show m1 / 128 < 18446744073709551616 by omega)
      have S2 := (S1.setMix hB r2.1 r2.2).drew
      have O2 := (O1.setCell (i := 2) (.int .u64 (bits .xor .u64 m1 (m1 / 128)))).drew
      rw [← hw2] at S2 O2
      clear hw2 c0 c1 c2 f1 f2 S1 hm0 hm1 O1
      generalize bits .xor .u64 m1 (m1 / 128) = m2 at *
      obtain ⟨⟨c0, c1, c2⟩, f1, f2⟩ := S2.cells
      obtain ⟨hm0, hm1⟩ := r2
      go_wp2
      go_region
      obtain ⟨w3, hw3⟩ : ∃ w3, w3 = (w2.setCell ⟨p, 2, none⟩ (.int .u64 (bits .xor .u64 m2 (IntKind.u64.wrap (m2 * 131072))))).drew := ⟨_, rfl⟩
      rw [← hw3]
      have r3 := xor64 hm0 hm1 (wrap64u (m2 * 131072)).1 (wrap64u (m2 * 131072)).2
      have S3 := (S2.setMix hB r3.1 r3.2).drew
      have O3 := (O2.setCell (i := 2) (.int .u64 (bits .xor .u64 m2 (IntKind.u64.wrap (m2 * 131072))))).drew
      rw [← hw3] at S3 O3
      clear hw3 c0 c1 c2 f1 f2 S2 hm0 hm1 O2
      generalize bits .xor .u64 m2 (IntKind.u64.wrap (m2 * 131072)) = m3 at *
      obtain ⟨⟨c0, c1, c2⟩, f1, f2⟩ := S3.cells
      obtain ⟨hm0, hm1⟩ := r3
      go_wp2
      go_ret
      exact ⟨_, rfl, fun h => absurd h (by omega), fun _ => wrapMod _ h1 hm, ⟨hB, _, _, _, _, _, _, S3⟩, O3⟩
theorem grw_refl (p : Nat) (w : World) : w.grownBy w (some p) := ⟨rfl, rfl, rfl, Nat.le_refl _, fun _ _ _ => rfl⟩
theorem grw_trans {p : Nat} {a b c : World} (h : a.grownBy b (some p)) (k : b.grownBy c (some p)) : a.grownBy c (some p) :=
  ⟨k.os.trans h.os, k.tape.trans h.tape, k.output.trans h.output, Nat.le_trans h.size k.size, fun i hi hne => (k.block i (Nat.lt_of_lt_of_le hi h.size) hne).trans (h.block i hi hne)⟩
/-- memory of the call's own is written, above what was there -/
theorem grw_own {p : Nat} {w w1 w2 : World} {row : Option Nat} (h : w.grownBy w1 (some p)) (g : w1.grownBy w2 row) (hr : ∀ k, row = some k → w.heap.size ≤ k) : w.grownBy w2 (some p) :=
  ⟨g.os.trans h.os, g.tape.trans h.tape, g.output.trans h.output, Nat.le_trans h.size g.size, fun i hi hne => (g.block i (Nat.lt_of_lt_of_le hi h.size) (fun e => by have := hr i e.symm; omega)).trans (h.block i hi hne)⟩
theorem grw_alloc {p : Nat} {w w1 : World} (h : w.grownBy w1 (some p)) (o : Obj) : w.grownBy (w1.alloc o) (some p) := grw_own h (World.grownBy_alloc w1 o none) (fun _ e => by cases e)
theorem grw_below {p B : Nat} {w w' : World} (h : w.grownBy w' (some p)) (hB : B ≤ p) (hs : B ≤ w.heap.size) : Below B w w' :=
  ⟨h.os, h.tape, h.output, h.size, fun k hk => h.block k (by omega) (fun e => by injection e; omega)⟩
theorem Src.lt {w : World} {p B : Nat} (h : Src w p B) : p < w.heap.size := by
  obtain ⟨_, _, _, _, _, _, _, S⟩ := h
  rcases Nat.lt_or_ge p w.heap.size with hlt | hge
  · exact hlt
  · have := S.blk; rw [Array.getElem?_eq_none hge] at this; cases this
theorem Src.own {w w1 w2 : World} {p B : Nat} {row : Option Nat} (h : Src w1 p B) (g : w1.grownBy w2 row) (hp : p < w.heap.size) (hr : ∀ k, row = some k → w.heap.size ≤ k) : Src w2 p B := by
  have hlt := h.lt
  have hB := h.1
  refine h.only fun k hk => g.block k (by omega) (fun e => by have := hr k e.symm; omega)

/-- a draw of yes or no -/
def DrawOne (w : World) (p B : Nat) (e : Ending) (w' : World) : Prop := ∃ b : Bool, e = .returned (.bool b) ∧ Src w' p B ∧ Only p w w'
set_option maxHeartbeats 400000 in
theorem one_any (w : World) (p B : Nat) (most : Int) (hs : Src w p B) (hm : most ≤ 9223372036854775807) :
    Calls Tryz.prog 23 #[.pointer (some ⟨p, 0, none⟩), .int .i64 most] w (DrawOne w p B) := by
  go_enter Tryz.func23, Tryz.ntmps23
  go_wp2_with fail
  refine (n_any _ p B most hs hm).mono ?_
  rintro e w1 ⟨r, rfl, _, _, hs1, ho⟩
  go_wp2
  go_ret
  exact ⟨_, rfl, hs1, ho⟩

theorem source_two {w : World} {p : Nat} {a : Option Addr} {len cap : Nat} {mix : Int} {v : Value} (S : SrcAt w p p a len cap 0 mix 0) :
    Src ((w.setCell ⟨p, 3, none⟩ v).setCell ⟨p, 3, none⟩ (.int .i64 12)) p p :=
  ⟨Nat.le_refl _, a, len, cap, 0, mix, 12, (blk_set (blk_set S.blk _) _).trans rfl, S.rd.keep fun q hq => (((Only.refl p w).setCell _).setCell _).cell (by omega), S.lo, S.hi, S.len_le, S.mlo, S.mhi, by omega, by omega⟩

set_option maxRecDepth 100000 in
set_option maxHeartbeats 1000000 in
theorem source_any (w : World) (a : Option Addr) (len cap : Nat) (hb : IsBytes w w.heap.size a len) (hl : len ≤ 1048576) :
    Calls Tryz.prog 21 #[.slice a len cap] w fun e w' => e = .returned (.pointer (some ⟨w.heap.size, 0, none⟩)) ∧ Src w' w.heap.size w.heap.size ∧ Below w.heap.size w w' := by
  have HB := Lib.hid hb
  clear hb
  go_enter Tryz.func21, Tryz.ntmps21
  go_wp2
  go_loopw [4] (fun i wr => ∃ k : Nat, ∃ mix : Int, k ≤ len ∧ k ≤ 64 ∧ i = .int .i64 k ∧ SrcAt wr w.heap.size w.heap.size a len cap 0 mix 0 ∧ Below w.heap.size w wr) (fun i _ => len - (intOf i).toNat)
  case atStart => exact ⟨0, 88172645463325252, by omega, by omega, rfl, ⟨heap_alloc_new w _, HB.out.keep fun q hq => World.cell?_alloc_lt w _ q hq, by omega, by omega, hl, by omega, by omega, by omega, by omega⟩, (Below.refl _ _).alloc (Nat.le_refl _) _⟩
  case round =>
    obtain ⟨k, mix, hk, hk64, rfl, S, hbel⟩ := hrel
    by_cases hc : k < len
    · by_cases hc2 : k < 64
      · obtain ⟨⟨c0, c1, c2⟩, f1, f2⟩ := S.cells
        rcases S.rd with hz | ⟨b, off, rfl, hbB, hcell⟩
        · omega
        obtain ⟨x, hx, hcx⟩ := hcell k (by omega)
        clear hcell
        have hm0 := S.mlo
        have hm1 := S.mhi
        have r1 := xor64 hm0 hm1 (show (0 : Int) ≤ x by omega) (by omega)
        go_wp2
        go_region
        have S1 := (S.setMix (Nat.le_refl _) (wrap64u (bits .xor .u64 mix x * 1099511628211)).1 (wrap64u (bits .xor .u64 mix x * 1099511628211)).2).drew
        have hbel1 := (hbel.setCell (p := ⟨w.heap.size, 2, none⟩) (Nat.le_refl _) (.int .u64 (IntKind.u64.wrap (bits .xor .u64 mix x * 1099511628211)))).drew
        go_wp2
        go_roundw
        case rel => exact ⟨k + 1, _, by omega, by omega, by go_num, S1, hbel1⟩
        case measure => simp [intOf]; omega
      · have c3 : wr.cell? ⟨w.heap.size, 3, none⟩ = some (.int .i64 0) := (blk_cell S.blk 3).trans rfl
        have f3 := blk_free S.blk 3
        have hq : ∀ v, (wr.setCell ⟨w.heap.size, 3, none⟩ v).cell? ⟨w.heap.size, 3, none⟩ = some v := fun v => World.cell?_setCell_same _ _ _ c3
        by_cases h12 : (12 : Int) < (len : Int) / 20
        · go_wp2
          go_ret
          exact ⟨rfl, source_two S, (hbel.setCell (Nat.le_refl _) _).setCell (Nat.le_refl _) _⟩
        · go_wp2
          go_ret
          exact ⟨rfl, ⟨Nat.le_refl _, _, _, _, _, _, _, S.setSize (Nat.le_refl _) (by omega) (by omega)⟩, hbel.setCell (Nat.le_refl _) _⟩
    · have d1 : decide ((k : Int) < (len : Int)) = false := by simp; omega
      have d2 : decide (k < len) = false := decide_eq_false hc
      have c3 : wr.cell? ⟨w.heap.size, 3, none⟩ = some (.int .i64 0) := (blk_cell S.blk 3).trans rfl
      have f3 := blk_free S.blk 3
      have hq : ∀ v, (wr.setCell ⟨w.heap.size, 3, none⟩ v).cell? ⟨w.heap.size, 3, none⟩ = some v := fun v => World.cell?_setCell_same _ _ _ c3
      by_cases h12 : (12 : Int) < (len : Int) / 20
      · exact absurd h12 (by omega)
      · go_wp2
        go_ret
        exact ⟨rfl, ⟨Nat.le_refl _, _, _, _, _, _, _, S.setSize (Nat.le_refl _) (by omega) (by omega)⟩, hbel.setCell (Nat.le_refl _) _⟩

/-- a slice of integers that came in: nil, or a row of cells, each a number that fits its kind -/
def IsRow (k : IntKind) (w : World) (a : Option Addr) (len cap : Nat) (zs : List Int) : Prop :=
  (a = none ∧ len = 0 ∧ cap = 0 ∧ zs = []) ∨
  ∃ x, a = some x ∧ len ≤ cap ∧ cap ≤ maxLen ∧ zs.length = cap ∧ (∀ i, i < zs.length → w.cell? (x.add i) = some (.int k (zs.getD i 0))) ∧ ∀ n ∈ zs, (Lit.int k n).wf = true

theorem lt_of_cell {w : World} {q : Addr} {v : Value} (h : w.cell? q = some v) : q.block < w.heap.size := by
  rcases Nat.lt_or_ge q.block w.heap.size with hlt | hge
  · exact hlt
  · unfold World.cell? at h
    rw [Array.getElem?_eq_none hge] at h
    simp at h

theorem IsRow.bytes {w : World} {a : Option Addr} {len cap : Nat} {zs : List Int} (h : IsRow .u8 w a len cap zs) : IsBytes w w.heap.size a len := by
  rcases h with ⟨_, h0, _, _⟩ | ⟨x, rfl, hl, hm, hz, hc, hw⟩
  · exact .inl h0
  · by_cases h0 : len = 0
    · exact .inl h0
    · have hc0 := hc 0 (by omega)
      obtain ⟨b, off, spot⟩ := x
      have hspot : spot = none := by simpa [Addr.add] using World.cell?_spot hc0
      subst hspot
      have hlt : b < w.heap.size := by simpa [Addr.add] using lt_of_cell hc0
      refine .inr ⟨b, off, rfl, hlt, fun i hi => ?_⟩
      have hci := hc i (by omega)
      have ha : (⟨b, off, none⟩ : Addr).add i = ⟨b, off + i, none⟩ := by unfold Addr.add; split <;> simp_all
      rw [ha] at hci
      have hwf := hw (zs.getD i 0) (by rw [List.getD_eq_getElem?_getD, List.getElem?_eq_getElem (by omega)]; exact List.getElem_mem _)
      have hb : 0 ≤ zs.getD i 0 ∧ zs.getD i 0 ≤ 255 := by simpa [Lit.wf, IntKind.min, IntKind.max, IntKind.signed, IntKind.bits] using hwf
      refine ⟨(zs.getD i 0).toNat, by omega, ?_⟩
      rw [hci, Int.toNat_of_nonneg hb.1]

theorem IsBytes.more {w : World} {B B' : Nat} {a : Option Addr} {len : Nat} (h : IsBytes w B a len) (hB : B ≤ B') : IsBytes w B' a len := by
  rcases h with h | ⟨b, off, e, hb, hc⟩
  · exact .inl h
  · exact .inr ⟨b, off, e, by omega, hc⟩
theorem IsBytes.later {w w' : World} {a : Option Addr} {len : Nat} (h : IsBytes w w.heap.size a len) (hb : Below w.heap.size w w') : IsBytes w' w'.heap.size a len :=
  (h.keep fun _ hq => hb.cell hq).more hb.size
end Go.Proofs.YtokdhgocgicdnaaGreatDoor.Dr

/- Numbers of Go's int in a row of the call's own: what a draw gathers. -/
namespace Go.Proofs.YtokdhgocgicdnaaGreatDoor.Dr
open Go.RowKit
open Go.Proofs.YtokdhgocgicdnaaGreatDoor

def Itn (w : World) (base : Nat) (v : Value) (l : List Nat) : Prop := w.ownsRow base 3 1 v l.length (l.map fun (i : Nat) => Value.int .i64 (i : Int))
theorem Itn.lit0 (w : World) {base : Nat} (hb : base ≤ w.heap.size) : Itn (w.alloc (.cells #[] 3)) base (.slice (some ⟨w.heap.size, 0, none⟩) 0 0) [] := World.ownsRow_lit w #[] 0 hb (by unfold maxLen; omega) rfl
theorem Itn.one {w : World} {base : Nat} {v : Value} {l : List Nat} (x : Nat) (h : w.ownsRow base 3 1 v (l.length + 1) ((l.map fun (i : Nat) => Value.int .i64 (i : Int)) ++ [.int .i64 (x : Int)])) : Itn w base v (l ++ [x]) := by
  unfold Itn
  rw [List.length_append, List.map_append]
  exact h
theorem Itn.shape {w : World} {base : Nat} {v : Value} {l : List Nat} (h : Itn w base v l) : ∃ B d, v = .slice B l.length d := by
  rcases h.2 with ⟨rfl, h0⟩ | ⟨g, cap, cur, rfl, _⟩
  · exact ⟨none, 0, by rw [h0]⟩
  · exact ⟨_, _, rfl⟩
theorem Itn.move {w w' : World} {base : Nat} {v : Value} {l : List Nat} (h : Itn w base v l) (k : ∀ g, base ≤ g → g < w.heap.size → w'.heap[g]? = w.heap[g]?) : Itn w' base v l := by
  refine ⟨h.1, ?_⟩
  rcases h.2 with a | ⟨g, cap, cur, rfl, hb, hh, r⟩
  · exact .inl a
  · have hr : Row w g 3 cur := hh
    exact .inr ⟨g, cap, cur, rfl, hb, (k g hb hr.lt).trans hh, r⟩
theorem Itn.below {w w' : World} {base : Nat} {v : Value} {l : List Nat} (h : Itn w base v l) (k : Below w.heap.size w w') : Itn w' base v l := h.move fun g _ hg => k.block g hg
theorem Itn.only {w w' : World} {p base : Nat} {v : Value} {l : List Nat} (h : Itn w base v l) (o : Only p w w') (hp : p < base) : Itn w' base v l := h.move fun g hg _ => o.block g (by omega)
theorem Itn.at {w : World} {base : Nat} {v : Value} {l : List Nat} (h : Itn w base v l) {j : Nat} (hj : j < l.length) : ∃ g c, v = .slice (some ⟨g, 0, none⟩) l.length c ∧ base ≤ g ∧ g < w.heap.size ∧ l.length ≤ c ∧ c ≤ maxLen ∧ w.cell? ⟨g, j, none⟩ = some (.int .i64 (l[j] : Int)) := by
  rcases h.2 with ⟨rfl, h0⟩ | ⟨g, cap, cur, rfl, hb, hh, hc, hm, hs, ht⟩
  · omega
  · have hr : Row w g 3 cur := hh
    refine ⟨g, cap, rfl, hb, hr.lt, hc, hm, ?_⟩
    have h1 : (cur.toList.take (l.length * 1))[j]? = some (.int .i64 (l[j] : Int)) := by rw [ht, List.getElem?_map, List.getElem?_eq_getElem hj]; rfl
    rw [List.getElem?_take_of_lt (by omega)] at h1
    rw [hr.cell, ← Array.getElem?_toList]
    exact h1
end Go.Proofs.YtokdhgocgicdnaaGreatDoor.Dr
