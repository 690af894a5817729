/- Are two trees the same? impl.TreeSame. -/
import Derived.Test.YtonfiahihmcmlaaTsk
import Derived.Test.YtonfiahihmcmlaaIsf
import Derived.RegionTactic
namespace Go.Proofs.Ytonfiahihmcmlaa
open Go.RowKit

/-- of the blocks ahead of B only m has turned -/
structure Nr (m B : Nat) (w w' : World) : Prop where
  os : w'.os = w.os
  tape : w'.tape = w.tape
  output : w'.output = w.output
  size : w.heap.size ≤ w'.heap.size
  block : ∀ k, k < B → k ≠ m → w'.heap[k]? = w.heap[k]?
theorem Nr.refl (m B : Nat) (w : World) : Nr m B w w := ⟨rfl, rfl, rfl, Nat.le_refl _, fun _ _ _ => rfl⟩
theorem Nr.below {m B C : Nat} {a b c : World} (h : Nr m B a b) (k : Below C b c) (hC : B ≤ C) : Nr m B a c :=
  ⟨k.os.trans h.os, k.tape.trans h.tape, k.output.trans h.output, Nat.le_trans h.size k.size, fun i h1 h2 => (k.block i (by omega)).trans (h.block i h1 h2)⟩
theorem Nr.mid {m B : Nat} {a b c : World} (h : Nr m B a b) (k : Mid m (m + 1) b c) (hb : B ≤ b.heap.size) : Nr m B a c :=
  ⟨k.os.trans h.os, k.tape.trans h.tape, k.output.trans h.output, Nat.le_trans h.size k.size, fun i h1 h2 => (k.block i (by omega) (by omega)).trans (h.block i h1 h2)⟩
theorem Nr.grown {m B : Nat} {a b c : World} {row : Option Nat} (h : Nr m B a b) (k : b.grownBy c row) (hb : B ≤ b.heap.size) (hr : ∀ g, row = some g → B ≤ g) : Nr m B a c :=
  ⟨k.os.trans h.os, k.tape.trans h.tape, k.output.trans h.output, Nat.le_trans h.size k.size, fun i h1 h2 => (k.block i (by omega) (fun e => by have := hr i e.symm; omega)).trans (h.block i h1 h2)⟩
theorem Nr.free {m B : Nat} {w w' : World} (h : Nr m B w w') {es : Array MapEntry} {c : Nat} (hm : w.heap[m]? = some (.map es c)) {b : Nat} (hf : FreeB w b) (hb : b < B) : FreeB w' b := by
  obtain ⟨x, y, hh⟩ := hf
  refine ⟨x, y, (h.block b hb ?_).trans hh⟩
  rintro rfl
  rw [hm] at hh
  cases hh
theorem Kd.near {m B : Nat} {z : Bool} {w w' : World} {lo hi : Nat} {v : Value} {ts : List TreeD} (h : Kd z w lo hi v ts) (k : Nr m B w w') (hB : hi ≤ B) {es : Array MapEntry} {c : Nat} (hm : w.heap[m]? = some (.map es c)) : Kd z w' lo hi v ts := by
  induction h with
  | mk A c ts U hl hc hs hcell sub ih =>
    refine .mk A c ts U hl hc hs (fun hp => ?_) ih
    obtain ⟨b, off, e, h1, h2, hz, hcc⟩ := hcell hp
    have hne : b ≠ m := by
      rintro rfl
      have := (hcc 0 hp).1
      simp [World.cell?, hm] at this
    have hbk := k.block b (by omega) hne
    have cell : ∀ j, w'.cell? ⟨b, j, none⟩ = w.cell? ⟨b, j, none⟩ := fun j => World.cell?_of_block (w := w) hbk
    exact ⟨b, off, e, h1, h2, (fun e => by obtain ⟨x, y, hh⟩ := hz e; exact ⟨x, y, hbk.trans hh⟩), fun i hi => by rw [cell, cell, cell]; exact hcc i hi⟩
def SmR (w5 : World) (m hi : Nat) (ra rb : List TreeD) (v6 : Value) (wr : World) (L : List Pr) (M : List (Place2 × Bool)) (D : Lists2) (cur : Option (List TreeD × List TreeD)) : Prop :=
  SmI w5 0 hi ra rb L M D cur ∧ Stp wr hi v6 L ∧ PM wr m p2V (fun x => .bool x) M ∧ Nr m hi w5 wr
theorem Stp.made (w : World) (base : Nat) (p : Pr) (hb : base ≤ w.heap.size) : Stp (w.alloc (.cells #[p.va, p.vb] 157)) base (.slice (some ⟨w.heap.size, 0, none⟩) 1 1) [p] := by
  refine ⟨by simp [flatP], .inr ⟨w.heap.size, 1, _, rfl, hb, heap_alloc_new w _, by simp, by unfold maxLen; omega, rfl, ?_⟩⟩
  simp [flatP]
theorem undSeen : Try.prog.underlying 155 = some (.map 164 4) := Try.underlying155
theorem zeroBoolT (w : World) : (zeroValue 4).run Try.prog w = .ok (.bool false) w := by kernel_rfl
theorem Try.infoTwo : (Try.prog.info? 157).map (fun i => (i.zero, i.size, i.bytes)) = some (some (.agg #[.slice none 0 0, .slice none 0 0]), 2, 48) := by kernel_rfl
theorem two_one (A B : Option Addr) (n c m d : Nat) : ∀ u ∈ [Value.slice A n c, .slice B m d], u.oneCell' = true := by
  intro u hu
  simp only [List.mem_cons, List.not_mem_nil, or_false] at hu
  rcases hu with rfl | rfl <;> rfl
theorem two_new (w : World) (a b : Value) : ∀ j u, [a, b][j]? = some u → (w.alloc (.cells #[a, b] 157)).cell? ((⟨w.heap.size, 0, none⟩ : Addr).add j) = some u :=
  World.news_of_block (cs := #[a, b]) (t := 157) (fr := (0, 0)) (heap_alloc_new _ _)

/-- what is known ahead of the loop -/
structure SmB (w w5 : World) (a b : TreeD) : Prop where
  below : Below w.heap.size w w5
  map : w5.heap[w.heap.size + 2]? = some (.map #[] 0)
  size : w5.heap.size = w.heap.size + 5
  ka : Kd true w5 0 (w.heap.size + 5) (.slice (some ⟨w.heap.size + 3, 0, none⟩) 1 1) [a]
  kb : Kd true w5 0 (w.heap.size + 5) (.slice (some ⟨w.heap.size + 4, 0, none⟩) 1 1) [b]
theorem SmB.made (w : World) (a b : TreeD) (u v : Value) (lo hi : Nat) (ha : Kd true w lo hi u a.kids) (hb : Kd true w lo hi v b.kids) (ta : TopOk a) (tb : TopOk b) (hh : hi ≤ w.heap.size) :
    SmB w (((((w.alloc (.cells #[.int .i64 a.rule, .string a.tok, u] 62)).alloc (.cells #[.int .i64 b.rule, .string b.tok, v] 62)).alloc (.map #[] 0)).alloc (.cells #[.int .i64 a.rule, .string a.tok, u] 62)).alloc (.cells #[.int .i64 b.rule, .string b.tok, v] 62)) a b := by
  have b3 := al3 w (.cells #[.int .i64 a.rule, .string a.tok, u] 62) (.cells #[.int .i64 b.rule, .string b.tok, v] 62) (.map #[] 0)
  generalize hw3 : ((w.alloc (.cells #[.int .i64 a.rule, .string a.tok, u] 62)).alloc (.cells #[.int .i64 b.rule, .string b.tok, v] 62)).alloc (.map #[] 0) = w3 at b3 ⊢
  have z3 : w3.heap.size = w.heap.size + 3 := by rw [← hw3]; simp
  have m3 : w3.heap[w.heap.size + 2]? = some (.map #[] 0) := by
    rw [← hw3]
    have := heap_alloc_new ((w.alloc (.cells #[.int .i64 a.rule, .string a.tok, u] 62)).alloc (.cells #[.int .i64 b.rule, .string b.tok, v] 62)) (.map #[] 0)
    simpa using this
  have k1 := one_kd (ha.under b3 hh) ta (by omega)
  have a4 := al1 w3 (.cells #[.int .i64 a.rule, .string a.tok, u] 62)
  have z4 : (w3.alloc (.cells #[.int .i64 a.rule, .string a.tok, u] 62)).heap.size = w.heap.size + 4 := by simp; omega
  have a5 := al1 (w3.alloc (.cells #[.int .i64 a.rule, .string a.tok, u] 62)) (.cells #[.int .i64 b.rule, .string b.tok, v] 62)
  have k2 := one_kd ((hb.under b3 hh).under a4 (by omega)) tb (by omega)
  have k1' := k1.under a5 (by omega)
  rw [z3] at k1'
  rw [z4] at k2
  have b5 := (b3.trans (a4.mono (by omega))).trans (a5.mono (by omega))
  refine ⟨b5, ?_, by simp; omega, k1'.more (Nat.le_refl _) (by omega), k2⟩
  rw [Below.heap_alloc _ _ _ (by omega), Below.heap_alloc _ _ _ (by omega)]
  exact m3
end Go.Proofs.Ytonfiahihmcmlaa
