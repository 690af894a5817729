import Derived.Test.YtokdhgocgicdnaaGreatDoorJItn
import Derived.Test.YtokdhgocgicdnaaGreatDoorJSplit
import Derived.Deep.RegionHeld3
import Derived.Test.YtokdhgocgicdnaaGreatDoorReadSc
import Derived.Test.YtokdhgocgicdnaaGreatDoorJWd5
import Derived.Test.YtokdhgocgicdnaaGreatDoorJHeadsS
import Derived.Test.YtokdhgocgicdnaaGreatDoorJReadS
import Derived.Deep.CutRange
import Derived.Deep.RegionWith
import Derived.StillTailTactics
/- One of some texts: pick. -/
namespace Go.Proofs.YtokdhgocgicdnaaGreatDoor.Dr
open Go.RowKit

theorem row_only {w w' : World} {p g : Nat} {t : TypeId} {cur : Array Value} (h : Row w g t cur) (o : Only p w w') (hg : g ≠ p) : Row w' g t cur := h.same (o.block g hg)

/-- a draw of one of some texts -/
def DrawP (w : World) (p B : Nat) (ss : List ByteArray) (e : Ending) (w' : World) : Prop := ∃ t ∈ ss, e = .returned (.string t) ∧ Src w' p B ∧ Only p w w'
set_option maxHeartbeats 1000000 in
theorem pick_any (w : World) (p B g : Nat) (ss : List ByteArray) (n : Nat) (hn : ss.length = n) (h1 : 1 ≤ n) (h2 : n ≤ 100) (hs : Src w p B) (hr : Row w g 9 (ss.map Value.string).toArray) (hg : g ≠ p) :
    Calls Tryz.prog 47 #[.pointer (some ⟨p, 0, none⟩), .slice (some ⟨g, 0, none⟩) n n] w (DrawP w p B ss) := by
  go_enter Tryz.func47, Tryz.ntmps47
  go_wp2_with fail
  refine (n_any _ p B (n : Int) hs (by omega)).mono ?_
  rintro e w1 ⟨r, rfl, hr0, hr1, hs1, ho⟩
  obtain ⟨k, rfl, hk⟩ : ∃ k : Nat, r = (k : Int) ∧ k < n := by
    by_cases h : (1 : Int) < n
    · obtain ⟨a, b⟩ := hr1 h
      exact ⟨r.toNat, by omega, by omega⟩
    · exact ⟨0, hr0 (by omega), by omega⟩
  have hc : w1.cell? ⟨g, k, none⟩ = some (.string (ss[k]'(by omega))) := by
    rw [(row_only hr ho hg).cell]
    simp [hn, hk]
  have i1 : (k : Int) < (n : Int) := by omega
  have HO := Lib.hid ho
  have HN := Lib.hid hn
  clear hr0 hr1 ho hr
  go_wp2
  go_ret
  exact ⟨_, List.getElem_mem _, rfl, hs1, HO.out⟩

/-- a draw of a text that is not long -/
def DrawT (w : World) (M : Nat) (e : Ending) (w' : World) : Prop := ∃ t : ByteArray, e = .returned (.string t) ∧ t.size ≤ M ∧ Below w.heap.size w w'
theorem size_all {ss : List ByteArray} {M : Nat} (h : (ss.all fun s => decide (s.size ≤ M)) = true) {t : ByteArray} (ht : t ∈ ss) : t.size ≤ M := by
  have := List.all_eq_true.1 h t ht
  simpa using this
end Go.Proofs.YtokdhgocgicdnaaGreatDoor.Dr

/- The marks that a law lays into memory to see who shares it: markText, markStringS. -/
namespace Go.Proofs.YtokdhgocgicdnaaGreatDoor
open Go.RowKit
open Tx (Bts bv bs)

def digF : Nat → Nat → List UInt8 → List UInt8
  | 0, _, out => out
  | f + 1, k, out => if k = 0 then out else digF f (k / 10) (UInt8.ofNat (48 + k % 10) :: out)
/-- the mark of a number -/
def mt (k : Nat) : ByteArray := bs (109 :: digF 20 k [])
theorem digF_zero (f : Nat) (out : List UInt8) : digF f 0 out = out := by cases f <;> simp [digF]
theorem digF_go {f k : Nat} {out : List UInt8} (h : 0 < k) : digF (f + 1) k out = digF f (k / 10) (UInt8.ofNat (48 + k % 10) :: out) := by simp [digF, show ¬ k = 0 by omega]
theorem digF_len (f k : Nat) (out : List UInt8) : (digF f k out).length ≤ out.length + f := by
  induction f generalizing k out with
  | zero => simp [digF]
  | succ f ih =>
    unfold digF
    split
    · omega
    · have := ih (k / 10) (UInt8.ofNat (48 + k % 10) :: out)
      simp only [List.length_cons] at this
      omega
theorem mt_size (k : Nat) : (mt k).size ≤ 21 := by
  have := digF_len 20 k []
  unfold mt
  rw [Tx.bs_size]
  simp only [List.length_cons, List.length_nil] at this ⊢
  omega

theorem ret_strM {a b : ByteArray} (h : a = b) : Ending.returned (.string a) = .returned (.string b) := by rw [h]
theorem conv_one (W : World) (c : UInt8) : (convert 22 9 (.slice (some ⟨W.heap.size, 0, none⟩) 1 1)).run Tryz.prog (W.alloc (.cells #[.int .u8 (c.toNat : Int)] 5)) = .ok (.string (bs [c])) (W.alloc (.cells #[.int .u8 (c.toNat : Int)] 5)) :=
  Tx.Bts.conv (base := W.heap.size) (l := [c]) (World.ownsRow_lit W #[.int .u8 (c.toNat : Int)] 1 (Nat.le_refl _) (by unfold maxLen; omega) rfl)

/-- the marks of n numbers from k on -/
def marks (k n : Nat) : List ByteArray := (List.range n).map fun i => mt (k + i)
theorem marks_len (k n : Nat) : (marks k n).length = n := by simp [marks]
theorem marks_at {k n i : Nat} (h : i < (marks k n).length) : (marks k n)[i] = mt (k + i) := by simp [marks]
theorem marks_size {k n : Nat} : ∀ s ∈ marks k n, s.size ≤ maxLen := by
  intro s hs
  obtain ⟨i, _, rfl⟩ := List.mem_map.1 hs
  have := mt_size (k + i)
  unfold maxLen; omega

end Go.Proofs.YtokdhgocgicdnaaGreatDoor

/- A text that is changed a little: spoil. -/
namespace Go.Proofs.YtokdhgocgicdnaaGreatDoor.Dr
open Go.RowKit

theorem Src.drewN {w : World} {p B : Nat} (h : Src w p B) (n : Nat) : Src (w.drewN n) p B := by
  obtain ⟨hB, a, len, cap, at_, mix, size, S⟩ := h
  exact ⟨hB, a, len, cap, at_, mix, size, S.drewN n⟩
theorem grw_drewN {p : Nat} {w w1 : World} (h : w.grownBy w1 (some p)) (n : Nat) : w.grownBy (w1.drewN n) (some p) := ⟨h.os, h.tape, h.output, h.size, h.block⟩
def DrawS (w : World) (p B M : Nat) (e : Ending) (w' : World) : Prop := ∃ t : ByteArray, e = .returned (.string t) ∧ t.size ≤ M ∧ Src w' p B ∧ w.grownBy w' (some p)

end Go.Proofs.YtokdhgocgicdnaaGreatDoor.Dr

/- What stands while a law draws a grammar: the source, the boxes, the list of heads. -/
namespace Go.Proofs.YtokdhgocgicdnaaGreatDoor
open Go.RowKit
theorem Row.heap {w w' : World} {g : Nat} {t : TypeId} {cur : Array Value} (h : Row w g t cur) (e : w'.heap = w.heap) : Row w' g t cur := h.same (by rw [e])
theorem Full.heap {w w' : World} {base : Nat} {v : Value} {xs : List (RuleD × Value × Nat)} (h : Full w base v xs) (e : w'.heap = w.heap) : Full w' base v xs := h.move (by rw [e]; exact Nat.le_refl _) (fun _ _ => by rw [e]) (fun _ _ _ => by rw [e])
theorem Sts.heap {w w' : World} {base : Nat} {v : Value} {ss : List ByteArray} (h : Sts w base v ss) (e : w'.heap = w.heap) : Sts w' base v ss := h.same fun _ _ => by rw [e]
namespace Dr
theorem Src.heap {w w' : World} {p B : Nat} (h : Src w p B) (e : w'.heap = w.heap) : Src w' p B := h.only fun k _ => by rw [e]

def headsA : Array Value := #[.string ⟨#[83]⟩, .string ⟨#[65]⟩, .string ⟨#[66]⟩]
/-- the frame of the draw of a grammar: source, own box at W, the grammar's box, the heads -/
structure Fr (W : Nat) (w : World) (p B : Nat) (v : Value) (wr : World) : Prop where
  src : Src wr p B
  grw : w.grownBy wr (some p)
  box : Row wr W 25 #[.slice none 0 0]
  gram : Row wr (W + 1) 25 #[v]
  heads : Row wr (W + 2) 9 headsA
theorem Fr.only {W : Nat} {w wr wr' : World} {p B : Nat} {v : Value} (h : Fr W w p B v wr) (o : Only p wr wr') (s : Src wr' p B) (hp : p < W) : Fr W w p B v wr' :=
  ⟨s, grw_trans h.grw o.grown, h.box.same (o.block _ (by omega)), h.gram.same (o.block _ (by omega)), h.heads.same (o.block _ (by omega))⟩
theorem Fr.own {W : Nat} {w wr wr' : World} {p B : Nat} {v : Value} {row : Option Nat} (h : Fr W w p B v wr) (g : wr.grownBy wr' row) (hr : ∀ k, row = some k → W + 3 ≤ k) (hp : p < W) (hW : W = w.heap.size) : Fr W w p B v wr' := by
  have k1 := h.heads.lt
  have e : ∀ k, k < W + 3 → wr'.heap[k]? = wr.heap[k]? := fun k hk => g.block k (by omega) (fun e => by have := hr k e.symm; omega)
  have hB := h.src.1
  exact ⟨h.src.only fun k hk => e k (by omega), grw_own h.grw g (fun k hk => by have := hr k hk; omega), h.box.same (e _ (by omega)), h.gram.same (e _ (by omega)), h.heads.same (e _ (by omega))⟩
theorem Fr.alloc {W : Nat} {w wr : World} {p B : Nat} {v : Value} (h : Fr W w p B v wr) (o : Obj) (hp : p < W) (hW : W = w.heap.size) : Fr W w p B v (wr.alloc o) := h.own (World.grownBy_alloc wr o none) (fun _ e => by cases e) hp hW
theorem grw_set {p : Nat} {w wr : World} {q : Addr} (h : w.grownBy wr (some p)) (hq : w.heap.size ≤ q.block) (u : Value) : w.grownBy (wr.setCell q u) (some p) :=
  ⟨h.os, h.tape, h.output, by simp [World.setCell]; exact h.size, fun k hk hne => (Below.heap_setCell _ _ _ _ (by omega)).trans (h.block k hk hne)⟩
theorem Fr.set {W : Nat} {w wr : World} {p B : Nat} {v : Value} (h : Fr W w p B v wr) {q : Addr} (hq : W + 3 ≤ q.block) (u : Value) (hp : p < W) (hW : W = w.heap.size) : Fr W w p B v (wr.setCell q u) := by
  have hB := h.src.1
  have e : ∀ k, k < W + 3 → (wr.setCell q u).heap[k]? = wr.heap[k]? := fun k hk => Below.heap_setCell _ _ _ _ (by omega)
  exact ⟨h.src.only fun k hk => e k (by omega), grw_set h.grw (by omega) u, h.box.same (e _ (by omega)), h.gram.same (e _ (by omega)), h.heads.same (e _ (by omega))⟩
theorem Fr.put {W : Nat} {w wr : World} {p B : Nat} {v : Value} (h : Fr W w p B v wr) (u : Value) (hp : p < W) (hW : W = w.heap.size) : Fr W w p B u (wr.setCell ⟨W + 1, 0, none⟩ u) := by
  have hB := h.src.1
  have e : ∀ k, k ≠ W + 1 → (wr.setCell ⟨W + 1, 0, none⟩ u).heap[k]? = wr.heap[k]? := fun k hk => Below.heap_setCell _ _ _ _ hk
  exact ⟨h.src.only fun k hk => e k (by omega), grw_set h.grw (by show w.heap.size ≤ W + 1; omega) u, h.box.same (e _ (by omega)), by simpa using h.gram.put 0 u, h.heads.same (e _ (by omega))⟩
theorem Full.only {w w' : World} {p base : Nat} {v : Value} {xs : List (RuleD × Value × Nat)} (h : Full w base v xs) (o : Only p w w') (hp : p < base) : Full w' base v xs :=
  h.move (Nat.le_of_eq o.size.symm) (fun g hg => o.block g (by have := (h.1.lt g hg).1; omega)) (fun x hx hn => o.block _ (by have := ((h.2.1 x hx).2.2 hn).1; omega))
theorem Sts.only {w w' : World} {p base : Nat} {v : Value} {ss : List ByteArray} (h : Sts w base v ss) (o : Only p w w') (hp : p < base) : Sts w' base v ss :=
  h.same fun g hg => o.block g (by have := (World.ownsRow.lt h g hg).1; omega)

/-- a grammar that a draw has made -/
def DrawG (w : World) (p B : Nat) (e : Ending) (w' : World) : Prop := ∃ v xs, e = .returned (.agg #[v]) ∧ Full w' w.heap.size v xs ∧ 1 ≤ xs.length ∧ xs.length ≤ 20 ∧ (∀ x ∈ xs, x.1.body.length ≤ 5) ∧ (∀ x, xs.head? = some x → x.1.body = [] → x.2.1 = .slice none 0 0) ∧ Src w' p B ∧ w.grownBy w' (some p)

/-- the texts of which one is drawn -/
def eight : List ByteArray := [⟨#[69, 32, 45, 62, 32, 69, 32, 112, 32, 84, 10, 69, 32, 45, 62, 32, 84, 10, 84, 32, 45, 62, 32, 84, 32, 109, 32, 70, 10, 84, 32, 45, 62, 32, 70, 10, 70, 32, 45, 62, 32, 108, 32, 69, 32, 114, 10, 70, 32, 45, 62, 32, 110, 10]⟩, ⟨#[83, 32, 45, 62, 32, 65, 32, 97, 10, 83, 32, 45, 62, 32, 98, 10, 65, 32, 45, 62, 32, 65, 32, 99, 10, 65, 32, 45, 62, 32, 83, 32, 100, 10, 65, 32, 45, 62, 32, 126, 10]⟩, ⟨#[83, 32, 45, 62, 32, 65, 32, 66, 10, 65, 32, 45, 62, 32, 126, 10, 65, 32, 45, 62, 32, 97, 32, 65, 10, 66, 32, 45, 62, 32, 98, 10, 66, 32, 45, 62, 32, 126, 10]⟩, ⟨#[83, 32, 45, 62, 32, 83, 32, 83, 10, 83, 32, 45, 62, 32, 97, 10, 83, 32, 45, 62, 32, 126, 10]⟩, ⟨#[83, 32, 45, 62, 32, 66, 32, 97, 10, 66, 32, 45, 62, 32, 67, 32, 98, 10, 67, 32, 45, 62, 32, 83, 32, 99, 10, 67, 32, 45, 62, 32, 100, 10]⟩, ⟨#[83, 32, 45, 62, 32, 83, 32, 97, 10, 83, 32, 45, 62, 32, 65, 10, 65, 32, 45, 62, 32, 98, 32, 65, 10, 65, 32, 45, 62, 32, 98, 10]⟩, ⟨#[65, 32, 45, 62, 32, 66, 10, 66, 32, 45, 62, 32, 65, 10, 65, 32, 45, 62, 32, 97, 10]⟩, ⟨#[76, 32, 45, 62, 32, 76, 32, 99, 32, 69, 10, 76, 32, 45, 62, 32, 69, 10, 69, 32, 45, 62, 32, 110, 10, 69, 32, 45, 62, 32, 108, 32, 76, 32, 114, 10, 69, 32, 45, 62, 32, 108, 32, 114, 10]⟩]
def fit (t : ByteArray) : Bool := decide (1 ≤ (readOut t).1.length) && decide ((readOut t).1.length ≤ 20) && (readOut t).1.all (fun r => decide (r.body.length ≤ 5)) && ((readOut t).1.head?.all fun r => !r.body.isEmpty)
set_option maxRecDepth 100000 in
theorem eight_fit : (eight.all fit) = true := by decide +kernel
end Dr
end Go.Proofs.YtokdhgocgicdnaaGreatDoor

/- The draw of a text that a head comes to: l04Word, whole. -/
namespace Go.Proofs.YtokdhgocgicdnaaGreatDoor.Dr
open Go.RowKit
open Go.Proofs.YtokdhgocgicdnaaGreatDoor

theorem _root_.Go.Proofs.YtokdhgocgicdnaaGreatDoor.Rules.cells {w : World} {lo hi b off c : Nat} {rs : List RuleD} (h : Rules w lo hi (.slice (some ⟨b, off, none⟩) rs.length c) rs) {j : Nat} (hj : j < rs.length) : lo ≤ b ∧ b < hi ∧ w.cell? ⟨b, off + j * 2, none⟩ = some (.string rs[j].head) ∧
    ∃ B d, w.cell? ⟨b, off + j * 2 + 1, none⟩ = some (.slice B rs[j].body.length d) ∧ Strs w lo hi (.slice B rs[j].body.length d) rs[j].body := by
  obtain ⟨A', c', e, h1, h2, h3⟩ := h
  injection e with e1 _ e2
  obtain ⟨b', off', e3, h4, h5, h6⟩ := h3 (by omega)
  rw [e3] at e1
  injection e1 with e1
  injection e1 with e4 e5
  subst e4 e5
  obtain ⟨h7, h8, u, h9, h10⟩ := h6 j hj
  have h10' := h10
  obtain ⟨B, d, rfl, _⟩ := h10
  exact ⟨h4, h5, h8, B, d, h9, h10'⟩
theorem keeps_grown {w w' : World} {p lo hi : Nat} (g : w.grownBy w' (some p)) (hp : p < lo) (hh : hi ≤ w.heap.size) : Keeps lo hi w w' := fun k h1 h2 => g.block k (by omega) (fun e => by injection e with e; omega)
theorem grw_bel {p : Nat} {w w1 w2 : World} (h : w.grownBy w1 (some p)) (b : Below w1.heap.size w1 w2) : w.grownBy w2 (some p) := grw_trans h ⟨b.os, b.tape, b.output, b.size, fun k hk _ => b.block k hk⟩
theorem grw_drew {p : Nat} {w w1 : World} (h : w.grownBy w1 (some p)) : w.grownBy w1.drew (some p) := ⟨h.os, h.tape, h.output, h.size, h.block⟩
theorem sts_some {w : World} {base : Nat} {v : Value} {ss : List ByteArray} (h : Sts w base v ss) (hn : v ≠ .slice none 0 0) : ∃ g c, v = .slice (some ⟨g, 0, none⟩) ss.length c := by
  rcases h.2 with ⟨e, _⟩ | ⟨g, cap, cur, e, _⟩
  · exact absurd e hn
  · exact ⟨g, cap, e⟩
theorem sts_news {w : World} {base g c : Nat} {ss : List ByteArray} (h : Sts w base (.slice (some ⟨g, 0, none⟩) ss.length c) ss) : ∀ j u, (ss.map Value.string)[j]? = some u → w.cell? ((⟨g, 0, none⟩ : Addr).add j) = some u := by
  intro j u hu
  rcases h.2 with ⟨e, _⟩ | ⟨g', cap, cur, e, hb, hh, hc, hm, hs, ht⟩
  · cases e
  · injection e with e1 _ _
    injection e1 with e1
    injection e1 with e1
    subst e1
    have hj : j < ss.length := by
      rcases Nat.lt_or_ge j ss.length with h1 | h1
      · exact h1
      · rw [List.getElem?_eq_none (by simpa using h1)] at hu; cases hu
    have hr : Row w g 9 cur := hh
    have h1 : (cur.toList.take (ss.length * 1))[j]? = some u := by rw [ht]; exact hu
    rw [List.getElem?_take_of_lt (by omega)] at h1
    have e2 : (⟨g, 0, none⟩ : Addr).add j = ⟨g, j, none⟩ := by unfold Addr.add; split <;> simp_all
    rw [e2, hr.cell, ← Array.getElem?_toList]
    exact h1
theorem strs_at {w : World} {lo hi : Nat} {A : Option Addr} {c : Nat} {ss : List ByteArray} (h : Strs w lo hi (.slice A ss.length c) ss) {j : Nat} (hj : j < ss.length) : ∃ b off, A = some ⟨b, off, none⟩ ∧ b < hi ∧ ss.length ≤ c ∧ c ≤ maxLen ∧ w.cell? ⟨b, off + j, none⟩ = some (.string ss[j]) := by
  obtain ⟨A', c', e, h1, h2, _, h3⟩ := h
  injection e with e1 _ e2
  subst e1 e2
  obtain ⟨b, off, rfl, _, h5, h6⟩ := h3 (by omega)
  exact ⟨b, off, rfl, h5, h1, h2, h6 j hj⟩
theorem strs_one (ss : List ByteArray) : ∀ u ∈ ss.map Value.string, u.oneCell' = true := by
  intro u hu
  obtain ⟨s, _, rfl⟩ := List.mem_map.1 hu
  rfl
theorem Sts.both {w : World} {base : Nat} {v : Value} {ss ts : List ByteArray} (h : w.ownsRow base 9 1 v (ss.length + ts.length) (ss.map Value.string ++ ts.map Value.string)) : Sts w base v (ss ++ ts) := by
  unfold Sts
  rw [List.length_append, List.map_append]
  exact h
theorem row_two {w : World} {q : Nat} {t : TypeId} {a b x y : Value} (h : Row w q t #[a, b]) : Row ((w.setCell ⟨q, 0, none⟩ x).setCell ⟨q, 1, none⟩ y) q t #[x, y] := by
  simpa using (h.put 0 x).put 1 y

/-- what stands while a text is drawn: the source, the grammar's box, the numbers of the head's rules -/
structure WdP (w : World) (p B : Nat) (g lv : Value) (L : List Nat) (wx : World) : Prop where
  src : Src wx p B
  grw : w.grownBy wx (some p)
  gram : Row wx w.heap.size 25 #[g]
  nums : Itn wx (w.heap.size + 1) lv L
section
variable {w wx wy : World} {p B : Nat} {g lv : Value} {L : List Nat}
theorem WdP.lt (h : WdP w p B g lv L wx) : w.heap.size < wx.heap.size := h.gram.lt
theorem WdP.only (h : WdP w p B g lv L wx) (o : Only p wx wy) (s : Src wy p B) (hp : p < w.heap.size) : WdP w p B g lv L wy :=
  ⟨s, grw_trans h.grw o.grown, row_only h.gram o (by omega), h.nums.only o (by omega)⟩
theorem WdP.next (h : WdP w p B g lv L wx) (b : Below wx.heap.size wx wy) : WdP w p B g lv L wy :=
  ⟨h.src.only fun k hk => b.block k (by have := h.src.1; have := h.src.lt; omega), grw_bel h.grw b, h.gram.below b h.lt, h.nums.below b⟩
theorem WdP.set (h : WdP w p B g lv L wx) {q i : Nat} {r : Array Value} (hr : Row wx q 45 r) (hq : w.heap.size < q) (u : Value) (hp : p < w.heap.size) : WdP w p B g lv L (wx.setCell ⟨q, i, none⟩ u) :=
  ⟨h.src.only fun k hk => Below.heap_setCell _ _ _ _ (by show k ≠ q; have := h.src.1; omega), grw_set h.grw (by show w.heap.size ≤ q; omega) u, h.gram.away (by show w.heap.size ≠ q; omega) u,
    ⟨h.nums.1, by
      rcases h.nums.2 with a | ⟨g', cap, cur, rfl, hb, hh, x⟩
      · exact .inl a
      · have hr' : Row wx g' 3 cur := hh
        exact .inr ⟨g', cap, cur, rfl, hb, (Below.heap_setCell _ _ _ _ (by show g' ≠ q; exact hr'.apart hr (by decide))).trans hh, x⟩⟩⟩
theorem WdP.drew (h : WdP w p B g lv L wx) : WdP w p B g lv L wx.drew := ⟨h.src.heap rfl, grw_drew h.grw, h.gram, h.nums⟩
end
/-- and a rule that was chosen, in a box of its own -/
def WdB (w : World) (p B lo hi : Nat) (rs : List RuleD) (g lv : Value) (L : List Nat) (q : Nat) (wx : World) : Prop :=
  WdP w p B g lv L wx ∧ w.heap.size < q ∧ ∃ j, ∃ hj : j < rs.length, ∃ Bb db, Row wx q 45 #[.string rs[j].head, .slice Bb rs[j].body.length db] ∧ Strs w lo hi (.slice Bb rs[j].body.length db) rs[j].body
end Go.Proofs.YtokdhgocgicdnaaGreatDoor.Dr

/- What stands while a tree is drawn. -/
namespace Go.Proofs.YtokdhgocgicdnaaGreatDoor.Dr
open Go.RowKit
open Go.Proofs.YtokdhgocgicdnaaGreatDoor

/-- a tree that a draw has made, and whether it is one -/
def DrawTr (w : World) (p B n : Nat) (e : Ending) (w' : World) : Prop :=
  ∃ t u b, e = .returned (.tuple #[trV t u, .bool b]) ∧ TopOk t ∧ bulkT t ≤ n ∧ KidsR w' w.heap.size u t.kids ∧ Src w' p B ∧ w.grownBy w' (some p)
theorem topOk_zero : TopOk (.node 0 ⟨#[]⟩ []) := ⟨by show (⟨#[]⟩ : ByteArray).size ≤ maxLen; unfold maxLen; decide, by show (-9223372036854775808 : Int) ≤ 0; omega, by show (0 : Int) ≤ _; omega⟩
theorem DrawTr.zero {w wx : World} {p B : Nat} (n : Nat) (s : Src wx p B) (g : w.grownBy wx (some p)) : DrawTr w p B n (.returned (.tuple #[.agg #[.int .i64 0, .string ⟨#[]⟩, .slice none 0 0], .bool false])) wx :=
  ⟨.node 0 ⟨#[]⟩ [], .slice none 0 0, false, rfl, topOk_zero, by show bulkT (.node 0 ⟨#[]⟩ []) ≤ n; simp only [bulkT, bulkTs]; exact Nat.zero_le _, KidsR.nil wx _, s, g⟩
theorem DrawTr.leaf {w wx : World} {p B n : Nat} {sym : ByteArray} (h4 : sym.size ≤ 4) (hn : 4 ≤ n) (s : Src wx p B) (g : w.grownBy wx (some p)) : DrawTr w p B n (.returned (.tuple #[.agg #[.int .i64 (-1), .string sym, .slice none 0 0], .bool true])) wx :=
  ⟨.node (-1) sym [], .slice none 0 0, true, rfl, ⟨by show sym.size ≤ maxLen; unfold maxLen; omega, by show (-9223372036854775808 : Int) ≤ -1; omega, by show (-1 : Int) ≤ _; omega⟩, by show bulkT (.node (-1) sym []) ≤ n; simp [bulkT, bulkTs]; omega, KidsR.nil wx _, s, g⟩
/-- the source, the grammar's box, the box of the tree, and its Kids so far -/
structure TrI (w : World) (p B : Nat) (g : Value) (q : Nat) (r : Int) (kv : Value) (xs : List (TreeD × Value)) (wx : World) : Prop where
  src : Src wx p B
  grw : w.grownBy wx (some p)
  gram : Row wx w.heap.size 25 #[g]
  res : Row wx (w.heap.size + 1) 29 #[.int .i64 0, .string ⟨#[]⟩, .slice none 0 0]
  qb : w.heap.size + 1 < q
  box : Row wx q 29 #[.int .i64 r, .string ⟨#[]⟩, kv]
  kids : KidsX wx (q + 1) kv xs
section
variable {w wx wy : World} {p B q lo hi : Nat} {g kv kv' u : Value} {r : Int} {xs : List (TreeD × Value)} {x : TreeD}
theorem TrI.drew (h : TrI w p B g q r kv xs wx) : TrI w p B g q r kv xs wx.drew := ⟨h.src.heap rfl, grw_drew h.grw, h.gram, h.res, h.qb, h.box, h.kids.move (Nat.le_refl _) fun _ _ _ => rfl⟩
theorem TrI.grown (h : TrI w p B g q r kv xs wx) (s : Src wy p B) (k : wx.grownBy wy (some p)) (hp : p < w.heap.size) : TrI w p B g q r kv xs wy := by
  have hq := h.qb
  have e : ∀ i, w.heap.size ≤ i → i < wx.heap.size → wy.heap[i]? = wx.heap[i]? := fun i h1 h2 => k.block i h2 (fun e => by injection e with e; omega)
  exact ⟨s, grw_trans h.grw k, h.gram.same (e _ (Nat.le_refl _) h.gram.lt), h.res.same (e _ (by omega) h.res.lt), h.qb, h.box.same (e _ (by omega) h.box.lt), h.kids.move k.size fun i h1 h2 => e i (by omega) h2⟩
theorem TrI.next (h : TrI w p B g q r kv xs wx) (b : Below wx.heap.size wx wy) (hp : p < w.heap.size) : TrI w p B g q r kv xs wy :=
  h.grown (h.src.only fun k hk => b.block k (by have := h.src.1; have := h.src.lt; omega)) ⟨b.os, b.tape, b.output, b.size, fun k hk _ => b.block k hk⟩ hp
/-- one tree more: the list is grown, the box is told -/
theorem TrI.push {g' cap : Nat} (h : TrI w p B g q r kv xs wx) (hp : p < w.heap.size) (ht : TopOk x) (hk : Kd true wx lo hi u x.kids) (h1 : q + 1 ≤ lo) (h2 : hi ≤ wx.heap.size)
    (h3 : ∀ b, kv.ownBlock = some b → b < lo ∨ hi ≤ b) (ho : wy.ownsRow (q + 1) 29 3 (.slice (some ⟨g', 0, none⟩) (xs.length + 1) cap) (xs.length + 1) (flatT xs ++ [.int .i64 x.rule, .string x.tok, u]))
    (hg : wx.grownBy wy kv.ownBlock) (hl : kv.ownBlock = some g' ∨ g' = wx.heap.size) :
    TrI w p B g q r (.slice (some ⟨g', 0, none⟩) (xs.length + 1) cap) (xs ++ [(x, u)]) (wy.setCell ⟨q, 2, none⟩ (.slice (some ⟨g', 0, none⟩) (xs.length + 1) cap)) := by
  have hq := h.qb
  have own := fun b e => h.kids.own (g := b) e
  have hB := h.src.1
  have hsl := h.src.lt
  have hgs := h.grw.size
  have e1 : ∀ i, i < q + 1 → i < wx.heap.size → wy.heap[i]? = wx.heap[i]? := fun i i1 i2 => hg.block i i2 (fun e => by have := (own _ e.symm).1; omega)
  have e2 : ∀ i, i ≠ q → (wy.setCell ⟨q, 2, none⟩ (.slice (some ⟨g', 0, none⟩) (xs.length + 1) cap)).heap[i]? = wy.heap[i]? := fun i hi => Below.heap_setCell _ _ _ _ hi
  refine ⟨h.src.only fun k hk => ?_, grw_set (grw_own h.grw hg (fun k e => by have := (own _ e).1; omega)) (by show w.heap.size ≤ q; omega) _, h.gram.same ((e2 _ (by omega)).trans (e1 _ (by omega) h.gram.lt)), h.res.same ((e2 _ (by omega)).trans (e1 _ (by omega) h.res.lt)), hq, ?_, ?_⟩
  · exact (e2 k (by omega)).trans (e1 k (by omega) (by omega))
  · have := (h.box.same (e1 q (by omega) h.box.lt)).put 2 (.slice (some ⟨g', 0, none⟩) (xs.length + 1) cap)
    simpa using this
  · exact (h.kids.push ht hk h1 h2 h3 ho hg hl).move (by simp [World.setCell]) fun i h1 _ => e2 i (by omega)
end
/-- the three cells of a box are written -/
theorem set3_heap (w : World) (b : Nat) (x y z : Value) (k : Nat) (hk : k ≠ b) : (((w.setCell ⟨b, 0, none⟩ x).setCell ⟨b, 1, none⟩ y).setCell ⟨b, 2, none⟩ z).heap[k]? = w.heap[k]? :=
  (Below.heap_setCell _ _ _ _ (by exact hk)).trans ((Below.heap_setCell _ _ _ _ (by exact hk)).trans (Below.heap_setCell _ _ _ _ (by exact hk)))
theorem set3_size (w : World) (b : Nat) (x y z : Value) : (((w.setCell ⟨b, 0, none⟩ x).setCell ⟨b, 1, none⟩ y).setCell ⟨b, 2, none⟩ z).heap.size = w.heap.size := by simp [World.setCell]
theorem set3_grw {p : Nat} {w wx : World} {b : Nat} (h : w.grownBy wx (some p)) (hb : w.heap.size ≤ b) (x y z : Value) : w.grownBy (((wx.setCell ⟨b, 0, none⟩ x).setCell ⟨b, 1, none⟩ y).setCell ⟨b, 2, none⟩ z) (some p) :=
  grw_set (grw_set (grw_set h hb x) hb y) hb z
theorem set3_src {p B : Nat} {wx : World} {b : Nat} (h : Src wx p B) (hb : p < b) (x y z : Value) : Src (((wx.setCell ⟨b, 0, none⟩ x).setCell ⟨b, 1, none⟩ y).setCell ⟨b, 2, none⟩ z) p B :=
  h.only fun k hk => set3_heap _ _ _ _ _ _ (by have := h.1; omega)
theorem set3_row {w : World} {b : Nat} {t : TypeId} {a1 a2 a3 : Value} (h : Row w b t #[a1, a2, a3]) (x y z : Value) : Row (((w.setCell ⟨b, 0, none⟩ x).setCell ⟨b, 1, none⟩ y).setCell ⟨b, 2, none⟩ z) b t #[x, y, z] := by
  simpa using ((h.put 0 x).put 1 y).put 2 z
/-- the tree is told: its box is read into the result's -/
theorem TrI.fin {w wx : World} {p B q n : Nat} {g kv : Value} {j : Nat} {xs : List (TreeD × Value)} (h : TrI w p B g q (j : Int) kv xs wx) (hp : p < w.heap.size) (hj : j ≤ 100) (hn : bulkTs (xs.map (·.1)) ≤ n) :
    DrawTr w p B n (.returned (.tuple #[.agg #[.int .i64 (j : Int), .string ⟨#[]⟩, kv], .bool true])) (((wx.setCell ⟨w.heap.size + 1, 0, none⟩ (.int .i64 (j : Int))).setCell ⟨w.heap.size + 1, 1, none⟩ (.string ⟨#[]⟩)).setCell ⟨w.heap.size + 1, 2, none⟩ kv) := by
  have hq := h.qb
  refine ⟨.node j ⟨#[]⟩ (xs.map (·.1)), kv, true, rfl, ⟨by show (⟨#[]⟩ : ByteArray).size ≤ maxLen; unfold maxLen; decide, by show (-9223372036854775808 : Int) ≤ (j : Int); omega, by show (j : Int) ≤ _; omega⟩, ?_, ?_, set3_src h.src (by omega) _ _ _, set3_grw h.grw (by omega) _ _ _⟩
  · show bulkT (.node j ⟨#[]⟩ (xs.map (·.1))) ≤ n
    have : (⟨#[]⟩ : ByteArray).size = 0 := by decide
    simp only [bulkT, this]; omega
  · refine ⟨xs, rfl, (h.kids.move (by rw [set3_size]; exact Nat.le_refl _) fun i h1 _ => set3_heap _ _ _ _ _ _ (by omega)).lower (by omega)⟩
theorem bulkTs_snoc (ts : List TreeD) (t : TreeD) : bulkTs (ts ++ [t]) = bulkTs ts + (1 + bulkT t) := by rw [bulkTs_append]; simp [bulkTs]
end Go.Proofs.YtokdhgocgicdnaaGreatDoor.Dr
