import Derived.Test.YtiochjagolijfaaJTrt
import Derived.Test.YtiochjagolijfaaJSsz
import Derived.Test.YtiochjagolijfaaEq
/- A tree that came in, laid anew, on: toTreeS, toTree. -/
namespace Go.Proofs.Ytiochjagolijfaa
open Go.RowKit

theorem Try.infoTree : (Try.prog.info? 59).map (fun i => (i.zero, i.size, i.bytes)) = some (some (.agg #[.int .i64 0, .string ByteArray.empty, .slice none 0 0]), 3, 48) := by kernel_rfl

/-- k of the trees are laid in block g, their Kids in blocks behind it -/
def BuildT (w : World) (g : Nat) (ts : List TreeD) (k : Nat) : Prop :=
  ∃ (cur : Array Value) (U : Nat → Value), Row w g 59 cur ∧ cur.size = ts.length * 3 ∧
    (∀ i (h : i < ts.length), i < k → cur[i * 3]? = some (.int .i64 ts[i].rule) ∧ cur[i * 3 + 1]? = some (.string ts[i].tok) ∧ cur[i * 3 + 2]? = some (U i) ∧ OwnK w (g + 1) w.heap.size (U i) ts[i].kids)
theorem BuildT.start (w : World) (ts : List TreeD) (z : Array Value) : BuildT (w.alloc (.cells (madeCells z (ts.length * 3)) 59)) w.heap.size ts 0 :=
  ⟨_, fun _ => .tuple #[], Row.made w _ _, size_madeCells _ _, fun _ _ h => by omega⟩
theorem BuildT.row {w : World} {g k : Nat} {ts : List TreeD} (h : BuildT w g ts k) : ∃ cur, Row w g 59 cur ∧ cur.size = ts.length * 3 := by
  obtain ⟨cur, G, h1, h2, _⟩ := h
  exact ⟨cur, h1, h2⟩
theorem BuildT.step {w w1 : World} {g k : Nat} {ts : List TreeD} {u : Value} (h : BuildT w g ts k) (hk : k < ts.length) (hb : Below w.heap.size w w1) (ho : OwnK w1 w.heap.size w1.heap.size u ts[k].kids) :
    BuildT (((w1.setCell ⟨g, k * 3, none⟩ (.int .i64 ts[k].rule)).setCell ⟨g, k * 3 + 1, none⟩ (.string ts[k].tok)).setCell ⟨g, k * 3 + 2, none⟩ u) g ts (k + 1) := by
  obtain ⟨cur, U, hr, hs, hc⟩ := h
  have hgl := hr.lt
  have hws := hb.size
  have r1 := (((hr.below hb hgl).put (k * 3) (.int .i64 ts[k].rule)).put (k * 3 + 1) (.string ts[k].tok)).put (k * 3 + 2) u
  have hsz : (((w1.setCell ⟨g, k * 3, none⟩ (.int .i64 ts[k].rule)).setCell ⟨g, k * 3 + 1, none⟩ (.string ts[k].tok)).setCell ⟨g, k * 3 + 2, none⟩ u).heap.size = w1.heap.size := by simp [World.setCell]
  have hot : ∀ p, p ≠ g → (((w1.setCell ⟨g, k * 3, none⟩ (.int .i64 ts[k].rule)).setCell ⟨g, k * 3 + 1, none⟩ (.string ts[k].tok)).setCell ⟨g, k * 3 + 2, none⟩ u).heap[p]? = w1.heap[p]? := fun p hp => by
    rw [Below.heap_setCell _ _ _ _ (by exact hp), Below.heap_setCell _ _ _ _ (by exact hp), Below.heap_setCell _ _ _ _ (by exact hp)]
  refine ⟨_, fun i => if i = k then u else U i, r1, by simp [hs], fun i hi hik => ?_⟩
  by_cases e : i = k
  · subst e
    refine ⟨?_, ?_, ?_, ?_⟩
    · rw [Array.getElem?_setIfInBounds_ne (by omega), Array.getElem?_setIfInBounds_ne (by omega), Array.getElem?_setIfInBounds_self_of_lt (by omega)]
    · rw [Array.getElem?_setIfInBounds_ne (by omega), Array.getElem?_setIfInBounds_self_of_lt (by simp; omega)]
    · rw [Array.getElem?_setIfInBounds_self_of_lt (by simp; omega)]; simp
    · simp only [if_true]
      rw [hsz]
      exact (ho.keep fun p h1 h2 => hot p (by omega)).more (by omega) (Nat.le_refl _)
  · obtain ⟨a1, a2, a3, a4⟩ := hc i hi (by omega)
    refine ⟨?_, ?_, ?_, ?_⟩
    · rw [Array.getElem?_setIfInBounds_ne (by omega), Array.getElem?_setIfInBounds_ne (by omega), Array.getElem?_setIfInBounds_ne (by omega)]; exact a1
    · rw [Array.getElem?_setIfInBounds_ne (by omega), Array.getElem?_setIfInBounds_ne (by omega), Array.getElem?_setIfInBounds_ne (by omega)]; exact a2
    · rw [Array.getElem?_setIfInBounds_ne (by omega), Array.getElem?_setIfInBounds_ne (by omega), Array.getElem?_setIfInBounds_ne (by omega)]; simp only [if_neg e]; exact a3
    · simp only [if_neg e]
      rw [hsz]
      exact (a4.keep fun p h1 h2 => (hot p (by omega)).trans (hb.block p h2)).more (Nat.le_refl _) hws
theorem BuildT.done {w : World} {g lo : Nat} {ts : List TreeD} (h : BuildT w g ts ts.length) (hl : lo ≤ g) (hm : ts.length ≤ maxLen) (hh : ∀ i (h : i < ts.length), TopOk ts[i]) : OwnK w lo w.heap.size (.slice (some ⟨g, 0, none⟩) ts.length ts.length) ts := by
  obtain ⟨cur, U, hr, hs, hc⟩ := h
  refine ⟨.mk _ _ _ U (Nat.le_refl _) hm hh (fun _ => ⟨g, 0, rfl, hl, hr.lt, fun _ => ⟨_, _, hr⟩, fun i hi => ?_⟩) (fun i hi => ?_), .mk _ _ _ U (Nat.le_refl _) hm (fun _ => ⟨g, cur, rfl, hl, hr.lt, hr, hs, fun i hi => ?_⟩) (fun i hi => ?_)⟩
  · obtain ⟨a1, a2, a3, a4⟩ := hc i hi hi
    exact ⟨by rw [Nat.zero_add, hr.cell]; exact a1, by rw [Nat.zero_add, hr.cell]; exact a2, by rw [Nat.zero_add, hr.cell]; exact a3⟩
  · exact (hc i hi hi).2.2.2.1.more (by omega) (Nat.le_refl _)
  · exact (hc i hi hi).2.2.1
  · exact (hc i hi hi).2.2.2.2.more (by omega) (Nat.le_refl _)

set_option maxHeartbeats 1000000 in
theorem toTreeS_of (ts : List TreeD) (ih : ∀ i (h : i < ts.length), ToS ts[i].kids) : ToS ts := by
  intro v lo hi w h hhi hn
  have hlen := length_take_bulkTs ts 0 (by omega)
  obtain ⟨i0, hi0, hz0, hz1, hz2⟩ := info_parts Try.infoTree
  have hmk : ∀ W : World, (Instr.makeSlice 57 (.int .i64 (ts.length : Int)) (.int .i64 (ts.length : Int))).run Try.prog W = .ok (.slice (some ⟨W.heap.size, 0, none⟩) ts.length ts.length) (W.alloc (.cells (madeCells #[.int .i64 0, .string ByteArray.empty, .slice none 0 0] (ts.length * 3)) 59)) := fun W => by
    have := run_make (P := Try.prog) W 57 59 i0 _ Try.underlying57 hi0 hz0 .i64 .i64 ts.length ts.length (by omega) (by omega) (by rw [hz2]; omega) (by omega)
    simpa [hz1, Value.cells] using this
  clear hi0 hz0 hz1 hz2
  obtain ⟨A, c, U, rfl, hlc, hc, hs, hcell, hsub⟩ := h.parts
  have hs9 : ∀ i (h : i < ts.length), TopOk ts[i] := hs
  have HH := Lib.hid hs9
  have HC := Lib.hid hcell
  have HB := Lib.hid hsub
  clear hcell hs hs9 hsub h
  go_enter Try.func61, Try.ntmps61
  go_wp2
  go_loopw [4] (fun i wr => ∃ (k : Nat), k ≤ ts.length ∧ i = .int .i64 k ∧ BuildT wr w.heap.size ts k ∧ Below w.heap.size w wr) (fun i _ => ts.length - (intOf i).toNat)
  case atStart => exact ⟨0, by omega, rfl, BuildT.start w ts _, al1 _ _⟩
  case round =>
    obtain ⟨k, hk, rfl, hbd, hbw⟩ := hrel
    by_cases hlt : k < ts.length
    · obtain ⟨b, off, rfl, _, hbh, _, hcc⟩ := HC.out (by omega)
      obtain ⟨hc0, hc1, hc2⟩ := hcc k hlt
      have k0 := (hbw.cell (p := ⟨b, off + k * 3, none⟩) (by show b < _; omega)).trans hc0
      have k1 := (hbw.cell (p := ⟨b, off + k * 3 + 1, none⟩) (by show b < _; omega)).trans hc1
      have k2 := (hbw.cell (p := ⟨b, off + k * 3 + 2, none⟩) (by show b < _; omega)).trans hc2
      have hst' := (HB.out k hlt).under hbw hhi
      have hbody := bulkTs_get ts k hlt
      clear hcc hc0 hc1 hc2
      obtain ⟨cur, hrow, hcs⟩ := hbd.row
      have hgl := hrow.lt
      have hsw := hbw.size
      go_wp2_with fail
      refine (toTree_of ts[k] (ih k hlt) (U k) lo hi _ hst' (by omega) (by omega)).mono ?_
      rintro e w1 ⟨x, rfl, hown, hb2⟩
      unfold trV
      have hrow1 := hrow.below hb2 hgl
      obtain ⟨u0, hd0⟩ := hrow1.there (show k * 3 < cur.size by omega)
      obtain ⟨u1, hd1⟩ := hrow1.there (show k * 3 + 1 < cur.size by omega)
      obtain ⟨u2, hd2⟩ := hrow1.there (show k * 3 + 2 < cur.size by omega)
      have hf0 := hrow1.free (k * 3)
      have hf1 := hrow1.free (k * 3 + 1)
      have hf2 := hrow1.free (k * 3 + 2)
      have hstep := hbd.step hlt hb2 hown
      clear hcs hrow hrow1 hbd
      obtain ⟨A', c', U', rfl, -⟩ := hown.1.parts
      clear hown
      go_wp2
      go_roundw
      case rel => exact ⟨k + 1, by omega, by go_num, hstep, (((hbw.trans (hb2.mono hsw)).setCell (Nat.le_refl _) _).setCell (Nat.le_refl _) _).setCell (Nat.le_refl _) _⟩
      case measure => simp [intOf]; omega
    · have hks : k = ts.length := by omega
      subst hks
      go_wp2
      go_ret
      exact ⟨_, rfl, hbd.done (Nat.le_refl _) (by unfold maxLen; omega) HH.out, hbw⟩
theorem toTreeS_any (ts : List TreeD) : ToS ts := kids_ind toTreeS_of ts
theorem toTree_any (t : TreeD) (u : Value) (lo hi : Nat) (w : World) (h : Kd false w lo hi u t.kids) (hhi : hi ≤ w.heap.size) (hn : bulkT t ≤ 1048576) :
    Calls Try.prog 23 #[trV t u] w fun e w' => ∃ x, e = .returned (trV t x) ∧ OwnK w' w.heap.size w'.heap.size x t.kids ∧ Below w.heap.size w w' :=
  toTree_of t (toTreeS_any _) u lo hi w h hhi hn
end Go.Proofs.Ytiochjagolijfaa

/- Two lists of the same trees are told to be alike: eqTreeS, eqTree. -/
namespace Go.Proofs.Ytiochjagolijfaa
open Go.RowKit

def EqS (ts : List TreeD) : Prop := ∀ (z : Bool) (v u : Value) (lo hi lo' hi' : Nat) (w : World), Kd z w lo hi v ts → Kd z w lo' hi' u ts → hi ≤ w.heap.size → hi' ≤ w.heap.size →
  Calls Try.prog 65 #[v, u] w fun e w' => e = .returned (.bool true) ∧ Below w.heap.size w w'

set_option maxHeartbeats 1000000 in
theorem eqTree_of (t : TreeD) (ih : EqS t.kids) (z : Bool) (v u : Value) (lo hi lo' hi' : Nat) (w : World) (h : Kd z w lo hi v t.kids) (h' : Kd z w lo' hi' u t.kids) (hh : hi ≤ w.heap.size) (hh' : hi' ≤ w.heap.size) :
    Calls Try.prog 25 #[trV t v, trV t u] w fun e w' => e = .returned (.bool true) ∧ Below w.heap.size w w' := by
  unfold trV
  have d1 : (t.tok.toList == t.tok.toList) = true := by simp
  have d2 : (t.rule != t.rule) = false := by simp
  have hb : Below w.heap.size w ((w.alloc (.cells #[.int .i64 t.rule, .string t.tok, v] 59)).alloc (.cells #[.int .i64 t.rule, .string t.tok, u] 59)) := al2 _ _ _
  go_enter Try.func25, Try.ntmps25
  go_wp2_with fail
  refine (ih z v u lo hi lo' hi' _ (h.under hb hh) (h'.under hb hh') (by simp; omega) (by simp; omega)).mono ?_
  rintro e w1 ⟨rfl, hb1⟩
  have hb2 : Below w.heap.size w w1 := hb.trans (hb1.mono (by simp; omega))
  clear hb hb1
  go_wp2
  go_ret
  exact ⟨rfl, hb2⟩

set_option maxRecDepth 100000 in
set_option maxHeartbeats 1000000 in
theorem eqTreeS_of (ts : List TreeD) (ih : ∀ i (h : i < ts.length), EqS ts[i].kids) : EqS ts := by
  intro z v u lo hi lo' hi' w h h' hh hh'
  obtain ⟨A, c, U, rfl, hlc, hc, hs, hcell, hsub⟩ := h.parts
  obtain ⟨A', c', U', rfl, hlc', hc', hs', hcell', hsub'⟩ := h'.parts
  unfold maxLen at hc hc'
  have HC := Lib.hid hcell
  have HC' := Lib.hid hcell'
  have HB := Lib.hid hsub
  have HB' := Lib.hid hsub'
  clear hcell hcell' hsub hsub' h h' hs hs'
  go_enter Try.func65, Try.ntmps65
  go_wp2
  go_loopw [5] (fun i wr => ∃ k : Nat, k ≤ ts.length ∧ i = .int .i64 k ∧ Below w.heap.size w wr) (fun i _ => ts.length - (intOf i).toNat)
  case atStart => exact ⟨0, by omega, rfl, Below.refl _ _⟩
  case round =>
    obtain ⟨k, hk, rfl, hbw⟩ := hrel
    have hsw := hbw.size
    by_cases hlt : k < ts.length
    · obtain ⟨b, off, rfl, _, hbh, _, hcc⟩ := HC.out (by omega)
      obtain ⟨b', off', rfl, _, hbh', _, hcc'⟩ := HC'.out (by omega)
      obtain ⟨hc0, hc1, hc2⟩ := hcc k hlt
      obtain ⟨hd0, hd1, hd2⟩ := hcc' k hlt
      have k0 := (hbw.cell (p := ⟨b, off + k * 3, none⟩) (by show b < _; omega)).trans hc0
      have k1 := (hbw.cell (p := ⟨b, off + k * 3 + 1, none⟩) (by show b < _; omega)).trans hc1
      have k2 := (hbw.cell (p := ⟨b, off + k * 3 + 2, none⟩) (by show b < _; omega)).trans hc2
      have m0 := (hbw.cell (p := ⟨b', off' + k * 3, none⟩) (by show b' < _; omega)).trans hd0
      have m1 := (hbw.cell (p := ⟨b', off' + k * 3 + 1, none⟩) (by show b' < _; omega)).trans hd1
      have m2 := (hbw.cell (p := ⟨b', off' + k * 3 + 2, none⟩) (by show b' < _; omega)).trans hd2
      have g1 := (HB.out k hlt).under hbw hh
      have g2 := (HB'.out k hlt).under hbw hh'
      have i1 : (k : Int) < (ts.length : Int) := by omega
      have n1 : (0 : Int) ≤ (k : Int) := by omega
      clear hcc hcc' hc0 hc1 hc2 hd0 hd1 hd2
      have hbw2 : Below w.heap.size w wr.drew := hbw.drew
      have g1d : Kd z wr.drew lo hi (U k) ts[k].kids := g1.drewN 1
      have g2d : Kd z wr.drew lo' hi' (U' k) ts[k].kids := g2.drewN 1
      have hswd : w.heap.size ≤ wr.drew.heap.size := hsw
      go_wp2
      go_still_tail 8, (by kernel_rfl)
      change wpList _ _ _ _ _ wr.drew
      generalize wr.drew = w2 at hbw2 g1d g2d hswd ⊢
      go_wp2_with fail
      refine (eqTree_of ts[k] (ih k hlt) z (U k) (U' k) lo hi lo' hi' _ g1d g2d (by omega) (by omega)).mono ?_
      rintro e w1 ⟨rfl, hb1⟩
      go_wp2
      go_roundw
      case rel => exact ⟨k + 1, by omega, by go_num, hbw2.trans (hb1.mono hswd)⟩
      case measure => simp [intOf]; omega
    · go_wp2
      go_ret
      exact ⟨rfl, hbw⟩
theorem eqTreeS_any (ts : List TreeD) : EqS ts := kids_ind eqTreeS_of ts
theorem eqTree_any (t : TreeD) (z : Bool) (v u : Value) (lo hi lo' hi' : Nat) (w : World) (h : Kd z w lo hi v t.kids) (h' : Kd z w lo' hi' u t.kids) (hh : hi ≤ w.heap.size) (hh' : hi' ≤ w.heap.size) :
    Calls Try.prog 25 #[trV t v, trV t u] w fun e w' => e = .returned (.bool true) ∧ Below w.heap.size w w' :=
  eqTree_of t (eqTreeS_any _) z v u lo hi lo' hi' w h h' hh hh'
end Go.Proofs.Ytiochjagolijfaa
