/- A term that came in, laid anew, on: toTermS, toTerm. -/
import Derived.Test.YtbaofldcdcllfaaDoorJTmt
namespace Go.Proofs.YtbaofldcdcllfaaDoor
open Go.RowKit

theorem Tryd.infoTerm : (Tryd.prog.info? 60).map (fun i => (i.zero, i.size, i.bytes)) = some (some (.agg #[.int .i64 0, .int .i64 0, .slice none 0 0]), 3, 40) := by kernel_rfl

/-- k of the terms are laid in block g, their Kids in blocks behind it -/
def BuildM (w : World) (g : Nat) (ts : List TermD) (k : Nat) : Prop :=
  ∃ (cur : Array Value) (U : Nat → Value), Row w g 60 cur ∧ cur.size = ts.length * 3 ∧
    (∀ i (h : i < ts.length), i < k → cur[i * 3]? = some (.int .i64 ts[i].kind) ∧ cur[i * 3 + 1]? = some (.int .i64 ts[i].num) ∧ cur[i * 3 + 2]? = some (U i) ∧ OwnM w (g + 1) w.heap.size (U i) ts[i].kids)
theorem BuildM.start (w : World) (ts : List TermD) (z : Array Value) : BuildM (w.alloc (.cells (madeCells z (ts.length * 3)) 60)) w.heap.size ts 0 :=
  ⟨_, fun _ => .tuple #[], Row.made w _ _, size_madeCells _ _, fun _ _ h => by omega⟩
theorem BuildM.row {w : World} {g k : Nat} {ts : List TermD} (h : BuildM w g ts k) : ∃ cur, Row w g 60 cur ∧ cur.size = ts.length * 3 := by
  obtain ⟨cur, G, h1, h2, _⟩ := h
  exact ⟨cur, h1, h2⟩
theorem BuildM.step {w w1 : World} {g k : Nat} {ts : List TermD} {u : Value} (h : BuildM w g ts k) (hk : k < ts.length) (hb : Below w.heap.size w w1) (ho : OwnM w1 w.heap.size w1.heap.size u ts[k].kids) :
    BuildM (((w1.setCell ⟨g, k * 3, none⟩ (.int .i64 ts[k].kind)).setCell ⟨g, k * 3 + 1, none⟩ (.int .i64 ts[k].num)).setCell ⟨g, k * 3 + 2, none⟩ u) g ts (k + 1) := by
  obtain ⟨cur, U, hr, hs, hc⟩ := h
  have hgl := hr.lt
  have hws := hb.size
  have r1 := (((hr.below hb hgl).put (k * 3) (.int .i64 ts[k].kind)).put (k * 3 + 1) (.int .i64 ts[k].num)).put (k * 3 + 2) u
  have hsz : (((w1.setCell ⟨g, k * 3, none⟩ (.int .i64 ts[k].kind)).setCell ⟨g, k * 3 + 1, none⟩ (.int .i64 ts[k].num)).setCell ⟨g, k * 3 + 2, none⟩ u).heap.size = w1.heap.size := by simp [World.setCell]
  have hot : ∀ p, p ≠ g → (((w1.setCell ⟨g, k * 3, none⟩ (.int .i64 ts[k].kind)).setCell ⟨g, k * 3 + 1, none⟩ (.int .i64 ts[k].num)).setCell ⟨g, k * 3 + 2, none⟩ u).heap[p]? = w1.heap[p]? := fun p hp => by
    rw [Below.heap_setCell _ _ _ _ (by exact hp), Below.heap_setCell _ _ _ _ (by exact hp), Below.heap_setCell _ _ _ _ (by exact hp)]
  refine ⟨_, fun i => if i = k then u else U i, r1, by simp [hs], fun i hi hik => ?_⟩
  by_cases e : i = k
  · subst e
    refine ⟨?_, ?_, ?_, ?_⟩
    · rw [Array.getElem?_setIfInBounds_ne (by omega), Array.getElem?_setIfInBounds_ne (by omega), Array.getElem?_setIfInBounds_self_of_lt (by omega)]
    · rw [Array.getElem?_setIfInBounds_ne (by omega), Array.getElem?_setIfInBounds_self_of_lt (by simp; omega)]
    · rw [Array.getElem?_setIfInBounds_self_of_lt (by simp; omega)]; simp
    · simp only [if_true]
      rw [hsz]
      exact (ho.keep fun p h1 h2 => hot p (by omega)).more (by omega) (Nat.le_refl _)
  · obtain ⟨a1, a2, a3, a4⟩ := hc i hi (by omega)
    refine ⟨?_, ?_, ?_, ?_⟩
    · rw [Array.getElem?_setIfInBounds_ne (by omega), Array.getElem?_setIfInBounds_ne (by omega), Array.getElem?_setIfInBounds_ne (by omega)]; exact a1
    · rw [Array.getElem?_setIfInBounds_ne (by omega), Array.getElem?_setIfInBounds_ne (by omega), Array.getElem?_setIfInBounds_ne (by omega)]; exact a2
    · rw [Array.getElem?_setIfInBounds_ne (by omega), Array.getElem?_setIfInBounds_ne (by omega), Array.getElem?_setIfInBounds_ne (by omega)]; simp only [if_neg e]; exact a3
    · simp only [if_neg e]
      rw [hsz]
      exact (a4.keep fun p h1 h2 => (hot p (by omega)).trans (hb.block p h2)).more (Nat.le_refl _) hws
theorem BuildM.done {w : World} {g lo : Nat} {ts : List TermD} (h : BuildM w g ts ts.length) (hl : lo ≤ g) (hm : ts.length ≤ maxLen) (hh : ∀ i (h : i < ts.length), TopM ts[i]) : OwnM w lo w.heap.size (.slice (some ⟨g, 0, none⟩) ts.length ts.length) ts := by
  obtain ⟨cur, U, hr, hs, hc⟩ := h
  refine ⟨.mk _ _ _ U (Nat.le_refl _) hm hh (fun _ => ⟨g, 0, rfl, hl, hr.lt, fun _ => ⟨_, _, hr⟩, fun i hi => ?_⟩) (fun i hi => ?_), .mk _ _ _ U (Nat.le_refl _) hm (fun _ => ⟨g, cur, rfl, hl, hr.lt, hr, hs, fun i hi => ?_⟩) (fun i hi => ?_)⟩
  · obtain ⟨a1, a2, a3, a4⟩ := hc i hi hi
    exact ⟨by rw [Nat.zero_add, hr.cell]; exact a1, by rw [Nat.zero_add, hr.cell]; exact a2, by rw [Nat.zero_add, hr.cell]; exact a3⟩
  · exact (hc i hi hi).2.2.2.1.more (by omega) (Nat.le_refl _)
  · exact (hc i hi hi).2.2.1
  · exact (hc i hi hi).2.2.2.2.more (by omega) (Nat.le_refl _)

set_option maxHeartbeats 1000000 in
theorem toTermS_of (ts : List TermD) (ih : ∀ i (h : i < ts.length), ToM ts[i].kids) : ToM ts := by
  intro v lo hi w h hhi hn
  have hlen := length_sizeMs ts
  obtain ⟨i0, hi0, hz0, hz1, hz2⟩ := info_parts Tryd.infoTerm
  have hmk : ∀ W : World, (Instr.makeSlice 58 (.int .i64 (ts.length : Int)) (.int .i64 (ts.length : Int))).run Tryd.prog W = .ok (.slice (some ⟨W.heap.size, 0, none⟩) ts.length ts.length) (W.alloc (.cells (madeCells #[.int .i64 0, .int .i64 0, .slice none 0 0] (ts.length * 3)) 60)) := fun W => by
    have := run_make (P := Tryd.prog) W 58 60 i0 _ Tryd.underlying58 hi0 hz0 .i64 .i64 ts.length ts.length (by omega) (by omega) (by rw [hz2]; omega) (by omega)
    simpa [hz1, Value.cells] using this
  clear hi0 hz0 hz1 hz2
  obtain ⟨A, c, U, rfl, hlc, hc, hs, hcell, hsub⟩ := h.parts
  have hs9 : ∀ i (h : i < ts.length), TopM ts[i] := hs
  have HH := Lib.hid hs9
  have HC := Lib.hid hcell
  have HB := Lib.hid hsub
  clear hcell hs hs9 hsub h
  go_enter Tryd.func51, Tryd.ntmps51
  go_wp2
  go_loopw [4] (fun i wr => ∃ (k : Nat), k ≤ ts.length ∧ i = .int .i64 k ∧ BuildM wr w.heap.size ts k ∧ Below w.heap.size w wr) (fun i _ => ts.length - (intOf i).toNat)
  case atStart => exact ⟨0, by omega, rfl, BuildM.start w ts _, al1 _ _⟩
  case round =>
    obtain ⟨k, hk, rfl, hbd, hbw⟩ := hrel
    by_cases hlt : k < ts.length
    · obtain ⟨b, off, rfl, _, hbh, _, hcc⟩ := HC.out (by omega)
      obtain ⟨hc0, hc1, hc2⟩ := hcc k hlt
      have k0 := (hbw.cell (p := ⟨b, off + k * 3, none⟩) (by show b < _; omega)).trans hc0
      have k1 := (hbw.cell (p := ⟨b, off + k * 3 + 1, none⟩) (by show b < _; omega)).trans hc1
      have k2 := (hbw.cell (p := ⟨b, off + k * 3 + 2, none⟩) (by show b < _; omega)).trans hc2
      have hst' := (HB.out k hlt).under hbw hhi
      have hbody := sizeMs_get ts k hlt
      have hbody2 := sizeM_eq ts[k]
      clear hcc hc0 hc1 hc2
      obtain ⟨cur, hrow, hcs⟩ := hbd.row
      have hgl := hrow.lt
      have hsw := hbw.size
      go_wp2_with fail
      refine (toTerm_of ts[k] (ih k hlt) (U k) lo hi _ hst' (by omega) (by omega)).mono ?_
      rintro e w1 ⟨x, rfl, hown, hb2⟩
      unfold tmV
      have hrow1 := hrow.below hb2 hgl
      obtain ⟨u0, hd0⟩ := hrow1.there (show k * 3 < cur.size by omega)
      obtain ⟨u1, hd1⟩ := hrow1.there (show k * 3 + 1 < cur.size by omega)
      obtain ⟨u2, hd2⟩ := hrow1.there (show k * 3 + 2 < cur.size by omega)
      have hf0 := hrow1.free (k * 3)
      have hf1 := hrow1.free (k * 3 + 1)
      have hf2 := hrow1.free (k * 3 + 2)
      have hstep := hbd.step hlt hb2 hown
      clear hcs hrow hrow1 hbd
      obtain ⟨A', c', U', rfl, -⟩ := hown.1.parts
      clear hown
      go_wp2
      go_roundw
      case rel => exact ⟨k + 1, by omega, by go_num, hstep, (((hbw.trans (hb2.mono hsw)).setCell (Nat.le_refl _) _).setCell (Nat.le_refl _) _).setCell (Nat.le_refl _) _⟩
      case measure => simp [intOf]; omega
    · have hks : k = ts.length := by omega
      subst hks
      go_wp2
      go_ret
      exact ⟨_, rfl, hbd.done (Nat.le_refl _) (by unfold maxLen; omega) HH.out, hbw⟩
theorem toTermS_any (ts : List TermD) : ToM ts := terms_ind toTermS_of ts
theorem toTerm_any (t : TermD) (u : Value) (lo hi : Nat) (w : World) (h : KM false w lo hi u t.kids) (hhi : hi ≤ w.heap.size) (hn : sizeMs t.kids ≤ 1048576) :
    Calls Tryd.prog 39 #[tmV t u] w fun e w' => ∃ x, e = .returned (tmV t x) ∧ OwnM w' w.heap.size w'.heap.size x t.kids ∧ Below w.heap.size w w' :=
  toTerm_of t (toTermS_any _) u lo hi w h hhi hn
end Go.Proofs.YtbaofldcdcllfaaDoor
