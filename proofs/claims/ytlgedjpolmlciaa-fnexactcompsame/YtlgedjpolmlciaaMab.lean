/- Mades that came in, laid anew: toMadeS. -/
import Derived.Test.YtlgedjpolmlciaaJMat
namespace Go.Proofs.Ytlgedjpolmlciaa
open Go.RowKit

theorem Try.infoMade : (Try.prog.info? 53).map (fun i => (i.zero, i.size, i.bytes)) = some (some (.agg #[.string ByteArray.empty, .slice none 0 0, .int .i64 0, .int .i64 0, .slice none 0 0]), 5, 80) := by kernel_rfl

/-- the five cells of a Made in a block, and what hangs from them: its Body in block gb, its Kids behind that, all ahead of e -/
structure MadeIn (w : World) (cur : Array Value) (o : Nat) (m : MadeD) (u x : Value) (gb e : Nat) : Prop where
  head : cur[o]? = some (.string m.head)
  bodyAt : cur[o + 1]? = some u
  kindAt : cur[o + 2]? = some (.int .i64 m.term.kind)
  numAt : cur[o + 3]? = some (.int .i64 m.term.num)
  kidsAt : cur[o + 4]? = some x
  body : OwnS w gb u m.body
  kids : OwnM w (gb + 1) e x m.term.kids
  lt : gb < e
/-- k of the Mades are laid in block g, what hangs from them in blocks behind it -/
def BuildD (w : World) (g : Nat) (ms : List MadeD) (k : Nat) : Prop :=
  ∃ (cur : Array Value) (U X : Nat → Value) (G E : Nat → Nat), Row w g 53 cur ∧ cur.size = ms.length * 5 ∧
    (∀ i (h : i < ms.length), i < k → MadeIn w cur (i * 5) ms[i] (U i) (X i) (G i) (E i) ∧ g < G i ∧ E i ≤ w.heap.size) ∧
    ∀ i j, i < j → j < k → E i ≤ G j
theorem BuildD.start (w : World) (ms : List MadeD) (z : Array Value) : BuildD (w.alloc (.cells (madeCells z (ms.length * 5)) 53)) w.heap.size ms 0 :=
  ⟨_, fun _ => .tuple #[], fun _ => .tuple #[], fun _ => 0, fun _ => 0, Row.made w _ _, size_madeCells _ _, fun _ _ h => by omega, fun _ _ _ h => by omega⟩
theorem BuildD.row {w : World} {g k : Nat} {ms : List MadeD} (h : BuildD w g ms k) : ∃ cur, Row w g 53 cur ∧ cur.size = ms.length * 5 := by
  obtain ⟨cur, U, X, G, E, h1, h2, _⟩ := h
  exact ⟨cur, h1, h2⟩
/-- a world in which five cells were written -/
def set5 (w : World) (g o : Nat) (a b c d e : Value) : World := ((((w.setCell ⟨g, o, none⟩ a).setCell ⟨g, o + 1, none⟩ b).setCell ⟨g, o + 2, none⟩ c).setCell ⟨g, o + 3, none⟩ d).setCell ⟨g, o + 4, none⟩ e
theorem set5_size (w : World) (g o : Nat) (a b c d e : Value) : (set5 w g o a b c d e).heap.size = w.heap.size := by simp [set5, World.setCell]
theorem set5_heap (w : World) (g o : Nat) (a b c d e : Value) (p : Nat) (h : p ≠ g) : (set5 w g o a b c d e).heap[p]? = w.heap[p]? := by
  unfold set5
  rw [Below.heap_setCell _ _ _ _ (by exact h), Below.heap_setCell _ _ _ _ (by exact h), Below.heap_setCell _ _ _ _ (by exact h), Below.heap_setCell _ _ _ _ (by exact h), Below.heap_setCell _ _ _ _ (by exact h)]
theorem set5_row {w : World} {g : Nat} {t : TypeId} {cur : Array Value} (h : Row w g t cur) (o : Nat) (a b c d e : Value) :
    Row (set5 w g o a b c d e) g t (((((cur.setIfInBounds o a).setIfInBounds (o + 1) b).setIfInBounds (o + 2) c).setIfInBounds (o + 3) d).setIfInBounds (o + 4) e) := ((((h.put _ _).put _ _).put _ _).put _ _).put _ _
theorem set5_at {cur : Array Value} {o : Nat} (a b c d e : Value) (h : o + 4 < cur.size) (i : Nat) :
    (((((cur.setIfInBounds o a).setIfInBounds (o + 1) b).setIfInBounds (o + 2) c).setIfInBounds (o + 3) d).setIfInBounds (o + 4) e)[i]? =
      if i = o + 4 then some e else if i = o + 3 then some d else if i = o + 2 then some c else if i = o + 1 then some b else if i = o then some a else cur[i]? := by
  have one : ∀ (x : Array Value) (p : Nat) (v : Value), p < x.size → (x.setIfInBounds p v)[i]? = if i = p then some v else x[i]? := fun x p v hp => by
    by_cases q : i = p
    · subst q; rw [if_pos rfl, Array.getElem?_setIfInBounds_self_of_lt hp]
    · rw [if_neg q, Array.getElem?_setIfInBounds_ne (fun h => q h.symm)]
  rw [one _ (o + 4) e (by simp; omega), one _ (o + 3) d (by simp; omega), one _ (o + 2) c (by simp; omega), one _ (o + 1) b (by simp; omega), one cur o a (by omega)]
theorem MadeIn.move {w w' : World} {cur cur' : Array Value} {o : Nat} {m : MadeD} {u x : Value} {gb e : Nat} (h : MadeIn w cur o m u x gb e) (hc : ∀ j, j < 5 → cur'[o + j]? = cur[o + j]?) (hk : Keeps gb e w w') : MadeIn w' cur' o m u x gb e where
  head := (hc 0 (by omega)).trans h.head
  bodyAt := (hc 1 (by omega)).trans h.bodyAt
  kindAt := (hc 2 (by omega)).trans h.kindAt
  numAt := (hc 3 (by omega)).trans h.numAt
  kidsAt := (hc 4 (by omega)).trans h.kidsAt
  body := h.body.keep fun _ => hk gb (Nat.le_refl _) h.lt
  kids := h.kids.keep (hk.mono (by omega) (Nat.le_refl _))
  lt := h.lt
theorem BuildD.step {w w1 : World} {g k gb : Nat} {ms : List MadeD} {u x : Value} (h : BuildD w g ms k) (hk : k < ms.length) (hb : Below w.heap.size w w1) (ho : OwnS w1 gb u ms[k].body) (h1 : w.heap.size ≤ gb) (h2 : gb < w1.heap.size)
    (hm : OwnM w1 (gb + 1) w1.heap.size x ms[k].term.kids) : BuildD (set5 w1 g (k * 5) (.string ms[k].head) u (.int .i64 ms[k].term.kind) (.int .i64 ms[k].term.num) x) g ms (k + 1) := by
  obtain ⟨cur, U, X, G, E, hr, hs, hc, hG⟩ := h
  have hgl := hr.lt
  have hws := hb.size
  have hlen : k * 5 + 4 < cur.size := by omega
  refine ⟨_, fun i => if i = k then u else U i, fun i => if i = k then x else X i, fun i => if i = k then gb else G i, fun i => if i = k then w1.heap.size else E i, set5_row (hr.below hb hgl) _ _ _ _ _ _, by simp [hs], fun i hi hik => ?_, fun i j hij hj => ?_⟩
  · rw [set5_size]
    by_cases e : i = k
    · subst e
      simp only [if_true]
      refine ⟨⟨?_, ?_, ?_, ?_, ?_, ho.keep fun _ => set5_heap _ _ _ _ _ _ _ _ _ (by omega), hm.keep fun p q1 _ => set5_heap _ _ _ _ _ _ _ _ _ (by omega), h2⟩, by omega, Nat.le_refl _⟩ <;> rw [set5_at _ _ _ _ _ hlen] <;> simp
    · simp only [if_neg e]
      obtain ⟨a1, a2, a3⟩ := hc i hi (by omega)
      refine ⟨a1.move (fun j hj => ?_) fun p q1 q2 => (set5_heap _ _ _ _ _ _ _ _ _ (by omega)).trans (hb.block p (by omega)), a2, by omega⟩
      rw [set5_at _ _ _ _ _ hlen, if_neg (by omega), if_neg (by omega), if_neg (by omega), if_neg (by omega), if_neg (by omega)]
  · have hi : ¬ i = k := by omega
    by_cases e : j = k
    · simp only [if_neg hi, if_pos e]
      have := (hc i (by omega) (by omega)).2.2
      omega
    · simp only [if_neg hi, if_neg e]
      exact hG i j hij (by omega)

/-- a list of Mades in memory of the call's own -/
def OwnD (w : World) (lo hi : Nat) (v : Value) (ms : List MadeD) : Prop :=
  ∃ A c, v = .slice A ms.length c ∧ ms.length ≤ c ∧ c ≤ maxLen ∧ (∀ i (h : i < ms.length), ms[i].head.size ≤ maxLen ∧ TopM ms[i].term) ∧
    (0 < ms.length → ∃ (g : Nat) (cur : Array Value) (U X : Nat → Value) (G E : Nat → Nat), A = some ⟨g, 0, none⟩ ∧ lo ≤ g ∧ g < hi ∧ Row w g 53 cur ∧ ms.length * 5 ≤ cur.size ∧
      (∀ i (h : i < ms.length), MadeIn w cur (i * 5) ms[i] (U i) (X i) (G i) (E i) ∧ g < G i ∧ E i ≤ hi) ∧ ∀ i j, i < j → j < ms.length → E i ≤ G j)
theorem BuildD.done {w : World} {g lo : Nat} {ms : List MadeD} (h : BuildD w g ms ms.length) (hl : lo ≤ g) (hm : ms.length ≤ maxLen) (hh : ∀ i (h : i < ms.length), ms[i].head.size ≤ maxLen ∧ TopM ms[i].term) : OwnD w lo w.heap.size (.slice (some ⟨g, 0, none⟩) ms.length ms.length) ms := by
  obtain ⟨cur, U, X, G, E, hr, hs, hc, hG⟩ := h
  exact ⟨_, _, rfl, Nat.le_refl _, hm, hh, fun _ => ⟨g, cur, U, X, G, E, rfl, hl, hr.lt, hr, by omega, fun i hi => hc i hi hi, hG⟩⟩
theorem OwnD.dm {w : World} {lo hi : Nat} {v : Value} {ms : List MadeD} (h : OwnD w lo hi v ms) : DM true w lo hi v ms := by
  obtain ⟨A, c, h1, h2, h3, h4, h5⟩ := h
  refine ⟨A, c, h1, h2, h3, fun hp => ?_⟩
  obtain ⟨g, cur, U, X, G, E, rfl, hl, hh, hr, hs, hc, hG⟩ := h5 hp
  refine ⟨g, 0, rfl, hl, hh, fun _ => ⟨_, _, hr⟩, fun i hi => ?_⟩
  obtain ⟨a, a2, a3⟩ := hc i hi
  have alt := a.lt
  refine ⟨(h4 i hi).1, (h4 i hi).2, by rw [Nat.zero_add, hr.cell]; exact a.head, U i, X i, ?_, ?_, ?_, ?_, a.body.strs fun _ => ⟨by omega, by omega⟩, a.kids.1.more (by omega) (by omega)⟩
  · rw [Nat.zero_add, hr.cell]; exact a.bodyAt
  · rw [Nat.zero_add, hr.cell]; exact a.kindAt
  · rw [Nat.zero_add, hr.cell]; exact a.numAt
  · rw [Nat.zero_add, hr.cell]; exact a.kidsAt
theorem OwnD.keep {w w' : World} {lo hi : Nat} {v : Value} {ms : List MadeD} (h : OwnD w lo hi v ms) (k : Keeps lo hi w w') : OwnD w' lo hi v ms := by
  obtain ⟨A, c, h1, h2, h3, h4, h5⟩ := h
  refine ⟨A, c, h1, h2, h3, h4, fun hp => ?_⟩
  obtain ⟨g, cur, U, X, G, E, rfl, hl, hh, hr, hs, hc, hG⟩ := h5 hp
  refine ⟨g, cur, U, X, G, E, rfl, hl, hh, hr.same (k g hl hh), hs, fun i hi => ?_, hG⟩
  obtain ⟨a, a2, a3⟩ := hc i hi
  exact ⟨a.move (fun _ _ => rfl) (k.mono (by omega) a3), a2, a3⟩

set_option maxRecDepth 100000 in
set_option maxHeartbeats 2000000 in
theorem toMadeS_any (v : Value) (ms : List MadeD) (lo hi : Nat) (w : World) (h : DM false w lo hi v ms) (hhi : hi ≤ w.heap.size) (hn : bulkDs ms ≤ 1048576) :
    Calls Try.prog 15 #[v] w fun e w' => ∃ u, e = .returned u ∧ OwnD w' w.heap.size w'.heap.size u ms ∧ Below w.heap.size w w' := by
  have hlen : ms.length ≤ bulkDs ms := by unfold bulkDs; omega
  obtain ⟨i0, hi0, hz0, hz1, hz2⟩ := info_parts Try.infoMade
  have hmk : ∀ W : World, (Instr.makeSlice 36 (.int .i64 (ms.length : Int)) (.int .i64 (ms.length : Int))).run Try.prog W = .ok (.slice (some ⟨W.heap.size, 0, none⟩) ms.length ms.length) (W.alloc (.cells (madeCells #[.string ByteArray.empty, .slice none 0 0, .int .i64 0, .int .i64 0, .slice none 0 0] (ms.length * 5)) 53)) := fun W => by
    have := run_make (P := Try.prog) W 36 53 i0 _ Try.underlying36 hi0 hz0 .i64 .i64 ms.length ms.length (by omega) (by omega) (by rw [hz2]; omega) (by omega)
    simpa [hz1, Value.cells] using this
  clear hi0 hz0 hz1 hz2
  obtain ⟨A, c, rfl, hlc, hc, hcell⟩ := h
  have hheads : ∀ i (h : i < ms.length), ms[i].head.size ≤ maxLen ∧ TopM ms[i].term := fun i hi => by
    obtain ⟨_, _, _, _, _, _, hcc⟩ := hcell (by omega)
    exact ⟨(hcc i hi).1, (hcc i hi).2.1⟩
  have HH := Lib.hid hheads
  have HC := Lib.hid hcell
  clear hcell hheads
  go_enter Try.func15, Try.ntmps15
  go_wp2
  go_loopw [4] (fun i wr => ∃ (k : Nat), k ≤ ms.length ∧ i = .int .i64 k ∧ BuildD wr w.heap.size ms k ∧ Below w.heap.size w wr) (fun i _ => ms.length - (intOf i).toNat)
  case atStart => exact ⟨0, by omega, rfl, BuildD.start w ms _, al1 _ _⟩
  case round =>
    obtain ⟨k, hk, rfl, hbd, hbw⟩ := hrel
    by_cases hlt : k < ms.length
    · obtain ⟨b, off, rfl, _, hbh, _, hcc⟩ := HC.out (by omega)
      obtain ⟨hhs, htm, hc0, u, x, hc1, hc2, hc3, hc4, hst, hkm⟩ := hcc k hlt
      have k0 := (hbw.cell (p := ⟨b, off + k * 5, none⟩) (by show b < _; omega)).trans hc0
      have k1 := (hbw.cell (p := ⟨b, off + k * 5 + 1, none⟩) (by show b < _; omega)).trans hc1
      have k2 := (hbw.cell (p := ⟨b, off + k * 5 + 2, none⟩) (by show b < _; omega)).trans hc2
      have k3 := (hbw.cell (p := ⟨b, off + k * 5 + 3, none⟩) (by show b < _; omega)).trans hc3
      have k4 := (hbw.cell (p := ⟨b, off + k * 5 + 4, none⟩) (by show b < _; omega)).trans hc4
      have hst' := hst.below hbw hhi
      have hkm' := hkm.under hbw hhi
      have hbody := bulkD_get hlt
      clear hcc hc0 hc1 hc2 hc3 hc4 hst hkm
      obtain ⟨cur, hrow, hcs⟩ := hbd.row
      have hgl := hrow.lt
      have hsw := hbw.size
      go_wp2_with fail
      refine (toMade_any ms[k] u x lo hi _ hst' hkm' (by omega) (by omega)).mono ?_
      rintro e w1 ⟨u', x', gb, rfl, hown, hg1, hg2, hkm2, hb2⟩
      unfold mdV
      have hrow1 := hrow.below hb2 hgl
      obtain ⟨y0, hd0⟩ := hrow1.there (show k * 5 < cur.size by omega)
      obtain ⟨y1, hd1⟩ := hrow1.there (show k * 5 + 1 < cur.size by omega)
      obtain ⟨y2, hd2⟩ := hrow1.there (show k * 5 + 2 < cur.size by omega)
      obtain ⟨y3, hd3⟩ := hrow1.there (show k * 5 + 3 < cur.size by omega)
      obtain ⟨y4, hd4⟩ := hrow1.there (show k * 5 + 4 < cur.size by omega)
      have hf0 := hrow1.free (k * 5)
      have hf1 := hrow1.free (k * 5 + 1)
      have hf2 := hrow1.free (k * 5 + 2)
      have hf3 := hrow1.free (k * 5 + 3)
      have hf4 := hrow1.free (k * 5 + 4)
      have hstep := hbd.step hlt hb2 hown hg1 hg2 hkm2
      have HST := Lib.hid hstep
      clear hcs hrow hrow1 hbd hstep
      have hu' : ∃ A c, u' = .slice A ms[k].body.length c := by obtain ⟨A, c, e, _⟩ := hown; exact ⟨A, c, e⟩
      obtain ⟨A', c', rfl⟩ := hu'
      obtain ⟨Ax, cx, Ux, rfl, -⟩ := hkm2.1.parts
      clear hown hkm2
      go_wp2
      go_roundw
      case rel => exact ⟨k + 1, by omega, by go_num, HST.out, (((((hbw.trans (hb2.mono hsw)).setCell (Nat.le_refl _) _).setCell (Nat.le_refl _) _).setCell (Nat.le_refl _) _).setCell (Nat.le_refl _) _).setCell (Nat.le_refl _) _⟩
      case measure => simp [intOf]; omega
    · have hks : k = ms.length := by omega
      subst hks
      go_wp2
      go_ret
      exact ⟨_, rfl, hbd.done (Nat.le_refl _) (by unfold maxLen; omega) HH.out, hbw⟩
end Go.Proofs.Ytlgedjpolmlciaa
