import Derived.Test.YtlgedjpolmlciaaJOi
import Derived.Test.YtlgedjpolmlciaaJMa
/- A term that came in, laid anew: toTermS, toTerm. -/
namespace Go.Proofs.Ytlgedjpolmlciaa
open Go.RowKit

/-- a list of terms in memory of the call's own -/
def OwnM (w : World) (lo hi : Nat) (v : Value) (ts : List TermD) : Prop := KM true w lo hi v ts ∧ ShM w lo hi v ts ∧ OI w lo hi v ts
theorem OwnM.keep {w w' : World} {lo hi : Nat} {v : Value} {ts : List TermD} (h : OwnM w lo hi v ts) (k : Keeps lo hi w w') : OwnM w' lo hi v ts := ⟨h.1.keep k, h.2.1.keep k, h.2.2.keep k⟩
theorem OwnM.more {w : World} {lo hi lo' hi' : Nat} {v : Value} {ts : List TermD} (h : OwnM w lo hi v ts) (g1 : lo' ≤ lo) (g2 : hi ≤ hi') : OwnM w lo' hi' v ts := ⟨h.1.more g1 g2, h.2.1.more g1 g2, h.2.2.more g1 g2⟩

def ToM (ts : List TermD) : Prop := ∀ (v : Value) (lo hi : Nat) (w : World), KM false w lo hi v ts → hi ≤ w.heap.size → sizeMs ts ≤ 1048576 →
  Calls Try.prog 28 #[v] w fun e w' => ∃ u, e = .returned u ∧ OwnM w' w.heap.size w'.heap.size u ts ∧ Below w.heap.size w w'

set_option maxHeartbeats 1000000 in
theorem toTerm_of (t : TermD) (ih : ToM t.kids) (u : Value) (lo hi : Nat) (w : World) (h : KM false w lo hi u t.kids) (hhi : hi ≤ w.heap.size) (hn : sizeMs t.kids ≤ 1048576) :
    Calls Try.prog 16 #[tmV t u] w fun e w' => ∃ x, e = .returned (tmV t x) ∧ OwnM w' w.heap.size w'.heap.size x t.kids ∧ Below w.heap.size w w' := by
  unfold tmV
  go_enter Try.func16, Try.ntmps16
  go_wp2_with fail
  refine (ih u lo hi _ (h.under (B := w.heap.size) (al3 _ _ _ _) hhi) (by simp; omega) (by omega)).mono ?_
  rintro e w1 ⟨x, rfl, hown, hb⟩
  have hb0 : Below w.heap.size w w1 := (al3 _ _ _ _).trans (hb.mono (by simp; omega))
  have R1 : Row w1 (w.heap.size + 1) 39 #[.int .i64 0, .int .i64 0, .slice none 0 0] := by
    refine Row.below (Row.alloc ?_ _) hb (by simp)
    simpa using Row.made (w.alloc (.cells #[.int .i64 t.kind, .int .i64 t.num, u] 28)) 39 #[.int .i64 0, .int .i64 0, .slice none 0 0]
  have R2 : Row w1 (w.heap.size + 1 + 1) 39 #[.int .i64 t.kind, .int .i64 t.num, .slice none 0 0] := by
    refine Row.below ?_ hb (by simp)
    simpa using Row.made ((w.alloc (.cells #[.int .i64 t.kind, .int .i64 t.num, u] 28)).alloc (.cells #[.int .i64 0, .int .i64 0, .slice none 0 0] 39)) 39 #[.int .i64 t.kind, .int .i64 t.num, .slice none 0 0]
  have hown' : OwnM w1 (w.heap.size + 1 + 1 + 1) w1.heap.size x t.kids := by simpa using hown
  clear hb hown
  have c10 := R1.cell 0
  have c11 := R1.cell 1
  have c12 := R1.cell 2
  have c20 := R2.cell 0
  have c21 := R2.cell 1
  have c22 := R2.cell 2
  simp at c10 c11 c12 c20 c21 c22
  have f10 := R1.free 0
  have f11 := R1.free 1
  have f12 := R1.free 2
  have f20 := R2.free 0
  have f21 := R2.free 1
  have f22 := R2.free 2
  clear R1 R2
  have HO := Lib.hid hown'
  obtain ⟨A, c, U, rfl, -⟩ := hown'.1.parts
  clear hown' h
  go_wp2
  refine bodyPost_ret (v := .agg #[.int .i64 t.kind, .int .i64 t.num, .slice A t.kids.length c]) (by simp [results, Try.results16, go_sem, c10, c11, c12]) rfl ⟨_, rfl, ?_, ?_⟩
  · refine (HO.out.keep ?_).more (by omega) (by simp [World.setCell])
    intro k h1 h2
    rw [Below.heap_setCell _ _ _ _ (by simp; omega), Below.heap_setCell _ _ _ _ (by simp; omega), Below.heap_setCell _ _ _ _ (by simp; omega), Below.heap_setCell _ _ _ _ (by simp; omega)]
  · exact (((hb0.setCell (by simp; omega) _).setCell (by simp) _).setCell (by simp) _).setCell (by simp) _
end Go.Proofs.Ytlgedjpolmlciaa

/- A term that came in, laid anew, on: toTermS, toTerm. -/
namespace Go.Proofs.Ytlgedjpolmlciaa
open Go.RowKit

theorem Try.infoTerm : (Try.prog.info? 39).map (fun i => (i.zero, i.size, i.bytes)) = some (some (.agg #[.int .i64 0, .int .i64 0, .slice none 0 0]), 3, 40) := by kernel_rfl

/-- k of the terms are laid in block g, their Kids in blocks behind it, no two in the same -/
def BuildM (w : World) (g : Nat) (ts : List TermD) (k : Nat) : Prop :=
  ∃ (cur : Array Value) (U : Nat → Value) (L E : Nat → Nat), Row w g 39 cur ∧ cur.size = ts.length * 3 ∧
    (∀ i (h : i < ts.length), i < k → cur[i * 3]? = some (.int .i64 ts[i].kind) ∧ cur[i * 3 + 1]? = some (.int .i64 ts[i].num) ∧ cur[i * 3 + 2]? = some (U i) ∧ OwnM w (L i) (E i) (U i) ts[i].kids ∧ g < L i ∧ L i ≤ E i ∧ E i ≤ w.heap.size) ∧
    ∀ i j, i < j → j < k → E i ≤ L j
theorem BuildM.start (w : World) (ts : List TermD) (z : Array Value) : BuildM (w.alloc (.cells (madeCells z (ts.length * 3)) 39)) w.heap.size ts 0 :=
  ⟨_, fun _ => .tuple #[], fun _ => 0, fun _ => 0, Row.made w _ _, size_madeCells _ _, fun _ _ h => by omega, fun _ _ _ h => by omega⟩
theorem BuildM.row {w : World} {g k : Nat} {ts : List TermD} (h : BuildM w g ts k) : ∃ cur, Row w g 39 cur ∧ cur.size = ts.length * 3 := by
  obtain ⟨cur, U, L, E, h1, h2, _⟩ := h
  exact ⟨cur, h1, h2⟩
theorem BuildM.step {w w1 : World} {g k : Nat} {ts : List TermD} {u : Value} (h : BuildM w g ts k) (hk : k < ts.length) (hb : Below w.heap.size w w1) (ho : OwnM w1 w.heap.size w1.heap.size u ts[k].kids) :
    BuildM (((w1.setCell ⟨g, k * 3, none⟩ (.int .i64 ts[k].kind)).setCell ⟨g, k * 3 + 1, none⟩ (.int .i64 ts[k].num)).setCell ⟨g, k * 3 + 2, none⟩ u) g ts (k + 1) := by
  obtain ⟨cur, U, L, E, hr, hs, hc, hG⟩ := h
  have hgl := hr.lt
  have hws := hb.size
  have r1 := (((hr.below hb hgl).put (k * 3) (.int .i64 ts[k].kind)).put (k * 3 + 1) (.int .i64 ts[k].num)).put (k * 3 + 2) u
  have hsz : (((w1.setCell ⟨g, k * 3, none⟩ (.int .i64 ts[k].kind)).setCell ⟨g, k * 3 + 1, none⟩ (.int .i64 ts[k].num)).setCell ⟨g, k * 3 + 2, none⟩ u).heap.size = w1.heap.size := by simp [World.setCell]
  have hot : ∀ p, p ≠ g → (((w1.setCell ⟨g, k * 3, none⟩ (.int .i64 ts[k].kind)).setCell ⟨g, k * 3 + 1, none⟩ (.int .i64 ts[k].num)).setCell ⟨g, k * 3 + 2, none⟩ u).heap[p]? = w1.heap[p]? := fun p hp => by
    rw [Below.heap_setCell _ _ _ _ (by exact hp), Below.heap_setCell _ _ _ _ (by exact hp), Below.heap_setCell _ _ _ _ (by exact hp)]
  refine ⟨_, fun i => if i = k then u else U i, fun i => if i = k then w.heap.size else L i, fun i => if i = k then w1.heap.size else E i, r1, by simp [hs], fun i hi hik => ?_, fun i j hij hj => ?_⟩
  · by_cases e : i = k
    · subst e
      refine ⟨?_, ?_, ?_, ?_, ?_⟩
      · rw [Array.getElem?_setIfInBounds_ne (by omega), Array.getElem?_setIfInBounds_ne (by omega), Array.getElem?_setIfInBounds_self_of_lt (by omega)]
      · rw [Array.getElem?_setIfInBounds_ne (by omega), Array.getElem?_setIfInBounds_self_of_lt (by simp; omega)]
      · rw [Array.getElem?_setIfInBounds_self_of_lt (by simp; omega)]; simp
      · simp only [if_true]
        exact ho.keep fun p h1 h2 => hot p (by omega)
      · simp only [if_true]
        rw [hsz]
        exact ⟨hgl, hws, Nat.le_refl _⟩
    · obtain ⟨a1, a2, a3, a4, a5, a6, a7⟩ := hc i hi (by omega)
      refine ⟨?_, ?_, ?_, ?_, ?_⟩
      · rw [Array.getElem?_setIfInBounds_ne (by omega), Array.getElem?_setIfInBounds_ne (by omega), Array.getElem?_setIfInBounds_ne (by omega)]; exact a1
      · rw [Array.getElem?_setIfInBounds_ne (by omega), Array.getElem?_setIfInBounds_ne (by omega), Array.getElem?_setIfInBounds_ne (by omega)]; exact a2
      · rw [Array.getElem?_setIfInBounds_ne (by omega), Array.getElem?_setIfInBounds_ne (by omega), Array.getElem?_setIfInBounds_ne (by omega)]; simp only [if_neg e]; exact a3
      · simp only [if_neg e]
        exact a4.keep fun p h1 h2 => (hot p (by omega)).trans (hb.block p (by omega))
      · simp only [if_neg e]
        rw [hsz]
        exact ⟨a5, a6, by omega⟩
  · have hi : ¬ i = k := by omega
    by_cases e : j = k
    · simp only [if_neg hi, if_pos e]
      exact (hc i (by omega) (by omega)).2.2.2.2.2.2
    · simp only [if_neg hi, if_neg e]
      exact hG i j hij (by omega)
theorem BuildM.done {w : World} {g lo : Nat} {ts : List TermD} (h : BuildM w g ts ts.length) (hl : lo ≤ g) (hm : ts.length ≤ maxLen) (hh : ∀ i (h : i < ts.length), TopM ts[i]) : OwnM w lo w.heap.size (.slice (some ⟨g, 0, none⟩) ts.length ts.length) ts := by
  obtain ⟨cur, U, L, E, hr, hs, hc, hG⟩ := h
  refine ⟨.mk _ _ _ U (Nat.le_refl _) hm hh (fun _ => ⟨g, 0, rfl, hl, hr.lt, fun _ => ⟨_, _, hr⟩, fun i hi => ?_⟩) (fun i hi => ?_), .mk _ _ _ U (Nat.le_refl _) hm (fun _ => ⟨g, cur, rfl, hl, hr.lt, hr, hs, fun i hi => ?_⟩) (fun i hi => ?_),
    .mk _ _ _ _ _ U L E (Nat.le_refl _) hm hh (fun _ => ⟨g, cur, rfl, hl, hr.lt, hr, by omega, fun i hi => ?_⟩) (fun i hi => ?_) (fun i j hi hj hij => ?_) (fun i hi => ?_)⟩
  · obtain ⟨a1, a2, a3, a4⟩ := hc i hi hi
    exact ⟨by rw [Nat.zero_add, hr.cell]; exact a1, by rw [Nat.zero_add, hr.cell]; exact a2, by rw [Nat.zero_add, hr.cell]; exact a3⟩
  · obtain ⟨_, _, _, a4, a5, a6, a7⟩ := hc i hi hi
    exact a4.1.more (by omega) a7
  · exact (hc i hi hi).2.2.1
  · obtain ⟨_, _, _, a4, a5, a6, a7⟩ := hc i hi hi
    exact a4.2.1.more (by omega) a7
  · obtain ⟨a1, a2, a3, a4, a5, a6, a7⟩ := hc i hi hi
    exact ⟨a1, a2, a3, .inr a5⟩
  · obtain ⟨_, _, _, a4, a5, a6, a7⟩ := hc i hi hi
    omega
  · rcases Nat.lt_or_gt_of_ne hij with q | q
    · exact .inl (hG i j q hj)
    · exact .inr (hG j i q hi)
  · exact (hc i hi hi).2.2.2.1.2.2

set_option maxHeartbeats 1000000 in
theorem toTermS_of (ts : List TermD) (ih : ∀ i (h : i < ts.length), ToM ts[i].kids) : ToM ts := by
  intro v lo hi w h hhi hn
  have hlen := length_sizeMs ts
  obtain ⟨i0, hi0, hz0, hz1, hz2⟩ := info_parts Try.infoTerm
  have hmk : ∀ W : World, (Instr.makeSlice 37 (.int .i64 (ts.length : Int)) (.int .i64 (ts.length : Int))).run Try.prog W = .ok (.slice (some ⟨W.heap.size, 0, none⟩) ts.length ts.length) (W.alloc (.cells (madeCells #[.int .i64 0, .int .i64 0, .slice none 0 0] (ts.length * 3)) 39)) := fun W => by
    have := run_make (P := Try.prog) W 37 39 i0 _ Try.underlying37 hi0 hz0 .i64 .i64 ts.length ts.length (by omega) (by omega) (by rw [hz2]; omega) (by omega)
    simpa [hz1, Value.cells] using this
  clear hi0 hz0 hz1 hz2
  obtain ⟨A, c, U, rfl, hlc, hc, hs, hcell, hsub⟩ := h.parts
  have hs9 : ∀ i (h : i < ts.length), TopM ts[i] := hs
  have HH := Lib.hid hs9
  have HC := Lib.hid hcell
  have HB := Lib.hid hsub
  clear hcell hs hs9 hsub h
  go_enter Try.func28, Try.ntmps28
  go_wp2
  go_loopw [4] (fun i wr => ∃ (k : Nat), k ≤ ts.length ∧ i = .int .i64 k ∧ BuildM wr w.heap.size ts k ∧ Below w.heap.size w wr) (fun i _ => ts.length - (intOf i).toNat)
  case atStart => exact ⟨0, by omega, rfl, BuildM.start w ts _, al1 _ _⟩
  case round =>
    obtain ⟨k, hk, rfl, hbd, hbw⟩ := hrel
    by_cases hlt : k < ts.length
    · obtain ⟨b, off, rfl, _, hbh, _, hcc⟩ := HC.out (by omega)
      obtain ⟨hc0, hc1, hc2⟩ := hcc k hlt
      have k0 := (hbw.cell (p := ⟨b, off + k * 3, none⟩) (by show b < _; omega)).trans hc0
      have k1 := (hbw.cell (p := ⟨b, off + k * 3 + 1, none⟩) (by show b < _; omega)).trans hc1
      have k2 := (hbw.cell (p := ⟨b, off + k * 3 + 2, none⟩) (by show b < _; omega)).trans hc2
      have hst' := (HB.out k hlt).under hbw hhi
      have hbody := sizeMs_get ts k hlt
      have hbody2 := sizeM_eq ts[k]
      clear hcc hc0 hc1 hc2
      obtain ⟨cur, hrow, hcs⟩ := hbd.row
      have hgl := hrow.lt
      have hsw := hbw.size
      go_wp2_with fail
      refine (toTerm_of ts[k] (ih k hlt) (U k) lo hi _ hst' (by omega) (by omega)).mono ?_
      rintro e w1 ⟨x, rfl, hown, hb2⟩
      unfold tmV
      have hrow1 := hrow.below hb2 hgl
      obtain ⟨u0, hd0⟩ := hrow1.there (show k * 3 < cur.size by omega)
      obtain ⟨u1, hd1⟩ := hrow1.there (show k * 3 + 1 < cur.size by omega)
      obtain ⟨u2, hd2⟩ := hrow1.there (show k * 3 + 2 < cur.size by omega)
      have hf0 := hrow1.free (k * 3)
      have hf1 := hrow1.free (k * 3 + 1)
      have hf2 := hrow1.free (k * 3 + 2)
      have hstep := hbd.step hlt hb2 hown
      clear hcs hrow hrow1 hbd
      obtain ⟨A', c', U', rfl, -⟩ := hown.1.parts
      clear hown
      go_wp2
      go_roundw
      case rel => exact ⟨k + 1, by omega, by go_num, hstep, (((hbw.trans (hb2.mono hsw)).setCell (Nat.le_refl _) _).setCell (Nat.le_refl _) _).setCell (Nat.le_refl _) _⟩
      case measure => simp [intOf]; omega
    · have hks : k = ts.length := by omega
      subst hks
      go_wp2
      go_ret
      exact ⟨_, rfl, hbd.done (Nat.le_refl _) (by unfold maxLen; omega) HH.out, hbw⟩
theorem toTermS_any (ts : List TermD) : ToM ts := terms_ind toTermS_of ts
theorem toTerm_any (t : TermD) (u : Value) (lo hi : Nat) (w : World) (h : KM false w lo hi u t.kids) (hhi : hi ≤ w.heap.size) (hn : sizeMs t.kids ≤ 1048576) :
    Calls Try.prog 16 #[tmV t u] w fun e w' => ∃ x, e = .returned (tmV t x) ∧ OwnM w' w.heap.size w'.heap.size x t.kids ∧ Below w.heap.size w w' :=
  toTerm_of t (toTermS_any _) u lo hi w h hhi hn
end Go.Proofs.Ytlgedjpolmlciaa

/- A Made that came in, laid anew: toMade. -/
namespace Go.Proofs.Ytlgedjpolmlciaa
open Go.RowKit

set_option maxRecDepth 100000 in
set_option maxHeartbeats 4000000 in
theorem toMade_any (m : MadeD) (u x : Value) (lo hi : Nat) (w : World) (h : Strs w lo hi u m.body) (hk : KM false w lo hi x m.term.kids) (hhi : hi ≤ w.heap.size) (hn : bulkD m ≤ 1048576) :
    Calls Try.prog 27 #[mdV m u x] w fun e w' => ∃ u' x' g, e = .returned (mdV m u' x') ∧ OwnS w' g u' m.body ∧ w.heap.size ≤ g ∧ g < w'.heap.size ∧ OwnM w' (g + 1) w'.heap.size x' m.term.kids ∧ Below w.heap.size w w' := by
  have hn1 : m.body.length ≤ 1048576 := by unfold bulkD bulkS at hn; omega
  have hn2 : sizeMs m.term.kids ≤ 1048576 := by unfold bulkD at hn; omega
  clear hn
  unfold mdV
  have hk0 := hk.under (al3 w (.cells #[.string m.head, u, .int .i64 m.term.kind, .int .i64 m.term.num, x] 64) (.cells #[.string ⟨#[]⟩, .slice none 0 0, .int .i64 0, .int .i64 0, .slice none 0 0] 53) (.cells #[.string m.head, .slice none 0 0, .int .i64 0, .int .i64 0, .slice none 0 0] 53)) hhi
  have HK := Lib.hid hk0
  obtain ⟨Ax, cx, Ux, rfl, -⟩ := hk.parts
  have hu : ∃ A c, u = .slice A m.body.length c := by obtain ⟨A, c, e, _⟩ := h; exact ⟨A, c, e⟩
  obtain ⟨Au, cu, rfl⟩ := hu
  clear hk hk0
  go_enter Try.func27, Try.ntmps27
  go_wp2_with fail
  refine (toStringS_any _ m.body lo hi _ (h.below (B := w.heap.size) (al3 _ _ _ _) hhi) (by simp; omega) hn1).mono ?_
  rintro e w1 ⟨u', rfl, hown, hlt, hb⟩
  have hb0 : Below w.heap.size w w1 := (al3 _ _ _ _).trans (hb.mono (by simp; omega))
  have R0 : Row w1 w.heap.size 64 #[.string m.head, .slice Au m.body.length cu, .int .i64 m.term.kind, .int .i64 m.term.num, .slice Ax m.term.kids.length cx] := by
    refine Row.below (Row.alloc (Row.alloc (Row.made w _ _) _) _) hb (by simp; omega)
  have R1 : Row w1 (w.heap.size + 1) 53 #[.string ⟨#[]⟩, .slice none 0 0, .int .i64 0, .int .i64 0, .slice none 0 0] := by
    refine Row.below (Row.alloc ?_ _) hb (by simp)
    simpa using Row.made (w.alloc (.cells #[.string m.head, .slice Au m.body.length cu, .int .i64 m.term.kind, .int .i64 m.term.num, .slice Ax m.term.kids.length cx] 64)) 53 #[.string ⟨#[]⟩, .slice none 0 0, .int .i64 0, .int .i64 0, .slice none 0 0]
  have R2 : Row w1 (w.heap.size + 1 + 1) 53 #[.string m.head, .slice none 0 0, .int .i64 0, .int .i64 0, .slice none 0 0] := by
    refine Row.below ?_ hb (by simp)
    simpa using Row.made ((w.alloc (.cells #[.string m.head, .slice Au m.body.length cu, .int .i64 m.term.kind, .int .i64 m.term.num, .slice Ax m.term.kids.length cx] 64)).alloc (.cells #[.string ⟨#[]⟩, .slice none 0 0, .int .i64 0, .int .i64 0, .slice none 0 0] 53)) 53 #[.string m.head, .slice none 0 0, .int .i64 0, .int .i64 0, .slice none 0 0]
  have hg : w.heap.size + 1 + 1 + 1 < w1.heap.size := by simpa using hlt
  have hown' : OwnS w1 (w.heap.size + 1 + 1 + 1) u' m.body := by simpa using hown
  have HK1 := Lib.hid (HK.out.under hb (by simp; omega))
  clear hb hown hlt
  have c00 := R0.cell 0
  have c01 := R0.cell 1
  have c02 := R0.cell 2
  have c03 := R0.cell 3
  have c04 := R0.cell 4
  have c20 := R2.cell 0
  have c21 := R2.cell 1
  have c22 := R2.cell 2
  have c23 := R2.cell 3
  have c24 := R2.cell 4
  simp at c00 c01 c02 c03 c04 c20 c21 c22 c23 c24
  have f21 := R2.free 1
  have HO := Lib.hid hown'
  have hu' : ∃ A c, u' = .slice A m.body.length c := by obtain ⟨A, c, e, _⟩ := hown'; exact ⟨A, c, e⟩
  obtain ⟨A', c', rfl⟩ := hu'
  clear hown'
  have HR1 := Lib.hid R1
  have HR2 := Lib.hid R2
  clear R0 R1 R2
  have b1 : Below w.heap.size w (w1.setCell ⟨w.heap.size + 1 + 1, 1, none⟩ (.slice A' m.body.length c')) := hb0.setCell (by simp; omega) _
  have HKs : Hid (KM false (w1.setCell ⟨w.heap.size + 1 + 1, 1, none⟩ (.slice A' m.body.length c')) lo hi (.slice Ax m.term.kids.length cx) m.term.kids) := Lib.hid (HK1.out.keep fun p _ hp => Below.heap_setCell _ _ _ _ (by show p ≠ w.heap.size + 1 + 1; omega))
  have HOs : Hid (OwnS (w1.setCell ⟨w.heap.size + 1 + 1, 1, none⟩ (.slice A' m.body.length c')) (w.heap.size + 1 + 1 + 1) (.slice A' m.body.length c') m.body) := Lib.hid (HO.out.keep fun _ => Below.heap_setCell _ _ _ _ (by simp))
  have HR1s : Hid (Row (w1.setCell ⟨w.heap.size + 1 + 1, 1, none⟩ (.slice A' m.body.length c')) (w.heap.size + 1) 53 #[.string ⟨#[]⟩, .slice none 0 0, .int .i64 0, .int .i64 0, .slice none 0 0]) := Lib.hid (HR1.out.away (by show w.heap.size + 1 ≠ w.heap.size + 1 + 1; omega) _)
  have HR2s := Lib.hid (HR2.out.put 1 (.slice A' m.body.length c'))
  clear HK HK1 HO HR1 HR2
  have HG := Lib.hid hg
  have HB := Lib.hid b1
  clear b1 hb0 hg
  go_wp2_with fail
  refine (toTerm_any m.term _ lo hi _ HKs.out (by simp [World.setCell]; have := HG.out; omega) hn2).mono ?_
  rintro e w2 ⟨x', rfl, hm0, b20⟩
  have hsz : (w1.setCell ⟨w.heap.size + 1 + 1, 1, none⟩ (.slice A' m.body.length c')).heap.size = w1.heap.size := by simp [World.setCell]
  have hm : OwnM w2 w1.heap.size w2.heap.size x' m.term.kids := hsz ▸ hm0
  have b2 : Below w1.heap.size (w1.setCell ⟨w.heap.size + 1 + 1, 1, none⟩ (.slice A' m.body.length c')) w2 := hsz ▸ b20
  have z2 : w1.heap.size ≤ w2.heap.size := hsz ▸ b2.size
  have hg := HG.out
  have S1 := HR1s.out.below b2 (by omega)
  have S2 := HR2s.out.below b2 (by omega)
  have S9 := Lib.hid (HOs.out.keep (w' := w2) fun _ => b2.block _ (by omega))
  have d10 := S1.cell 0
  have d11 := S1.cell 1
  have d12 := S1.cell 2
  have d13 := S1.cell 3
  have d14 := S1.cell 4
  have d20 := S2.cell 0
  have d21 := S2.cell 1
  have d22 := S2.cell 2
  have d23 := S2.cell 3
  have d24 := S2.cell 4
  simp at d10 d11 d12 d13 d14 d20 d21 d22 d23 d24
  have f10 := S1.free 0
  have f11 := S1.free 1
  have f12 := S1.free 2
  have f13 := S1.free 3
  have f14 := S1.free 4
  have f22 := S2.free 2
  have f23 := S2.free 3
  have f24 := S2.free 4
  have HM := Lib.hid hm
  have HB2 := Lib.hid (HB.out.trans (b2.mono (by omega)))
  have HZ := Lib.hid z2
  obtain ⟨A3, c3, U3, rfl, -⟩ := hm.1.parts
  clear S1 S2 hm hm0 b2 b20 hsz z2 HB HKs HOs HR1s HR2s HG
  unfold tmV
  go_wp2
  refine bodyPost_ret (v := .agg #[.string m.head, .slice A' m.body.length c', .int .i64 m.term.kind, .int .i64 m.term.num, .slice A3 m.term.kids.length c3]) (by simp [results, Try.results27, go_sem, d10, d11, d12, d13, d14]) rfl ⟨_, _, w.heap.size + 1 + 1 + 1, rfl, ?_, by omega, ?_, ?_, ?_⟩
  · refine S9.out.keep fun _ => ?_
    simp only [World.setCell, Array.getElem?_modify]
    simp
  · have := HZ.out; simp [World.setCell]; omega
  · refine (HM.out.keep ?_).more (by omega) (by simp [World.setCell])
    intro p h1 h2
    iterate 8 rw [Below.heap_setCell _ _ _ _ (by simp; omega)]
  · iterate 8 refine Below.setCell ?_ (by simp; try omega) _
    exact HB2.out
end Go.Proofs.Ytlgedjpolmlciaa
