import Derived.Test.YtlgedjpolmlciaaJMa
import Derived.Test.YtlgedjpolmlciaaJTmq
import Derived.Test.YtlgedjpolmlciaaJOi
/- Two lists of the same Mades are told to be alike: eqMade, eqMadeS. -/
namespace Go.Proofs.Ytlgedjpolmlciaa
open Go.RowKit

set_option maxRecDepth 100000 in
set_option maxHeartbeats 1000000 in
theorem eqMade_any (m : MadeD) (z : Bool) (v u x y : Value) (lo hi lo' hi' : Nat) (w : World) (h : Strs w lo hi v m.body) (h' : Strs w lo' hi' u m.body) (k : KM z w lo hi x m.term.kids) (k' : KM z w lo' hi' y m.term.kids) (hh : hi ≤ w.heap.size) (hh' : hi' ≤ w.heap.size) :
    Calls Try.prog 37 #[mdV m v x, mdV m u y] w fun e w' => e = .returned (.bool true) ∧ Below w.heap.size w w' := by
  unfold mdV
  have d2 : (m.head.toList == m.head.toList) = true := by simp
  have hb : Below w.heap.size w ((w.alloc (.cells #[.string m.head, v, .int .i64 m.term.kind, .int .i64 m.term.num, x] 53)).alloc (.cells #[.string m.head, u, .int .i64 m.term.kind, .int .i64 m.term.num, y] 53)) := al2 _ _ _
  have hv := h.below hb hh
  have hu := h'.below hb hh'
  have R0 : Row ((w.alloc (.cells #[.string m.head, v, .int .i64 m.term.kind, .int .i64 m.term.num, x] 53)).alloc (.cells #[.string m.head, u, .int .i64 m.term.kind, .int .i64 m.term.num, y] 53)) w.heap.size 53 #[.string m.head, v, .int .i64 m.term.kind, .int .i64 m.term.num, x] := (Row.made w _ _).alloc _
  have R1 : Row ((w.alloc (.cells #[.string m.head, v, .int .i64 m.term.kind, .int .i64 m.term.num, x] 53)).alloc (.cells #[.string m.head, u, .int .i64 m.term.kind, .int .i64 m.term.num, y] 53)) (w.heap.size + 1) 53 #[.string m.head, u, .int .i64 m.term.kind, .int .i64 m.term.num, y] := by
    simpa using Row.made (w.alloc (.cells #[.string m.head, v, .int .i64 m.term.kind, .int .i64 m.term.num, x] 53)) 53 #[.string m.head, u, .int .i64 m.term.kind, .int .i64 m.term.num, y]
  have HKX := Lib.hid (k.under hb hh)
  have HKY := Lib.hid (k'.under hb hh')
  obtain ⟨Ax, cx, Ux, rfl, -⟩ := k.parts
  obtain ⟨Ay, cy, Uy, rfl, -⟩ := k'.parts
  clear k k' h h'
  go_enter Try.func37, Try.ntmps37
  go_wp2_with fail
  refine (eqStringS_any v u m.body m.body lo hi lo' hi' _ hv hu).mono ?_
  rintro e w1 ⟨rfl, n, rfl⟩
  rw [eqSs_t rfl]
  have c02 := R0.cell 2
  have c03 := R0.cell 3
  have c04 := R0.cell 4
  have c12 := R1.cell 2
  have c13 := R1.cell 3
  have c14 := R1.cell 4
  simp at c02 c03 c04 c12 c13 c14
  have bw : Below w.heap.size w (((w.alloc (.cells #[.string m.head, v, .int .i64 m.term.kind, .int .i64 m.term.num, .slice Ax m.term.kids.length cx] 53)).alloc (.cells #[.string m.head, u, .int .i64 m.term.kind, .int .i64 m.term.num, .slice Ay m.term.kids.length cy] 53)).drewN n) := ⟨hb.os, hb.tape, hb.output, hb.size, hb.block⟩
  have HX2 := Lib.hid (HKX.out.drewN n)
  have HY2 := Lib.hid (HKY.out.drewN n)
  have HB := Lib.hid bw
  clear hb hv hu R0 R1 bw
  go_wp2_with fail
  refine (eqTerm_any m.term z _ _ lo hi lo' hi' _ HX2.out HY2.out (by simp [World.drewN]; omega) (by simp [World.drewN]; omega)).mono ?_
  rintro e w2 ⟨rfl, b2⟩
  go_wp2
  go_ret
  exact ⟨rfl, HB.out.trans (b2.mono HB.out.size)⟩

set_option maxRecDepth 100000 in
set_option maxHeartbeats 2000000 in
theorem eqMadeS_any (ms : List MadeD) (z : Bool) (v u : Value) (lo hi lo' hi' : Nat) (w : World) (h : DM z w lo hi v ms) (h' : DM z w lo' hi' u ms) (hh : hi ≤ w.heap.size) (hh' : hi' ≤ w.heap.size) :
    Calls Try.prog 21 #[v, u] w fun e w' => e = .returned (.bool true) ∧ Below w.heap.size w w' := by
  obtain ⟨A, c, rfl, hlc, hc, hcell⟩ := h
  obtain ⟨A', c', rfl, hlc', hc', hcell'⟩ := h'
  unfold maxLen at hc hc'
  have HC := Lib.hid hcell
  have HC' := Lib.hid hcell'
  clear hcell hcell'
  go_enter Try.func21, Try.ntmps21
  go_wp2
  go_loopw [5] (fun i wr => ∃ k : Nat, k ≤ ms.length ∧ i = .int .i64 k ∧ Below w.heap.size w wr) (fun i _ => ms.length - (intOf i).toNat)
  case atStart => exact ⟨0, by omega, rfl, Below.refl _ _⟩
  case round =>
    obtain ⟨k, hk, rfl, hbw⟩ := hrel
    have hsw := hbw.size
    by_cases hlt : k < ms.length
    · obtain ⟨b, off, rfl, _, hbh, _, hcc⟩ := HC.out (by omega)
      obtain ⟨b', off', rfl, _, hbh', _, hcc'⟩ := HC'.out (by omega)
      obtain ⟨_, _, hc0, x1, x4, hc1, hc2, hc3, hc4, hst, hkm⟩ := hcc k hlt
      obtain ⟨_, _, hd0, y1, y4, hd1, hd2, hd3, hd4, hst', hkm'⟩ := hcc' k hlt
      have k0 := (hbw.cell (p := ⟨b, off + k * 5, none⟩) (by show b < _; omega)).trans hc0
      have k1 := (hbw.cell (p := ⟨b, off + k * 5 + 1, none⟩) (by show b < _; omega)).trans hc1
      have k2 := (hbw.cell (p := ⟨b, off + k * 5 + 2, none⟩) (by show b < _; omega)).trans hc2
      have k3 := (hbw.cell (p := ⟨b, off + k * 5 + 3, none⟩) (by show b < _; omega)).trans hc3
      have k4 := (hbw.cell (p := ⟨b, off + k * 5 + 4, none⟩) (by show b < _; omega)).trans hc4
      have m0 := (hbw.cell (p := ⟨b', off' + k * 5, none⟩) (by show b' < _; omega)).trans hd0
      have m1 := (hbw.cell (p := ⟨b', off' + k * 5 + 1, none⟩) (by show b' < _; omega)).trans hd1
      have m2 := (hbw.cell (p := ⟨b', off' + k * 5 + 2, none⟩) (by show b' < _; omega)).trans hd2
      have m3 := (hbw.cell (p := ⟨b', off' + k * 5 + 3, none⟩) (by show b' < _; omega)).trans hd3
      have m4 := (hbw.cell (p := ⟨b', off' + k * 5 + 4, none⟩) (by show b' < _; omega)).trans hd4
      have g1 := hst.below hbw hh
      have g2 := hst'.below hbw hh'
      have g3 := hkm.under hbw hh
      have g4 := hkm'.under hbw hh'
      have i1 : (k : Int) < (ms.length : Int) := by omega
      have n1 : (0 : Int) ≤ (k : Int) := by omega
      clear hcc hcc' hc0 hc1 hc2 hc3 hc4 hd0 hd1 hd2 hd3 hd4 hst hst' hkm hkm'
      have hbw2 : Below w.heap.size w wr.drew := hbw.drew
      have g1d : Strs wr.drew lo hi x1 ms[k].body := g1.drewN 1
      have g2d : Strs wr.drew lo' hi' y1 ms[k].body := g2.drewN 1
      have g3d : KM z wr.drew lo hi x4 ms[k].term.kids := g3.drewN 1
      have g4d : KM z wr.drew lo' hi' y4 ms[k].term.kids := g4.drewN 1
      have hswd : w.heap.size ≤ wr.drew.heap.size := hsw
      go_wp2
      go_still_tail 8, (by kernel_rfl)
      change wpList _ _ _ _ _ wr.drew
      generalize wr.drew = w2 at hbw2 g1d g2d g3d g4d hswd ⊢
      go_wp2_with fail
      refine (eqMade_any ms[k] z x1 y1 x4 y4 lo hi lo' hi' _ g1d g2d g3d g4d (by omega) (by omega)).mono ?_
      rintro e w1 ⟨rfl, hb1⟩
      go_wp2
      go_roundw
      case rel => exact ⟨k + 1, by omega, by go_num, hbw2.trans (hb1.mono hswd)⟩
      case measure => simp [intOf]; omega
    · go_wp2
      go_ret
      exact ⟨rfl, hbw⟩
end Go.Proofs.Ytlgedjpolmlciaa

/- What came in, laid anew, on: toRule, toRuleS, toGram. -/
namespace Go.Proofs.Ytlgedjpolmlciaa
open Go.RowKit

set_option maxHeartbeats 1000000 in
theorem toRule_any (r : RuleD) (u : Value) (lo hi : Nat) (w : World) (h : Strs w lo hi u r.body) (hhi : hi ≤ w.heap.size) (hn : r.body.length ≤ 1048576) :
    Calls Try.prog 41 #[.agg #[.string r.head, u]] w fun e w' => ∃ x g, e = .returned (.agg #[.string r.head, x]) ∧ OwnS w' g x r.body ∧ w.heap.size ≤ g ∧ g < w'.heap.size ∧ Below w.heap.size w w' := by
  go_enter Try.func41, Try.ntmps41
  go_wp2_with fail
  refine (toStringS_any u r.body lo hi _ (h.below (B := w.heap.size) (al3 _ _ _ _) hhi) (by simp; omega) hn).mono ?_
  rintro e w1 ⟨x, rfl, hown, hlt, hb⟩
  have hb0 : Below w.heap.size w w1 := (al3 _ _ _ _).trans (hb.mono (by simp; omega))
  have R1 : Row w1 (w.heap.size + 1) 50 #[.string ⟨#[]⟩, .slice none 0 0] := by
    refine Row.below (Row.alloc ?_ _) hb (by simp)
    simpa using Row.made (w.alloc (.cells #[Value.string r.head, u] 77)) 50 #[.string ⟨#[]⟩, .slice none 0 0]
  have R2 : Row w1 (w.heap.size + 1 + 1) 50 #[.string r.head, .slice none 0 0] := by
    refine Row.below ?_ hb (by simp)
    simpa using Row.made ((w.alloc (.cells #[Value.string r.head, u] 77)).alloc (.cells #[.string ⟨#[]⟩, .slice none 0 0] 50)) 50 #[.string r.head, .slice none 0 0]
  clear hb
  have hg : w.heap.size + 1 + 1 + 1 < w1.heap.size := by simpa using hlt
  have hown' : OwnS w1 (w.heap.size + 1 + 1 + 1) x r.body := by simpa using hown
  clear hown hlt
  have c10 := R1.cell 0
  have c11 := R1.cell 1
  have c20 := R2.cell 0
  have c21 := R2.cell 1
  simp at c10 c11 c20 c21
  have f10 := R1.free 0
  have f11 := R1.free 1
  have f20 := R2.free 0
  have f21 := R2.free 1
  clear R1 R2
  have HO := Lib.hid hown'
  obtain ⟨A, c, rfl, -⟩ := hown'
  go_wp2
  refine bodyPost_ret (v := .agg #[.string r.head, .slice A r.body.length c]) (by simp [results, Try.results41, go_sem, c10, c11]) rfl ⟨_, w.heap.size + 1 + 1 + 1, rfl, ?_, by omega, by simpa [World.setCell] using hg, ?_⟩
  · refine HO.out.keep fun _ => ?_
    rw [Below.heap_setCell _ _ _ _ (by simp; omega), Below.heap_setCell _ _ _ _ (by simp; omega), Below.heap_setCell _ _ _ _ (by simp)]
  · exact ((hb0.setCell (by simp; omega) _).setCell (by simp) _).setCell (by simp) _
end Go.Proofs.Ytlgedjpolmlciaa

/- What came in, laid anew, on: toRuleS, toGram. -/
namespace Go.Proofs.Ytlgedjpolmlciaa
open Go.RowKit

theorem Try.infoRule : (Try.prog.info? 50).map (fun i => (i.zero, i.size, i.bytes)) = some (some (.agg #[.string ByteArray.empty, .slice none 0 0]), 2, 40) := by kernel_rfl

/-- k of the rules are laid in block g, their bodies in blocks behind it -/
def BuildR (w : World) (g : Nat) (rs : List RuleD) (k : Nat) : Prop :=
  ∃ (cur : Array Value) (G : Nat → Nat), Row w g 50 cur ∧ cur.size = rs.length * 2 ∧
    (∀ i (h : i < rs.length), i < k → cur[i * 2]? = some (.string rs[i].head) ∧ ∃ u, cur[i * 2 + 1]? = some u ∧ OwnS w (G i) u rs[i].body ∧ g < G i ∧ G i < w.heap.size) ∧
    ∀ i j, i < j → j < k → G i < G j
theorem BuildR.start (w : World) (rs : List RuleD) (z : Array Value) : BuildR (w.alloc (.cells (madeCells z (rs.length * 2)) 50)) w.heap.size rs 0 :=
  ⟨_, fun _ => 0, Row.made w _ _, size_madeCells _ _, fun _ _ h => by omega, fun _ _ _ h => by omega⟩
theorem BuildR.row {w : World} {g k : Nat} {rs : List RuleD} (h : BuildR w g rs k) : ∃ cur, Row w g 50 cur ∧ cur.size = rs.length * 2 := by
  obtain ⟨cur, G, h1, h2, _⟩ := h
  exact ⟨cur, h1, h2⟩
theorem BuildR.step {w w1 : World} {g k gb : Nat} {rs : List RuleD} {u : Value} (h : BuildR w g rs k) (hk : k < rs.length) (hb : Below w.heap.size w w1) (ho : OwnS w1 gb u rs[k].body) (h1 : w.heap.size ≤ gb) (h2 : gb < w1.heap.size) :
    BuildR ((w1.setCell ⟨g, k * 2, none⟩ (.string rs[k].head)).setCell ⟨g, k * 2 + 1, none⟩ u) g rs (k + 1) := by
  obtain ⟨cur, G, hr, hs, hc, hG⟩ := h
  have hgl := hr.lt
  have r1 := ((hr.below hb hgl).put (k * 2) (.string rs[k].head)).put (k * 2 + 1) u
  have hsz : ((w1.setCell ⟨g, k * 2, none⟩ (.string rs[k].head)).setCell ⟨g, k * 2 + 1, none⟩ u).heap.size = w1.heap.size := by simp [World.setCell]
  have hot : ∀ p, p ≠ g → ((w1.setCell ⟨g, k * 2, none⟩ (.string rs[k].head)).setCell ⟨g, k * 2 + 1, none⟩ u).heap[p]? = w1.heap[p]? := fun p hp => by
    rw [Below.heap_setCell _ _ _ _ (by exact hp), Below.heap_setCell _ _ _ _ (by exact hp)]
  refine ⟨_, fun i => if i = k then gb else G i, r1, by simp [hs], fun i hi hik => ?_, fun i j hij hj => ?_⟩
  · by_cases e : i = k
    · subst e
      refine ⟨?_, u, ?_, ?_, ?_, ?_⟩
      · rw [Array.getElem?_setIfInBounds_ne (by omega), Array.getElem?_setIfInBounds_self_of_lt (by omega)]
      · rw [Array.getElem?_setIfInBounds_self_of_lt (by simp; omega)]
      · simp only [if_true]
        exact ho.keep fun _ => hot gb (by omega)
      · simp only [if_true]; omega
      · simp only [if_true]; rw [hsz]; exact h2
    · obtain ⟨a1, v, a2, a3, a4, a5⟩ := hc i hi (by omega)
      refine ⟨?_, v, ?_, ?_, ?_, ?_⟩
      · rw [Array.getElem?_setIfInBounds_ne (by omega), Array.getElem?_setIfInBounds_ne (by omega)]; exact a1
      · rw [Array.getElem?_setIfInBounds_ne (by omega), Array.getElem?_setIfInBounds_ne (by omega)]; exact a2
      · simp only [if_neg e]
        exact a3.keep fun _ => (hot _ (by omega)).trans (hb.block _ a5)
      · simp only [if_neg e]; exact a4
      · simp only [if_neg e]; rw [hsz]; have := hb.size; omega
  · by_cases e : j = k
    · have hi : ¬ i = k := by omega
      simp only [if_neg hi, if_pos e]
      obtain ⟨_, _, _, _, _, a5⟩ := hc i (by omega) (by omega)
      omega
    · have hi : ¬ i = k := by omega
      simp only [if_neg hi, if_neg e]
      exact hG i j hij (by omega)
theorem BuildR.done {w : World} {g lo : Nat} {rs : List RuleD} (h : BuildR w g rs rs.length) (hl : lo ≤ g) (hm : rs.length ≤ maxLen) (hh : ∀ i (h : i < rs.length), rs[i].head.size ≤ maxLen) : OwnR w lo w.heap.size (.slice (some ⟨g, 0, none⟩) rs.length rs.length) rs := by
  obtain ⟨cur, G, hr, hs, hc, hG⟩ := h
  refine ⟨_, _, rfl, Nat.le_refl _, hm, fun _ => ⟨g, cur, G, rfl, hl, hr.lt, hr, fun i hi => ?_, fun i j hi hj _ _ => ?_⟩⟩
  · obtain ⟨a1, v, a2, a3, a4, a5⟩ := hc i hi hi
    exact ⟨hh i hi, a1, v, a2, a3, fun _ => ⟨by omega, a5⟩⟩
  · have := hG i j hi hj; omega

theorem bulk_body {rs : List RuleD} {k : Nat} (h : k < rs.length) : rs[k].body.length ≤ bulkR rs := by
  have h1 := rulesTo_succ rs k h
  have h2 := rulesTo_le rs (k + 1)
  unfold bulkS at h1
  omega
theorem bulk_len (rs : List RuleD) : rs.length ≤ bulkR rs := by unfold bulkR; omega

set_option maxHeartbeats 1000000 in
theorem toRuleS_any (v : Value) (rs : List RuleD) (lo hi : Nat) (w : World) (h : Rules w lo hi v rs) (hhi : hi ≤ w.heap.size) (hn : bulkR rs ≤ 1048576) :
    Calls Try.prog 26 #[v] w fun e w' => ∃ u, e = .returned u ∧ OwnR w' w.heap.size w'.heap.size u rs ∧ Below w.heap.size w w' := by
  have hlen := bulk_len rs
  obtain ⟨i0, hi0, hz0, hz1, hz2⟩ := info_parts Try.infoRule
  have hmk : ∀ W : World, (Instr.makeSlice 33 (.int .i64 (rs.length : Int)) (.int .i64 (rs.length : Int))).run Try.prog W = .ok (.slice (some ⟨W.heap.size, 0, none⟩) rs.length rs.length) (W.alloc (.cells (madeCells #[.string ByteArray.empty, .slice none 0 0] (rs.length * 2)) 50)) := fun W => by
    have := run_make (P := Try.prog) W 33 50 i0 _ Try.underlying33 hi0 hz0 .i64 .i64 rs.length rs.length (by omega) (by omega) (by rw [hz2]; omega) (by omega)
    simpa [hz1, Value.cells] using this
  clear hi0 hz0 hz1 hz2
  obtain ⟨A, c, rfl, hlc, hc, hcell⟩ := h
  have hheads : ∀ i (h : i < rs.length), rs[i].head.size ≤ maxLen := fun i hi => by
    obtain ⟨_, _, _, _, _, hcc⟩ := hcell (by omega)
    exact (hcc i hi).1
  have HH := Lib.hid hheads
  have HC := Lib.hid hcell
  clear hcell hheads
  go_enter Try.func26, Try.ntmps26
  go_wp2
  go_loopw [4] (fun i wr => ∃ (k : Nat), k ≤ rs.length ∧ i = .int .i64 k ∧ BuildR wr w.heap.size rs k ∧ Below w.heap.size w wr) (fun i _ => rs.length - (intOf i).toNat)
  case atStart => exact ⟨0, by omega, rfl, BuildR.start w rs _, al1 _ _⟩
  case round =>
    obtain ⟨k, hk, rfl, hbd, hbw⟩ := hrel
    by_cases hlt : k < rs.length
    · obtain ⟨b, off, rfl, _, hbh, hcc⟩ := HC.out (by omega)
      obtain ⟨hhs, hc0, u, hc1, hst⟩ := hcc k hlt
      have hc0' := (hbw.cell (p := ⟨b, off + k * 2, none⟩) (by show b < _; omega)).trans hc0
      have hc1' := (hbw.cell (p := ⟨b, off + k * 2 + 1, none⟩) (by show b < _; omega)).trans hc1
      have hst' := hst.below hbw hhi
      have hbody := bulk_body hlt
      clear hcc hc0 hc1 hst
      obtain ⟨cur, hrow, hcs⟩ := hbd.row
      have hgl := hrow.lt
      have hsw := hbw.size
      go_wp2_with fail
      refine (toRule_any rs[k] u lo hi _ hst' (by omega) (by omega)).mono ?_
      rintro e w1 ⟨x, gb, rfl, hown, hg1, hg2, hb2⟩
      have hrow1 := hrow.below hb2 hgl
      obtain ⟨u0, hd0⟩ := hrow1.there (show k * 2 < cur.size by omega)
      obtain ⟨u1, hd1⟩ := hrow1.there (show k * 2 + 1 < cur.size by omega)
      have hf0 := hrow1.free (k * 2)
      have hf1 := hrow1.free (k * 2 + 1)
      have hstep := hbd.step hlt hb2 hown hg1 hg2
      clear hcs hrow hrow1 hbd
      obtain ⟨A', c', rfl, -⟩ := hown
      go_wp2
      go_roundw
      case rel => exact ⟨k + 1, by omega, by go_num, hstep, ((hbw.trans (hb2.mono hsw)).setCell (Nat.le_refl _) _).setCell (Nat.le_refl _) _⟩
      case measure => simp [intOf]; omega
    · have hks : k = rs.length := by omega
      subst hks
      go_wp2
      go_ret
      exact ⟨_, rfl, hbd.done (Nat.le_refl _) (by unfold maxLen; omega) HH.out, hbw⟩

set_option maxHeartbeats 1000000 in
theorem toGram_any (v : Value) (rs : List RuleD) (lo hi : Nat) (w : World) (h : Rules w lo hi v rs) (hhi : hi ≤ w.heap.size) (hn : bulkR rs ≤ 1048576) :
    Calls Try.prog 14 #[.agg #[v]] w fun e w' => ∃ u, e = .returned (.agg #[u]) ∧ OwnR w' w.heap.size w'.heap.size u rs ∧ Below w.heap.size w w' := by
  go_enter Try.func14, Try.ntmps14
  go_wp2_with fail
  refine (toRuleS_any v rs lo hi _ (h.below (B := w.heap.size) (al3 _ _ _ _) hhi) (by simp; omega) hn).mono ?_
  rintro e w1 ⟨x, rfl, hown, hb⟩
  have hb0 : Below w.heap.size w w1 := (al3 _ _ _ _).trans (hb.mono (by simp; omega))
  have R1 : Row w1 (w.heap.size + 1) 35 #[.slice none 0 0] := by
    refine Row.below (Row.alloc ?_ _) hb (by simp)
    simpa using Row.made (w.alloc (.cells #[v] 24)) 35 #[.slice none 0 0]
  have R2 : Row w1 (w.heap.size + 1 + 1) 35 #[.slice none 0 0] := by
    refine Row.below ?_ hb (by simp)
    simpa using Row.made ((w.alloc (.cells #[v] 24)).alloc (.cells #[.slice none 0 0] 35)) 35 #[.slice none 0 0]
  have hown' : OwnR w1 (w.heap.size + 1 + 1 + 1) w1.heap.size x rs := by simpa using hown
  clear hb hown
  have c10 := R1.cell 0
  have c20 := R2.cell 0
  simp at c10 c20
  have f10 := R1.free 0
  have f20 := R2.free 0
  clear R1 R2
  have HO := Lib.hid hown'
  obtain ⟨A, c, rfl, -⟩ := hown'
  go_wp2
  refine bodyPost_ret (v := .agg #[.slice A rs.length c]) (by simp [results, Try.results14, go_sem, c10]) rfl ⟨_, rfl, ?_, ?_⟩
  · have hk := HO.out.keep (w' := (w1.setCell ⟨w.heap.size + 1 + 1, 0, none⟩ (.slice A rs.length c)).setCell ⟨w.heap.size + 1, 0, none⟩ (.slice A rs.length c)) (fun k h1 h2 => by rw [Below.heap_setCell _ _ _ _ (by simp; omega), Below.heap_setCell _ _ _ _ (by simp; omega)])
    exact hk.more (by omega) (by simp [World.setCell])
  · exact (hb0.setCell (by simp; omega) _).setCell (by simp) _
end Go.Proofs.Ytlgedjpolmlciaa
