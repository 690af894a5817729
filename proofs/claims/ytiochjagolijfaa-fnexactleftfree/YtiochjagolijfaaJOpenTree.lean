import Derived.Test.YtiochjagolijfaaJGmd
import Derived.Test.YtiochjagolijfaaJTmq
import Derived.Test.YtiochjagolijfaaMab
import Derived.Test.YtiochjagolijfaaJOwns
import Derived.ProofKit
import Derived.OpenShut
import Derived.ShutString
import Derived.ChangeOld
import Derived.Deep.Strs
import Derived.Deep.SlicePairs
import Derived.Deep.Fields
import Derived.Test.YtiochjagolijfaaTre
/- Two lists of the same Mades are told to be alike: eqMade, eqMadeS. -/
namespace Go.Proofs.Ytiochjagolijfaa
open Go.RowKit

set_option maxRecDepth 100000 in
set_option maxHeartbeats 1000000 in
theorem eqMade_any (m : MadeD) (z : Bool) (v u x y : Value) (lo hi lo' hi' : Nat) (w : World) (h : Strs w lo hi v m.body) (h' : Strs w lo' hi' u m.body) (k : KM z w lo hi x m.term.kids) (k' : KM z w lo' hi' y m.term.kids) (hh : hi ≤ w.heap.size) (hh' : hi' ≤ w.heap.size) :
    Calls Try.prog 32 #[mdV m v x, mdV m u y] w fun e w' => e = .returned (.bool true) ∧ Below w.heap.size w w' := by
  unfold mdV
  have d2 : (m.head.toList == m.head.toList) = true := by simp
  have hb : Below w.heap.size w ((w.alloc (.cells #[.string m.head, v, .int .i64 m.term.kind, .int .i64 m.term.num, x] 67)).alloc (.cells #[.string m.head, u, .int .i64 m.term.kind, .int .i64 m.term.num, y] 67)) := al2 _ _ _
  have hv := h.below hb hh
  have hu := h'.below hb hh'
  have R0 : Row ((w.alloc (.cells #[.string m.head, v, .int .i64 m.term.kind, .int .i64 m.term.num, x] 67)).alloc (.cells #[.string m.head, u, .int .i64 m.term.kind, .int .i64 m.term.num, y] 67)) w.heap.size 67 #[.string m.head, v, .int .i64 m.term.kind, .int .i64 m.term.num, x] := (Row.made w _ _).alloc _
  have R1 : Row ((w.alloc (.cells #[.string m.head, v, .int .i64 m.term.kind, .int .i64 m.term.num, x] 67)).alloc (.cells #[.string m.head, u, .int .i64 m.term.kind, .int .i64 m.term.num, y] 67)) (w.heap.size + 1) 67 #[.string m.head, u, .int .i64 m.term.kind, .int .i64 m.term.num, y] := by
    simpa using Row.made (w.alloc (.cells #[.string m.head, v, .int .i64 m.term.kind, .int .i64 m.term.num, x] 67)) 67 #[.string m.head, u, .int .i64 m.term.kind, .int .i64 m.term.num, y]
  have HKX := Lib.hid (k.under hb hh)
  have HKY := Lib.hid (k'.under hb hh')
  obtain ⟨Ax, cx, Ux, rfl, -⟩ := k.parts
  obtain ⟨Ay, cy, Uy, rfl, -⟩ := k'.parts
  clear k k' h h'
  go_enter Try.func32, Try.ntmps32
  go_wp2_with fail
  refine (eqStringS_any v u m.body m.body lo hi lo' hi' _ hv hu).mono ?_
  rintro e w1 ⟨rfl, n, rfl⟩
  rw [eqSs_t rfl]
  have c02 := R0.cell 2
  have c03 := R0.cell 3
  have c04 := R0.cell 4
  have c12 := R1.cell 2
  have c13 := R1.cell 3
  have c14 := R1.cell 4
  simp at c02 c03 c04 c12 c13 c14
  have bw : Below w.heap.size w (((w.alloc (.cells #[.string m.head, v, .int .i64 m.term.kind, .int .i64 m.term.num, .slice Ax m.term.kids.length cx] 67)).alloc (.cells #[.string m.head, u, .int .i64 m.term.kind, .int .i64 m.term.num, .slice Ay m.term.kids.length cy] 67)).drewN n) := ⟨hb.os, hb.tape, hb.output, hb.size, hb.block⟩
  have HX2 := Lib.hid (HKX.out.drewN n)
  have HY2 := Lib.hid (HKY.out.drewN n)
  have HB := Lib.hid bw
  clear hb hv hu R0 R1 bw
  go_wp2_with fail
  refine (eqTerm_any m.term z _ _ lo hi lo' hi' _ HX2.out HY2.out (by simp [World.drewN]; omega) (by simp [World.drewN]; omega)).mono ?_
  rintro e w2 ⟨rfl, b2⟩
  go_wp2
  go_ret
  exact ⟨rfl, HB.out.trans (b2.mono HB.out.size)⟩

set_option maxRecDepth 100000 in
set_option maxHeartbeats 2000000 in
theorem eqMadeS_any (ms : List MadeD) (z : Bool) (v u : Value) (lo hi lo' hi' : Nat) (w : World) (h : DM z w lo hi v ms) (h' : DM z w lo' hi' u ms) (hh : hi ≤ w.heap.size) (hh' : hi' ≤ w.heap.size) :
    Calls Try.prog 11 #[v, u] w fun e w' => e = .returned (.bool true) ∧ Below w.heap.size w w' := by
  obtain ⟨A, c, rfl, hlc, hc, hcell⟩ := h
  obtain ⟨A', c', rfl, hlc', hc', hcell'⟩ := h'
  unfold maxLen at hc hc'
  have HC := Lib.hid hcell
  have HC' := Lib.hid hcell'
  clear hcell hcell'
  go_enter Try.func11, Try.ntmps11
  go_wp2
  go_loopw [5] (fun i wr => ∃ k : Nat, k ≤ ms.length ∧ i = .int .i64 k ∧ Below w.heap.size w wr) (fun i _ => ms.length - (intOf i).toNat)
  case atStart => exact ⟨0, by omega, rfl, Below.refl _ _⟩
  case round =>
    obtain ⟨k, hk, rfl, hbw⟩ := hrel
    have hsw := hbw.size
    by_cases hlt : k < ms.length
    · obtain ⟨b, off, rfl, _, hbh, _, hcc⟩ := HC.out (by omega)
      obtain ⟨b', off', rfl, _, hbh', _, hcc'⟩ := HC'.out (by omega)
      obtain ⟨_, _, hc0, x1, x4, hc1, hc2, hc3, hc4, hst, hkm⟩ := hcc k hlt
      obtain ⟨_, _, hd0, y1, y4, hd1, hd2, hd3, hd4, hst', hkm'⟩ := hcc' k hlt
      have k0 := (hbw.cell (p := ⟨b, off + k * 5, none⟩) (by show b < _; omega)).trans hc0
      have k1 := (hbw.cell (p := ⟨b, off + k * 5 + 1, none⟩) (by show b < _; omega)).trans hc1
      have k2 := (hbw.cell (p := ⟨b, off + k * 5 + 2, none⟩) (by show b < _; omega)).trans hc2
      have k3 := (hbw.cell (p := ⟨b, off + k * 5 + 3, none⟩) (by show b < _; omega)).trans hc3
      have k4 := (hbw.cell (p := ⟨b, off + k * 5 + 4, none⟩) (by show b < _; omega)).trans hc4
      have m0 := (hbw.cell (p := ⟨b', off' + k * 5, none⟩) (by show b' < _; omega)).trans hd0
      have m1 := (hbw.cell (p := ⟨b', off' + k * 5 + 1, none⟩) (by show b' < _; omega)).trans hd1
      have m2 := (hbw.cell (p := ⟨b', off' + k * 5 + 2, none⟩) (by show b' < _; omega)).trans hd2
      have m3 := (hbw.cell (p := ⟨b', off' + k * 5 + 3, none⟩) (by show b' < _; omega)).trans hd3
      have m4 := (hbw.cell (p := ⟨b', off' + k * 5 + 4, none⟩) (by show b' < _; omega)).trans hd4
      have g1 := hst.below hbw hh
      have g2 := hst'.below hbw hh'
      have g3 := hkm.under hbw hh
      have g4 := hkm'.under hbw hh'
      have i1 : (k : Int) < (ms.length : Int) := by omega
      have n1 : (0 : Int) ≤ (k : Int) := by omega
      clear hcc hcc' hc0 hc1 hc2 hc3 hc4 hd0 hd1 hd2 hd3 hd4 hst hst' hkm hkm'
      have hbw2 : Below w.heap.size w wr.drew := hbw.drew
      have g1d : Strs wr.drew lo hi x1 ms[k].body := g1.drewN 1
      have g2d : Strs wr.drew lo' hi' y1 ms[k].body := g2.drewN 1
      have g3d : KM z wr.drew lo hi x4 ms[k].term.kids := g3.drewN 1
      have g4d : KM z wr.drew lo' hi' y4 ms[k].term.kids := g4.drewN 1
      have hswd : w.heap.size ≤ wr.drew.heap.size := hsw
      go_wp2
      go_still_tail 8, (by kernel_rfl)
      change wpList _ _ _ _ _ wr.drew
      generalize wr.drew = w2 at hbw2 g1d g2d g3d g4d hswd ⊢
      go_wp2_with fail
      refine (eqMade_any ms[k] z x1 y1 x4 y4 lo hi lo' hi' _ g1d g2d g3d g4d (by omega) (by omega)).mono ?_
      rintro e w1 ⟨rfl, hb1⟩
      go_wp2
      go_roundw
      case rel => exact ⟨k + 1, by omega, by go_num, hbw2.trans (hb1.mono hswd)⟩
      case measure => simp [intOf]; omega
    · go_wp2
      go_ret
      exact ⟨rfl, hbw⟩
end Go.Proofs.Ytiochjagolijfaa

/- The walk of the law FnExactLeftFree. -/
namespace Go.Proofs.Ytiochjagolijfaa.fnExactLeftFree
open Go.RowKit
set_option maxRecDepth 100000 in
set_option maxHeartbeats 2000000 in
theorem walk (v : Value) (ms : List MadeD) (w : World) (h : DM false w 0 w.heap.size v ms) :
    Calls Try.prog 4 #[v] w fun e w' => e = .returned (.bool true) ∧ Below w.heap.size w w' := by
  have HV := Lib.hid h
  obtain ⟨Av, cv, rfl, -⟩ := h
  by_cases hbig : (1048576 : Int) < bulkDs ms
  · have HS := Lib.hid (szOut_neg hbig)
    go_enter Try.func4, Try.ntmps4
    go_wp2_with fail
    refine (szMadeS_any _ ms 0 w.heap.size _ _ HV.out (Nat.le_refl _) (by omega) (by omega)).mono ?_
    rintro e w1 ⟨rfl, b1⟩
    rw [HS.out]
    go_wp2
    go_ret
    exact ⟨rfl, b1⟩
  have HS := Lib.hid (szOut_pos hbig)
  have d0 : decide ((1048576 : Int) - (bulkDs ms : Int) < 0) = false := decide_eq_false (by omega)
  go_enter Try.func4, Try.ntmps4
  go_wp2_with fail
  refine (szMadeS_any _ ms 0 w.heap.size _ _ HV.out (Nat.le_refl _) (by omega) (by omega)).mono ?_
  rintro e w1 ⟨rfl, b1⟩
  rw [HS.out]
  have z1 := b1.size
  have B1 := Lib.hid b1
  clear b1
  go_wp2_with fail
  refine (toMadeS_any _ ms 0 w.heap.size _ (HV.out.under B1.out (Nat.le_refl _)) z1 (by omega)).mono ?_
  rintro e w2 ⟨x2, rfl, O2, b2⟩
  have B2 := Lib.hid (B1.out.trans (b2.mono z1))
  have z2 := b2.size
  have HO2 := Lib.hid O2
  obtain ⟨A2, c2, rfl, -⟩ := O2
  clear b2
  go_wp2_with fail
  refine (specLeftFree_any _ ms _ _ _ HO2.out.dm (Nat.le_refl _)).mono ?_
  rintro e w3 ⟨rfl, b3⟩
  have B3 := Lib.hid (B2.out.trans (b3.mono (by omega)))
  have z3 := b3.size
  clear b3 HO2
  go_wp2_with fail
  refine (toMadeS_any _ ms 0 w.heap.size _ (HV.out.under B3.out (Nat.le_refl _)) (by omega) (by omega)).mono ?_
  rintro e w4 ⟨x4, rfl, O4, b4⟩
  have B4 := Lib.hid (B3.out.trans (b4.mono (by omega)))
  have z4 := b4.size
  have HO4 := Lib.hid O4
  obtain ⟨A4, c4, rfl, -⟩ := O4
  clear b4
  go_wp2_with fail
  refine (implLeftFree_any _ ms _ _ _ HO4.out.dm (Nat.le_refl _)).mono ?_
  rintro e w5 ⟨rfl, b5⟩
  have B5 := Lib.hid (B4.out.trans (b5.mono (by omega)))
  have z5 := b5.size
  have O5 := Lib.hid (HO4.out.keep (Keeps.below b5 (Nat.le_refl _)))
  clear b5 HO4
  generalize freeB ms = fb
  go_wp2_with fail
  refine (toMadeS_any _ ms 0 w.heap.size _ (HV.out.under B5.out (Nat.le_refl _)) (by omega) (by omega)).mono ?_
  rintro e w6 ⟨x6, rfl, O6, b6⟩
  have z6 := b6.size
  have B6 := Lib.hid (B5.out.trans (b6.mono (by omega)))
  have O56 := Lib.hid (O5.out.keep (Keeps.below b6 (by omega)))
  have HO6 := Lib.hid O6
  obtain ⟨A6, c6, rfl, -⟩ := O6
  clear b6 O5
  go_wp2_with fail
  refine (eqMadeS_any ms true _ _ _ _ _ _ _ O56.out.dm HO6.out.dm (by omega) (Nat.le_refl _)).mono ?_
  rintro e w7 ⟨rfl, b7⟩
  have B7 := Lib.hid (B6.out.trans (b7.mono (by omega)))
  clear b7
  go_wp2
  go_ret
  exact ⟨rfl, B7.out⟩
end Go.Proofs.Ytiochjagolijfaa.fnExactLeftFree

/- A grammar that came in, opened: what the law's row reads of it, as lists. -/
namespace Go.Proofs.Ytiochjagolijfaa
open Go.ChangeShapes Go.WideShapes Go.ChangeAt Go.RowKit Go.Deep

theorem lt_of_cell {w : World} {q : Addr} {v : Value} (h : w.cell? q = some v) : q.block < w.heap.size := by
  rcases Nat.lt_or_ge q.block w.heap.size with hlt | hge
  · exact hlt
  · unfold World.cell? at h
    rw [Array.getElem?_eq_none hge] at h
    simp at h
theorem add_at {b off i : Nat} : (⟨b, off, none⟩ : Addr).add i = ⟨b, off + i, none⟩ := by unfold Addr.add; split <;> simp_all
/-- an address at which something stands has no spot -/
theorem plain_addr {w : World} {a : Addr} {v : Value} (h : w.cell? (a.add 0) = some v) : ∃ b off, a = ⟨b, off, none⟩ ∧ b < w.heap.size := by
  obtain ⟨b, off, spot⟩ := a
  have hs : spot = none := by simpa [Addr.add] using World.cell?_spot h
  subst hs
  exact ⟨b, off, rfl, by simpa [Addr.add] using lt_of_cell h⟩

section
variable {H : Type} {enc : TypeId × Value → H} {w : World}
theorem open_Strs {fuel : Nat} {v : Value} {x : DataW H × List MemPlace} (h : DataW.trod enc Try.prog w 0 (fun _ => true) true fuel 63 [v] = some x) : ∃ ss, Strs w 0 w.heap.size v ss := by
  rcases open_strs Try.underlying63 Try.underlying9 (by kernel_rfl) h with ⟨hcs, _⟩ | ⟨a, len, cap, m, Sx, hcs, _, hl, hm, hmm, _, hc⟩
  · simp only [List.cons.injEq, and_true] at hcs
    subst hcs
    exact ⟨[], none, 0, rfl, Nat.le_refl _, by unfold maxLen; omega, by simp, fun h => by simp at h⟩
  · simp only [List.cons.injEq, and_true] at hcs
    subst hcs
    simp only [if_true] at hmm
    subst hmm
    refine ⟨(List.range len).map Sx, some a, m, by simp, by simpa using hl, hm, ?_, fun hp => ?_⟩
    · intro s hs
      obtain ⟨i, hi, rfl⟩ := List.mem_map.1 hs
      exact (hc i (by have := List.mem_range.1 hi; omega)).2
    · simp only [List.length_map, List.length_range] at hp
      obtain ⟨b, off, rfl, hb⟩ := plain_addr (hc 0 (by omega)).1
      refine ⟨b, off, rfl, Nat.zero_le _, hb, fun i hi => ?_⟩
      simp only [List.length_map, List.length_range] at hi
      have := (hc i (by omega)).1
      rw [add_at] at this
      simpa using this

theorem open_Rules {fuel : Nat} {v : Value} {x : DataW H × List MemPlace} (h : DataW.trod enc Try.prog w 0 (fun _ => true) true fuel 32 [v] = some x) : ∃ rs, Rules w 0 w.heap.size v rs := by
  rcases open_slice_pairs Try.underlying32 Try.underlying139 (by kernel_rfl) rfl rfl (by kernel_rfl) (by kernel_rfl) h with ⟨hcs, _⟩ | ⟨a, len, cap, m, n, V0, V1, D0, D1, P0, P1, hcs, _, hl, hm, hmm, _, hc⟩
  · simp only [List.cons.injEq, and_true] at hcs
    subst hcs
    exact ⟨[], none, 0, rfl, Nat.le_refl _, by unfold maxLen; omega, fun h => by simp at h⟩
  · simp only [List.cons.injEq, and_true] at hcs
    subst hcs
    simp only [if_true] at hmm
    subst hmm
    have each : ∀ i, i < len → ∃ r : RuleD, V0 i = .string r.head ∧ r.head.size ≤ maxLen ∧ Strs w 0 w.heap.size (V1 i) r.body := fun i hi => by
      obtain ⟨_, _, t0, t1⟩ := hc i (by omega)
      obtain ⟨s, e1, _, e2⟩ := DataW.trod_string Try.underlying9 t0
      obtain ⟨ss, hs⟩ := open_Strs t1
      exact ⟨⟨s, ss⟩, by simpa using e1, e2, hs⟩
    haveI : Inhabited RuleD := ⟨⟨ByteArray.empty, []⟩⟩
    obtain ⟨R, hR⟩ := choose_lt each
    refine ⟨(List.range len).map R, some a, m, by simp, by simpa using hl, hm, fun hp => ?_⟩
    simp only [List.length_map, List.length_range] at hp
    obtain ⟨b, off, rfl, hb⟩ := plain_addr (by have := (hc 0 (by omega)).1; simpa using this)
    refine ⟨b, off, rfl, Nat.zero_le _, hb, fun i hi => ?_⟩
    simp only [List.length_map, List.length_range] at hi
    obtain ⟨a1, a2, _, _⟩ := hc i (by omega)
    obtain ⟨r1, r2, r3⟩ := hR i hi
    rw [add_at] at a1 a2
    simp only [List.getElem_map, List.getElem_range]
    exact ⟨r2, by rw [a1, r1], V1 i, by rw [← a2]; rfl, r3⟩

set_option maxRecDepth 100000 in
theorem open_Gram {base : Nat} {v : Value} {d : DataW H} {p : List MemPlace} (hv : Value.okWide Try.prog w .any base 34 v) (h : DataW.Trod enc Try.prog w 0 (fun _ => true) true 34 v d p) :
    ∃ u rs, v = .agg #[u] ∧ Rules w 0 w.heap.size u rs := by
  obtain ⟨cs, rfl, hsz⟩ := okWide_struct Try.underlying34 hv
  obtain ⟨l⟩ := cs
  have hC : Try.prog.cellsOf 34 = 1 := by kernel_rfl
  match l, hsz.trans hC with
  | [u], _ =>
    obtain ⟨fuel, hf⟩ := h
    obtain ⟨xs, n, _, hx, _, hlen, hg⟩ := DataW.trod_struct Try.underlying34 hf
    match xs, hlen with
    | [y], _ =>
      have h0 := hg 0 _ rfl
      have hu : DataW.trod enc Try.prog w 0 (fun _ => true) true n 32 [u] = some y := by
        have hk : Try.prog.cellsOf 32 = 1 := by kernel_rfl
        simpa [Value.cells, hk] using h0
      obtain ⟨rs, hr⟩ := open_Rules hu
      exact ⟨u, rs, rfl, hr⟩
end
end Go.Proofs.Ytiochjagolijfaa

/- A tree that came in, opened: what the law's row reads of it, as data. -/
namespace Go.Proofs.Ytiochjagolijfaa
open Go.ChangeShapes Go.WideShapes Go.ChangeAt Go.RowKit Go.Deep

section
variable {H : Type} {enc : TypeId × Value → H} {w : World}
theorem rule_bounds {n : Int} (h : (Lit.int .i64 n).wf = true) : -9223372036854775808 ≤ n ∧ n ≤ 9223372036854775807 := by
  have := bounds_i64 h
  omega
set_option maxRecDepth 100000 in
/-- a tree's three cells, opened by what opens the list of its Kids -/
theorem open_three {n : Nat} {cs : List Value} {x : DataW H × List MemPlace} (ih : ∀ m, m < n → ∀ (v : Value) (x : DataW H × List MemPlace), DataW.trod enc Try.prog w 0 (fun _ => true) true m 52 [v] = some x → ∃ ts, Kd false w 0 w.heap.size v ts)
    (hl : cs.length = 3) (h : DataW.trod enc Try.prog w 0 (fun _ => true) true n 54 cs = some x) :
    ∃ (t : TreeD) (u : Value), cs = [.int .i64 t.rule, .string t.tok, u] ∧ TopOk t ∧ Kd false w 0 w.heap.size u t.kids := by
  obtain ⟨xs, k, hk, hxy, _, hxl, hf⟩ := DataW.trod_struct Try.underlying54 h
  match xs, hxl, cs, hl with
  | [y0, y1, y2], _, [v0, v1, v2], _ =>
    have g0 := hf 0 _ rfl
    have g1 := hf 1 _ rfl
    have g2 := hf 2 _ rfl
    have hk0 : Try.prog.cellsOf 2 = 1 := by kernel_rfl
    have hk1 : Try.prog.cellsOf 9 = 1 := by kernel_rfl
    have hk2 : Try.prog.cellsOf 52 = 1 := by kernel_rfl
    simp [hk0] at g0
    simp [hk1] at g1
    simp [hk2] at g2
    obtain ⟨n0, e0, _, w0⟩ := DataW.trod_int Try.underlying2 g0
    obtain ⟨s, e1, _, w1⟩ := DataW.trod_string Try.underlying9 g1
    obtain ⟨ts, hts⟩ := ih k (by omega) v2 y2 g2
    refine ⟨.node n0 s ts, v2, ?_, ⟨w1, rule_bounds w0⟩, hts⟩
    simp only [List.cons.injEq, and_true] at e0 e1
    rw [e0, e1]
    rfl
set_option maxRecDepth 100000 in
theorem open_Kids : ∀ (fuel : Nat) (v : Value) (x : DataW H × List MemPlace), DataW.trod enc Try.prog w 0 (fun _ => true) true fuel 52 [v] = some x → ∃ ts, Kd false w 0 w.heap.size v ts := by
  intro fuel
  induction fuel using Nat.strongRecOn with
  | ind fuel ih =>
  intro v x h
  have hcl : Try.prog.cellsOf 54 = 3 := by kernel_rfl
  rcases DataW.trod_slice Try.underlying52 h with ⟨hcs, _⟩ | ⟨a, len, cap, elems, rest, n, hfu, hcs, _, _, hl, hm, hlen, hel, _, _⟩
  · simp only [List.cons.injEq, and_true] at hcs
    subst hcs
    exact ⟨[], .mk none 0 [] (fun _ => .nilFunc) (Nat.le_refl _) (by unfold maxLen; omega) (by simp) (by simp) (by simp)⟩
  · simp only [List.cons.injEq, and_true] at hcs
    subst hcs
    have each : ∀ i, i < len → ∃ q : TreeD × Value, w.cell? (a.add (i * 3)) = some (.int .i64 q.1.rule) ∧ w.cell? (a.add (i * 3 + 1)) = some (.string q.1.tok) ∧ w.cell? (a.add (i * 3 + 2)) = some q.2 ∧ TopOk q.1 ∧ Kd false w 0 w.heap.size q.2 q.1.kids := fun i hi => by
      have h1 := hel i hi
      rw [hcl, List.getElem?_eq_getElem (by omega)] at h1
      obtain ⟨cs', h2, h3⟩ := Option.bind_eq_some_iff.1 h1
      obtain ⟨_, hcl', hcell⟩ := World.cells?_some h2
      obtain ⟨t, u, rfl, ht, hk⟩ := open_three (fun m hm => ih m (by omega)) hcl' h3
      have e0 := hcell 0 (by omega)
      have e1 := hcell 1 (by omega)
      have e2 := hcell 2 (by omega)
      rw [add_add] at e0 e1 e2
      exact ⟨(t, u), by simpa using e0, by simpa using e1, by simpa using e2, ht, hk⟩
    haveI : Inhabited (TreeD × Value) := ⟨(default, .nilFunc)⟩
    obtain ⟨q, hq⟩ := choose_lt each
    refine ⟨(List.range len).map fun i => (q i).1, ?_⟩
    have hll : ((List.range len).map fun i => (q i).1).length = len := by simp
    have key : Kd false w 0 w.heap.size (.slice (some a) ((List.range len).map fun i => (q i).1).length cap) ((List.range len).map fun i => (q i).1) := by
      refine .mk (some a) cap _ (fun i => (q i).2) (by rw [hll]; exact hl) hm (fun i hi => ?_) (fun hp => ?_) (fun i hi => ?_)
      · rw [hll] at hi
        simp only [List.getElem_map, List.getElem_range]
        exact (hq i hi).2.2.2.1
      · rw [hll] at hp
        obtain ⟨b, off, rfl, hb⟩ := plain_addr (by have := (hq 0 hp).1; simpa using this)
        refine ⟨b, off, rfl, Nat.zero_le _, hb, (fun e => by cases e), fun i hi => ?_⟩
        rw [hll] at hi
        obtain ⟨a1, a2, a3, _, _⟩ := hq i hi
        rw [add_at] at a1 a2 a3
        simp only [List.getElem_map, List.getElem_range]
        exact ⟨a1, a2, a3⟩
      · rw [hll] at hi
        simp only [List.getElem_map, List.getElem_range]
        exact (hq i hi).2.2.2.2
    rw [hll] at key
    exact key

set_option maxRecDepth 100000 in
theorem open_Tree {base : Nat} {v : Value} {d : DataW H} {p : List MemPlace} (hv : Value.okWide Try.prog w .any base 54 v) (h : DataW.Trod enc Try.prog w 0 (fun _ => true) true 54 v d p) :
    ∃ (t : TreeD) (u : Value), v = trV t u ∧ TopOk t ∧ Kd false w 0 w.heap.size u t.kids := by
  obtain ⟨cs, rfl, hsz⟩ := okWide_struct Try.underlying54 hv
  obtain ⟨l⟩ := cs
  have hC : Try.prog.cellsOf 54 = 3 := by kernel_rfl
  obtain ⟨fuel, hf⟩ := h
  have hl : l.length = 3 := hsz.trans hC
  obtain ⟨t, u, rfl, ht, hk⟩ := open_three (fun m _ => open_Kids m) hl (by simpa [Value.cells] using hf)
  exact ⟨t, u, rfl, ht, hk⟩
end
end Go.Proofs.Ytiochjagolijfaa
