import Derived.Test.YtiochjagolijfaaJTmt
import Derived.Test.YtiochjagolijfaaJGvi
import Derived.Test.YtiochjagolijfaaJMko
import Derived.Test.YtiochjagolijfaaJMaq
import Derived.Test.YtiochjagolijfaaJOwns
import Derived.ProofKit
import Derived.OpenShut
import Derived.ShutString
import Derived.ChangeOld
import Derived.Deep.Strs
import Derived.Deep.SlicePairs
import Derived.Deep.Fields
import Derived.Test.YtiochjagolijfaaJTm
/- The walk of the law FnExactClean. -/
namespace Go.Proofs.Ytiochjagolijfaa.fnExactClean
open Go.RowKit
set_option maxRecDepth 100000 in
set_option maxHeartbeats 4000000 in
theorem walk (v : Value) (ms : List MadeD) (start : ByteArray) (hss : start.size ≤ maxLen) (w : World) (h : DM false w 0 w.heap.size v ms) :
    Calls Try.prog 3 #[v, .string start] w fun e w' => e = .returned (.bool true) ∧ Below w.heap.size w w' := by
  have HV := Lib.hid h
  have HSS := Lib.hid hss
  unfold maxLen at hss
  obtain ⟨Av, cv, rfl, -⟩ := h
  by_cases hst : (1048576 : Int) < (start.size : Int)
  · go_enter Try.func3, Try.ntmps3
    go_wp2
    go_ret
    exact ⟨rfl, Below.refl _ _⟩
  by_cases hbig : (1048576 : Int) < bulkDs ms
  · have HS := Lib.hid (szOut_neg hbig)
    go_enter Try.func3, Try.ntmps3
    go_wp2_with fail
    refine (szMadeS_any _ ms 0 w.heap.size _ _ HV.out (Nat.le_refl _) (by omega) (by omega)).mono ?_
    rintro e w1 ⟨rfl, b1⟩
    rw [HS.out]
    go_wp2
    go_ret
    exact ⟨rfl, b1⟩
  have HS := Lib.hid (szOut_pos hbig)
  have d0 : decide ((1048576 : Int) - (bulkDs ms : Int) < 0) = false := decide_eq_false (by omega)
  have hcb := bulk_cleanD ms start
  go_enter Try.func3, Try.ntmps3
  go_wp2_with fail
  refine (szMadeS_any _ ms 0 w.heap.size _ _ HV.out (Nat.le_refl _) (by omega) (by omega)).mono ?_
  rintro e w1 ⟨rfl, b1⟩
  rw [HS.out]
  have z1 := b1.size
  have B1 := Lib.hid b1
  clear b1
  go_wp2_with fail
  refine (toMadeS_any _ ms 0 w.heap.size _ (HV.out.under B1.out (Nat.le_refl _)) z1 (by omega)).mono ?_
  rintro e w2 ⟨x2, rfl, O2, b2⟩
  have B2 := Lib.hid (B1.out.trans (b2.mono z1))
  have z2 := b2.size
  have HO2 := Lib.hid O2
  obtain ⟨A2, c2, rfl, -⟩ := O2
  clear b2
  go_wp2_with fail
  refine (specClean_any _ ms start _ _ _ HO2.out.dm (Nat.le_refl _) (by omega) HSS.out).mono ?_
  rintro e w3 ⟨u3, rfl, S3, b3⟩
  have B3 := Lib.hid (B2.out.trans (b3.mono (by omega)))
  have z3 := b3.size
  have T3 := Lib.hid S3.loose
  obtain ⟨A3, c3, rfl, -⟩ := S3
  clear b3 HO2
  go_wp2_with fail
  refine (toMadeS_any _ ms 0 w.heap.size _ (HV.out.under B3.out (Nat.le_refl _)) (by omega) (by omega)).mono ?_
  rintro e w4 ⟨x4, rfl, O4, b4⟩
  have B4 := Lib.hid (B3.out.trans (b4.mono (by omega)))
  have z4 := b4.size
  have HO4 := Lib.hid O4
  obtain ⟨A4, c4, rfl, -⟩ := O4
  have T4 := Lib.hid (T3.out.under b4 (Nat.le_refl _))
  clear b4 T3
  go_wp2_with fail
  refine (implClean_any _ ms start _ _ _ HO4.out.dm (Nat.le_refl _) (by omega) HSS.out).mono ?_
  rintro e w5 ⟨u5, xs5, p5, rfl, hx5, S5, G5, H5, b5⟩
  have B5 := Lib.hid (B4.out.trans (b5.mono (by omega)))
  have z5 := b5.size
  have O5 := Lib.hid (HO4.out.keep (Keeps.below b5 (Nat.le_refl _)))
  have T5 := Lib.hid (T4.out.under b5 (by omega))
  have D5 : Hid (DM false w5 p5 w5.heap.size u5 (cleanD ms start)) := Lib.hid (by have := S5.dm.loose; rw [hx5] at this; exact this)
  have HX5 := Lib.hid hx5
  have HS5 := Lib.hid S5
  obtain ⟨A5, c5, rfl⟩ := growD_form S5
  clear b5 S5 hx5 T4 HO4
  go_wp2_with fail
  refine (eqMadeS_any (cleanD ms start) false _ _ _ _ _ _ _ D5.out T5.out (Nat.le_refl _) (by omega)).mono ?_
  rintro e w6 ⟨rfl, b6⟩
  have z6 : w5.heap.size ≤ w6.heap.size := b6.size
  have B6 := Lib.hid (B5.out.trans (b6.mono (by omega)))
  have O6 := Lib.hid (O5.out.keep (Keeps.below b6 (by omega)))
  have T6 := Lib.hid (T5.out.under b6 (by omega))
  have S6 := Lib.hid (HS5.out.below b6)
  clear b6 O5 T5 D5 HS5
  go_wp2_with fail
  refine (toMadeS_any _ ms 0 w.heap.size _ (HV.out.under B6.out (Nat.le_refl _)) (by omega) (by omega)).mono ?_
  rintro e w7 ⟨x7, rfl, O7, b7⟩
  have z7 : w6.heap.size ≤ w7.heap.size := b7.size
  have B7 := Lib.hid (B6.out.trans (b7.mono (by omega)))
  have O67 := Lib.hid (O6.out.keep (Keeps.below b7 (by omega)))
  have T7 := Lib.hid (T6.out.under b7 (by omega))
  have S7 := Lib.hid (S6.out.below b7)
  have HO7 := Lib.hid O7
  obtain ⟨A7, c7, rfl, -⟩ := O7
  clear b7 O6 T6 S6
  go_wp2_with fail
  refine (eqMadeS_any ms true _ _ _ _ _ _ _ O67.out.dm HO7.out.dm (by omega) (Nat.le_refl _)).mono ?_
  rintro e w8 ⟨rfl, b8⟩
  have z8 : w7.heap.size ≤ w8.heap.size := b8.size
  have B8 := Lib.hid (B7.out.trans (b8.mono (by omega)))
  have O8 := Lib.hid (O67.out.keep (Keeps.below b8 (by omega)))
  have T8 := Lib.hid (T7.out.under b8 (by omega))
  have S8 := Lib.hid (S7.out.below b8)
  clear b8 O67 T7 S7 HO7
  go_wp2_with fail
  refine (markMadeS_mine _ ms _ _ _ O8.out (by omega) (by omega)).mono ?_
  rintro e w9 ⟨K9, rfl, hK9, m9⟩
  have z9 := m9.size
  have B9 := Lib.hid (B8.out.trans ((m9.below (by omega)).mono (by omega)))
  have S9 := Lib.hid (S8.out.move z9 (fun q hq => m9.block q (S8.out.row.lt q hq).2 (.inr (by have := (S8.out.row.lt q hq).1; omega))) fun y hy p p1 p2 => m9.block p (by have := (S8.out.each y hy).ord; omega) (.inr (by have := (S8.out.each y hy).ord; omega)))
  have T9 : Hid (DM false w9 0 w3.heap.size (.slice A3 (cleanD ms start).length c3) (cleanD ms start)) := Lib.hid (T8.out.keep fun p _ p2 => m9.block p (by omega) (.inl (by omega)))
  have D9 : Hid (DM false w9 p5 w9.heap.size (.slice A5 xs5.length c5) (cleanD ms start)) := Lib.hid (by have := S9.out.dm.loose; rw [HX5.out] at this; exact this)
  have d9 : decide (K9 < 0) = false := decide_eq_false (by omega)
  clear m9 O8 T8 S8
  go_wp2_with fail
  refine (eqMadeS_any (cleanD ms start) false _ _ _ _ _ _ _ D9.out T9.out (Nat.le_refl _) (by omega)).mono ?_
  rintro e wa ⟨rfl, ba⟩
  have za : w9.heap.size ≤ wa.heap.size := ba.size
  have Sa := Lib.hid (S9.out.below ba)
  have Ta := Lib.hid (T9.out.under ba (by omega))
  have Ba := Lib.hid (B9.out.trans (ba.mono (by omega)))
  clear ba S9 T9 D9
  go_wp2_with fail
  refine (markMadeS_one _ xs5 p5 (cleanD ms start) _ Sa.out HX5.out (by omega)).mono ?_
  rintro e wb ⟨Kb, rfl, hKb', hKb, ⟨ys, Sb, hys⟩, mb⟩
  have HKb := Lib.hid hKb'
  have zb : wa.heap.size ≤ wb.heap.size := mb.size
  have Bb := Lib.hid (Ba.out.trans ((mb.below (by omega)).mono (by omega)))
  have Tb : Hid (DM false wb 0 w3.heap.size (.slice A3 (cleanD ms start).length c3) (cleanD ms start)) := Lib.hid (Ta.out.keep fun p _ p2 => mb.block p (by omega) (.inl (by omega)))
  have Ub : Hid (DM false wb p5 wb.heap.size (.slice A5 xs5.length c5) (marksD 1 (cleanD ms start))) := Lib.hid (by have := Sb.dm.loose; rw [hys] at this; exact this)
  clear hKb' Sa Ta Sb hys mb
  go_wp2_with fail
  refine (heldMadeS_one _ (cleanD ms start) _ _ _ Ub.out (Nat.le_refl _) (by omega)).mono ?_
  rintro e wc ⟨Kc, rfl, hKc, bc⟩
  obtain rfl : Kb = Kc := HKb.out.trans hKc.symm
  have HKc := Lib.hid hKc
  clear hKc
  have Bc := Lib.hid (Bb.out.trans (bc.mono (by have := Bb.out.size; omega)))
  have zc := bc.size
  have Tc := Lib.hid (Tb.out.under bc (by omega))
  have Uc := Lib.hid (Ub.out.under bc (Nat.le_refl _))
  have d10 : decide (Kb < 0) = false := decide_eq_false (by omega)
  clear bc Tb Ub
  go_wp2_with fail
  refine (toMadeS_any _ ms 0 w.heap.size _ (HV.out.under Bc.out (Nat.le_refl _)) (by omega) (by omega)).mono ?_
  rintro e wd ⟨xd, rfl, Od, bd⟩
  have Bd := Lib.hid (Bc.out.trans (bd.mono (by omega)))
  have zd := bd.size
  have Td := Lib.hid (Tc.out.under bd (by omega))
  have Ud := Lib.hid (Uc.out.under bd (by omega))
  have HOd := Lib.hid Od
  obtain ⟨Ad, cd, rfl, -⟩ := Od
  clear bd Tc Uc
  go_wp2_with fail
  refine (implClean_any _ ms start _ _ _ HOd.out.dm (Nat.le_refl _) (by omega) HSS.out).mono ?_
  rintro e we ⟨ue, xse, pe, rfl, hxe, Se, Ge, He, be⟩
  have Be := Lib.hid (Bd.out.trans (be.mono (by omega)))
  have ze := be.size
  have Te := Lib.hid (Td.out.under be (by omega))
  have Ue := Lib.hid (Ud.out.under be (by omega))
  have De : Hid (DM false we pe we.heap.size ue (cleanD ms start)) := Lib.hid (by have := Se.dm.loose; rw [hxe] at this; exact this)
  obtain ⟨Ae, ce, rfl⟩ := growD_form Se
  clear be Td Ud Se hxe
  go_wp2_with fail
  refine (eqMadeS_any (cleanD ms start) false _ _ _ _ _ _ _ De.out Te.out (Nat.le_refl _) (by omega)).mono ?_
  rintro e wf ⟨rfl, bf⟩
  have zf : we.heap.size ≤ wf.heap.size := bf.size
  have Uf := Lib.hid (Ue.out.under bf (by omega))
  have Bf := Lib.hid (Be.out.trans (bf.mono (by omega)))
  clear bf Te Ue De
  go_wp2_with fail
  refine (heldMadeS_one _ (cleanD ms start) _ _ _ Uf.out (by omega) (by omega)).mono ?_
  rintro e wg ⟨Kg, rfl, hKg, bg⟩
  obtain rfl : Kb = Kg := HKc.out.trans hKg.symm
  go_wp2
  go_ret
  exact ⟨rfl, Bf.out.trans (bg.mono Bf.out.size)⟩
end Go.Proofs.Ytiochjagolijfaa.fnExactClean

/- A grammar that came in, opened: what the law's row reads of it, as lists. -/
namespace Go.Proofs.Ytiochjagolijfaa
open Go.ChangeShapes Go.WideShapes Go.ChangeAt Go.RowKit Go.Deep

theorem lt_of_cell {w : World} {q : Addr} {v : Value} (h : w.cell? q = some v) : q.block < w.heap.size := by
  rcases Nat.lt_or_ge q.block w.heap.size with hlt | hge
  · exact hlt
  · unfold World.cell? at h
    rw [Array.getElem?_eq_none hge] at h
    simp at h
theorem add_at {b off i : Nat} : (⟨b, off, none⟩ : Addr).add i = ⟨b, off + i, none⟩ := by unfold Addr.add; split <;> simp_all
/-- an address at which something stands has no spot -/
theorem plain_addr {w : World} {a : Addr} {v : Value} (h : w.cell? (a.add 0) = some v) : ∃ b off, a = ⟨b, off, none⟩ ∧ b < w.heap.size := by
  obtain ⟨b, off, spot⟩ := a
  have hs : spot = none := by simpa [Addr.add] using World.cell?_spot h
  subst hs
  exact ⟨b, off, rfl, by simpa [Addr.add] using lt_of_cell h⟩

section
variable {H : Type} {enc : TypeId × Value → H} {w : World}
theorem open_Strs {fuel : Nat} {v : Value} {x : DataW H × List MemPlace} (h : DataW.trod enc Try.prog w 0 (fun _ => true) true fuel 63 [v] = some x) : ∃ ss, Strs w 0 w.heap.size v ss := by
  rcases open_strs Try.underlying63 Try.underlying9 (by kernel_rfl) h with ⟨hcs, _⟩ | ⟨a, len, cap, m, Sx, hcs, _, hl, hm, hmm, _, hc⟩
  · simp only [List.cons.injEq, and_true] at hcs
    subst hcs
    exact ⟨[], none, 0, rfl, Nat.le_refl _, by unfold maxLen; omega, by simp, fun h => by simp at h⟩
  · simp only [List.cons.injEq, and_true] at hcs
    subst hcs
    simp only [if_true] at hmm
    subst hmm
    refine ⟨(List.range len).map Sx, some a, m, by simp, by simpa using hl, hm, ?_, fun hp => ?_⟩
    · intro s hs
      obtain ⟨i, hi, rfl⟩ := List.mem_map.1 hs
      exact (hc i (by have := List.mem_range.1 hi; omega)).2
    · simp only [List.length_map, List.length_range] at hp
      obtain ⟨b, off, rfl, hb⟩ := plain_addr (hc 0 (by omega)).1
      refine ⟨b, off, rfl, Nat.zero_le _, hb, fun i hi => ?_⟩
      simp only [List.length_map, List.length_range] at hi
      have := (hc i (by omega)).1
      rw [add_at] at this
      simpa using this

theorem open_Rules {fuel : Nat} {v : Value} {x : DataW H × List MemPlace} (h : DataW.trod enc Try.prog w 0 (fun _ => true) true fuel 32 [v] = some x) : ∃ rs, Rules w 0 w.heap.size v rs := by
  rcases open_slice_pairs Try.underlying32 Try.underlying139 (by kernel_rfl) rfl rfl (by kernel_rfl) (by kernel_rfl) h with ⟨hcs, _⟩ | ⟨a, len, cap, m, n, V0, V1, D0, D1, P0, P1, hcs, _, hl, hm, hmm, _, hc⟩
  · simp only [List.cons.injEq, and_true] at hcs
    subst hcs
    exact ⟨[], none, 0, rfl, Nat.le_refl _, by unfold maxLen; omega, fun h => by simp at h⟩
  · simp only [List.cons.injEq, and_true] at hcs
    subst hcs
    simp only [if_true] at hmm
    subst hmm
    have each : ∀ i, i < len → ∃ r : RuleD, V0 i = .string r.head ∧ r.head.size ≤ maxLen ∧ Strs w 0 w.heap.size (V1 i) r.body := fun i hi => by
      obtain ⟨_, _, t0, t1⟩ := hc i (by omega)
      obtain ⟨s, e1, _, e2⟩ := DataW.trod_string Try.underlying9 t0
      obtain ⟨ss, hs⟩ := open_Strs t1
      exact ⟨⟨s, ss⟩, by simpa using e1, e2, hs⟩
    haveI : Inhabited RuleD := ⟨⟨ByteArray.empty, []⟩⟩
    obtain ⟨R, hR⟩ := choose_lt each
    refine ⟨(List.range len).map R, some a, m, by simp, by simpa using hl, hm, fun hp => ?_⟩
    simp only [List.length_map, List.length_range] at hp
    obtain ⟨b, off, rfl, hb⟩ := plain_addr (by have := (hc 0 (by omega)).1; simpa using this)
    refine ⟨b, off, rfl, Nat.zero_le _, hb, fun i hi => ?_⟩
    simp only [List.length_map, List.length_range] at hi
    obtain ⟨a1, a2, _, _⟩ := hc i (by omega)
    obtain ⟨r1, r2, r3⟩ := hR i hi
    rw [add_at] at a1 a2
    simp only [List.getElem_map, List.getElem_range]
    exact ⟨r2, by rw [a1, r1], V1 i, by rw [← a2]; rfl, r3⟩

set_option maxRecDepth 100000 in
theorem open_Gram {base : Nat} {v : Value} {d : DataW H} {p : List MemPlace} (hv : Value.okWide Try.prog w .any base 34 v) (h : DataW.Trod enc Try.prog w 0 (fun _ => true) true 34 v d p) :
    ∃ u rs, v = .agg #[u] ∧ Rules w 0 w.heap.size u rs := by
  obtain ⟨cs, rfl, hsz⟩ := okWide_struct Try.underlying34 hv
  obtain ⟨l⟩ := cs
  have hC : Try.prog.cellsOf 34 = 1 := by kernel_rfl
  match l, hsz.trans hC with
  | [u], _ =>
    obtain ⟨fuel, hf⟩ := h
    obtain ⟨xs, n, _, hx, _, hlen, hg⟩ := DataW.trod_struct Try.underlying34 hf
    match xs, hlen with
    | [y], _ =>
      have h0 := hg 0 _ rfl
      have hu : DataW.trod enc Try.prog w 0 (fun _ => true) true n 32 [u] = some y := by
        have hk : Try.prog.cellsOf 32 = 1 := by kernel_rfl
        simpa [Value.cells, hk] using h0
      obtain ⟨rs, hr⟩ := open_Rules hu
      exact ⟨u, rs, rfl, hr⟩
end
end Go.Proofs.Ytiochjagolijfaa

/- A tree that came in, opened: what the law's row reads of it, as data. -/
namespace Go.Proofs.Ytiochjagolijfaa
open Go.ChangeShapes Go.WideShapes Go.ChangeAt Go.RowKit Go.Deep

section
variable {H : Type} {enc : TypeId × Value → H} {w : World}
theorem rule_bounds {n : Int} (h : (Lit.int .i64 n).wf = true) : -9223372036854775808 ≤ n ∧ n ≤ 9223372036854775807 := by
  have := bounds_i64 h
  omega
set_option maxRecDepth 100000 in
/-- a tree's three cells, opened by what opens the list of its Kids -/
theorem open_three {n : Nat} {cs : List Value} {x : DataW H × List MemPlace} (ih : ∀ m, m < n → ∀ (v : Value) (x : DataW H × List MemPlace), DataW.trod enc Try.prog w 0 (fun _ => true) true m 52 [v] = some x → ∃ ts, Kd false w 0 w.heap.size v ts)
    (hl : cs.length = 3) (h : DataW.trod enc Try.prog w 0 (fun _ => true) true n 54 cs = some x) :
    ∃ (t : TreeD) (u : Value), cs = [.int .i64 t.rule, .string t.tok, u] ∧ TopOk t ∧ Kd false w 0 w.heap.size u t.kids := by
  obtain ⟨xs, k, hk, hxy, _, hxl, hf⟩ := DataW.trod_struct Try.underlying54 h
  match xs, hxl, cs, hl with
  | [y0, y1, y2], _, [v0, v1, v2], _ =>
    have g0 := hf 0 _ rfl
    have g1 := hf 1 _ rfl
    have g2 := hf 2 _ rfl
    have hk0 : Try.prog.cellsOf 2 = 1 := by kernel_rfl
    have hk1 : Try.prog.cellsOf 9 = 1 := by kernel_rfl
    have hk2 : Try.prog.cellsOf 52 = 1 := by kernel_rfl
    simp [hk0] at g0
    simp [hk1] at g1
    simp [hk2] at g2
    obtain ⟨n0, e0, _, w0⟩ := DataW.trod_int Try.underlying2 g0
    obtain ⟨s, e1, _, w1⟩ := DataW.trod_string Try.underlying9 g1
    obtain ⟨ts, hts⟩ := ih k (by omega) v2 y2 g2
    refine ⟨.node n0 s ts, v2, ?_, ⟨w1, rule_bounds w0⟩, hts⟩
    simp only [List.cons.injEq, and_true] at e0 e1
    rw [e0, e1]
    rfl
set_option maxRecDepth 100000 in
theorem open_Kids : ∀ (fuel : Nat) (v : Value) (x : DataW H × List MemPlace), DataW.trod enc Try.prog w 0 (fun _ => true) true fuel 52 [v] = some x → ∃ ts, Kd false w 0 w.heap.size v ts := by
  intro fuel
  induction fuel using Nat.strongRecOn with
  | ind fuel ih =>
  intro v x h
  have hcl : Try.prog.cellsOf 54 = 3 := by kernel_rfl
  rcases DataW.trod_slice Try.underlying52 h with ⟨hcs, _⟩ | ⟨a, len, cap, elems, rest, n, hfu, hcs, _, _, hl, hm, hlen, hel, _, _⟩
  · simp only [List.cons.injEq, and_true] at hcs
    subst hcs
    exact ⟨[], .mk none 0 [] (fun _ => .nilFunc) (Nat.le_refl _) (by unfold maxLen; omega) (by simp) (by simp) (by simp)⟩
  · simp only [List.cons.injEq, and_true] at hcs
    subst hcs
    have each : ∀ i, i < len → ∃ q : TreeD × Value, w.cell? (a.add (i * 3)) = some (.int .i64 q.1.rule) ∧ w.cell? (a.add (i * 3 + 1)) = some (.string q.1.tok) ∧ w.cell? (a.add (i * 3 + 2)) = some q.2 ∧ TopOk q.1 ∧ Kd false w 0 w.heap.size q.2 q.1.kids := fun i hi => by
      have h1 := hel i hi
      rw [hcl, List.getElem?_eq_getElem (by omega)] at h1
      obtain ⟨cs', h2, h3⟩ := Option.bind_eq_some_iff.1 h1
      obtain ⟨_, hcl', hcell⟩ := World.cells?_some h2
      obtain ⟨t, u, rfl, ht, hk⟩ := open_three (fun m hm => ih m (by omega)) hcl' h3
      have e0 := hcell 0 (by omega)
      have e1 := hcell 1 (by omega)
      have e2 := hcell 2 (by omega)
      rw [add_add] at e0 e1 e2
      exact ⟨(t, u), by simpa using e0, by simpa using e1, by simpa using e2, ht, hk⟩
    haveI : Inhabited (TreeD × Value) := ⟨(default, .nilFunc)⟩
    obtain ⟨q, hq⟩ := choose_lt each
    refine ⟨(List.range len).map fun i => (q i).1, ?_⟩
    have hll : ((List.range len).map fun i => (q i).1).length = len := by simp
    have key : Kd false w 0 w.heap.size (.slice (some a) ((List.range len).map fun i => (q i).1).length cap) ((List.range len).map fun i => (q i).1) := by
      refine .mk (some a) cap _ (fun i => (q i).2) (by rw [hll]; exact hl) hm (fun i hi => ?_) (fun hp => ?_) (fun i hi => ?_)
      · rw [hll] at hi
        simp only [List.getElem_map, List.getElem_range]
        exact (hq i hi).2.2.2.1
      · rw [hll] at hp
        obtain ⟨b, off, rfl, hb⟩ := plain_addr (by have := (hq 0 hp).1; simpa using this)
        refine ⟨b, off, rfl, Nat.zero_le _, hb, (fun e => by cases e), fun i hi => ?_⟩
        rw [hll] at hi
        obtain ⟨a1, a2, a3, _, _⟩ := hq i hi
        rw [add_at] at a1 a2 a3
        simp only [List.getElem_map, List.getElem_range]
        exact ⟨a1, a2, a3⟩
      · rw [hll] at hi
        simp only [List.getElem_map, List.getElem_range]
        exact (hq i hi).2.2.2.2
    rw [hll] at key
    exact key

set_option maxRecDepth 100000 in
theorem open_Tree {base : Nat} {v : Value} {d : DataW H} {p : List MemPlace} (hv : Value.okWide Try.prog w .any base 54 v) (h : DataW.Trod enc Try.prog w 0 (fun _ => true) true 54 v d p) :
    ∃ (t : TreeD) (u : Value), v = trV t u ∧ TopOk t ∧ Kd false w 0 w.heap.size u t.kids := by
  obtain ⟨cs, rfl, hsz⟩ := okWide_struct Try.underlying54 hv
  obtain ⟨l⟩ := cs
  have hC : Try.prog.cellsOf 54 = 3 := by kernel_rfl
  obtain ⟨fuel, hf⟩ := h
  have hl : l.length = 3 := hsz.trans hC
  obtain ⟨t, u, rfl, ht, hk⟩ := open_three (fun m _ => open_Kids m) hl (by simpa [Value.cells] using hf)
  exact ⟨t, u, rfl, ht, hk⟩
end
end Go.Proofs.Ytiochjagolijfaa
