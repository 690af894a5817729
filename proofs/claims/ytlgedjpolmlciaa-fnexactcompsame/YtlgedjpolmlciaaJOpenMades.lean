import Derived.Test.YtlgedjpolmlciaaJOwns
import Derived.ProofKit
import Derived.OpenShut
import Derived.ShutString
import Derived.ChangeOld
import Derived.Deep.Strs
import Derived.Deep.SlicePairs
import Derived.Deep.Fields
import Derived.Test.YtlgedjpolmlciaaTre
import Derived.Test.YtlgedjpolmlciaaJMa
/- A grammar that came in, opened: what the law's row reads of it, as lists. -/
namespace Go.Proofs.Ytlgedjpolmlciaa
open Go.ChangeShapes Go.WideShapes Go.ChangeAt Go.RowKit Go.Deep

theorem lt_of_cell {w : World} {q : Addr} {v : Value} (h : w.cell? q = some v) : q.block < w.heap.size := by
  rcases Nat.lt_or_ge q.block w.heap.size with hlt | hge
  · exact hlt
  · unfold World.cell? at h
    rw [Array.getElem?_eq_none hge] at h
    simp at h
theorem add_at {b off i : Nat} : (⟨b, off, none⟩ : Addr).add i = ⟨b, off + i, none⟩ := by unfold Addr.add; split <;> simp_all
/-- an address at which something stands has no spot -/
theorem plain_addr {w : World} {a : Addr} {v : Value} (h : w.cell? (a.add 0) = some v) : ∃ b off, a = ⟨b, off, none⟩ ∧ b < w.heap.size := by
  obtain ⟨b, off, spot⟩ := a
  have hs : spot = none := by simpa [Addr.add] using World.cell?_spot h
  subst hs
  exact ⟨b, off, rfl, by simpa [Addr.add] using lt_of_cell h⟩

section
variable {H : Type} {enc : TypeId × Value → H} {w : World}
theorem open_Strs {fuel : Nat} {v : Value} {x : DataW H × List MemPlace} (h : DataW.trod enc Try.prog w 0 (fun _ => true) true fuel 48 [v] = some x) : ∃ ss, Strs w 0 w.heap.size v ss := by
  rcases open_strs Try.underlying48 Try.underlying9 (by kernel_rfl) h with ⟨hcs, _⟩ | ⟨a, len, cap, m, Sx, hcs, _, hl, hm, hmm, _, hc⟩
  · simp only [List.cons.injEq, and_true] at hcs
    subst hcs
    exact ⟨[], none, 0, rfl, Nat.le_refl _, by unfold maxLen; omega, by simp, fun h => by simp at h⟩
  · simp only [List.cons.injEq, and_true] at hcs
    subst hcs
    simp only [if_true] at hmm
    subst hmm
    refine ⟨(List.range len).map Sx, some a, m, by simp, by simpa using hl, hm, ?_, fun hp => ?_⟩
    · intro s hs
      obtain ⟨i, hi, rfl⟩ := List.mem_map.1 hs
      exact (hc i (by have := List.mem_range.1 hi; omega)).2
    · simp only [List.length_map, List.length_range] at hp
      obtain ⟨b, off, rfl, hb⟩ := plain_addr (hc 0 (by omega)).1
      refine ⟨b, off, rfl, Nat.zero_le _, hb, fun i hi => ?_⟩
      simp only [List.length_map, List.length_range] at hi
      have := (hc i (by omega)).1
      rw [add_at] at this
      simpa using this

theorem open_Rules {fuel : Nat} {v : Value} {x : DataW H × List MemPlace} (h : DataW.trod enc Try.prog w 0 (fun _ => true) true fuel 22 [v] = some x) : ∃ rs, Rules w 0 w.heap.size v rs := by
  rcases open_slice_pairs Try.underlying22 Try.underlying77 (by kernel_rfl) rfl rfl (by kernel_rfl) (by kernel_rfl) h with ⟨hcs, _⟩ | ⟨a, len, cap, m, n, V0, V1, D0, D1, P0, P1, hcs, _, hl, hm, hmm, _, hc⟩
  · simp only [List.cons.injEq, and_true] at hcs
    subst hcs
    exact ⟨[], none, 0, rfl, Nat.le_refl _, by unfold maxLen; omega, fun h => by simp at h⟩
  · simp only [List.cons.injEq, and_true] at hcs
    subst hcs
    simp only [if_true] at hmm
    subst hmm
    have each : ∀ i, i < len → ∃ r : RuleD, V0 i = .string r.head ∧ r.head.size ≤ maxLen ∧ Strs w 0 w.heap.size (V1 i) r.body := fun i hi => by
      obtain ⟨_, _, t0, t1⟩ := hc i (by omega)
      obtain ⟨s, e1, _, e2⟩ := DataW.trod_string Try.underlying9 t0
      obtain ⟨ss, hs⟩ := open_Strs t1
      exact ⟨⟨s, ss⟩, by simpa using e1, e2, hs⟩
    haveI : Inhabited RuleD := ⟨⟨ByteArray.empty, []⟩⟩
    obtain ⟨R, hR⟩ := choose_lt each
    refine ⟨(List.range len).map R, some a, m, by simp, by simpa using hl, hm, fun hp => ?_⟩
    simp only [List.length_map, List.length_range] at hp
    obtain ⟨b, off, rfl, hb⟩ := plain_addr (by have := (hc 0 (by omega)).1; simpa using this)
    refine ⟨b, off, rfl, Nat.zero_le _, hb, fun i hi => ?_⟩
    simp only [List.length_map, List.length_range] at hi
    obtain ⟨a1, a2, _, _⟩ := hc i (by omega)
    obtain ⟨r1, r2, r3⟩ := hR i hi
    rw [add_at] at a1 a2
    simp only [List.getElem_map, List.getElem_range]
    exact ⟨r2, by rw [a1, r1], V1 i, by rw [← a2]; rfl, r3⟩

set_option maxRecDepth 100000 in
theorem open_Gram {base : Nat} {v : Value} {d : DataW H} {p : List MemPlace} (hv : Value.okWide Try.prog w .any base 24 v) (h : DataW.Trod enc Try.prog w 0 (fun _ => true) true 24 v d p) :
    ∃ u rs, v = .agg #[u] ∧ Rules w 0 w.heap.size u rs := by
  obtain ⟨cs, rfl, hsz⟩ := okWide_struct Try.underlying24 hv
  obtain ⟨l⟩ := cs
  have hC : Try.prog.cellsOf 24 = 1 := by kernel_rfl
  match l, hsz.trans hC with
  | [u], _ =>
    obtain ⟨fuel, hf⟩ := h
    obtain ⟨xs, n, _, hx, _, hlen, hg⟩ := DataW.trod_struct Try.underlying24 hf
    match xs, hlen with
    | [y], _ =>
      have h0 := hg 0 _ rfl
      have hu : DataW.trod enc Try.prog w 0 (fun _ => true) true n 22 [u] = some y := by
        have hk : Try.prog.cellsOf 22 = 1 := by kernel_rfl
        simpa [Value.cells, hk] using h0
      obtain ⟨rs, hr⟩ := open_Rules hu
      exact ⟨u, rs, rfl, hr⟩
end
end Go.Proofs.Ytlgedjpolmlciaa

/- A tree that came in, opened: what the law's row reads of it, as data. -/
namespace Go.Proofs.Ytlgedjpolmlciaa
open Go.ChangeShapes Go.WideShapes Go.ChangeAt Go.RowKit Go.Deep

section
variable {H : Type} {enc : TypeId × Value → H} {w : World}
theorem rule_bounds {n : Int} (h : (Lit.int .i64 n).wf = true) : -9223372036854775808 ≤ n ∧ n ≤ 9223372036854775807 := by
  have := bounds_i64 h
  omega
end
end Go.Proofs.Ytlgedjpolmlciaa

/- A term that came in, opened: what the law's row reads of it, as data. -/
namespace Go.Proofs.Ytlgedjpolmlciaa
open Go.ChangeShapes Go.WideShapes Go.ChangeAt Go.RowKit Go.Deep

section
variable {H : Type} {enc : TypeId × Value → H} {w : World}
set_option maxRecDepth 100000 in
/-- a term's three cells, opened by what opens the list of its Kids -/
theorem open_threeM {n : Nat} {cs : List Value} {x : DataW H × List MemPlace} (ih : ∀ m, m < n → ∀ (v : Value) (x : DataW H × List MemPlace), DataW.trod enc Try.prog w 0 (fun _ => true) true m 26 [v] = some x → ∃ ts, KM false w 0 w.heap.size v ts)
    (hl : cs.length = 3) (h : DataW.trod enc Try.prog w 0 (fun _ => true) true n 28 cs = some x) :
    ∃ (t : TermD) (u : Value), cs = [.int .i64 t.kind, .int .i64 t.num, u] ∧ TopM t ∧ KM false w 0 w.heap.size u t.kids := by
  obtain ⟨xs, k, hk, hxy, _, hxl, hf⟩ := DataW.trod_struct Try.underlying28 h
  match xs, hxl, cs, hl with
  | [y0, y1, y2], _, [v0, v1, v2], _ =>
    have g0 := hf 0 _ rfl
    have g1 := hf 1 _ rfl
    have g2 := hf 2 _ rfl
    have hk0 : Try.prog.cellsOf 2 = 1 := by kernel_rfl
    have hk2 : Try.prog.cellsOf 26 = 1 := by kernel_rfl
    simp [hk0] at g0
    simp [hk0] at g1
    simp [hk2] at g2
    obtain ⟨n0, e0, _, w0⟩ := DataW.trod_int Try.underlying2 g0
    obtain ⟨s, e1, _, w1⟩ := DataW.trod_int Try.underlying2 g1
    obtain ⟨ts, hts⟩ := ih k (by omega) v2 y2 g2
    refine ⟨.node n0 s ts, v2, ?_, ⟨rule_bounds w1, rule_bounds w0⟩, hts⟩
    simp only [List.cons.injEq, and_true] at e0 e1
    rw [e0, e1]
    rfl
set_option maxRecDepth 100000 in
theorem open_KidsM : ∀ (fuel : Nat) (v : Value) (x : DataW H × List MemPlace), DataW.trod enc Try.prog w 0 (fun _ => true) true fuel 26 [v] = some x → ∃ ts, KM false w 0 w.heap.size v ts := by
  intro fuel
  induction fuel using Nat.strongRecOn with
  | ind fuel ih =>
  intro v x h
  have hcl : Try.prog.cellsOf 28 = 3 := by kernel_rfl
  rcases DataW.trod_slice Try.underlying26 h with ⟨hcs, _⟩ | ⟨a, len, cap, elems, rest, n, hfu, hcs, _, _, hl, hm, hlen, hel, _, _⟩
  · simp only [List.cons.injEq, and_true] at hcs
    subst hcs
    exact ⟨[], .mk none 0 [] (fun _ => .nilFunc) (Nat.le_refl _) (by unfold maxLen; omega) (by simp) (by simp) (by simp)⟩
  · simp only [List.cons.injEq, and_true] at hcs
    subst hcs
    have each : ∀ i, i < len → ∃ q : TermD × Value, w.cell? (a.add (i * 3)) = some (.int .i64 q.1.kind) ∧ w.cell? (a.add (i * 3 + 1)) = some (.int .i64 q.1.num) ∧ w.cell? (a.add (i * 3 + 2)) = some q.2 ∧ TopM q.1 ∧ KM false w 0 w.heap.size q.2 q.1.kids := fun i hi => by
      have h1 := hel i hi
      rw [hcl, List.getElem?_eq_getElem (by omega)] at h1
      obtain ⟨cs', h2, h3⟩ := Option.bind_eq_some_iff.1 h1
      obtain ⟨_, hcl', hcell⟩ := World.cells?_some h2
      obtain ⟨t, u, rfl, ht, hk⟩ := open_threeM (fun m hm => ih m (by omega)) hcl' h3
      have e0 := hcell 0 (by omega)
      have e1 := hcell 1 (by omega)
      have e2 := hcell 2 (by omega)
      rw [add_add] at e0 e1 e2
      exact ⟨(t, u), by simpa using e0, by simpa using e1, by simpa using e2, ht, hk⟩
    haveI : Inhabited (TermD × Value) := ⟨(default, .nilFunc)⟩
    obtain ⟨q, hq⟩ := choose_lt each
    refine ⟨(List.range len).map fun i => (q i).1, ?_⟩
    have hll : ((List.range len).map fun i => (q i).1).length = len := by simp
    have key : KM false w 0 w.heap.size (.slice (some a) ((List.range len).map fun i => (q i).1).length cap) ((List.range len).map fun i => (q i).1) := by
      refine .mk (some a) cap _ (fun i => (q i).2) (by rw [hll]; exact hl) hm (fun i hi => ?_) (fun hp => ?_) (fun i hi => ?_)
      · rw [hll] at hi
        simp only [List.getElem_map, List.getElem_range]
        exact (hq i hi).2.2.2.1
      · rw [hll] at hp
        obtain ⟨b, off, rfl, hb⟩ := plain_addr (by have := (hq 0 hp).1; simpa using this)
        refine ⟨b, off, rfl, Nat.zero_le _, hb, (fun e => by cases e), fun i hi => ?_⟩
        rw [hll] at hi
        obtain ⟨a1, a2, a3, _, _⟩ := hq i hi
        rw [add_at] at a1 a2 a3
        simp only [List.getElem_map, List.getElem_range]
        exact ⟨a1, a2, a3⟩
      · rw [hll] at hi
        simp only [List.getElem_map, List.getElem_range]
        exact (hq i hi).2.2.2.2
    rw [hll] at key
    exact key

set_option maxRecDepth 100000 in
theorem open_Term {base : Nat} {v : Value} {d : DataW H} {p : List MemPlace} (hv : Value.okWide Try.prog w .any base 28 v) (h : DataW.Trod enc Try.prog w 0 (fun _ => true) true 28 v d p) :
    ∃ (t : TermD) (u : Value), v = tmV t u ∧ TopM t ∧ KM false w 0 w.heap.size u t.kids := by
  obtain ⟨cs, rfl, hsz⟩ := okWide_struct Try.underlying28 hv
  obtain ⟨l⟩ := cs
  have hC : Try.prog.cellsOf 28 = 3 := by kernel_rfl
  obtain ⟨fuel, hf⟩ := h
  have hl : l.length = 3 := hsz.trans hC
  obtain ⟨t, u, rfl, ht, hk⟩ := open_threeM (fun m _ => open_KidsM m) hl (by simpa [Value.cells] using hf)
  exact ⟨t, u, rfl, ht, hk⟩
end
end Go.Proofs.Ytlgedjpolmlciaa

/- A list of Mades that came in, opened: what the law's row reads of it, as data. -/
namespace Go.Proofs.Ytlgedjpolmlciaa
open Go.ChangeShapes Go.WideShapes Go.ChangeAt Go.RowKit Go.Deep

section
variable {H : Type} {enc : TypeId × Value → H} {w : World}
set_option maxRecDepth 100000 in
/-- a Made's five cells, opened -/
theorem open_fiveD {n : Nat} {cs : List Value} {x : DataW H × List MemPlace} (hl : cs.length = 5) (h : DataW.trod enc Try.prog w 0 (fun _ => true) true n 64 cs = some x) :
    ∃ (m : MadeD) (u y : Value), cs = [.string m.head, u, .int .i64 m.term.kind, .int .i64 m.term.num, y] ∧ m.head.size ≤ maxLen ∧ TopM m.term ∧ Strs w 0 w.heap.size u m.body ∧ KM false w 0 w.heap.size y m.term.kids := by
  obtain ⟨xs, k, hk, hxy, _, hxl, hf⟩ := DataW.trod_struct Try.underlying64 h
  match xs, hxl, cs, hl with
  | [y0, y1, y2], _, [v0, v1, v2, v3, v4], _ =>
    have g0 := hf 0 _ rfl
    have g1 := hf 1 _ rfl
    have g2 := hf 2 _ rfl
    have hk0 : Try.prog.cellsOf 9 = 1 := by kernel_rfl
    have hk1 : Try.prog.cellsOf 48 = 1 := by kernel_rfl
    have hk2 : Try.prog.cellsOf 28 = 3 := by kernel_rfl
    simp [hk0] at g0
    simp [hk1] at g1
    simp [hk2] at g2
    obtain ⟨s, e0, _, w0⟩ := DataW.trod_string Try.underlying9 g0
    obtain ⟨ss, hss⟩ := open_Strs g1
    obtain ⟨t, u, e2, ht, hkm⟩ := open_threeM (fun m _ => open_KidsM m) rfl g2
    refine ⟨⟨s, ss, t⟩, v1, u, ?_, w0, ht, hss, hkm⟩
    simp only [List.cons.injEq, and_true] at e0 e2
    obtain ⟨e2, e3, e4⟩ := e2
    rw [e0, e2, e3, e4]

set_option maxRecDepth 100000 in
theorem open_Mades {fuel : Nat} {v : Value} {x : DataW H × List MemPlace} (h : DataW.trod enc Try.prog w 0 (fun _ => true) true fuel 25 [v] = some x) : ∃ ms, DM false w 0 w.heap.size v ms := by
  have hcl : Try.prog.cellsOf 64 = 5 := by kernel_rfl
  rcases DataW.trod_slice Try.underlying25 h with ⟨hcs, _⟩ | ⟨a, len, cap, elems, rest, n, hfu, hcs, _, _, hl, hm, hlen, hel, _, _⟩
  · simp only [List.cons.injEq, and_true] at hcs
    subst hcs
    exact ⟨[], none, 0, rfl, Nat.le_refl _, by unfold maxLen; omega, fun h => by simp at h⟩
  · simp only [List.cons.injEq, and_true] at hcs
    subst hcs
    have each : ∀ i, i < len → ∃ q : MadeD × Value × Value, w.cell? (a.add (i * 5)) = some (.string q.1.head) ∧ w.cell? (a.add (i * 5 + 1)) = some q.2.1 ∧ w.cell? (a.add (i * 5 + 2)) = some (.int .i64 q.1.term.kind) ∧ w.cell? (a.add (i * 5 + 3)) = some (.int .i64 q.1.term.num) ∧ w.cell? (a.add (i * 5 + 4)) = some q.2.2 ∧
        q.1.head.size ≤ maxLen ∧ TopM q.1.term ∧ Strs w 0 w.heap.size q.2.1 q.1.body ∧ KM false w 0 w.heap.size q.2.2 q.1.term.kids := fun i hi => by
      have h1 := hel i hi
      rw [hcl, List.getElem?_eq_getElem (by omega)] at h1
      obtain ⟨cs', h2, h3⟩ := Option.bind_eq_some_iff.1 h1
      obtain ⟨_, hcl', hcell⟩ := World.cells?_some h2
      obtain ⟨m, u, y, rfl, r1, r2, r3, r4⟩ := open_fiveD hcl' h3
      have e0 := hcell 0 (by omega)
      have e1 := hcell 1 (by omega)
      have e2 := hcell 2 (by omega)
      have e3 := hcell 3 (by omega)
      have e4 := hcell 4 (by omega)
      rw [add_add] at e0 e1 e2 e3 e4
      exact ⟨(m, u, y), by simpa using e0, by simpa using e1, by simpa using e2, by simpa using e3, by simpa using e4, r1, r2, r3, r4⟩
    haveI : Inhabited (MadeD × Value × Value) := ⟨(⟨ByteArray.empty, [], default⟩, .nilFunc, .nilFunc)⟩
    obtain ⟨q, hq⟩ := choose_lt each
    refine ⟨(List.range len).map fun i => (q i).1, some a, cap, by simp, by simpa using hl, hm, fun hp => ?_⟩
    simp only [List.length_map, List.length_range] at hp
    obtain ⟨b, off, rfl, hb⟩ := plain_addr (by have := (hq 0 hp).1; simpa using this)
    refine ⟨b, off, rfl, Nat.zero_le _, hb, (fun e => by cases e), fun i hi => ?_⟩
    simp only [List.length_map, List.length_range] at hi
    obtain ⟨a0, a1, a2, a3, a4, r1, r2, r3, r4⟩ := hq i hi
    rw [add_at] at a0 a1 a2 a3 a4
    simp only [List.getElem_map, List.getElem_range]
    exact ⟨r1, r2, a0, _, _, a1, a2, a3, a4, r3, r4⟩
end
end Go.Proofs.Ytlgedjpolmlciaa
