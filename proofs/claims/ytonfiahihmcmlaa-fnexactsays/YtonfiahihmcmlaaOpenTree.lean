/- A tree that came in, opened: what the law's row reads of it, as data. -/
import Derived.Test.YtonfiahihmcmlaaTre
import Derived.Test.YtonfiahihmcmlaaOpenGram
namespace Go.Proofs.Ytonfiahihmcmlaa
open Go.ChangeShapes Go.WideShapes Go.ChangeAt Go.RowKit Go.Deep

section
variable {H : Type} {enc : TypeId × Value → H} {w : World}
theorem rule_bounds {n : Int} (h : (Lit.int .i64 n).wf = true) : -9223372036854775808 ≤ n ∧ n ≤ 9223372036854775807 := by
  have := bounds_i64 h
  omega
set_option maxRecDepth 100000 in
/-- a tree's three cells, opened by what opens the list of its Kids -/
theorem open_three {n : Nat} {cs : List Value} {x : DataW H × List MemPlace} (ih : ∀ m, m < n → ∀ (v : Value) (x : DataW H × List MemPlace), DataW.trod enc Try.prog w 0 (fun _ => true) true m 53 [v] = some x → ∃ ts, Kd false w 0 w.heap.size v ts)
    (hl : cs.length = 3) (h : DataW.trod enc Try.prog w 0 (fun _ => true) true n 55 cs = some x) :
    ∃ (t : TreeD) (u : Value), cs = [.int .i64 t.rule, .string t.tok, u] ∧ TopOk t ∧ Kd false w 0 w.heap.size u t.kids := by
  obtain ⟨xs, k, hk, hxy, _, hxl, hf⟩ := DataW.trod_struct Try.underlying55 h
  match xs, hxl, cs, hl with
  | [y0, y1, y2], _, [v0, v1, v2], _ =>
    have g0 := hf 0 _ rfl
    have g1 := hf 1 _ rfl
    have g2 := hf 2 _ rfl
    have hk0 : Try.prog.cellsOf 2 = 1 := by kernel_rfl
    have hk1 : Try.prog.cellsOf 9 = 1 := by kernel_rfl
    have hk2 : Try.prog.cellsOf 53 = 1 := by kernel_rfl
    simp [hk0] at g0
    simp [hk1] at g1
    simp [hk2] at g2
    obtain ⟨n0, e0, _, w0⟩ := DataW.trod_int Try.underlying2 g0
    obtain ⟨s, e1, _, w1⟩ := DataW.trod_string Try.underlying9 g1
    obtain ⟨ts, hts⟩ := ih k (by omega) v2 y2 g2
    refine ⟨.node n0 s ts, v2, ?_, ⟨w1, rule_bounds w0⟩, hts⟩
    simp only [List.cons.injEq, and_true] at e0 e1
    rw [e0, e1]
    rfl
set_option maxRecDepth 100000 in
theorem open_Kids : ∀ (fuel : Nat) (v : Value) (x : DataW H × List MemPlace), DataW.trod enc Try.prog w 0 (fun _ => true) true fuel 53 [v] = some x → ∃ ts, Kd false w 0 w.heap.size v ts := by
  intro fuel
  induction fuel using Nat.strongRecOn with
  | ind fuel ih =>
  intro v x h
  have hcl : Try.prog.cellsOf 55 = 3 := by kernel_rfl
  rcases DataW.trod_slice Try.underlying53 h with ⟨hcs, _⟩ | ⟨a, len, cap, elems, rest, n, hfu, hcs, _, _, hl, hm, hlen, hel, _, _⟩
  · simp only [List.cons.injEq, and_true] at hcs
    subst hcs
    exact ⟨[], .mk none 0 [] (fun _ => .nilFunc) (Nat.le_refl _) (by unfold maxLen; omega) (by simp) (by simp) (by simp)⟩
  · simp only [List.cons.injEq, and_true] at hcs
    subst hcs
    have each : ∀ i, i < len → ∃ q : TreeD × Value, w.cell? (a.add (i * 3)) = some (.int .i64 q.1.rule) ∧ w.cell? (a.add (i * 3 + 1)) = some (.string q.1.tok) ∧ w.cell? (a.add (i * 3 + 2)) = some q.2 ∧ TopOk q.1 ∧ Kd false w 0 w.heap.size q.2 q.1.kids := fun i hi => by
      have h1 := hel i hi
      rw [hcl, List.getElem?_eq_getElem (by omega)] at h1
      obtain ⟨cs', h2, h3⟩ := Option.bind_eq_some_iff.1 h1
      obtain ⟨_, hcl', hcell⟩ := World.cells?_some h2
      obtain ⟨t, u, rfl, ht, hk⟩ := open_three (fun m hm => ih m (by omega)) hcl' h3
      have e0 := hcell 0 (by omega)
      have e1 := hcell 1 (by omega)
      have e2 := hcell 2 (by omega)
      rw [add_add] at e0 e1 e2
      exact ⟨(t, u), by simpa using e0, by simpa using e1, by simpa using e2, ht, hk⟩
    haveI : Inhabited (TreeD × Value) := ⟨(default, .nilFunc)⟩
    obtain ⟨q, hq⟩ := choose_lt each
    refine ⟨(List.range len).map fun i => (q i).1, ?_⟩
    have hll : ((List.range len).map fun i => (q i).1).length = len := by simp
    have key : Kd false w 0 w.heap.size (.slice (some a) ((List.range len).map fun i => (q i).1).length cap) ((List.range len).map fun i => (q i).1) := by
      refine .mk (some a) cap _ (fun i => (q i).2) (by rw [hll]; exact hl) hm (fun i hi => ?_) (fun hp => ?_) (fun i hi => ?_)
      · rw [hll] at hi
        simp only [List.getElem_map, List.getElem_range]
        exact (hq i hi).2.2.2.1
      · rw [hll] at hp
        obtain ⟨b, off, rfl, hb⟩ := plain_addr (by have := (hq 0 hp).1; simpa using this)
        refine ⟨b, off, rfl, Nat.zero_le _, hb, (fun e => by cases e), fun i hi => ?_⟩
        rw [hll] at hi
        obtain ⟨a1, a2, a3, _, _⟩ := hq i hi
        rw [add_at] at a1 a2 a3
        simp only [List.getElem_map, List.getElem_range]
        exact ⟨a1, a2, a3⟩
      · rw [hll] at hi
        simp only [List.getElem_map, List.getElem_range]
        exact (hq i hi).2.2.2.2
    rw [hll] at key
    exact key

set_option maxRecDepth 100000 in
theorem open_Tree {base : Nat} {v : Value} {d : DataW H} {p : List MemPlace} (hv : Value.okWide Try.prog w .any base 55 v) (h : DataW.Trod enc Try.prog w 0 (fun _ => true) true 55 v d p) :
    ∃ (t : TreeD) (u : Value), v = trV t u ∧ TopOk t ∧ Kd false w 0 w.heap.size u t.kids := by
  obtain ⟨cs, rfl, hsz⟩ := okWide_struct Try.underlying55 hv
  obtain ⟨l⟩ := cs
  have hC : Try.prog.cellsOf 55 = 3 := by kernel_rfl
  obtain ⟨fuel, hf⟩ := h
  have hl : l.length = 3 := hsz.trans hC
  obtain ⟨t, u, rfl, ht, hk⟩ := open_three (fun m _ => open_Kids m) hl (by simpa [Value.cells] using hf)
  exact ⟨t, u, rfl, ht, hk⟩
end
end Go.Proofs.Ytonfiahihmcmlaa
