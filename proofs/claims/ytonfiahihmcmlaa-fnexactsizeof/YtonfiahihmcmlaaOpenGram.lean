/- A grammar that came in, opened: what the law's row reads of it, as lists. -/
import Derived.Test.YtonfiahihmcmlaaWords
import Derived.ProofKit
import Derived.OpenShut
import Derived.ShutString
import Derived.ChangeOld
import Derived.Deep.Strs
import Derived.Deep.SlicePairs
import Derived.Deep.Fields
namespace Go.Proofs.Ytonfiahihmcmlaa
open Go.ChangeShapes Go.WideShapes Go.ChangeAt Go.RowKit Go.Deep

theorem lt_of_cell {w : World} {q : Addr} {v : Value} (h : w.cell? q = some v) : q.block < w.heap.size := by
  rcases Nat.lt_or_ge q.block w.heap.size with hlt | hge
  · exact hlt
  · unfold World.cell? at h
    rw [Array.getElem?_eq_none hge] at h
    simp at h
theorem add_at {b off i : Nat} : (⟨b, off, none⟩ : Addr).add i = ⟨b, off + i, none⟩ := by unfold Addr.add; split <;> simp_all
/-- an address at which something stands has no spot -/
theorem plain_addr {w : World} {a : Addr} {v : Value} (h : w.cell? (a.add 0) = some v) : ∃ b off, a = ⟨b, off, none⟩ ∧ b < w.heap.size := by
  obtain ⟨b, off, spot⟩ := a
  have hs : spot = none := by simpa [Addr.add] using World.cell?_spot h
  subst hs
  exact ⟨b, off, rfl, by simpa [Addr.add] using lt_of_cell h⟩

section
variable {H : Type} {enc : TypeId × Value → H} {w : World}
theorem open_Strs {fuel : Nat} {v : Value} {x : DataW H × List MemPlace} (h : DataW.trod enc Try.prog w 0 (fun _ => true) true fuel 34 [v] = some x) : ∃ ss, Strs w 0 w.heap.size v ss := by
  rcases open_strs Try.underlying34 Try.underlying9 (by kernel_rfl) h with ⟨hcs, _⟩ | ⟨a, len, cap, m, Sx, hcs, _, hl, hm, hmm, _, hc⟩
  · simp only [List.cons.injEq, and_true] at hcs
    subst hcs
    exact ⟨[], none, 0, rfl, Nat.le_refl _, by unfold maxLen; omega, by simp, fun h => by simp at h⟩
  · simp only [List.cons.injEq, and_true] at hcs
    subst hcs
    simp only [if_true] at hmm
    subst hmm
    refine ⟨(List.range len).map Sx, some a, m, by simp, by simpa using hl, hm, ?_, fun hp => ?_⟩
    · intro s hs
      obtain ⟨i, hi, rfl⟩ := List.mem_map.1 hs
      exact (hc i (by have := List.mem_range.1 hi; omega)).2
    · simp only [List.length_map, List.length_range] at hp
      obtain ⟨b, off, rfl, hb⟩ := plain_addr (hc 0 (by omega)).1
      refine ⟨b, off, rfl, Nat.zero_le _, hb, fun i hi => ?_⟩
      simp only [List.length_map, List.length_range] at hi
      have := (hc i (by omega)).1
      rw [add_at] at this
      simpa using this

theorem open_Rules {fuel : Nat} {v : Value} {x : DataW H × List MemPlace} (h : DataW.trod enc Try.prog w 0 (fun _ => true) true fuel 50 [v] = some x) : ∃ rs, Rules w 0 w.heap.size v rs := by
  rcases open_slice_pairs Try.underlying50 Try.underlying200 (by kernel_rfl) rfl rfl (by kernel_rfl) (by kernel_rfl) h with ⟨hcs, _⟩ | ⟨a, len, cap, m, n, V0, V1, D0, D1, P0, P1, hcs, _, hl, hm, hmm, _, hc⟩
  · simp only [List.cons.injEq, and_true] at hcs
    subst hcs
    exact ⟨[], none, 0, rfl, Nat.le_refl _, by unfold maxLen; omega, fun h => by simp at h⟩
  · simp only [List.cons.injEq, and_true] at hcs
    subst hcs
    simp only [if_true] at hmm
    subst hmm
    have each : ∀ i, i < len → ∃ r : RuleD, V0 i = .string r.head ∧ r.head.size ≤ maxLen ∧ Strs w 0 w.heap.size (V1 i) r.body := fun i hi => by
      obtain ⟨_, _, t0, t1⟩ := hc i (by omega)
      obtain ⟨s, e1, _, e2⟩ := DataW.trod_string Try.underlying9 t0
      obtain ⟨ss, hs⟩ := open_Strs t1
      exact ⟨⟨s, ss⟩, by simpa using e1, e2, hs⟩
    haveI : Inhabited RuleD := ⟨⟨ByteArray.empty, []⟩⟩
    obtain ⟨R, hR⟩ := choose_lt each
    refine ⟨(List.range len).map R, some a, m, by simp, by simpa using hl, hm, fun hp => ?_⟩
    simp only [List.length_map, List.length_range] at hp
    obtain ⟨b, off, rfl, hb⟩ := plain_addr (by have := (hc 0 (by omega)).1; simpa using this)
    refine ⟨b, off, rfl, Nat.zero_le _, hb, fun i hi => ?_⟩
    simp only [List.length_map, List.length_range] at hi
    obtain ⟨a1, a2, _, _⟩ := hc i (by omega)
    obtain ⟨r1, r2, r3⟩ := hR i hi
    rw [add_at] at a1 a2
    simp only [List.getElem_map, List.getElem_range]
    exact ⟨r2, by rw [a1, r1], V1 i, by rw [← a2]; rfl, r3⟩

set_option maxRecDepth 100000 in
theorem open_Gram {base : Nat} {v : Value} {d : DataW H} {p : List MemPlace} (hv : Value.okWide Try.prog w .any base 52 v) (h : DataW.Trod enc Try.prog w 0 (fun _ => true) true 52 v d p) :
    ∃ u rs, v = .agg #[u] ∧ Rules w 0 w.heap.size u rs := by
  obtain ⟨cs, rfl, hsz⟩ := okWide_struct Try.underlying52 hv
  obtain ⟨l⟩ := cs
  have hC : Try.prog.cellsOf 52 = 1 := by kernel_rfl
  match l, hsz.trans hC with
  | [u], _ =>
    obtain ⟨fuel, hf⟩ := h
    obtain ⟨xs, n, _, hx, _, hlen, hg⟩ := DataW.trod_struct Try.underlying52 hf
    match xs, hlen with
    | [y], _ =>
      have h0 := hg 0 _ rfl
      have hu : DataW.trod enc Try.prog w 0 (fun _ => true) true n 50 [u] = some y := by
        have hk : Try.prog.cellsOf 50 = 1 := by kernel_rfl
        simpa [Value.cells, hk] using h0
      obtain ⟨rs, hr⟩ := open_Rules hu
      exact ⟨u, rs, rfl, hr⟩
end
end Go.Proofs.Ytonfiahihmcmlaa
