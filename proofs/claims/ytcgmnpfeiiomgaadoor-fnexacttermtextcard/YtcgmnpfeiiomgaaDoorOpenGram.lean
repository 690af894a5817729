/- A grammar that came in, opened: what the law's row reads of it, as lists. -/
import Derived.Test.YtcgmnpfeiiomgaaDoorWords
import Derived.ProofKit
import Derived.OpenShut
import Derived.ShutString
import Derived.ChangeOld
import Derived.Deep.Strs
import Derived.Deep.SlicePairs
import Derived.Deep.Fields
namespace Go.Proofs.YtcgmnpfeiiomgaaDoor
open Go.ChangeShapes Go.WideShapes Go.ChangeAt Go.RowKit Go.Deep

theorem lt_of_cell {w : World} {q : Addr} {v : Value} (h : w.cell? q = some v) : q.block < w.heap.size := by
  rcases Nat.lt_or_ge q.block w.heap.size with hlt | hge
  · exact hlt
  · unfold World.cell? at h
    rw [Array.getElem?_eq_none hge] at h
    simp at h
theorem add_at {b off i : Nat} : (⟨b, off, none⟩ : Addr).add i = ⟨b, off + i, none⟩ := by unfold Addr.add; split <;> simp_all
/-- an address at which something stands has no spot -/
theorem plain_addr {w : World} {a : Addr} {v : Value} (h : w.cell? (a.add 0) = some v) : ∃ b off, a = ⟨b, off, none⟩ ∧ b < w.heap.size := by
  obtain ⟨b, off, spot⟩ := a
  have hs : spot = none := by simpa [Addr.add] using World.cell?_spot h
  subst hs
  exact ⟨b, off, rfl, by simpa [Addr.add] using lt_of_cell h⟩

section
variable {H : Type} {enc : TypeId × Value → H} {w : World}
theorem open_Strs {fuel : Nat} {v : Value} {x : DataW H × List MemPlace} (h : DataW.trod enc Tryd.prog w 0 (fun _ => true) true fuel 104 [v] = some x) : ∃ ss, Strs w 0 w.heap.size v ss := by
  rcases open_strs Tryd.underlying104 Tryd.underlying9 (by kernel_rfl) h with ⟨hcs, _⟩ | ⟨a, len, cap, m, Sx, hcs, _, hl, hm, hmm, _, hc⟩
  · simp only [List.cons.injEq, and_true] at hcs
    subst hcs
    exact ⟨[], none, 0, rfl, Nat.le_refl _, by unfold maxLen; omega, by simp, fun h => by simp at h⟩
  · simp only [List.cons.injEq, and_true] at hcs
    subst hcs
    simp only [if_true] at hmm
    subst hmm
    refine ⟨(List.range len).map Sx, some a, m, by simp, by simpa using hl, hm, ?_, fun hp => ?_⟩
    · intro s hs
      obtain ⟨i, hi, rfl⟩ := List.mem_map.1 hs
      exact (hc i (by have := List.mem_range.1 hi; omega)).2
    · simp only [List.length_map, List.length_range] at hp
      obtain ⟨b, off, rfl, hb⟩ := plain_addr (hc 0 (by omega)).1
      refine ⟨b, off, rfl, Nat.zero_le _, hb, fun i hi => ?_⟩
      simp only [List.length_map, List.length_range] at hi
      have := (hc i (by omega)).1
      rw [add_at] at this
      simpa using this

end
end Go.Proofs.YtcgmnpfeiiomgaaDoor
