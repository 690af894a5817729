/- What a law is told of a slice of bytes that came in, and what its draws want of it. -/
import Derived.Test.YtldencefagnhfaaSrc
namespace Go.Proofs.Ytldencefagnhfaa
open Go.RowKit

/-- a slice of integers that came in: nil, or a row of cells, each a number that fits its kind -/
def IsRow (k : IntKind) (w : World) (a : Option Addr) (len cap : Nat) (zs : List Int) : Prop :=
  (a = none ∧ len = 0 ∧ cap = 0 ∧ zs = []) ∨
  ∃ x, a = some x ∧ len ≤ cap ∧ cap ≤ maxLen ∧ zs.length = cap ∧ (∀ i, i < zs.length → w.cell? (x.add i) = some (.int k (zs.getD i 0))) ∧ ∀ n ∈ zs, (Lit.int k n).wf = true

theorem lt_of_cell {w : World} {q : Addr} {v : Value} (h : w.cell? q = some v) : q.block < w.heap.size := by
  rcases Nat.lt_or_ge q.block w.heap.size with hlt | hge
  · exact hlt
  · unfold World.cell? at h
    rw [Array.getElem?_eq_none hge] at h
    simp at h

theorem IsRow.bytes {w : World} {a : Option Addr} {len cap : Nat} {zs : List Int} (h : IsRow .u8 w a len cap zs) : IsBytes w w.heap.size a len := by
  rcases h with ⟨_, h0, _, _⟩ | ⟨x, rfl, hl, hm, hz, hc, hw⟩
  · exact .inl h0
  · by_cases h0 : len = 0
    · exact .inl h0
    · have hc0 := hc 0 (by omega)
      obtain ⟨b, off, spot⟩ := x
      have hspot : spot = none := by simpa [Addr.add] using World.cell?_spot hc0
      subst hspot
      have hlt : b < w.heap.size := by simpa [Addr.add] using lt_of_cell hc0
      refine .inr ⟨b, off, rfl, hlt, fun i hi => ?_⟩
      have hci := hc i (by omega)
      have ha : (⟨b, off, none⟩ : Addr).add i = ⟨b, off + i, none⟩ := by unfold Addr.add; split <;> simp_all
      rw [ha] at hci
      have hwf := hw (zs.getD i 0) (by rw [List.getD_eq_getElem?_getD, List.getElem?_eq_getElem (by omega)]; exact List.getElem_mem _)
      have hb : 0 ≤ zs.getD i 0 ∧ zs.getD i 0 ≤ 255 := by simpa [Lit.wf, IntKind.min, IntKind.max, IntKind.signed, IntKind.bits] using hwf
      refine ⟨(zs.getD i 0).toNat, by omega, ?_⟩
      rw [hci, Int.toNat_of_nonneg hb.1]

theorem IsBytes.more {w : World} {B B' : Nat} {a : Option Addr} {len : Nat} (h : IsBytes w B a len) (hB : B ≤ B') : IsBytes w B' a len := by
  rcases h with h | ⟨b, off, e, hb, hc⟩
  · exact .inl h
  · exact .inr ⟨b, off, e, by omega, hc⟩
theorem IsBytes.later {w w' : World} {a : Option Addr} {len : Nat} (h : IsBytes w w.heap.size a len) (hb : Below w.heap.size w w') : IsBytes w' w'.heap.size a len :=
  (h.keep fun _ hq => hb.cell hq).more hb.size
end Go.Proofs.Ytldencefagnhfaa
