/- The table while it is made: words for memory; how a place is filled in; what a round of filling leaves. -/
import Derived.Test.YtonfiahihmcmlaaSp2
import Derived.Test.YtonfiahihmcmlaaJWder
import Derived.Deep.LoopGhost
import Derived.Deep.RegionLaw
import Derived.Deep.AppendLies
namespace Go.Proofs.Ytonfiahihmcmlaa
open Go.RowKit

def sl169 (b : Nat) : Value := .slice (some ⟨b, 0, none⟩) 169 169
/-- the rows that were made so far -/
structure InT (w : World) (base p : Nat) (A : Option Addr) (c : Nat) (hs : List ByteArray) (v : Value) (R : List Nat) : Prop where
  box : Row w p 132 #[.slice A hs.length c, v]
  own : w.ownsRow base 129 1 v R.length (R.map sl169)
  rows : ∀ b ∈ R, Row w b 4 (cellsB (fun _ => false) 169)
  apart : R.Nodup
section
variable {w w' : World} {base p : Nat} {A : Option Addr} {c : Nat} {hs : List ByteArray} {v : Value} {R : List Nat}
theorem InT.form (h : InT w base p A c hs v R) : ∃ B d, v = .slice B R.length d := by
  rcases h.own.2 with ⟨rfl, h0⟩ | ⟨g, cap, cur, rfl, _⟩
  · exact ⟨none, 0, by rw [h0]⟩
  · exact ⟨_, _, rfl⟩
/-- what stands in a row of the list is the list's -/
theorem InT.tab (h : InT w base p A c hs v R) {hi : Nat} (hS : Strs w 0 hi (.slice A hs.length c) hs) (hl : R.length = hs.length) (hn : 0 < hs.length) (hh : hi ≤ w.heap.size) : ∃ G cG, v = .slice (some ⟨G, 0, none⟩) hs.length cG ∧ base ≤ G ∧ TabAt w p A c G cG hi hs R (fun _ _ => false) := by
  rcases h.own.2 with ⟨_, h0⟩ | ⟨g, cap, cur, rfl, hb, hh', hc, hm, hs', ht⟩
  · omega
  · rw [hl]
    refine ⟨g, cap, rfl, hb, ?_, hS, ⟨by omega, hm⟩, hl, fun i hi => ?_, fun i hi => h.rows _ (List.getElem_mem hi), h.apart, (Array.getElem?_eq_some_iff.1 hh').1, hh⟩
    · have := h.box
      rwa [hl] at this
    · have hr : Row w g 129 cur := hh'
      rw [hr.cell, ← Array.getElem?_toList]
      have e : cur.toList[i]? = (cur.toList.take (R.length * 1))[i]? := by rw [List.getElem?_take_of_lt (by omega)]
      rw [e, ht]
      simp [sl169, hi]
end
section
variable {w w' : World} {p : Nat} {A : Option Addr} {c G cG hi : Nat} {hs : List ByteArray} {R : List Nat} {T : TabF}
theorem nodup_at {R : List Nat} (h : R.Nodup) {i j : Nat} (hi : i < R.length) (hj : j < R.length) (e : R[i] = R[j]) : i = j := by
  rcases Nat.lt_trichotomy i j with h1 | h1 | h1
  · exact absurd e (List.pairwise_iff_getElem.1 h i j hi hj h1)
  · exact h1
  · exact absurd e.symm (List.pairwise_iff_getElem.1 h j i hj hi h1)
/-- a place is filled in -/
theorem TabAt.set (h : TabAt w p A c G cG hi hs R T) {i q rb : Nat} (hi' : i < hs.length) (hr : w.cell? ⟨G, i, none⟩ = some (.slice (some ⟨rb, 0, none⟩) 169 169)) : TabAt (w.setCell ⟨rb, q, none⟩ (.bool true)) p A c G cG hi hs R (setT T i q) := by
  have hil : i < R.length := by rw [h.len]; exact hi'
  have hrb : rb = R[i] := by
    have := (h.ins i hil).symm.trans hr
    simp only [Option.some.injEq, Value.slice.injEq, Addr.mk.injEq, and_true] at this
    exact this.symm
  subst hrb
  have hrow := h.rows i hil
  have hnoS : ∀ (q : Nat) (s : ByteArray), (cellsB (T i) 169)[q]? ≠ some (Value.string s) := fun q s => by
    by_cases hq : q < 169
    · rw [cellsB_get hq]; simp
    · rw [Array.getElem?_eq_none (by rw [cellsB_size]; omega)]; simp
  have hG : G ≠ R[i] := by
    intro e
    have := h.ins i hil
    rw [e, hrow.cell] at this
    by_cases hq : i < 169
    · rw [cellsB_get hq] at this; simp at this
    · rw [Array.getElem?_eq_none (by rw [cellsB_size]; omega)] at this; simp at this
  refine ⟨h.box.away (h.box.apart hrow (by decide)) _, h.heads.but hrow hnoS (fun k hk => Below.heap_setCell _ _ _ _ hk), h.cap, h.len, fun j hj => ?_, fun j hj => ?_, h.apart, by simpa [World.setCell] using h.lt⟩
  · exact (World.cell?_of_block (w := w) (Below.heap_setCell _ _ _ _ hG)).trans (h.ins j hj)
  · by_cases e : j = i
    · subst e
      have := hrow.put q (.bool true)
      rw [cellsB_put] at this
      rwa [show cellsB (fun p => if p = q then true else T j p) 169 = cellsB (setT T j q j) 169 from cellsB_congr fun b _ => by simp [setT]] at this
    · rw [setT_row e]
      exact (h.rows j hj).away (fun e' => e (nodup_at h.apart hj hil e')) _
end
/-- whether something was filled in since T0; if not, so much was looked at -/
structure Flag (n : Nat) (T0 T : TabF) (ag : Bool) (D : Prop) : Prop where
  no : ag = false → T = T0 ∧ D
  yes : ag = true → emptyIn T n < emptyIn T0 n
theorem Flag.more {n : Nat} {T0 T : TabF} {ag : Bool} {D D' : Prop} (h : Flag n T0 T ag D) (hd : ag = false → D → D') : Flag n T0 T ag D' := ⟨fun e => ⟨(h.no e).1, hd e (h.no e).2⟩, h.yes⟩
theorem Flag.set {n : Nat} {T0 T : TabF} {ag : Bool} {D D' : Prop} (h : Flag n T0 T ag D) {i q : Nat} (hi : i < n) (hq : q < 169) (hf : T i q = false) : Flag n T0 (setT T i q) true D' := by
  refine ⟨(fun e => by cases e), fun _ => ?_⟩
  have h1 := emptyIn_less hi hq hf
  cases ag with
  | false => rw [← (h.no rfl).1]; omega
  | true => have := h.yes rfl; omega
end Go.Proofs.Ytonfiahihmcmlaa
