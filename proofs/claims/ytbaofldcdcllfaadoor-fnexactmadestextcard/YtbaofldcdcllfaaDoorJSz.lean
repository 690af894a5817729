import Derived.Test.YtbaofldcdcllfaaDoorTm
import Derived.Test.YtbaofldcdcllfaaDoorWords
import Derived.WalkKit
import Derived.WalkSpells
import Derived.WalkLawsBesides
/- Mades, as data, and as memory holds them: a list of Mades in a slice, five cells each. No program stands in this text but its types' numbers. -/
namespace Go.Proofs.YtbaofldcdcllfaaDoor
open Go.RowKit

/-- a Made, as data -/
structure MadeD where
  head : ByteArray
  body : List ByteArray
  term : TermD

/-- a Made in five cells from an address on -/
def MadeAt (z : Bool) (w : World) (lo hi b o : Nat) (m : MadeD) : Prop :=
  m.head.size ≤ maxLen ∧ TopM m.term ∧ w.cell? ⟨b, o, none⟩ = some (.string m.head) ∧
    ∃ u x, w.cell? ⟨b, o + 1, none⟩ = some u ∧ w.cell? ⟨b, o + 2, none⟩ = some (.int .i64 m.term.kind) ∧ w.cell? ⟨b, o + 3, none⟩ = some (.int .i64 m.term.num) ∧ w.cell? ⟨b, o + 4, none⟩ = some x ∧
      Strs w lo hi u m.body ∧ KM z w lo hi x m.term.kids
/-- a list of Mades, in blocks from lo on ahead of hi; z: none of these is frozen -/
def DM (z : Bool) (w : World) (lo hi : Nat) (v : Value) (ms : List MadeD) : Prop :=
  ∃ A c, v = .slice A ms.length c ∧ ms.length ≤ c ∧ c ≤ maxLen ∧
    (0 < ms.length → ∃ b off, A = some ⟨b, off, none⟩ ∧ lo ≤ b ∧ b < hi ∧ (z = true → FreeB w b) ∧ ∀ i (h : i < ms.length), MadeAt z w lo hi b (off + i * 5) ms[i])
theorem MadeAt.keep {z : Bool} {w w' : World} {lo hi b o : Nat} {m : MadeD} (h : MadeAt z w lo hi b o m) (h1 : lo ≤ b) (h2 : b < hi) (k : Keeps lo hi w w') : MadeAt z w' lo hi b o m := by
  obtain ⟨a1, a2, a3, u, x, a4, a5, a6, a7, a8, a9⟩ := h
  exact ⟨a1, a2, (k.cell (p := ⟨b, o, none⟩) h1 h2).trans a3, u, x, (k.cell (p := ⟨b, o + 1, none⟩) h1 h2).trans a4, (k.cell (p := ⟨b, o + 2, none⟩) h1 h2).trans a5, (k.cell (p := ⟨b, o + 3, none⟩) h1 h2).trans a6, (k.cell (p := ⟨b, o + 4, none⟩) h1 h2).trans a7, a8.keep k, a9.keep k⟩
theorem MadeAt.more {z : Bool} {w : World} {lo hi lo' hi' b o : Nat} {m : MadeD} (h : MadeAt z w lo hi b o m) (g1 : lo' ≤ lo) (g2 : hi ≤ hi') : MadeAt z w lo' hi' b o m := by
  obtain ⟨a1, a2, a3, u, x, a4, a5, a6, a7, a8, a9⟩ := h
  exact ⟨a1, a2, a3, u, x, a4, a5, a6, a7, a8.more g1 g2, a9.more g1 g2⟩
theorem DM.keep {z : Bool} {w w' : World} {lo hi : Nat} {v : Value} {ms : List MadeD} (h : DM z w lo hi v ms) (k : Keeps lo hi w w') : DM z w' lo hi v ms := by
  obtain ⟨A, c, h1, h2, h3, h4⟩ := h
  refine ⟨A, c, h1, h2, h3, fun hp => ?_⟩
  obtain ⟨b, off, e, hl, hh, hz, hc⟩ := h4 hp
  exact ⟨b, off, e, hl, hh, fun e => by obtain ⟨x, y, hh'⟩ := hz e; exact ⟨x, y, (k b hl hh).trans hh'⟩, fun i hi => (hc i hi).keep hl hh k⟩
theorem DM.more {z : Bool} {w : World} {lo hi lo' hi' : Nat} {v : Value} {ms : List MadeD} (h : DM z w lo hi v ms) (g1 : lo' ≤ lo) (g2 : hi ≤ hi') : DM z w lo' hi' v ms := by
  obtain ⟨A, c, h1, h2, h3, h4⟩ := h
  refine ⟨A, c, h1, h2, h3, fun hp => ?_⟩
  obtain ⟨b, off, e, hl, hh, hz, hc⟩ := h4 hp
  exact ⟨b, off, e, by omega, by omega, hz, fun i hi => (hc i hi).more g1 g2⟩
theorem DM.under {z : Bool} {w w' : World} {lo hi : Nat} {v : Value} {ms : List MadeD} (h : DM z w lo hi v ms) {B : Nat} (b : Below B w w') (hB : hi ≤ B) : DM z w' lo hi v ms := h.keep (Keeps.below b hB)
theorem DM.drewN {z : Bool} {w : World} {lo hi : Nat} {v : Value} {ms : List MadeD} (h : DM z w lo hi v ms) (n : Nat) : DM z (w.drewN n) lo hi v ms := h.keep (fun _ _ _ => rfl)
theorem MadeAt.loose {z : Bool} {w : World} {lo hi b o : Nat} {m : MadeD} (h : MadeAt z w lo hi b o m) : MadeAt false w lo hi b o m := by
  obtain ⟨a1, a2, a3, u, x, a4, a5, a6, a7, a8, a9⟩ := h
  exact ⟨a1, a2, a3, u, x, a4, a5, a6, a7, a8, a9.loose⟩
theorem DM.loose {z : Bool} {w : World} {lo hi : Nat} {v : Value} {ms : List MadeD} (h : DM z w lo hi v ms) : DM false w lo hi v ms := by
  obtain ⟨A, c, h1, h2, h3, h4⟩ := h
  refine ⟨A, c, h1, h2, h3, fun hp => ?_⟩
  obtain ⟨b, off, e, hl, hh, hz, hc⟩ := h4 hp
  exact ⟨b, off, e, hl, hh, (fun e => by cases e), fun i hi => (hc i hi).loose⟩
/-- the value of a Made -/
def mdV (m : MadeD) (u x : Value) : Value := .agg #[.string m.head, u, .int .i64 m.term.kind, .int .i64 m.term.num, x]

/-- how many values and letters the law counts in a list of Mades -/
def bulkD (m : MadeD) : Nat := m.head.size + bulkS m.body + sizeMs m.term.kids
def bulkDs (ms : List MadeD) : Nat := ms.length + (ms.map bulkD).sum
def madesTo (ms : List MadeD) (k : Nat) : Nat := ((ms.take k).map bulkD).sum
theorem madesTo_succ (ms : List MadeD) (k : Nat) (h : k < ms.length) : madesTo ms (k + 1) = madesTo ms k + bulkD ms[k] := by
  unfold madesTo; rw [List.take_succ_eq_append_getElem h, List.map_append, List.sum_append]; simp
theorem madesTo_le (ms : List MadeD) (k : Nat) : ms.length + madesTo ms k ≤ bulkDs ms := by
  unfold bulkDs madesTo
  conv => rhs; rw [← List.take_append_drop k ms]
  rw [List.map_append, List.sum_append]; simp
theorem madesTo_all (ms : List MadeD) : ms.length + madesTo ms ms.length = bulkDs ms := by unfold madesTo bulkDs; rw [List.take_length]
theorem bulkD_get {ms : List MadeD} {k : Nat} (h : k < ms.length) : ms.length + bulkD ms[k] ≤ bulkDs ms := by
  have h1 := madesTo_succ ms k h
  have h2 := madesTo_le ms (k + 1)
  omega
end Go.Proofs.YtbaofldcdcllfaaDoor

/- The law's own measure of what came in: szStringS, szRule, szRuleS, szGram say how much is left of a number, or -1. -/
namespace Go.Proofs.YtbaofldcdcllfaaDoor
open Go.RowKit

theorem ret_int {k : IntKind} {a b : Int} (h : a = b) : Ending.returned (.int k a) = .returned (.int k b) := by rw [h]

set_option maxHeartbeats 1000000 in
theorem szStringS_any (v : Value) (ss : List ByteArray) (lo hi : Nat) (left : Int) (w : World) (h : Strs w lo hi v ss) (h0 : 0 ≤ left) (h1 : left ≤ 1048576) :
    Calls Tryd.prog 34 #[v, .int .i64 left] w fun e w' => e = .returned (.int .i64 (szOut left (bulkS ss))) ∧ w = w' := by
  obtain ⟨A, c, rfl, hlc, hc, hsz, hcell⟩ := h
  unfold maxLen at hc
  have HC := Lib.hid hcell
  have HZ := Lib.hid hsz
  clear hcell hsz
  by_cases hn : left < ss.length
  · go_enter Tryd.func34, Tryd.ntmps34
    go_wp2
    go_ret
    exact ⟨ret_int (by rw [szOut_neg]; unfold bulkS; omega), rfl⟩
  have d0 : decide (left - (ss.length : Int) < 0) = false := decide_eq_false (by omega)
  go_enter Tryd.func34, Tryd.ntmps34
  go_wp2
  go_loop [1, 5] (fun l i => ∃ k : Nat, k ≤ ss.length ∧ i = .int .i64 k ∧ l = .int .i64 (left - (ss.length : Int) - (sizes (ss.take k) : Int)) ∧ 0 ≤ left - (ss.length : Int) - (sizes (ss.take k) : Int)) (fun _ i => ss.length - (intOf i).toNat)
  case atStart => exact ⟨0, by omega, rfl, by simp [sizes], by simp [sizes]; omega⟩
  case round =>
    obtain ⟨k, hk, rfl, rfl, hle⟩ := hrel
    by_cases hlt : k < ss.length
    · obtain ⟨b, off, rfl, _, _, hcc⟩ := HC.out (by omega)
      have hck := hcc k hlt
      have hs := sizes_take_succ ss k hlt
      have hm := HZ.out ss[k] (List.getElem_mem hlt)
      unfold maxLen at hm
      have HS := Lib.hid hs
      clear hs hcc
      by_cases ht : left - (ss.length : Int) - (sizes (ss.take k) : Int) - (ss[k].size : Int) < 0
      · go_wp2
        go_ret
        exact ⟨ret_int (by rw [szOut_neg]; have := sizes_take_le ss (k + 1); have := HS.out; unfold bulkS; omega), rfl⟩
      · go_wp2
        go_round
        case rel => exact ⟨k + 1, by omega, by go_num, by rw [HS.out]; go_num, by rw [HS.out]; omega⟩
        case measure => simp [intOf]; omega
    · have hks : k = ss.length := by omega
      have HK := Lib.hid hks
      clear hks
      go_wp2
      go_ret
      refine ⟨ret_int ?_, rfl⟩
      have e := HK.out
      subst e
      rw [List.take_length] at hle ⊢
      rw [szOut_pos (by unfold bulkS; omega)]
      unfold bulkS; omega

end Go.Proofs.YtbaofldcdcllfaaDoor
