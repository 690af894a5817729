/- The model's table in memory; the walks of l04Text and of at. -/
import Derived.Test.YtonfiahihmcmlaaJTbl
import Derived.Test.YtonfiahihmcmlaaJMarkb
import Derived.Test.YtonfiahihmcmlaaJReachT
namespace Go.Proofs.Ytonfiahihmcmlaa
open Go.RowKit

def cellsB (f : Nat → Bool) (n : Nat) : Array Value := ((List.range n).map fun q => Value.bool (f q)).toArray
theorem cellsB_size (f : Nat → Bool) (n : Nat) : (cellsB f n).size = n := by simp [cellsB]
theorem cellsB_get {f : Nat → Bool} {n q : Nat} (h : q < n) : (cellsB f n)[q]? = some (.bool (f q)) := by simp [cellsB, h]
theorem cellsB_put (f : Nat → Bool) (n q : Nat) (b : Bool) : (cellsB f n).setIfInBounds q (.bool b) = cellsB (fun p => if p = q then b else f p) n := by
  apply Array.ext_getElem?
  intro i
  by_cases hi : i < n
  · rw [cellsB_get hi]
    by_cases e : q = i
    · subst e
      rw [Array.getElem?_setIfInBounds_self_of_lt (by rw [cellsB_size]; exact hi)]; simp
    · rw [Array.getElem?_setIfInBounds_ne e, cellsB_get hi]; simp [Ne.symm e]
  · rw [Array.getElem?_eq_none (by rw [Array.size_setIfInBounds, cellsB_size]; omega), Array.getElem?_eq_none (by rw [cellsB_size]; omega)]
theorem cellsB_congr {f g : Nat → Bool} {n : Nat} (h : ∀ q, q < n → f q = g q) : cellsB f n = cellsB g n := by
  unfold cellsB
  congr 1
  apply List.map_congr_left
  intro q hq
  rw [h q (List.mem_range.1 hq)]
theorem cellsB_made (n : Nat) : madeCells #[.bool false] n = cellsB (fun _ => false) n := by
  apply Array.ext_getElem?
  intro i
  by_cases hi : i < n
  · rw [cellsB_get hi]; simp [madeCells, hi, Nat.mod_one]
  · rw [Array.getElem?_eq_none (by rw [size_madeCells]; omega), Array.getElem?_eq_none (by rw [cellsB_size]; omega)]
open Classical in
noncomputable def fB (P : Nat → Prop) : Nat → Bool := fun q => decide (P q)
theorem fB_t {P : Nat → Prop} {q : Nat} (h : P q) : fB P q = true := by simp [fB, h]
theorem fB_f {P : Nat → Prop} {q : Nat} (h : ¬ P q) : fB P q = false := by simp [fB, h]
theorem fB_iff {P : Nat → Prop} {q : Nat} : fB P q = true ↔ P q := by simp [fB]
theorem fB_congr {P Q : Nat → Prop} {n : Nat} (h : ∀ q, q < n → (P q ↔ Q q)) : cellsB (fB P) n = cellsB (fB Q) n := cellsB_congr fun q hq => by
  rw [Bool.eq_iff_iff, fB_iff, fB_iff]; exact h q hq

/-- the table stands at p -/
structure TabAt (w : World) (p : Nat) (A : Option Addr) (c G cG hi : Nat) (hs : List ByteArray) (R : List Nat) (T : TabF) : Prop where
  box : Row w p 132 #[.slice A hs.length c, .slice (some ⟨G, 0, none⟩) hs.length cG]
  heads : Strs w 0 hi (.slice A hs.length c) hs
  cap : hs.length ≤ cG ∧ cG ≤ maxLen
  len : R.length = hs.length
  ins : ∀ i (h : i < R.length), w.cell? ⟨G, i, none⟩ = some (.slice (some ⟨R[i], 0, none⟩) 169 169)
  rows : ∀ i (h : i < R.length), Row w R[i] 4 (cellsB (T i) 169)
  apart : R.Nodup
  lt : G < w.heap.size ∧ hi ≤ w.heap.size
section
variable {w w' : World} {p : Nat} {A : Option Addr} {c G cG hi : Nat} {hs : List ByteArray} {R : List Nat} {T : TabF}
theorem TabAt.below (h : TabAt w p A c G cG hi hs R T) (k : Below w.heap.size w w') : TabAt w' p A c G cG hi hs R T :=
  ⟨h.box.below k h.box.lt, h.heads.below k h.lt.2, h.cap, h.len, fun i hi => (k.cell (p := ⟨G, i, none⟩) h.lt.1).trans (h.ins i hi), fun i hi => (h.rows i hi).below k (h.rows i hi).lt, h.apart, by have := k.size; have := h.lt; exact ⟨by omega, by omega⟩⟩
end
open Classical in
noncomputable def atZ (hs : List ByteArray) (s : ByteArray) : Int := if s ∈ hs then (hIx hs s : Int) else -1
theorem atZ_in {hs : List ByteArray} {s : ByteArray} (h : s ∈ hs) : atZ hs s = (hIx hs s : Int) := by unfold atZ; rw [if_pos h]
theorem atZ_out {hs : List ByteArray} {s : ByteArray} (h : s ∉ hs) : atZ hs s = -1 := by unfold atZ; rw [if_neg h]

set_option maxRecDepth 100000 in
set_option maxHeartbeats 1000000 in
theorem tabAt_any (hs : List ByteArray) (s : ByteArray) (p hi : Nat) (A : Option Addr) (c : Nat) (u : Value) (w : World) (hr : Row w p 132 #[.slice A hs.length c, u]) (hS : Strs w 0 hi (.slice A hs.length c) hs) :
    Calls Try.prog 97 #[.pointer (some ⟨p, 0, none⟩), .string s] w fun e w' => e = .returned (.int .i64 (atZ hs s)) ∧ w = w' := by
  have c0 := hr.cell 0
  simp at c0
  have lp := hr.lt
  have hcm : hs.length ≤ c ∧ c ≤ maxLen := by
    obtain ⟨A', c', e, h1, h2, _⟩ := hS
    injection e with _ _ e2
    subst e2
    exact ⟨h1, h2⟩
  unfold maxLen at hcm
  have HS := Lib.hid hS
  clear hr hS
  go_enter Try.func97, Try.ntmps97
  go_wp2
  go_loop [5] (fun x => ∃ k : Nat, k ≤ hs.length ∧ x = .int .i64 (k : Int) ∧ ∀ j (h : j < hs.length), j < k → hs[j] ≠ s) (fun x => hs.length - (intOf x).toNat)
  case atStart => exact ⟨0, by omega, rfl, fun j _ hj => by omega⟩
  case round =>
    obtain ⟨k, hk, rfl, hall⟩ := hrel
    have HA := Lib.hid hall
    clear hall
    by_cases hlt : k < hs.length
    · obtain ⟨b, off, rfl, hbh, hlc, hcm2, hck⟩ := HS.out.at hlt
      by_cases he : hs[k] = s
      · have d1 : (hs[k].toList == s.toList) = true := by rw [list_eqH, decide_eq_true he]
        have HE := Lib.hid (hIx_first hlt he HA.out)
        have HM : Hid (s ∈ hs) := Lib.hid (he ▸ List.getElem_mem hlt)
        clear he
        go_wp2
        go_ret
        refine ⟨?_, rfl⟩
        rw [atZ_in HM.out, HE.out]
        rfl
      · have d1 : (hs[k].toList == s.toList) = false := by rw [list_eqH, decide_eq_false he]
        go_wp2
        go_round
        case rel => exact ⟨k + 1, by omega, by go_num, fun j hj hjk => by
          by_cases e : j = k
          · subst e; exact he
          · exact HA.out j hj (by omega)⟩
        case measure => simp [intOf]; omega
    · have HN : Hid (s ∉ hs) := Lib.hid fun hm => by
        obtain ⟨i, hi, e⟩ := List.getElem_of_mem hm
        exact HA.out i hi (by omega) e
      go_wp2
      go_ret
      refine ⟨?_, rfl⟩
      rw [atZ_out HN.out]
      rfl

set_option maxRecDepth 100000 in
set_option maxHeartbeats 1000000 in
theorem specTextB_any (t : List ByteArray) (v : Value) (lo hi : Nat) (w : World) (h : Strs w lo hi v t) (hh : hi ≤ w.heap.size) :
    Calls Try.prog 94 #[v] w fun e w' => e = .returned (.bool (textB t)) ∧ Below w.heap.size w w' := by
  obtain ⟨A, c, rfl, hlc, hc, hsz, hcell⟩ := h
  unfold maxLen at hc
  have HC := Lib.hid hcell
  have HZ := Lib.hid hsz
  clear hcell hsz
  go_enter Try.func94, Try.ntmps94
  go_wp2
  go_loopw [3] (fun x wr => ∃ j : Nat, j ≤ t.length ∧ j ≤ 13 ∧ x = .int .i64 (j : Int) ∧ (∀ i (h : i < t.length), i < j → tokB t[i] = true) ∧ Below w.heap.size w wr) (fun x _ => t.length - (intOf x).toNat)
  case atStart => exact ⟨0, by omega, by omega, rfl, fun i _ h => by omega, Below.refl _ _⟩
  case round =>
    obtain ⟨j, hj, hj13, rfl, hall, hbw⟩ := hrel
    have hsw := hbw.size
    have HA := Lib.hid hall
    clear hall
    by_cases hlt : j < t.length
    · by_cases hl12 : j ≤ 12
      · obtain ⟨b, off, rfl, _, hbh, hcc⟩ := HC.out (by omega)
        have hck := (hbw.cell (p := ⟨b, off + j, none⟩) (by show b < _; omega)).trans (hcc j hlt)
        have hsz := HZ.out _ (List.getElem_mem hlt)
        have i1 : (j : Int) ≤ 12 := by omega
        clear hcc
        cases ht : tokB t[j]
        · have HT := Lib.hid ht
          clear ht
          go_wp2_with fail
          refine (specIsToken_any _ _ hsz).mono ?_
          rintro _ w1 ⟨rfl, rfl⟩
          rw [HT.out]
          go_wp2
          go_ret
          exact ⟨ret_bool (textB_no hlt HT.out).symm, hbw⟩
        · have HT := Lib.hid ht
          clear ht
          go_wp2_with fail
          refine (specIsToken_any _ _ hsz).mono ?_
          rintro _ w1 ⟨rfl, rfl⟩
          rw [HT.out]
          go_wp2
          go_roundw
          case rel => exact ⟨j + 1, by omega, by omega, by go_num, (fun i hi hl => by
            by_cases e : i = j
            · subst e; exact HT.out
            · exact HA.out i hi (by omega)), hbw⟩
          case measure => simp [intOf]; omega
      · have i1 : ¬ (j : Int) ≤ 12 := by omega
        have i2 : ¬ (t.length : Int) ≤ 12 := by omega
        have HF : Hid (textB t = false) := Lib.hid (by rw [Bool.eq_false_iff]; exact fun e => by have := ((textB_iff t).1 e).1; omega)
        go_wp2
        go_ret
        refine ⟨ret_bool ?_, hbw⟩
        rw [HF.out]
    · by_cases hlen : t.length ≤ 12
      · have i2 : (t.length : Int) ≤ 12 := by omega
        have HF : Hid (textB t = true) := Lib.hid ((textB_iff t).2 ⟨hlen, fun s hs => by
          obtain ⟨i, hi, rfl⟩ := List.getElem_of_mem hs
          exact HA.out i hi (by omega)⟩)
        go_wp2
        go_ret
        refine ⟨ret_bool ?_, hbw⟩
        rw [HF.out]
      · have i2 : ¬ (t.length : Int) ≤ 12 := by omega
        have HF : Hid (textB t = false) := Lib.hid (by rw [Bool.eq_false_iff]; exact fun e => by have := ((textB_iff t).1 e).1; omega)
        go_wp2
        go_ret
        refine ⟨ret_bool ?_, hbw⟩
        rw [HF.out]
end Go.Proofs.Ytonfiahihmcmlaa
