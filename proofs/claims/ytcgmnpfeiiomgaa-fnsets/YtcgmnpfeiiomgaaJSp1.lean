import Derived.Test.YtcgmnpfeiiomgaaReachS
import Derived.Test.YtcgmnpfeiiomgaaJSortS
import Derived.Test.YtcgmnpfeiiomgaaJMarkc
/- The walk of the model's Reachable; a list of yes and no that is filled place by place. -/
namespace Go.Proofs.Ytcgmnpfeiiomgaa
open Go.RowKit

theorem Try.infoBool : (Try.prog.info? 4).map (fun i => (i.zero, i.size, i.bytes)) = some (some (.bool false), 1, 1) := by kernel_rfl
/-- k of a list of yes and no are laid in block g -/
def GoodTo (w : World) (g : Nat) (gs : List Bool) (k : Nat) : Prop :=
  ∃ cur, Row w g 4 cur ∧ cur.size = gs.length ∧ ∀ i (h : i < gs.length), i < k → cur[i]? = some (.bool gs[i])
theorem GoodTo.start (w : World) (gs : List Bool) (z : Array Value) (n : Nat) (hn : n = gs.length) : GoodTo (w.alloc (.cells (madeCells z n) 4)) w.heap.size gs 0 := by
  subst hn
  exact ⟨_, Row.made w _ _, size_madeCells _ _, fun _ _ h => by omega⟩
theorem GoodTo.row {w : World} {g k : Nat} {gs : List Bool} (h : GoodTo w g gs k) : ∃ cur, Row w g 4 cur ∧ cur.size = gs.length := by
  obtain ⟨cur, h1, h2, _⟩ := h
  exact ⟨cur, h1, h2⟩
theorem GoodTo.step {w : World} {g k : Nat} {gs : List Bool} (h : GoodTo w g gs k) (hk : k < gs.length) {b : Bool} (hb : gs[k] = b) : GoodTo (w.setCell ⟨g, k, none⟩ (.bool b)) g gs (k + 1) := by
  subst hb
  obtain ⟨cur, h1, h2, h3⟩ := h
  refine ⟨_, h1.put k _, by simp [h2], fun i hi hik => ?_⟩
  by_cases e : i = k
  · subst e
    rw [Array.getElem?_setIfInBounds_self_of_lt (by omega)]
  · rw [Array.getElem?_setIfInBounds_ne (by omega)]
    exact h3 i hi (by omega)
theorem GoodTo.below {w w' : World} {g k B : Nat} {gs : List Bool} (h : GoodTo w g gs k) (b : Below B w w') (hB : g < B) : GoodTo w' g gs k := by
  obtain ⟨cur, h1, h2, h3⟩ := h
  exact ⟨cur, h1.below b hB, h2, h3⟩
theorem GoodTo.done {w : World} {g : Nat} {gs : List Bool} (h : GoodTo w g gs gs.length) (hm : gs.length ≤ maxLen) {n : Nat} (hn : n = gs.length) : BoolsAt w (g + 1) (.slice (some ⟨g, 0, none⟩) n n) gs := by
  subst hn
  obtain ⟨cur, h1, h2, h3⟩ := h
  exact ⟨_, _, rfl, Nat.le_refl _, hm, fun _ => ⟨g, 0, rfl, by omega, fun i hi => by rw [Nat.zero_add, h1.cell]; exact h3 i hi hi⟩⟩

theorem makeBools (n : Nat) (hn : n ≤ 1000) (W : World) : (Instr.makeSlice 127 (.int .i64 (n : Int)) (.int .i64 (n : Int))).run Try.prog W = .ok (.slice (some ⟨W.heap.size, 0, none⟩) n n) (W.alloc (.cells (madeCells #[.bool false] n) 4)) := by
  obtain ⟨i0, hi0, hz0, hz1, hz2⟩ := info_parts Try.infoBool
  have := run_make (P := Try.prog) W 127 4 i0 _ Try.underlying127 hi0 hz0 .i64 .i64 n n (by omega) (by omega) (by rw [hz2]; omega) (by omega)
  simpa [hz1, Value.cells] using this

theorem ixOf_true (n : Nat) : ixOf (List.replicate n true) = List.range n := by
  unfold ixOf
  rw [List.length_replicate]
  apply List.filter_eq_self.2
  intro i hi
  rw [List.mem_range] at hi
  simp [hi]
theorem reachOf_f {rs : List RuleD} (h : gramB rs = false) : reachOf rs = [] := by unfold reachOf; rw [headsOf_f h]; rfl
theorem reachOf_t {rs : List RuleD} (h : gramB rs = true) : reachOf rs = reachBy rs (ixOf (List.replicate rs.length true)) := by
  unfold reachOf reachBy; rw [headsOf_t h, ixOf_true]; rfl

set_option maxRecDepth 100000 in
set_option maxHeartbeats 2000000 in
theorem specReachable_any (rs : List RuleD) (v : Value) (lo hi : Nat) (w : World) (h : Rules w lo hi v rs) (hh : hi ≤ w.heap.size) :
    Calls Try.prog 38 #[.agg #[v]] w (MadeS w (reachOf rs)) := by
  have HV := Lib.hid h
  obtain ⟨A, c, rfl, -⟩ := h
  have hb := al1 w (.cells #[.slice A rs.length c] 25)
  have R0 := Row.made w 25 #[.slice A rs.length c]
  cases hq : gramB rs
  · rw [reachOf_f hq]
    have HQ := Lib.hid hq
    clear hq
    go_enter Try.func38, Try.ntmps38
    go_wp2_with fail
    refine (specGramRight_any rs _ lo hi _ (HV.out.below hb hh) (by simp; omega)).mono ?_
    rintro e w1 ⟨rfl, b1⟩
    rw [HQ.out]
    go_wp2
    go_ret
    exact ⟨_, 0, rfl, ⟨_, 0, rfl, Nat.le_refl _, by unfold maxLen; omega, by simp, fun h => by simp at h⟩, fun hn => absurd rfl hn, (hb.trans (b1.mono (by simp))).trans ((al1 w1 _).mono (hb.trans (b1.mono (by simp))).size)⟩
  · rw [reachOf_t hq]
    have HQ := Lib.hid hq
    have hl20 := (Rt.of hq).few
    have hmk := makeBools rs.length (by omega)
    have HL : Hid (rs.length = (List.replicate rs.length true).length) := Lib.hid (by simp)
    clear hq
    go_enter Try.func38, Try.ntmps38
    go_wp2_with fail
    refine (specGramRight_any rs _ lo hi _ (HV.out.below hb hh) (by simp; omega)).mono ?_
    rintro e w1 ⟨rfl, b1⟩
    rw [HQ.out]
    have R1 := R0.below b1 (by simp)
    have c1 := R1.cell 0
    simp at c1
    have hb1 := hb.trans (b1.mono (by simp))
    have z1 := hb1.size
    have hl1 := R1.lt
    clear b1 hb R0
    go_wp2
    go_loopw [4, 15] (fun _ i wr => ∃ k : Nat, k ≤ rs.length ∧ i = .int .i64 k ∧ GoodTo wr w1.heap.size (List.replicate rs.length true) k ∧ Below w1.heap.size w1 wr) (fun _ i _ => rs.length - (intOf i).toNat)
    case atStart => exact ⟨0, by omega, rfl, GoodTo.start _ _ _ _ HL.out, al1 _ _⟩
    case round =>
      obtain ⟨k, hk, rfl, hgd, hbw⟩ := hrel
      have hsw := hbw.size
      obtain ⟨cur, hrow, hcs⟩ := hgd.row
      rw [← HL.out] at hcs
      have hgl := hrow.lt
      by_cases hlt : k < rs.length
      · obtain ⟨u0, hd0⟩ := hrow.there (show k < cur.size by omega)
        have hf0 := hrow.free k
        have hstep := hgd.step (b := true) (by rw [← HL.out]; exact hlt) (by simp)
        clear hcs hrow hgd
        go_wp2
        go_roundw
        case rel => exact ⟨k + 1, by omega, by go_num, hstep, hbw.setCell (Nat.le_refl _) _⟩
        case measure => simp [intOf]; omega
      · have hks : k = rs.length := by omega
        subst hks
        have cW := (R1.below hbw hl1).cell 0
        simp at cW
        have hbW := hb1.trans (hbw.mono z1)
        have BG := (show GoodTo _ w1.heap.size _ (List.replicate rs.length true).length by rw [← HL.out]; exact hgd).done (by rw [← HL.out]; unfold maxLen; omega) HL.out
        have HBG := Lib.hid BG
        clear hcs hrow hgd BG
        go_wp2_with fail
        refine (specReach_any rs _ _ _ lo hi (w1.heap.size + 1) _ (HV.out.below hbW hh) (by omega) HQ.out HBG.out (by omega) HL.out.symm).mono ?_
        rintro e w2 ⟨u, g, rfl, ho, hg, b2⟩
        go_wp2
        go_ret
        exact ⟨u, g, rfl, ho, fun hn => by have := hg hn; omega, hbW.trans (b2.mono (by omega))⟩
end Go.Proofs.Ytcgmnpfeiiomgaa

/- The model's table in memory; the walks of l04Text and of at. -/
namespace Go.Proofs.Ytcgmnpfeiiomgaa
open Go.RowKit

def cellsB (f : Nat → Bool) (n : Nat) : Array Value := ((List.range n).map fun q => Value.bool (f q)).toArray
theorem cellsB_size (f : Nat → Bool) (n : Nat) : (cellsB f n).size = n := by simp [cellsB]
theorem cellsB_get {f : Nat → Bool} {n q : Nat} (h : q < n) : (cellsB f n)[q]? = some (.bool (f q)) := by simp [cellsB, h]
theorem cellsB_put (f : Nat → Bool) (n q : Nat) (b : Bool) : (cellsB f n).setIfInBounds q (.bool b) = cellsB (fun p => if p = q then b else f p) n := by
  apply Array.ext_getElem?
  intro i
  by_cases hi : i < n
  · rw [cellsB_get hi]
    by_cases e : q = i
    · subst e
      rw [Array.getElem?_setIfInBounds_self_of_lt (by rw [cellsB_size]; exact hi)]; simp
    · rw [Array.getElem?_setIfInBounds_ne e, cellsB_get hi]; simp [Ne.symm e]
  · rw [Array.getElem?_eq_none (by rw [Array.size_setIfInBounds, cellsB_size]; omega), Array.getElem?_eq_none (by rw [cellsB_size]; omega)]
theorem cellsB_congr {f g : Nat → Bool} {n : Nat} (h : ∀ q, q < n → f q = g q) : cellsB f n = cellsB g n := by
  unfold cellsB
  congr 1
  apply List.map_congr_left
  intro q hq
  rw [h q (List.mem_range.1 hq)]
theorem cellsB_made (n : Nat) : madeCells #[.bool false] n = cellsB (fun _ => false) n := by
  apply Array.ext_getElem?
  intro i
  by_cases hi : i < n
  · rw [cellsB_get hi]; simp [madeCells, hi, Nat.mod_one]
  · rw [Array.getElem?_eq_none (by rw [size_madeCells]; omega), Array.getElem?_eq_none (by rw [cellsB_size]; omega)]
open Classical in
noncomputable def fB (P : Nat → Prop) : Nat → Bool := fun q => decide (P q)
theorem fB_t {P : Nat → Prop} {q : Nat} (h : P q) : fB P q = true := by simp [fB, h]
theorem fB_f {P : Nat → Prop} {q : Nat} (h : ¬ P q) : fB P q = false := by simp [fB, h]
theorem fB_iff {P : Nat → Prop} {q : Nat} : fB P q = true ↔ P q := by simp [fB]
theorem fB_congr {P Q : Nat → Prop} {n : Nat} (h : ∀ q, q < n → (P q ↔ Q q)) : cellsB (fB P) n = cellsB (fB Q) n := cellsB_congr fun q hq => by
  rw [Bool.eq_iff_iff, fB_iff, fB_iff]; exact h q hq

/-- the table stands at p -/
structure TabAt (w : World) (p : Nat) (A : Option Addr) (c G cG hi : Nat) (hs : List ByteArray) (R : List Nat) (T : TabF) : Prop where
  box : Row w p 151 #[.slice A hs.length c, .slice (some ⟨G, 0, none⟩) hs.length cG]
  heads : Strs w 0 hi (.slice A hs.length c) hs
  cap : hs.length ≤ cG ∧ cG ≤ maxLen
  len : R.length = hs.length
  ins : ∀ i (h : i < R.length), w.cell? ⟨G, i, none⟩ = some (.slice (some ⟨R[i], 0, none⟩) 169 169)
  rows : ∀ i (h : i < R.length), Row w R[i] 4 (cellsB (T i) 169)
  apart : R.Nodup
  lt : G < w.heap.size ∧ hi ≤ w.heap.size
section
variable {w w' : World} {p : Nat} {A : Option Addr} {c G cG hi : Nat} {hs : List ByteArray} {R : List Nat} {T : TabF}
theorem TabAt.below (h : TabAt w p A c G cG hi hs R T) (k : Below w.heap.size w w') : TabAt w' p A c G cG hi hs R T :=
  ⟨h.box.below k h.box.lt, h.heads.below k h.lt.2, h.cap, h.len, fun i hi => (k.cell (p := ⟨G, i, none⟩) h.lt.1).trans (h.ins i hi), fun i hi => (h.rows i hi).below k (h.rows i hi).lt, h.apart, by have := k.size; have := h.lt; exact ⟨by omega, by omega⟩⟩
end
open Classical in
noncomputable def atZ (hs : List ByteArray) (s : ByteArray) : Int := if s ∈ hs then (hIx hs s : Int) else -1
theorem atZ_in {hs : List ByteArray} {s : ByteArray} (h : s ∈ hs) : atZ hs s = (hIx hs s : Int) := by unfold atZ; rw [if_pos h]
theorem atZ_out {hs : List ByteArray} {s : ByteArray} (h : s ∉ hs) : atZ hs s = -1 := by unfold atZ; rw [if_neg h]

set_option maxRecDepth 100000 in
set_option maxHeartbeats 1000000 in
theorem tabAt_any (hs : List ByteArray) (s : ByteArray) (p hi : Nat) (A : Option Addr) (c : Nat) (u : Value) (w : World) (hr : Row w p 151 #[.slice A hs.length c, u]) (hS : Strs w 0 hi (.slice A hs.length c) hs) :
    Calls Try.prog 119 #[.pointer (some ⟨p, 0, none⟩), .string s] w fun e w' => e = .returned (.int .i64 (atZ hs s)) ∧ w = w' := by
  have c0 := hr.cell 0
  simp at c0
  have lp := hr.lt
  have hcm : hs.length ≤ c ∧ c ≤ maxLen := by
    obtain ⟨A', c', e, h1, h2, _⟩ := hS
    injection e with _ _ e2
    subst e2
    exact ⟨h1, h2⟩
  unfold maxLen at hcm
  have HS := Lib.hid hS
  clear hr hS
  go_enter Try.func119, Try.ntmps119
  go_wp2
  go_loop [5] (fun x => ∃ k : Nat, k ≤ hs.length ∧ x = .int .i64 (k : Int) ∧ ∀ j (h : j < hs.length), j < k → hs[j] ≠ s) (fun x => hs.length - (intOf x).toNat)
  case atStart => exact ⟨0, by omega, rfl, fun j _ hj => by omega⟩
  case round =>
    obtain ⟨k, hk, rfl, hall⟩ := hrel
    have HA := Lib.hid hall
    clear hall
    by_cases hlt : k < hs.length
    · obtain ⟨b, off, rfl, hbh, hlc, hcm2, hck⟩ := HS.out.at hlt
      by_cases he : hs[k] = s
      · have d1 : (hs[k].toList == s.toList) = true := by rw [list_eqH, decide_eq_true he]
        have HE := Lib.hid (hIx_first hlt he HA.out)
        have HM : Hid (s ∈ hs) := Lib.hid (he ▸ List.getElem_mem hlt)
        clear he
        go_wp2
        go_ret
        refine ⟨?_, rfl⟩
        rw [atZ_in HM.out, HE.out]
        rfl
      · have d1 : (hs[k].toList == s.toList) = false := by rw [list_eqH, decide_eq_false he]
        go_wp2
        go_round
        case rel => exact ⟨k + 1, by omega, by go_num, fun j hj hjk => by
          by_cases e : j = k
          · subst e; exact he
          · exact HA.out j hj (by omega)⟩
        case measure => simp [intOf]; omega
    · have HN : Hid (s ∉ hs) := Lib.hid fun hm => by
        obtain ⟨i, hi, e⟩ := List.getElem_of_mem hm
        exact HA.out i hi (by omega) e
      go_wp2
      go_ret
      refine ⟨?_, rfl⟩
      rw [atZ_out HN.out]
      rfl

set_option maxRecDepth 100000 in
set_option maxHeartbeats 1000000 in
theorem specTextB_any (t : List ByteArray) (v : Value) (lo hi : Nat) (w : World) (h : Strs w lo hi v t) (hh : hi ≤ w.heap.size) :
    Calls Try.prog 116 #[v] w fun e w' => e = .returned (.bool (textB t)) ∧ Below w.heap.size w w' := by
  obtain ⟨A, c, rfl, hlc, hc, hsz, hcell⟩ := h
  unfold maxLen at hc
  have HC := Lib.hid hcell
  have HZ := Lib.hid hsz
  clear hcell hsz
  go_enter Try.func116, Try.ntmps116
  go_wp2
  go_loopw [3] (fun x wr => ∃ j : Nat, j ≤ t.length ∧ j ≤ 13 ∧ x = .int .i64 (j : Int) ∧ (∀ i (h : i < t.length), i < j → tokB t[i] = true) ∧ Below w.heap.size w wr) (fun x _ => t.length - (intOf x).toNat)
  case atStart => exact ⟨0, by omega, by omega, rfl, fun i _ h => by omega, Below.refl _ _⟩
  case round =>
    obtain ⟨j, hj, hj13, rfl, hall, hbw⟩ := hrel
    have hsw := hbw.size
    have HA := Lib.hid hall
    clear hall
    by_cases hlt : j < t.length
    · by_cases hl12 : j ≤ 12
      · obtain ⟨b, off, rfl, _, hbh, hcc⟩ := HC.out (by omega)
        have hck := (hbw.cell (p := ⟨b, off + j, none⟩) (by show b < _; omega)).trans (hcc j hlt)
        have hsz := HZ.out _ (List.getElem_mem hlt)
        have i1 : (j : Int) ≤ 12 := by omega
        clear hcc
        cases ht : tokB t[j]
        · have HT := Lib.hid ht
          clear ht
          go_wp2_with fail
          refine (specIsToken_any _ _ hsz).mono ?_
          rintro _ w1 ⟨rfl, rfl⟩
          rw [HT.out]
          go_wp2
          go_ret
          exact ⟨ret_bool (textB_no hlt HT.out).symm, hbw⟩
        · have HT := Lib.hid ht
          clear ht
          go_wp2_with fail
          refine (specIsToken_any _ _ hsz).mono ?_
          rintro _ w1 ⟨rfl, rfl⟩
          rw [HT.out]
          go_wp2
          go_roundw
          case rel => exact ⟨j + 1, by omega, by omega, by go_num, (fun i hi hl => by
            by_cases e : i = j
            · subst e; exact HT.out
            · exact HA.out i hi (by omega)), hbw⟩
          case measure => simp [intOf]; omega
      · have i1 : ¬ (j : Int) ≤ 12 := by omega
        have i2 : ¬ (t.length : Int) ≤ 12 := by omega
        have HF : Hid (textB t = false) := Lib.hid (by rw [Bool.eq_false_iff]; exact fun e => by have := ((textB_iff t).1 e).1; omega)
        go_wp2
        go_ret
        refine ⟨ret_bool ?_, hbw⟩
        rw [HF.out]
    · by_cases hlen : t.length ≤ 12
      · have i2 : (t.length : Int) ≤ 12 := by omega
        have HF : Hid (textB t = true) := Lib.hid ((textB_iff t).2 ⟨hlen, fun s hs => by
          obtain ⟨i, hi, rfl⟩ := List.getElem_of_mem hs
          exact HA.out i hi (by omega)⟩)
        go_wp2
        go_ret
        refine ⟨ret_bool ?_, hbw⟩
        rw [HF.out]
      · have i2 : ¬ (t.length : Int) ≤ 12 := by omega
        have HF : Hid (textB t = false) := Lib.hid (by rw [Bool.eq_false_iff]; exact fun e => by have := ((textB_iff t).1 e).1; omega)
        go_wp2
        go_ret
        refine ⟨ret_bool ?_, hbw⟩
        rw [HF.out]
end Go.Proofs.Ytcgmnpfeiiomgaa
