import Derived.Test.YtlgedjpolmlciaaJMa
import Derived.Test.YtlgedjpolmlciaaJTmz
import Derived.Test.YtlgedjpolmlciaaJOwns
import Derived.WalkKit
import Derived.WalkSpells
import Derived.WalkLawsBesides
import Derived.Deep.OwnRows
/- The law's own measure of Mades that came in: szMade, szMadeS. -/
namespace Go.Proofs.Ytlgedjpolmlciaa
open Go.RowKit

set_option maxHeartbeats 1000000 in
theorem szMade_any (m : MadeD) (u x : Value) (lo hi : Nat) (left : Int) (w : World) (hh : m.head.size ≤ maxLen) (h : Strs w lo hi u m.body) (hk : KM false w lo hi x m.term.kids) (hhi : hi ≤ w.heap.size) (h0 : 0 ≤ left) (h1 : left ≤ 1048576) :
    Calls Try.prog 24 #[mdV m u x, .int .i64 left] w fun e w' => e = .returned (.int .i64 (szOut left (bulkD m))) ∧ Below w.heap.size w w' := by
  unfold maxLen at hh
  unfold mdV
  have hb : Below w.heap.size w (w.alloc (.cells #[.string m.head, u, .int .i64 m.term.kind, .int .i64 m.term.num, x] 64)) := (Below.refl _ _).alloc (Nat.le_refl _) _
  by_cases hn : left < m.head.size
  · go_enter Try.func24, Try.ntmps24
    go_wp2
    go_ret
    exact ⟨ret_int (by rw [szOut_neg]; unfold bulkD; omega), hb⟩
  have d0 : decide (left - (m.head.size : Int) < 0) = false := decide_eq_false (by omega)
  by_cases ht : left - (m.head.size : Int) < bulkS m.body
  · have e1 : szOut (left - (m.head.size : Int)) (bulkS m.body) = -1 := szOut_neg ht
    have E1 := Lib.hid e1
    clear e1
    go_enter Try.func24, Try.ntmps24
    go_wp2_with (go_at_call 40; refine (szStringS_any u m.body lo hi _ _ (h.below hb hhi) (by omega) (by omega)).mono ?_; rintro e w' ⟨rfl, rfl⟩; rw [E1.out])
    go_ret
    exact ⟨ret_int (by rw [szOut_neg]; unfold bulkD; omega), hb⟩
  · have e1 : szOut (left - (m.head.size : Int)) (bulkS m.body) = left - (m.head.size : Int) - (bulkS m.body : Int) := szOut_pos ht
    have E1 := Lib.hid e1
    clear e1
    have d1 : decide (left - (m.head.size : Int) - (bulkS m.body : Int) < 0) = false := decide_eq_false (by omega)
    have HK := Lib.hid (hk.under hb hhi)
    by_cases hv : left - (m.head.size : Int) - (bulkS m.body : Int) < sizeMs m.term.kids
    · have e2 := szOut_neg hv
      have E2 := Lib.hid e2
      clear e2
      go_enter Try.func24, Try.ntmps24
      go_wp2_with fail
      refine (szStringS_any u m.body lo hi _ _ (h.below hb hhi) (by omega) (by omega)).mono ?_
      rintro e w' ⟨rfl, rfl⟩
      rw [E1.out]
      go_wp2_with fail
      refine (szTerm_of m.term (szTermS_any _) x lo hi _ _ HK.out (by simp; omega) (by omega) (by omega)).mono ?_
      rintro e w' ⟨rfl, hb2⟩
      rw [E2.out]
      go_wp2
      go_ret
      exact ⟨ret_int (by rw [szOut_neg]; unfold bulkD; omega), hb.trans (hb2.mono (by simp))⟩
    · have e2 := szOut_pos hv
      have E2 := Lib.hid e2
      clear e2
      have d2 : decide (left - (m.head.size : Int) - (bulkS m.body : Int) - (sizeMs m.term.kids : Int) < 0) = false := decide_eq_false (by omega)
      go_enter Try.func24, Try.ntmps24
      go_wp2_with fail
      refine (szStringS_any u m.body lo hi _ _ (h.below hb hhi) (by omega) (by omega)).mono ?_
      rintro e w' ⟨rfl, rfl⟩
      rw [E1.out]
      go_wp2_with fail
      refine (szTerm_of m.term (szTermS_any _) x lo hi _ _ HK.out (by simp; omega) (by omega) (by omega)).mono ?_
      rintro e w' ⟨rfl, hb2⟩
      rw [E2.out]
      go_wp2
      go_ret
      exact ⟨ret_int (by rw [szOut_pos (by unfold bulkD; omega)]; unfold bulkD; omega), hb.trans (hb2.mono (by simp))⟩

set_option maxHeartbeats 1000000 in
theorem szMadeS_any (v : Value) (ms : List MadeD) (lo hi : Nat) (left : Int) (w : World) (h : DM false w lo hi v ms) (hhi : hi ≤ w.heap.size) (h0 : 0 ≤ left) (h1 : left ≤ 1048576) :
    Calls Try.prog 10 #[v, .int .i64 left] w fun e w' => e = .returned (.int .i64 (szOut left (bulkDs ms))) ∧ Below w.heap.size w w' := by
  obtain ⟨A, c, rfl, hlc, hc, hcell⟩ := h
  unfold maxLen at hc
  have HC := Lib.hid hcell
  clear hcell
  by_cases hn : left < ms.length
  · go_enter Try.func10, Try.ntmps10
    go_wp2
    go_ret
    exact ⟨ret_int (by rw [szOut_neg]; unfold bulkDs; omega), Below.refl _ _⟩
  have d0 : decide (left - (ms.length : Int) < 0) = false := decide_eq_false (by omega)
  go_enter Try.func10, Try.ntmps10
  go_wp2
  go_loopw [1, 5] (fun l i wr => ∃ k : Nat, k ≤ ms.length ∧ i = .int .i64 k ∧ l = .int .i64 (left - (ms.length : Int) - (madesTo ms k : Int)) ∧ 0 ≤ left - (ms.length : Int) - (madesTo ms k : Int) ∧ Below w.heap.size w wr) (fun _ i _ => ms.length - (intOf i).toNat)
  case atStart => exact ⟨0, by omega, rfl, by simp [madesTo], by simp [madesTo]; omega, Below.refl _ _⟩
  case round =>
    obtain ⟨k, hk, rfl, rfl, hle, hbw⟩ := hrel
    have hsw := hbw.size
    by_cases hlt : k < ms.length
    · obtain ⟨b, off, rfl, _, hbh, _, hcc⟩ := HC.out (by omega)
      obtain ⟨hhs, _, hc0, u, x, hc1, hc2, hc3, hc4, hst, hkm⟩ := hcc k hlt
      have hs := madesTo_succ ms k hlt
      have HS := Lib.hid hs
      have k0 := (hbw.cell (p := ⟨b, off + k * 5, none⟩) (by show b < _; omega)).trans hc0
      have k1 := (hbw.cell (p := ⟨b, off + k * 5 + 1, none⟩) (by show b < _; omega)).trans hc1
      have k2 := (hbw.cell (p := ⟨b, off + k * 5 + 2, none⟩) (by show b < _; omega)).trans hc2
      have k3 := (hbw.cell (p := ⟨b, off + k * 5 + 3, none⟩) (by show b < _; omega)).trans hc3
      have k4 := (hbw.cell (p := ⟨b, off + k * 5 + 4, none⟩) (by show b < _; omega)).trans hc4
      have hst' := hst.below hbw hhi
      have hkm' := hkm.under hbw hhi
      clear hs hcc hc0 hc1 hc2 hc3 hc4 hst hkm
      by_cases ht : left - (ms.length : Int) - (madesTo ms k : Int) < ((bulkD ms[k] : Nat) : Int)
      · have e1 := szOut_neg ht
        have E1 := Lib.hid e1
        clear e1
        go_wp2_with fail
        refine (szMade_any ms[k] u x lo hi _ _ hhs hst' hkm' (by omega) (by omega) (by omega)).mono ?_
        rintro e w' ⟨rfl, hb2⟩
        rw [E1.out]
        go_wp2
        go_ret
        exact ⟨ret_int (by rw [szOut_neg]; have := madesTo_le ms (k + 1); have := HS.out; omega), hbw.trans (hb2.mono hsw)⟩
      · have e1 := szOut_pos ht
        have E1 := Lib.hid e1
        clear e1
        have d1 : decide (left - (ms.length : Int) - (madesTo ms k : Int) - ((bulkD ms[k] : Nat) : Int) < 0) = false := decide_eq_false (by omega)
        go_wp2_with fail
        refine (szMade_any ms[k] u x lo hi _ _ hhs hst' hkm' (by omega) (by omega) (by omega)).mono ?_
        rintro e w' ⟨rfl, hb2⟩
        rw [E1.out]
        go_wp2
        go_roundw
        case rel => exact ⟨k + 1, by omega, by go_num, by rw [HS.out]; go_num, by rw [HS.out]; omega, hbw.trans (hb2.mono hsw)⟩
        case measure => simp [intOf]; omega
    · have hks : k = ms.length := by omega
      have HK := Lib.hid hks
      clear hks
      go_wp2
      go_ret
      refine ⟨ret_int ?_, hbw⟩
      have e := HK.out
      subst e
      have := madesTo_all ms
      rw [szOut_pos (by omega)]
      omega
end Go.Proofs.Ytlgedjpolmlciaa

/- What came in, laid anew: toStringS, toRule, toRuleS, toGram. -/
namespace Go.Proofs.Ytlgedjpolmlciaa
open Go.RowKit

theorem Try.infoStr : (Try.prog.info? 9).map (fun i => (i.zero, i.size, i.bytes)) = some (some (.string ByteArray.empty), 1, 16) := by kernel_rfl

set_option maxHeartbeats 1000000 in
theorem toStringS_any (v : Value) (ss : List ByteArray) (lo hi : Nat) (w : World) (h : Strs w lo hi v ss) (hhi : hi ≤ w.heap.size) (hn : ss.length ≤ 1048576) :
    Calls Try.prog 42 #[v] w fun e w' => ∃ u, e = .returned u ∧ OwnS w' w.heap.size u ss ∧ w.heap.size < w'.heap.size ∧ Below w.heap.size w w' := by
  obtain ⟨A, c, rfl, hlc, hc, hsz, hcell⟩ := h
  have hmk := run_make_row' (P := Try.prog) 48 9 (.string ByteArray.empty) 16 Try.underlying48 Try.infoStr rfl .i64 .i64 ss.length (by omega) (by omega)
  have HC := Lib.hid hcell
  have HZ := Lib.hid hsz
  clear hcell hsz
  go_enter Try.func42, Try.ntmps42
  go_wp2
  go_loopw [4] (fun i wr => ∃ (k : Nat) (cur : Array Value), k ≤ ss.length ∧ i = .int .i64 k ∧ Row wr w.heap.size 9 cur ∧ cur.size = ss.length ∧ (∀ j (h : j < ss.length), j < k → cur[j]? = some (.string ss[j])) ∧ Below w.heap.size w wr) (fun i _ => ss.length - (intOf i).toNat)
  case atStart => exact ⟨0, _, by omega, rfl, Row.made w _ _, size_madeCells _ _, fun j _ hj => by omega, (Below.refl _ _).alloc (Nat.le_refl _) _⟩
  case round =>
    obtain ⟨k, cur, hk, rfl, hrow, hcs, hall, hbw⟩ := hrel
    have HR := Lib.hid hrow
    have HS := Lib.hid hcs
    have HA := Lib.hid hall
    by_cases hlt : k < ss.length
    · obtain ⟨b, off, rfl, _, hbh, hcc⟩ := HC.out (by omega)
      have hck := (hbw.cell (p := ⟨b, off + k, none⟩) (by show b < _; omega)).trans (hcc k hlt)
      obtain ⟨u0, hdst⟩ := hrow.there (show k < cur.size by omega)
      have hfr := hrow.free k
      clear hcc hrow hcs hall
      go_wp2
      go_roundw
      case rel =>
        refine ⟨k + 1, _, by omega, by go_num, HR.out.put k _, by simp [HS.out], fun j hj hjk => ?_, hbw.setCell (Nat.le_refl _) _⟩
        by_cases hjk2 : j = k
        · subst hjk2; rw [Array.getElem?_setIfInBounds_self_of_lt (by rw [HS.out]; exact hj)]
        · rw [Array.getElem?_setIfInBounds_ne (by omega)]; exact HA.out j hj (by omega)
      case measure => simp [intOf]; omega
    · have hks : k = ss.length := by omega
      clear hrow hcs hall
      go_wp2
      go_ret
      exact ⟨_, rfl, ⟨_, _, rfl, Nat.le_refl _, by unfold maxLen; omega, HZ.out, fun hp => ⟨0, cur, rfl, HR.out, fun i hi => by rw [Nat.zero_add]; exact HA.out i hi (by omega)⟩⟩, HR.out.lt, hbw⟩
end Go.Proofs.Ytlgedjpolmlciaa

/- Terms in memory of a call's own, each list in blocks of its own; what becomes of them when numbers are laid into them. No program stands in this text but its types' numbers. -/
namespace Go.Proofs.Ytlgedjpolmlciaa
open Go.RowKit

/-- a list of terms in blocks from lo on ahead of hi, that of each term's Kids in a part of these, no two parts with one in common -/
inductive OI (w : World) : Nat → Nat → Value → List TermD → Prop
  | mk (lo hi : Nat) (A : Option Addr) (c : Nat) (ts : List TermD) (U : Nat → Value) (L E : Nat → Nat) (hl : ts.length ≤ c) (hc : c ≤ maxLen)
    (hs : ∀ i (h : i < ts.length), TopM ts[i])
    (hcell : 0 < ts.length → ∃ b cur, A = some ⟨b, 0, none⟩ ∧ lo ≤ b ∧ b < hi ∧ Row w b 39 cur ∧ ts.length * 3 ≤ cur.size ∧ ∀ i (h : i < ts.length), cur[i * 3]? = some (.int .i64 ts[i].kind) ∧ cur[i * 3 + 1]? = some (.int .i64 ts[i].num) ∧ cur[i * 3 + 2]? = some (U i) ∧ (E i ≤ b ∨ b < L i))
    (hin : ∀ i, i < ts.length → lo ≤ L i ∧ L i ≤ E i ∧ E i ≤ hi)
    (hap : ∀ i j, i < ts.length → j < ts.length → i ≠ j → E i ≤ L j ∨ E j ≤ L i)
    (sub : ∀ i (h : i < ts.length), OI w (L i) (E i) (U i) ts[i].kids) : OI w lo hi (.slice A ts.length c) ts
theorem OI.parts {w : World} {lo hi : Nat} {v : Value} {ts : List TermD} (h : OI w lo hi v ts) :
    ∃ (A : Option Addr) (c : Nat) (U : Nat → Value) (L E : Nat → Nat), v = .slice A ts.length c ∧ ts.length ≤ c ∧ c ≤ maxLen ∧ (∀ i (h : i < ts.length), TopM ts[i]) ∧
      (0 < ts.length → ∃ b cur, A = some ⟨b, 0, none⟩ ∧ lo ≤ b ∧ b < hi ∧ Row w b 39 cur ∧ ts.length * 3 ≤ cur.size ∧ ∀ i (h : i < ts.length), cur[i * 3]? = some (.int .i64 ts[i].kind) ∧ cur[i * 3 + 1]? = some (.int .i64 ts[i].num) ∧ cur[i * 3 + 2]? = some (U i) ∧ (E i ≤ b ∨ b < L i)) ∧
      (∀ i, i < ts.length → lo ≤ L i ∧ L i ≤ E i ∧ E i ≤ hi) ∧ (∀ i j, i < ts.length → j < ts.length → i ≠ j → E i ≤ L j ∨ E j ≤ L i) ∧ (∀ i (h : i < ts.length), OI w (L i) (E i) (U i) ts[i].kids) := by
  cases h with
  | mk _ _ A c ts U L E hl hc hs hcell hin hap sub => exact ⟨A, c, U, L, E, rfl, hl, hc, hs, hcell, hin, hap, sub⟩
theorem OI.keep {w w' : World} {lo hi : Nat} {v : Value} {ts : List TermD} (h : OI w lo hi v ts) : Keeps lo hi w w' → OI w' lo hi v ts := by
  induction h with
  | mk lo hi A c ts U L E hl hc hs hcell hin hap sub ih =>
    intro k
    refine .mk lo hi A c ts U L E hl hc hs (fun hp => ?_) hin hap fun i hi => ih i hi (k.mono (hin i hi).1 (hin i hi).2.2)
    obtain ⟨b, cur, e, h1, h2, hr, hz, hcc⟩ := hcell hp
    exact ⟨b, cur, e, h1, h2, hr.same (k b h1 h2), hz, hcc⟩
theorem OI.under {w w' : World} {lo hi : Nat} {v : Value} {ts : List TermD} (h : OI w lo hi v ts) {B : Nat} (b : Below B w w') (hB : hi ≤ B) : OI w' lo hi v ts := h.keep (Keeps.below b hB)
theorem OI.more {w : World} {lo hi lo' hi' : Nat} {v : Value} {ts : List TermD} (h : OI w lo hi v ts) (g1 : lo' ≤ lo) (g2 : hi ≤ hi') : OI w lo' hi' v ts := by
  cases h with
  | mk _ _ A c ts U L E hl hc hs hcell hin hap sub =>
    refine .mk lo' hi' A c ts U L E hl hc hs (fun hp => ?_) (fun i hi => ?_) hap sub
    · obtain ⟨b, cur, e, h1, h2, hr, hz, hcc⟩ := hcell hp
      exact ⟨b, cur, e, by omega, by omega, hr, hz, hcc⟩
    · have := hin i hi; omega
theorem OI.km {w : World} {lo hi : Nat} {v : Value} {ts : List TermD} (h : OI w lo hi v ts) : KM true w lo hi v ts := by
  induction h with
  | mk lo hi A c ts U L E hl hc hs hcell hin hap sub ih =>
    refine .mk A c ts U hl hc hs (fun hp => ?_) fun i hi => (ih i hi).more (hin i hi).1 (hin i hi).2.2
    obtain ⟨b, cur, e, h1, h2, hr, hz, hcc⟩ := hcell hp
    refine ⟨b, 0, e, h1, h2, fun _ => ⟨_, _, hr⟩, fun i hi => ?_⟩
    obtain ⟨a1, a2, a3, _⟩ := hcc i hi
    exact ⟨by rw [Nat.zero_add, hr.cell]; exact a1, by rw [Nat.zero_add, hr.cell]; exact a2, by rw [Nat.zero_add, hr.cell]; exact a3⟩
/-- a list of none -/
theorem OI.none (w : World) (lo hi c : Nat) (A : Option Addr) (hc : c ≤ maxLen) : OI w lo hi (.slice A 0 c) [] :=
  .mk lo hi A c [] (fun _ => .nilFunc) (fun _ => 0) (fun _ => 0) (Nat.zero_le _) hc (fun i h => by simp at h) (fun h => by simp at h) (fun i h => by simp at h) (fun i j h => by simp at h) (fun i h => by simp at h)
/-- the j-th term of a list, and what is to be shown when it becomes another one -/
theorem OI.turn {w : World} {lo hi : Nat} {v : Value} {ts : List TermD} (h : OI w lo hi v ts) {j : Nat} (hj : j < ts.length) :
    ∃ b c cur u l e, v = .slice (some ⟨b, 0, Option.none⟩) ts.length c ∧ lo ≤ b ∧ b < hi ∧ Row w b 39 cur ∧ j * 3 + 2 < cur.size ∧ cur[j * 3]? = some (.int .i64 ts[j].kind) ∧ cur[j * 3 + 1]? = some (.int .i64 ts[j].num) ∧ cur[j * 3 + 2]? = some u ∧ lo ≤ l ∧ l ≤ e ∧ e ≤ hi ∧ (e ≤ b ∨ b < l) ∧ OI w l e u ts[j].kids ∧
      ∀ (w' : World) (t' : TermD), TopM t' → Row w' b 39 ((cur.setIfInBounds (j * 3) (.int .i64 t'.kind)).setIfInBounds (j * 3 + 1) (.int .i64 t'.num)) → OI w' l e u t'.kids → (∀ p, lo ≤ p → p < hi → p ≠ b → (p < l ∨ e ≤ p) → w'.heap[p]? = w.heap[p]?) → OI w' lo hi v (ts.set j t') := by
  obtain ⟨A, c, U, L, E, rfl, hl, hc, hs, hcell, hin, hap, sub⟩ := h.parts
  obtain ⟨b, cur, rfl, h1, h2, hr, hz, hcc⟩ := hcell (by omega)
  obtain ⟨a1, a2, a3, a4⟩ := hcc j hj
  obtain ⟨i1, i2, i3⟩ := hin j hj
  refine ⟨b, c, cur, U j, L j, E j, rfl, h1, h2, hr, by omega, a1, a2, a3, i1, i2, i3, a4, sub j hj, fun w' t' ht hr' ho hk => ?_⟩
  have hlen : (ts.set j t').length = ts.length := List.length_set
  have key : OI w' lo hi (.slice (some ⟨b, 0, Option.none⟩) (ts.set j t').length c) (ts.set j t') := by
    refine .mk lo hi _ c _ U L E (by omega) hc (fun i hi => ?_) (fun _ => ⟨b, _, rfl, h1, h2, hr', by simp; omega, fun i hi => ?_⟩) (fun i hi => hin i (by omega)) (fun i k hi hk => hap i k (by omega) (by omega)) (fun i hi => ?_)
    · rw [List.getElem_set]
      split
      · exact ht
      · exact hs i (by omega)
    · rw [List.getElem_set]
      by_cases e : j = i
      · subst e
        rw [if_pos rfl]
        refine ⟨?_, ?_, ?_, a4⟩
        · rw [Array.getElem?_setIfInBounds_ne (by omega), Array.getElem?_setIfInBounds_self_of_lt (by omega)]
        · rw [Array.getElem?_setIfInBounds_self_of_lt (by simp; omega)]
        · rw [Array.getElem?_setIfInBounds_ne (by omega), Array.getElem?_setIfInBounds_ne (by omega)]; exact a3
      · rw [if_neg e]
        obtain ⟨x1, x2, x3, x4⟩ := hcc i (by omega)
        refine ⟨?_, ?_, ?_, x4⟩
        · rw [Array.getElem?_setIfInBounds_ne (by omega), Array.getElem?_setIfInBounds_ne (by omega)]; exact x1
        · rw [Array.getElem?_setIfInBounds_ne (by omega), Array.getElem?_setIfInBounds_ne (by omega)]; exact x2
        · rw [Array.getElem?_setIfInBounds_ne (by omega), Array.getElem?_setIfInBounds_ne (by omega)]; exact x3
    · by_cases e : j = i
      · subst e
        rw [show (ts.set j t')[j] = t' by rw [List.getElem_set, if_pos rfl]]
        exact ho
      · rw [show (ts.set j t')[i] = ts[i]'(by omega) by rw [List.getElem_set, if_neg e]]
        have hi' : i < ts.length := by omega
        have q := hin i hi'
        refine (sub i hi').keep fun p p1 p2 => hk p (by omega) (by omega) ?_ ?_
        · have := (hcc i hi').2.2.2; omega
        · have := hap i j hi' hj (fun h => e h.symm); omega
  rw [hlen] at key
  exact key

mutual
/-- a term into which numbers from k on are laid -/
def markM : Nat → TermD → TermD
  | k, .node _ _ ks => .node k (k + 1 : Nat) (markMs (k + 2) ks)
def markMs : Nat → List TermD → List TermD
  | _, [] => []
  | k, t :: ts => markM k t :: markMs (k + 2 * sizeM t) ts
end
theorem markM_kind (k : Nat) (t : TermD) : (markM k t).kind = k := by cases t; rfl
theorem markM_num (k : Nat) (t : TermD) : (markM k t).num = (k + 1 : Nat) := by cases t; rfl
theorem markM_kids (k : Nat) (t : TermD) : (markM k t).kids = markMs (k + 2) t.kids := by cases t; rfl
theorem markMs_len (k : Nat) (ts : List TermD) : (markMs k ts).length = ts.length := by
  induction ts generalizing k with
  | nil => rfl
  | cons t ts ih => simp [markMs, ih]
theorem markMs_at (k : Nat) (ts : List TermD) (i : Nat) (h : i < (markMs k ts).length) : (markMs k ts)[i] = markM (k + 2 * sizeMs (ts.take i)) (ts[i]'(by rw [markMs_len] at h; exact h)) := by
  induction ts generalizing k i with
  | nil => simp [markMs] at h
  | cons t ts ih =>
    cases i with
    | zero => simp [markMs, sizeMs]
    | succ i =>
      have h' : i < (markMs (k + 2 * sizeM t) ts).length := by simpa [markMs] using h
      have := ih (k + 2 * sizeM t) i h'
      simp only [markMs, List.getElem_cons_succ, List.take_succ_cons, sizeMs]
      rw [this]
      congr 1
      omega
/-- the first j of a list marked -/
def markUp (k : Nat) (ts : List TermD) (j : Nat) : List TermD := (markMs k ts).take j ++ ts.drop j
theorem markUp_zero (k : Nat) (ts : List TermD) : markUp k ts 0 = ts := by simp [markUp]
theorem markUp_all (k : Nat) (ts : List TermD) : markUp k ts ts.length = markMs k ts := by
  unfold markUp
  rw [List.drop_length, List.append_nil, ← markMs_len k ts, List.take_length]
theorem markUp_len (k : Nat) (ts : List TermD) (j : Nat) : (markUp k ts j).length = ts.length := by
  unfold markUp
  rw [List.length_append, List.length_take, List.length_drop, markMs_len]
  omega
theorem markUp_here (k : Nat) (ts : List TermD) (j : Nat) (h : j < ts.length) : (markUp k ts j)[j]'(by rw [markUp_len]; exact h) = ts[j] := by
  have e : ((markMs k ts).take j).length = j := by rw [List.length_take, markMs_len]; omega
  simp only [markUp]
  rw [List.getElem_append_right (by omega)]
  simp [e]
theorem markUp_step (k : Nat) (ts : List TermD) (j : Nat) (h : j < ts.length) : (markUp k ts j).set j (markM (k + 2 * sizeMs (ts.take j)) ts[j]) = markUp k ts (j + 1) := by
  have e : ((markMs k ts).take j).length = j := by rw [List.length_take, markMs_len]; omega
  have hm : j < (markMs k ts).length := by rw [markMs_len]; exact h
  unfold markUp
  rw [List.set_append_right _ _ (by omega), e, Nat.sub_self, List.take_succ_eq_append_getElem hm, markMs_at k ts j hm, List.append_assoc]
  congr 1
  rw [List.drop_eq_getElem_cons h]
  rfl
end Go.Proofs.Ytlgedjpolmlciaa
