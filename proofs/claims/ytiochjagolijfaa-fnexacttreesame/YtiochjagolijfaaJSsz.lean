import Derived.Test.YtiochjagolijfaaTre
import Derived.Test.YtiochjagolijfaaSz
import Derived.Deep.QuietTactic
import Derived.StillTailTactics
/- The law's own measure of a tree that came in: szTreeS, szTree. -/
namespace Go.Proofs.Ytiochjagolijfaa
open Go.RowKit

theorem bulkTs_sum (ts : List TreeD) : bulkTs ts = ts.length + (ts.map bulkT).sum := by
  induction ts with
  | nil => simp [bulkTs]
  | cons t ts ih => simp [bulkTs, ih]; omega
def kidsTo (ts : List TreeD) (k : Nat) : Nat := ((ts.take k).map bulkT).sum
theorem kidsTo_succ (ts : List TreeD) (k : Nat) (h : k < ts.length) : kidsTo ts (k + 1) = kidsTo ts k + bulkT ts[k] := by
  unfold kidsTo; rw [List.take_succ_eq_append_getElem h, List.map_append, List.sum_append]; simp
theorem kidsTo_le (ts : List TreeD) (k : Nat) : ts.length + kidsTo ts k ≤ bulkTs ts := by
  rw [bulkTs_sum]; unfold kidsTo
  conv => rhs; rw [← List.take_append_drop k ts]
  rw [List.map_append, List.sum_append]; simp
theorem kidsTo_all (ts : List TreeD) : ts.length + kidsTo ts ts.length = bulkTs ts := by rw [bulkTs_sum]; unfold kidsTo; rw [List.take_length]

def SzS (ts : List TreeD) : Prop := ∀ (v : Value) (lo hi : Nat) (left : Int) (w : World), Kd false w lo hi v ts → hi ≤ w.heap.size → 0 ≤ left → left ≤ 1048576 →
  Calls Try.prog 60 #[v, .int .i64 left] w fun e w' => e = .returned (.int .i64 (szOut left (bulkTs ts))) ∧ Below w.heap.size w w'

set_option maxHeartbeats 1000000 in
theorem szTree_of (t : TreeD) (ih : SzS t.kids) (u : Value) (lo hi : Nat) (left : Int) (w : World) (hh : TopOk t) (h : Kd false w lo hi u t.kids) (hhi : hi ≤ w.heap.size) (h0 : 0 ≤ left) (h1 : left ≤ 1048576) :
    Calls Try.prog 21 #[trV t u, .int .i64 left] w fun e w' => e = .returned (.int .i64 (szOut left (bulkT t))) ∧ Below w.heap.size w w' := by
  have hh1 := hh.1
  unfold maxLen at hh1
  rw [bulkT_eq]
  unfold trV
  by_cases hn : left < t.tok.size
  · go_enter Try.func21, Try.ntmps21
    go_wp2
    go_ret
    exact ⟨ret_int (by rw [szOut_neg]; omega), al1 _ _⟩
  have d0 : decide (left - (t.tok.size : Int) < 0) = false := decide_eq_false (by omega)
  have hb : Below w.heap.size w (w.alloc (.cells #[.int .i64 t.rule, .string t.tok, u] 54)) := al1 _ _
  by_cases ht : left - (t.tok.size : Int) < bulkTs t.kids
  · have e1 : szOut (left - (t.tok.size : Int)) (bulkTs t.kids) = -1 := szOut_neg ht
    go_enter Try.func21, Try.ntmps21
    go_wp2_with (go_at_call 60; refine (ih u lo hi _ _ (h.under hb hhi) (by simp; omega) (by omega) (by omega)).mono ?_; rintro e w' ⟨rfl, hb2⟩; rw [e1])
    go_ret
    exact ⟨ret_int (by rw [szOut_neg]; omega), hb.trans (hb2.mono (by simp))⟩
  · have e1 : szOut (left - (t.tok.size : Int)) (bulkTs t.kids) = left - (t.tok.size : Int) - (bulkTs t.kids : Int) := szOut_pos ht
    have d1 : decide (left - (t.tok.size : Int) - (bulkTs t.kids : Int) < 0) = false := decide_eq_false (by omega)
    go_enter Try.func21, Try.ntmps21
    go_wp2_with (go_at_call 60; refine (ih u lo hi _ _ (h.under hb hhi) (by simp; omega) (by omega) (by omega)).mono ?_; rintro e w' ⟨rfl, hb2⟩; rw [e1])
    go_ret
    exact ⟨ret_int (by rw [szOut_pos (by omega)]; omega), hb.trans (hb2.mono (by simp))⟩

set_option maxHeartbeats 1000000 in
theorem szTreeS_of (ts : List TreeD) (ih : ∀ i (h : i < ts.length), SzS ts[i].kids) : SzS ts := by
  intro v lo hi left w h hhi h0 h1
  obtain ⟨A, c, U, rfl, hlc, hc, hs, hcell, hsub⟩ := h.parts
  unfold maxLen at hc
  have HC := Lib.hid hcell
  have HS := Lib.hid hs
  have HB := Lib.hid hsub
  clear hcell hs hsub h
  by_cases hn : left < ts.length
  · go_enter Try.func60, Try.ntmps60
    go_wp2
    go_ret
    exact ⟨ret_int (by rw [szOut_neg]; have := kidsTo_le ts 0; omega), Below.refl _ _⟩
  have d0 : decide (left - (ts.length : Int) < 0) = false := decide_eq_false (by omega)
  go_enter Try.func60, Try.ntmps60
  go_wp2
  go_loopw [1, 5] (fun l i wr => ∃ k : Nat, k ≤ ts.length ∧ i = .int .i64 k ∧ l = .int .i64 (left - (ts.length : Int) - (kidsTo ts k : Int)) ∧ 0 ≤ left - (ts.length : Int) - (kidsTo ts k : Int) ∧ Below w.heap.size w wr) (fun _ i _ => ts.length - (intOf i).toNat)
  case atStart => exact ⟨0, by omega, rfl, by simp [kidsTo], by simp [kidsTo]; omega, Below.refl _ _⟩
  case round =>
    obtain ⟨k, hk, rfl, rfl, hle, hbw⟩ := hrel
    have hsw := hbw.size
    by_cases hlt : k < ts.length
    · obtain ⟨b, off, rfl, _, hbh, _, hcc⟩ := HC.out (by omega)
      obtain ⟨hc0, hc1, hc2⟩ := hcc k hlt
      have hs := kidsTo_succ ts k hlt
      have HK := Lib.hid hs
      have hc0' := (hbw.cell (p := ⟨b, off + k * 3, none⟩) (by show b < _; omega)).trans hc0
      have hc1' := (hbw.cell (p := ⟨b, off + k * 3 + 1, none⟩) (by show b < _; omega)).trans hc1
      have hc2' := (hbw.cell (p := ⟨b, off + k * 3 + 2, none⟩) (by show b < _; omega)).trans hc2
      have hst' := (HB.out k hlt).under hbw hhi
      have htop : TopOk ts[k] := HS.out k hlt
      clear hs hcc hc0 hc1 hc2
      by_cases ht : left - (ts.length : Int) - (kidsTo ts k : Int) < ((bulkT ts[k] : Nat) : Int)
      · have e1 := szOut_neg ht
        have E1 := Lib.hid e1
        clear e1
        go_wp2_with (go_at_call 21; refine (szTree_of ts[k] (ih k hlt) (U k) lo hi _ _ htop hst' (by omega) (by omega) (by omega)).mono ?_; rintro e w' ⟨rfl, hb2⟩; rw [E1.out])
        go_ret
        exact ⟨ret_int (by rw [szOut_neg]; have := kidsTo_le ts (k + 1); have := HK.out; omega), hbw.trans (hb2.mono hsw)⟩
      · have e1 := szOut_pos ht
        have E1 := Lib.hid e1
        clear e1
        have d1 : decide (left - (ts.length : Int) - (kidsTo ts k : Int) - ((bulkT ts[k] : Nat) : Int) < 0) = false := decide_eq_false (by omega)
        go_wp2_with (go_at_call 21; refine (szTree_of ts[k] (ih k hlt) (U k) lo hi _ _ htop hst' (by omega) (by omega) (by omega)).mono ?_; rintro e w' ⟨rfl, hb2⟩; rw [E1.out])
        go_roundw
        case rel => exact ⟨k + 1, by omega, by go_num, by rw [HK.out]; go_num, by rw [HK.out]; omega, hbw.trans (hb2.mono hsw)⟩
        case measure => simp [intOf]; omega
    · have hks : k = ts.length := by omega
      have HK := Lib.hid hks
      clear hks
      go_wp2
      go_ret
      refine ⟨ret_int ?_, hbw⟩
      have e := HK.out
      subst e
      have := kidsTo_all ts
      rw [szOut_pos (by omega)]
      omega

/-- what is told of all lists from what is told of the lists below them -/
theorem kids_ind {p : List TreeD → Prop} (h : ∀ ts : List TreeD, (∀ i (h : i < ts.length), p ts[i].kids) → p ts) (ts : List TreeD) : p ts := by
  have key : ∀ n (ts : List TreeD), sizeTs ts ≤ n → p ts := by
    intro n
    induction n with
    | zero =>
      intro ts hs
      refine h ts fun i hi => ?_
      have := sizeTs_get ts i hi
      have := sizeT_eq ts[i]
      omega
    | succ n ih =>
      intro ts hs
      refine h ts fun i hi => ih _ ?_
      have := sizeTs_get ts i hi
      have := sizeT_eq ts[i]
      omega
  exact key _ ts (Nat.le_refl _)

theorem szTreeS_any (ts : List TreeD) : SzS ts := kids_ind szTreeS_of ts
theorem szTree_any (t : TreeD) (u : Value) (lo hi : Nat) (left : Int) (w : World) (hh : TopOk t) (h : Kd false w lo hi u t.kids) (hhi : hi ≤ w.heap.size) (h0 : 0 ≤ left) (h1 : left ≤ 1048576) :
    Calls Try.prog 21 #[trV t u, .int .i64 left] w fun e w' => e = .returned (.int .i64 (szOut left (bulkT t))) ∧ Below w.heap.size w w' :=
  szTree_of t (szTreeS_any _) u lo hi left w hh h hhi h0 h1
end Go.Proofs.Ytiochjagolijfaa

/- The model's sizes of a tree: spec.SizeOf, spec.l05Size. -/
namespace Go.Proofs.Ytiochjagolijfaa
open Go.RowKit

theorem tree_ind {p : TreeD → Prop} (h : ∀ t : TreeD, (∀ i (h : i < t.kids.length), p t.kids[i]) → p t) (t : TreeD) : p t :=
  h t (kids_ind (p := fun ts => ∀ i (h : i < ts.length), p ts[i]) (fun _ ih i hi => h _ (ih i hi)) t.kids)

end Go.Proofs.Ytiochjagolijfaa
