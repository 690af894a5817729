import Derived.Test.YtlgedjpolmlciaaJOwns
import Derived.WalkKit
import Derived.WalkSpells
import Derived.WalkLawsBesides
import Derived.Test.YtlgedjpolmlciaaJMa
/- The law's own measure of what came in: szStringS, szRule, szRuleS, szGram say how much is left of a number, or -1. -/
namespace Go.Proofs.Ytlgedjpolmlciaa
open Go.RowKit

theorem ret_int {k : IntKind} {a b : Int} (h : a = b) : Ending.returned (.int k a) = .returned (.int k b) := by rw [h]

set_option maxHeartbeats 1000000 in
theorem szStringS_any (v : Value) (ss : List ByteArray) (lo hi : Nat) (left : Int) (w : World) (h : Strs w lo hi v ss) (h0 : 0 ≤ left) (h1 : left ≤ 1048576) :
    Calls Try.prog 40 #[v, .int .i64 left] w fun e w' => e = .returned (.int .i64 (szOut left (bulkS ss))) ∧ w = w' := by
  obtain ⟨A, c, rfl, hlc, hc, hsz, hcell⟩ := h
  unfold maxLen at hc
  have HC := Lib.hid hcell
  have HZ := Lib.hid hsz
  clear hcell hsz
  by_cases hn : left < ss.length
  · go_enter Try.func40, Try.ntmps40
    go_wp2
    go_ret
    exact ⟨ret_int (by rw [szOut_neg]; unfold bulkS; omega), rfl⟩
  have d0 : decide (left - (ss.length : Int) < 0) = false := decide_eq_false (by omega)
  go_enter Try.func40, Try.ntmps40
  go_wp2
  go_loop [1, 5] (fun l i => ∃ k : Nat, k ≤ ss.length ∧ i = .int .i64 k ∧ l = .int .i64 (left - (ss.length : Int) - (sizes (ss.take k) : Int)) ∧ 0 ≤ left - (ss.length : Int) - (sizes (ss.take k) : Int)) (fun _ i => ss.length - (intOf i).toNat)
  case atStart => exact ⟨0, by omega, rfl, by simp [sizes], by simp [sizes]; omega⟩
  case round =>
    obtain ⟨k, hk, rfl, rfl, hle⟩ := hrel
    by_cases hlt : k < ss.length
    · obtain ⟨b, off, rfl, _, _, hcc⟩ := HC.out (by omega)
      have hck := hcc k hlt
      have hs := sizes_take_succ ss k hlt
      have hm := HZ.out ss[k] (List.getElem_mem hlt)
      unfold maxLen at hm
      have HS := Lib.hid hs
      clear hs hcc
      by_cases ht : left - (ss.length : Int) - (sizes (ss.take k) : Int) - (ss[k].size : Int) < 0
      · go_wp2
        go_ret
        exact ⟨ret_int (by rw [szOut_neg]; have := sizes_take_le ss (k + 1); have := HS.out; unfold bulkS; omega), rfl⟩
      · go_wp2
        go_round
        case rel => exact ⟨k + 1, by omega, by go_num, by rw [HS.out]; go_num, by rw [HS.out]; omega⟩
        case measure => simp [intOf]; omega
    · have hks : k = ss.length := by omega
      have HK := Lib.hid hks
      clear hks
      go_wp2
      go_ret
      refine ⟨ret_int ?_, rfl⟩
      have e := HK.out
      subst e
      rw [List.take_length] at hle ⊢
      rw [szOut_pos (by unfold bulkS; omega)]
      unfold bulkS; omega

set_option maxHeartbeats 1000000 in
theorem szRule_any (r : RuleD) (u : Value) (lo hi : Nat) (left : Int) (w : World) (hh : r.head.size ≤ maxLen) (h : Strs w lo hi u r.body) (hhi : hi ≤ w.heap.size) (h0 : 0 ≤ left) (h1 : left ≤ 1048576) :
    Calls Try.prog 39 #[.agg #[.string r.head, u], .int .i64 left] w fun e w' => e = .returned (.int .i64 (szOut left (r.head.size + bulkS r.body))) ∧ Below w.heap.size w w' := by
  unfold maxLen at hh
  by_cases hn : left < r.head.size
  · go_enter Try.func39, Try.ntmps39
    go_wp2
    go_ret
    exact ⟨ret_int (by rw [szOut_neg]; omega), (Below.refl _ _).alloc (Nat.le_refl _) _⟩
  have d0 : decide (left - (r.head.size : Int) < 0) = false := decide_eq_false (by omega)
  have hb : Below w.heap.size w (w.alloc (.cells #[.string r.head, u] 77)) := (Below.refl _ _).alloc (Nat.le_refl _) _
  by_cases ht : left - (r.head.size : Int) < bulkS r.body
  · have e1 : szOut (left - (r.head.size : Int)) (bulkS r.body) = -1 := szOut_neg ht
    go_enter Try.func39, Try.ntmps39
    go_wp2_with (go_at_call 40; refine (szStringS_any u r.body lo hi _ _ (h.below hb hhi) (by omega) (by omega)).mono ?_; rintro e w' ⟨rfl, rfl⟩; rw [e1])
    go_ret
    exact ⟨ret_int (by rw [szOut_neg]; omega), hb⟩
  · have e1 : szOut (left - (r.head.size : Int)) (bulkS r.body) = left - (r.head.size : Int) - (bulkS r.body : Int) := szOut_pos ht
    have d1 : decide (left - (r.head.size : Int) - (bulkS r.body : Int) < 0) = false := decide_eq_false (by omega)
    go_enter Try.func39, Try.ntmps39
    go_wp2_with (go_at_call 40; refine (szStringS_any u r.body lo hi _ _ (h.below hb hhi) (by omega) (by omega)).mono ?_; rintro e w' ⟨rfl, rfl⟩; rw [e1])
    go_ret
    exact ⟨ret_int (by rw [szOut_pos (by omega)]; omega), hb⟩

set_option maxHeartbeats 1000000 in
theorem szRuleS_any (v : Value) (rs : List RuleD) (lo hi : Nat) (left : Int) (w : World) (h : Rules w lo hi v rs) (hhi : hi ≤ w.heap.size) (h0 : 0 ≤ left) (h1 : left ≤ 1048576) :
    Calls Try.prog 23 #[v, .int .i64 left] w fun e w' => e = .returned (.int .i64 (szOut left (bulkR rs))) ∧ Below w.heap.size w w' := by
  obtain ⟨A, c, rfl, hlc, hc, hcell⟩ := h
  unfold maxLen at hc
  have HC := Lib.hid hcell
  clear hcell
  by_cases hn : left < rs.length
  · go_enter Try.func23, Try.ntmps23
    go_wp2
    go_ret
    exact ⟨ret_int (by rw [szOut_neg]; unfold bulkR; omega), Below.refl _ _⟩
  have d0 : decide (left - (rs.length : Int) < 0) = false := decide_eq_false (by omega)
  go_enter Try.func23, Try.ntmps23
  go_wp2
  go_loopw [1, 5] (fun l i wr => ∃ k : Nat, k ≤ rs.length ∧ i = .int .i64 k ∧ l = .int .i64 (left - (rs.length : Int) - (rulesTo rs k : Int)) ∧ 0 ≤ left - (rs.length : Int) - (rulesTo rs k : Int) ∧ Below w.heap.size w wr) (fun _ i _ => rs.length - (intOf i).toNat)
  case atStart => exact ⟨0, by omega, rfl, by simp [rulesTo], by simp [rulesTo]; omega, Below.refl _ _⟩
  case round =>
    obtain ⟨k, hk, rfl, rfl, hle, hbw⟩ := hrel
    have hsw := hbw.size
    by_cases hlt : k < rs.length
    · obtain ⟨b, off, rfl, _, hbh, hcc⟩ := HC.out (by omega)
      obtain ⟨hhs, hc0, u, hc1, hst⟩ := hcc k hlt
      have hs := rulesTo_succ rs k hlt
      have HS := Lib.hid hs
      have hc0' := (hbw.cell (p := ⟨b, off + k * 2, none⟩) (by show b < _; omega)).trans hc0
      have hc1' := (hbw.cell (p := ⟨b, off + k * 2 + 1, none⟩) (by show b < _; omega)).trans hc1
      have hst' := hst.below hbw hhi
      clear hs hcc hc0 hc1 hst
      by_cases ht : left - (rs.length : Int) - (rulesTo rs k : Int) < ((rs[k].head.size + bulkS rs[k].body : Nat) : Int)
      · have e1 := szOut_neg ht
        have E1 := Lib.hid e1
        clear e1
        go_wp2_with (go_at_call 39; refine (szRule_any rs[k] u lo hi _ _ hhs hst' (by omega) (by omega) (by omega)).mono ?_; rintro e w' ⟨rfl, hb2⟩; rw [E1.out])
        go_ret
        exact ⟨ret_int (by rw [szOut_neg]; have := rulesTo_le rs (k + 1); have := HS.out; omega), hbw.trans (hb2.mono hsw)⟩
      · have e1 := szOut_pos ht
        have E1 := Lib.hid e1
        clear e1
        have d1 : decide (left - (rs.length : Int) - (rulesTo rs k : Int) - ((rs[k].head.size + bulkS rs[k].body : Nat) : Int) < 0) = false := decide_eq_false (by omega)
        go_wp2_with (go_at_call 39; refine (szRule_any rs[k] u lo hi _ _ hhs hst' (by omega) (by omega) (by omega)).mono ?_; rintro e w' ⟨rfl, hb2⟩; rw [E1.out])
        go_roundw
        case rel => exact ⟨k + 1, by omega, by go_num, by rw [HS.out]; go_num, by rw [HS.out]; omega, hbw.trans (hb2.mono hsw)⟩
        case measure => simp [intOf]; omega
    · have hks : k = rs.length := by omega
      have HK := Lib.hid hks
      clear hks
      go_wp2
      go_ret
      refine ⟨ret_int ?_, hbw⟩
      have e := HK.out
      subst e
      have := rulesTo_all rs
      rw [szOut_pos (by omega)]
      omega

set_option maxHeartbeats 1000000 in
theorem szGram_any (v : Value) (rs : List RuleD) (lo hi : Nat) (left : Int) (w : World) (h : Rules w lo hi v rs) (hhi : hi ≤ w.heap.size) (h0 : 0 ≤ left) (h1 : left ≤ 1048576) :
    Calls Try.prog 9 #[.agg #[v], .int .i64 left] w fun e w' => e = .returned (.int .i64 (szOut left (bulkR rs))) ∧ Below w.heap.size w w' := by
  have hb : Below w.heap.size w (w.alloc (.cells #[v] 24)) := (Below.refl _ _).alloc (Nat.le_refl _) _
  by_cases ht : left < bulkR rs
  · have e1 := szOut_neg ht
    have E1 := Lib.hid e1
    clear e1
    go_enter Try.func9, Try.ntmps9
    go_wp2_with (go_at_call 23; refine (szRuleS_any v rs lo hi _ _ (h.below hb hhi) (by simp; omega) (by omega) (by omega)).mono ?_; rintro e w' ⟨rfl, hb2⟩; rw [E1.out])
    go_ret
    exact ⟨ret_int (by rw [E1.out]), hb.trans (hb2.mono (by simp))⟩
  · have e1 := szOut_pos ht
    have E1 := Lib.hid e1
    clear e1
    have d1 : decide (left - (bulkR rs : Int) < 0) = false := decide_eq_false (by omega)
    go_enter Try.func9, Try.ntmps9
    go_wp2_with (go_at_call 23; refine (szRuleS_any v rs lo hi _ _ (h.below hb hhi) (by simp; omega) (by omega) (by omega)).mono ?_; rintro e w' ⟨rfl, hb2⟩; rw [E1.out])
    go_ret
    exact ⟨ret_int (by rw [E1.out]), hb.trans (hb2.mono (by simp))⟩
end Go.Proofs.Ytlgedjpolmlciaa

/- The law's own measure of a term that came in: szTermS, szTerm. -/
namespace Go.Proofs.Ytlgedjpolmlciaa
open Go.RowKit

/-- how many parts the first k have, less themselves -/
def msTo (ts : List TermD) (k : Nat) : Nat := sizeMs (ts.take k) - k
theorem sizeMs_take_ge (ts : List TermD) (k : Nat) (h : k ≤ ts.length) : k ≤ sizeMs (ts.take k) := by
  have := length_sizeMs (ts.take k)
  rw [List.length_take] at this
  omega
theorem msTo_succ (ts : List TermD) (k : Nat) (h : k < ts.length) : msTo ts (k + 1) = msTo ts k + sizeMs ts[k].kids := by
  unfold msTo; rw [sizeMs_take ts k h, sizeM_eq]; have := sizeMs_take_ge ts k (by omega); omega
theorem msTo_le (ts : List TermD) (k : Nat) (h : k ≤ ts.length) : ts.length + msTo ts k ≤ sizeMs ts := by
  unfold msTo
  have h1 := sizeMs_take_ge ts k h
  have h2 : sizeMs ts = sizeMs (ts.take k) + sizeMs (ts.drop k) := by rw [← sizeMs_append, List.take_append_drop]
  have h3 := length_sizeMs (ts.drop k)
  rw [List.length_drop] at h3
  omega
theorem msTo_all (ts : List TermD) : ts.length + msTo ts ts.length = sizeMs ts := by
  unfold msTo; rw [List.take_length]; have := length_sizeMs ts; omega

def SzM (ts : List TermD) : Prop := ∀ (v : Value) (lo hi : Nat) (left : Int) (w : World), KM false w lo hi v ts → hi ≤ w.heap.size → 0 ≤ left → left ≤ 1048576 →
  Calls Try.prog 25 #[v, .int .i64 left] w fun e w' => e = .returned (.int .i64 (szOut left (sizeMs ts))) ∧ Below w.heap.size w w'

set_option maxHeartbeats 1000000 in
theorem szTerm_of (t : TermD) (ih : SzM t.kids) (u : Value) (lo hi : Nat) (left : Int) (w : World) (h : KM false w lo hi u t.kids) (hhi : hi ≤ w.heap.size) (h0 : 0 ≤ left) (h1 : left ≤ 1048576) :
    Calls Try.prog 11 #[tmV t u, .int .i64 left] w fun e w' => e = .returned (.int .i64 (szOut left (sizeMs t.kids))) ∧ Below w.heap.size w w' := by
  unfold tmV
  have hb : Below w.heap.size w (w.alloc (.cells #[.int .i64 t.kind, .int .i64 t.num, u] 28)) := al1 _ _
  by_cases ht : left < sizeMs t.kids
  · have e1 : szOut left (sizeMs t.kids) = -1 := szOut_neg ht
    have E1 := Lib.hid e1
    clear e1
    go_enter Try.func11, Try.ntmps11
    go_wp2_with (go_at_call 25; refine (ih u lo hi _ _ (h.under hb hhi) (by simp; omega) (by omega) (by omega)).mono ?_; rintro e w' ⟨rfl, hb2⟩; rw [E1.out])
    go_ret
    exact ⟨ret_int (by rw [E1.out]), hb.trans (hb2.mono (by simp))⟩
  · have e1 : szOut left (sizeMs t.kids) = left - (sizeMs t.kids : Int) := szOut_pos ht
    have E1 := Lib.hid e1
    clear e1
    have d1 : decide (left - (sizeMs t.kids : Int) < 0) = false := decide_eq_false (by omega)
    go_enter Try.func11, Try.ntmps11
    go_wp2_with (go_at_call 25; refine (ih u lo hi _ _ (h.under hb hhi) (by simp; omega) (by omega) (by omega)).mono ?_; rintro e w' ⟨rfl, hb2⟩; rw [E1.out])
    go_ret
    exact ⟨ret_int (by rw [E1.out]), hb.trans (hb2.mono (by simp))⟩

set_option maxHeartbeats 1000000 in
theorem szTermS_of (ts : List TermD) (ih : ∀ i (h : i < ts.length), SzM ts[i].kids) : SzM ts := by
  intro v lo hi left w h hhi h0 h1
  obtain ⟨A, c, U, rfl, hlc, hc, hs, hcell, hsub⟩ := h.parts
  unfold maxLen at hc
  have HC := Lib.hid hcell
  have HS := Lib.hid hs
  have HB := Lib.hid hsub
  clear hcell hs hsub h
  by_cases hn : left < ts.length
  · go_enter Try.func25, Try.ntmps25
    go_wp2
    go_ret
    exact ⟨ret_int (by rw [szOut_neg]; have := msTo_le ts 0 (by omega); omega), Below.refl _ _⟩
  have d0 : decide (left - (ts.length : Int) < 0) = false := decide_eq_false (by omega)
  go_enter Try.func25, Try.ntmps25
  go_wp2
  go_loopw [1, 5] (fun l i wr => ∃ k : Nat, k ≤ ts.length ∧ i = .int .i64 k ∧ l = .int .i64 (left - (ts.length : Int) - (msTo ts k : Int)) ∧ 0 ≤ left - (ts.length : Int) - (msTo ts k : Int) ∧ Below w.heap.size w wr) (fun _ i _ => ts.length - (intOf i).toNat)
  case atStart => exact ⟨0, by omega, rfl, by simp [msTo, sizeMs], by simp [msTo, sizeMs]; omega, Below.refl _ _⟩
  case round =>
    obtain ⟨k, hk, rfl, rfl, hle, hbw⟩ := hrel
    have hsw := hbw.size
    by_cases hlt : k < ts.length
    · obtain ⟨b, off, rfl, _, hbh, _, hcc⟩ := HC.out (by omega)
      obtain ⟨hc0, hc1, hc2⟩ := hcc k hlt
      have hs := msTo_succ ts k hlt
      have HK := Lib.hid hs
      have hc0' := (hbw.cell (p := ⟨b, off + k * 3, none⟩) (by show b < _; omega)).trans hc0
      have hc1' := (hbw.cell (p := ⟨b, off + k * 3 + 1, none⟩) (by show b < _; omega)).trans hc1
      have hc2' := (hbw.cell (p := ⟨b, off + k * 3 + 2, none⟩) (by show b < _; omega)).trans hc2
      have hst' := (HB.out k hlt).under hbw hhi
      clear hs hcc hc0 hc1 hc2
      by_cases ht : left - (ts.length : Int) - (msTo ts k : Int) < ((sizeMs ts[k].kids : Nat) : Int)
      · have e1 := szOut_neg ht
        have E1 := Lib.hid e1
        clear e1
        go_wp2_with (go_at_call 11; refine (szTerm_of ts[k] (ih k hlt) (U k) lo hi _ _ hst' (by omega) (by omega) (by omega)).mono ?_; rintro e w' ⟨rfl, hb2⟩; rw [E1.out])
        go_ret
        exact ⟨ret_int (by rw [szOut_neg]; have := msTo_le ts (k + 1) (by omega); have := HK.out; omega), hbw.trans (hb2.mono hsw)⟩
      · have e1 := szOut_pos ht
        have E1 := Lib.hid e1
        clear e1
        have d1 : decide (left - (ts.length : Int) - (msTo ts k : Int) - ((sizeMs ts[k].kids : Nat) : Int) < 0) = false := decide_eq_false (by omega)
        go_wp2_with (go_at_call 11; refine (szTerm_of ts[k] (ih k hlt) (U k) lo hi _ _ hst' (by omega) (by omega) (by omega)).mono ?_; rintro e w' ⟨rfl, hb2⟩; rw [E1.out])
        go_roundw
        case rel => exact ⟨k + 1, by omega, by go_num, by rw [HK.out]; go_num, by rw [HK.out]; omega, hbw.trans (hb2.mono hsw)⟩
        case measure => simp [intOf]; omega
    · have hks : k = ts.length := by omega
      have HK := Lib.hid hks
      clear hks
      go_wp2
      go_ret
      refine ⟨ret_int ?_, hbw⟩
      have e := HK.out
      subst e
      have := msTo_all ts
      rw [szOut_pos (by omega)]
      omega

/-- what is told of all lists from what is told of the lists below them -/
theorem terms_ind {p : List TermD → Prop} (h : ∀ ts : List TermD, (∀ i (h : i < ts.length), p ts[i].kids) → p ts) (ts : List TermD) : p ts := by
  have key : ∀ n (ts : List TermD), sizeMs ts ≤ n → p ts := by
    intro n
    induction n with
    | zero =>
      intro ts hs
      refine h ts fun i hi => ?_
      have := sizeMs_get ts i hi
      have := sizeM_eq ts[i]
      omega
    | succ n ih =>
      intro ts hs
      refine h ts fun i hi => ih _ ?_
      have := sizeMs_get ts i hi
      have := sizeM_eq ts[i]
      omega
  exact key _ ts (Nat.le_refl _)

theorem szTermS_any (ts : List TermD) : SzM ts := terms_ind szTermS_of ts
theorem szTerm_any (t : TermD) (u : Value) (lo hi : Nat) (left : Int) (w : World) (h : KM false w lo hi u t.kids) (hhi : hi ≤ w.heap.size) (h0 : 0 ≤ left) (h1 : left ≤ 1048576) :
    Calls Try.prog 11 #[tmV t u, .int .i64 left] w fun e w' => e = .returned (.int .i64 (szOut left (sizeMs t.kids))) ∧ Below w.heap.size w w' :=
  szTerm_of t (szTermS_any _) u lo hi left w h hhi h0 h1
end Go.Proofs.Ytlgedjpolmlciaa
