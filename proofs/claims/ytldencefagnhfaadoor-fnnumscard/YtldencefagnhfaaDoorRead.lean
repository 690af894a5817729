/- The walks of unfoldSign, readNum and faultCode. -/
import Derived.Test.YtldencefagnhfaaDoorGet
import Derived.Test.YtldencefagnhfaaDoorAsc
import Derived.WalkMore
import Derived.Laws.DeepNot64
namespace Go.Proofs.YtldencefagnhfaaDoor
open Go Go.RowKit

theorem rd_int {k : IntKind} {a b : Int} (h : a = b) : Ending.returned (.int k a) = .returned (.int k b) := by rw [h]
theorem rd_val {k : IntKind} {a b : Int} (h : a = b) : Value.int k a = .int k b := by rw [h]

/-- where 'more' stands -/
def AtMore (s : ByteArray) (at_ : Int) (p B : Nat) (W : World) (a : Act) (w : World) : Prop :=
  ∃ k : Nat, k ≤ 9 ∧ p + k ≤ 9223372036854775807 ∧ readOf s at_ = goN s p (10 - k) k ∧ w.heap[B]? = some (.cells #[.int .i64 3] 56 (0, 0)) ∧ Below B W w ∧ ∃ u8 u11 u12 u13 u14 u15 u16 u17 u18 u19 u20 u21 u22 u23 u24 u25 u26 u27 u28 u29 u30 u31 u32 u33 u34 u35 u36 u37 u38 u39 u40 u41 u42 u43 u44 u45 u46 u47 u48 u49 u50 u51 u52 u53 u54 : Value, a = { tmps := #[.string s, .int .i64 ((p : Int) + (k : Int)), undef, undef, .int .i64 0, .int .i64 0, .nilIface, .int .u64 (acc s p k : Nat), u8, .int .i64 (k : Int), .pointer (some ⟨B, 0, none⟩), u11, u12, u13, u14, u15, u16, u17, u18, u19, u20, u21, u22, u23, u24, u25, u26, u27, u28, u29, u30, u31, u32, u33, u34, u35, u36, u37, u38, u39, u40, u41, u42, u43, u44, u45, u46, u47, u48, u49, u50, u51, u52, u53, u54], defers := [] }
/-- where 'last' stands -/
def AtLast (s : ByteArray) (at_ : Int) (p B : Nat) (W : World) (a : Act) (w : World) : Prop :=
  ∃ k : Nat, k ≤ 9 ∧ readOf s at_ = (if byteN s (p + k) = 0 ∧ 0 < k then (0, 0, 3) else (unfoldN (acc s p (k + 1)), ((p + k + 1 : Nat) : Int), 0)) ∧ acc s p (k + 1) < 18446744073709551616 ∧ p + k < 8000 ∧ w.heap[B]? = some (.cells #[.int .i64 3] 56 (0, 0)) ∧ Below B W w ∧ ∃ u11 u12 u13 u14 u15 u16 u17 u18 u19 u20 u21 u22 u23 u24 u25 u26 u27 u28 u29 u30 u31 u32 u33 u34 u35 u36 u37 u38 u39 u40 u41 u42 u43 u44 u45 u46 u47 u48 u49 u50 u51 u52 u53 u54 : Value, a = { tmps := #[.string s, .int .i64 ((p : Int) + (k : Int) + 1), undef, undef, .int .i64 0, .int .i64 0, .nilIface, .int .u64 (acc s p (k + 1) : Nat), .int .u8 (byteN s (p + k) : Nat), .int .i64 ((k : Int) + 1), .pointer (some ⟨B, 0, none⟩), u11, u12, u13, u14, u15, u16, u17, u18, u19, u20, u21, u22, u23, u24, u25, u26, u27, u28, u29, u30, u31, u32, u33, u34, u35, u36, u37, u38, u39, u40, u41, u42, u43, u44, u45, u46, u47, u48, u49, u50, u51, u52, u53, u54], defers := [] }
/-- where 'wrong' stands -/
def AtWrong (s : ByteArray) (at_ : Int) (B : Nat) (W : World) (a : Act) (w : World) : Prop :=
  ∃ c : Int, ¬ c = 0 ∧ readOf s at_ = (0, 0, c) ∧ w.heap[B]? = some (.cells #[.int .i64 c] 56 (0, 0)) ∧ Below B W w ∧ ∃ u0 u1 u4 u5 u6 u7 u8 u9 u11 u12 u13 u14 u15 u16 u17 u18 u19 u20 u21 u22 u23 u24 u25 u26 u27 u28 u29 u30 u31 u32 u33 u34 u35 u36 u37 u38 u39 u40 u41 u42 u43 u44 u45 u46 u47 u48 u49 u50 u51 u52 u53 u54 : Value, a = { tmps := #[u0, u1, undef, undef, u4, u5, u6, u7, u8, u9, .pointer (some ⟨B, 0, none⟩), u11, u12, u13, u14, u15, u16, u17, u18, u19, u20, u21, u22, u23, u24, u25, u26, u27, u28, u29, u30, u31, u32, u33, u34, u35, u36, u37, u38, u39, u40, u41, u42, u43, u44, u45, u46, u47, u48, u49, u50, u51, u52, u53, u54], defers := [] }
def AtLabel (s : ByteArray) (at_ : Int) (p B : Nat) (W : World) : Nat → Act → World → Prop
  | 0 => AtWrong s at_ B W
  | 1 => AtMore s at_ p B W
  | 2 => AtLast s at_ p B W
  | _ => fun _ _ => False
def left (l : Nat) (a : Act) (_ : World) : Nat := if l = 1 then 100 - (intOf (a.tmps.getD 9 undef)).toNat else if l = 2 then 2 else 1

theorem i64_flip (x : Nat) (h : x < 9223372036854775808) : bits .xor .i64 (-1) (x : Int) = -1 - (x : Int) := i64_not x h
theorem and1u (x : Nat) (h : x < 18446744073709551616) : bits .and .u64 (x : Int) 1 = ((x % 2 : Nat) : Int) := by
  have e := u64_and_nat x 1 h (by omega)
  rw [Nat.and_one_is_mod] at e
  exact e
set_option maxHeartbeats 400000 in
theorem unfoldSign_any (u : Nat) (w : World) (h : u < 18446744073709551616) :
    Calls Tryd.prog 30 #[.int .u64 (u : Int)] w fun e w' => e = .returned (.int .i64 (unfoldN u)) ∧ w = w' := by
  have HA := and1u u h
  by_cases ho : u % 2 = 1
  · have hq : (bits .and .u64 (u : Int) 1 == 1) = true := by rw [HA, ho]; rfl
    have HF := Lib.hid (i64_flip (u / 2) (by omega))
    have HO := Lib.hid ho
    clear HA ho
    go_enter Tryd.func30, Tryd.ntmps30
    go_wp2
    go_ret
    exact ⟨rd_int (by unfold unfoldN; rw [if_pos HO.out]; have := HF.out; rw [show ((u / 2 : Nat) : Int) = (u : Int) / 2 by omega] at this; rw [this]; omega), rfl⟩
  · have hq : (bits .and .u64 (u : Int) 1 == 1) = false := by rw [HA, show u % 2 = 0 by omega]; rfl
    have HO := Lib.hid ho
    clear HA ho
    go_enter Tryd.func30, Tryd.ntmps30
    go_wp2
    go_ret
    exact ⟨rd_int (by unfold unfoldN; rw [if_neg HO.out]; omega), rfl⟩

/-- the error of a code, as a value -/
def errOf (c : Int) : Value := if c = 0 then .nilIface else .iface 56 (.agg #[.int .i64 c])
def rdOf (s : ByteArray) (at_ : Int) : Value := .tuple #[.int .i64 (readOf s at_).1, .int .i64 (readOf s at_).2.1, errOf (readOf s at_).2.2]

theorem rd_err {s : ByteArray} {at_ c : Int} (h0 : ¬ c = 0) (h : readOf s at_ = (0, 0, c)) : rdOf s at_ = .tuple #[.int .i64 0, .int .i64 0, .iface 56 (.agg #[.int .i64 c])] := by
  unfold rdOf errOf; rw [h]; simp only [if_neg h0]
theorem rd_ok {s : ByteArray} {at_ n : Int} {p k : Nat} (h : readOf s at_ = (n, ((p + k + 1 : Nat) : Int), 0)) : Value.tuple #[.int .i64 n, .int .i64 ((p : Int) + (k : Int) + 1), .nilIface] = rdOf s at_ := by
  unfold rdOf errOf; rw [h]; rfl
theorem rd_neg {s : ByteArray} {at_ : Int} (h : at_ < 0) : readOf s at_ = (0, 0, 1) := if_pos h

set_option maxRecDepth 100000 in
set_option maxHeartbeats 1000000 in
theorem readNum_any (s : ByteArray) (at_ : Int) (w : World) (hs : s.size ≤ 8000) (ha : -9223372036854775808 ≤ at_) (hb : at_ ≤ 9223372036854775807) :
    Calls Tryd.prog 22 #[.string s, .int .i64 at_] w fun e w' => e = .returned (rdOf s at_) ∧ Below w.heap.size w w' := by
  obtain ⟨p, hp0⟩ : ∃ p, p = at_.toNat := ⟨_, rfl⟩
  have HP := Lib.hid hp0
  clear hp0
  go_enter Tryd.func22, Tryd.ntmps22
  go_wp2
  refine wp_scope_many (AtLabel s at_ p w.heap.size w) left ?_ ?_
  · intro l a' w' hJ
    match l, hJ with
    | 0, hJ =>
      obtain ⟨c, hc0, hc, hg, hbel, u0, u1, u4, u5, u6, u7, u8, u9, u11, u12, u13, u14, u15, u16, u17, u18, u19, u20, u21, u22, u23, u24, u25, u26, u27, u28, u29, u30, u31, u32, u33, u34, u35, u36, u37, u38, u39, u40, u41, u42, u43, u44, u45, u46, u47, u48, u49, u50, u51, u52, u53, u54, rfl⟩ := hJ
      refine ⟨_, rfl, ?_⟩
      have h0 : w'.cell? ⟨w.heap.size, 0, none⟩ = some (.int .i64 c) := (cell_of_row w' _ 0 _ _ _ hg).trans rfl
      have HC := Lib.hid (rd_err hc0 hc)
      clear hc hg
      go_wp2
      go_region
      go_wp2
      rw [jumpsTo_ret]
      go_ret3
      exact ⟨HC.out.symm ▸ rfl, hbel.drew⟩
    | 1, hJ =>
      obtain ⟨k, hk, hpk, hgo, hg, hbel, u8, u11, u12, u13, u14, u15, u16, u17, u18, u19, u20, u21, u22, u23, u24, u25, u26, u27, u28, u29, u30, u31, u32, u33, u34, u35, u36, u37, u38, u39, u40, u41, u42, u43, u44, u45, u46, u47, u48, u49, u50, u51, u52, u53, u54, rfl⟩ := hJ
      refine ⟨_, rfl, ?_⟩
      have h0 : w'.cell? ⟨w.heap.size, 0, none⟩ = some (.int .i64 3) := (cell_of_row w' _ 0 _ _ _ hg).trans rfl
      have hf0 : w'.frozen? ⟨w.heap.size, 0, none⟩ = false := by simp [World.frozen?, hg]
      have HG := Lib.hid hg
      have HGO := Lib.hid hgo
      clear hg hgo
      by_cases hsz : s.size ≤ p + k
      · have HE : Hid (readOf s at_ = (0, 0, 4)) := Lib.hid (by rw [HGO.out, show 10 - k = (9 - k) + 1 by omega, goN_short hsz])
        go_wp2
        go_step3
        refine ⟨⟨4, by omega, HE.out, ?_, ?_, _, _, _, _, _, _, _, _, _, _, _, _, _, _, _, _, _, _, _, _, _, _, _, _, _, _, _, _, _, _, _, _, _, _, _, _, _, _, _, _, _, _, _, _, _, _, _, _, _, _, _, _, rfl⟩, ?_⟩
        · simp [World.setCell, Array.getElem?_modify, HG.out]
        · exact hbel.setCell (Nat.le_refl _) _
        · simp [left, intOf]; omega
      have hlt : p + k < s.size := by omega
      have hbyte := byteN_at s (p + k) hlt
      have hbl := byteN_lt s (p + k)
      have hac := acc_lt s p k
      by_cases h9 : k = 9 ∧ 1 < byteN s (p + k)
      · have HE : Hid (readOf s at_ = (0, 0, 3)) := Lib.hid (by rw [HGO.out, show 10 - k = (9 - k) + 1 by omega, goN_tenth hsz h9])
        obtain ⟨rfl, h9⟩ := h9
        have b1 : (1 : Int) < (s[p + 9].toNat : Int) := by omega
        clear hbyte
        go_wp2
        go_step3
        refine ⟨⟨3, by omega, HE.out, HG.out, hbel, _, _, _, _, _, _, _, _, _, _, _, _, _, _, _, _, _, _, _, _, _, _, _, _, _, _, _, _, _, _, _, _, _, _, _, _, _, _, _, _, _, _, _, _, _, _, _, _, _, _, _, _, rfl⟩, ?_⟩
        simp [left, intOf]
      have hor := or_step (a := acc s p k) (c := byteN s (p + k)) hac hbl hk h9
      have HOR := Lib.hid hor
      have HAL := Lib.hid (acc_step_lt (s := s) (p := p) hk h9)
      have hd : ((k : Int) + 1 == 10) = decide (k = 9) := by rw [Bool.eq_iff_iff]; simp; omega
      by_cases h128 : byteN s (p + k) < 128
      · have HE : Hid (readOf s at_ = (if byteN s (p + k) = 0 ∧ 0 < k then (0, 0, 3) else (unfoldN (acc s p (k + 1)), ((p + k + 1 : Nat) : Int), 0))) := Lib.hid (by
          rw [HGO.out, show 10 - k = (9 - k) + 1 by omega]
          by_cases h4 : byteN s (p + k) = 0 ∧ 0 < k
          · rw [goN_zero hsz h9 h128 h4, if_pos h4]
          · rw [goN_last hsz h9 h128 h4, if_neg h4])
        have b1 : (s[p + k].toNat : Int) < 128 := by omega
        have HB := Lib.hid hbyte
        by_cases hk9 : k = 9
        · have d1 : ((k : Int) + 1 == 10) = true := by rw [hd, decide_eq_true hk9]
          have d2 : decide ((1 : Int) < (s[p + k].toNat : Int)) = false := decide_eq_false (by omega)
          have HK := Lib.hid hk9
          clear hbyte h9 hac hor hd hk9
          go_wp2
          rw [← HB.out, HOR.out]
          go_step3
          refine ⟨⟨k, hk, HE.out, HAL.out, by omega, HG.out, hbel, _, _, _, _, _, _, _, _, _, _, _, _, _, _, _, _, _, _, _, _, _, _, _, _, _, _, _, _, _, _, _, _, _, _, _, _, _, _, _, _, _, _, _, _, rfl⟩, ?_⟩
          simp [left, intOf]; omega
        · have d1 : ((k : Int) + 1 == 10) = false := by rw [hd, decide_eq_false hk9]
          clear hbyte h9 hac hor hd
          go_wp2
          rw [← HB.out, HOR.out]
          go_step3
          refine ⟨⟨k, hk, HE.out, HAL.out, by omega, HG.out, hbel, _, _, _, _, _, _, _, _, _, _, _, _, _, _, _, _, _, _, _, _, _, _, _, _, _, _, _, _, _, _, _, _, _, _, _, _, _, _, _, _, _, _, _, _, rfl⟩, ?_⟩
          simp [left, intOf]; omega
      · have HE : Hid (readOf s at_ = goN s p (10 - (k + 1)) (k + 1)) := Lib.hid (by rw [HGO.out, show 10 - k = (9 - k) + 1 by omega, goN_more hsz h9 h128, show 9 - k = 10 - (k + 1) by omega])
        have hk9 : k < 9 := by omega
        have d1 : ((k : Int) + 1 == 10) = false := by rw [hd, decide_eq_false (by omega)]
        have b1 : (128 : Int) ≤ (s[p + k].toNat : Int) := by omega
        have b2 : (s[p + k].toNat : Int) ≤ 255 := by omega
        have HB := Lib.hid hbyte
        clear hbyte h9 hac hor hd
        go_wp2
        rw [← HB.out, HOR.out]
        go_step3
        refine ⟨⟨k + 1, by omega, by omega, HE.out, HG.out, hbel, _, _, _, _, _, _, _, _, _, _, _, _, _, _, _, _, _, _, _, _, _, _, _, _, _, _, _, _, _, _, _, _, _, _, _, _, _, _, _, _, _, _, _, _, _, rfl⟩, ?_⟩
        simp [left, intOf]; omega
    | 2, hJ =>
      obtain ⟨k, hk, hgo, hal, hpk, hg, hbel, u11, u12, u13, u14, u15, u16, u17, u18, u19, u20, u21, u22, u23, u24, u25, u26, u27, u28, u29, u30, u31, u32, u33, u34, u35, u36, u37, u38, u39, u40, u41, u42, u43, u44, u45, u46, u47, u48, u49, u50, u51, u52, u53, u54, rfl⟩ := hJ
      refine ⟨_, rfl, ?_⟩
      have HG := Lib.hid hg
      have HGO := Lib.hid hgo
      have hbl := byteN_lt s (p + k)
      clear hg hgo
      by_cases h4 : byteN s (p + k) = 0 ∧ 0 < k
      · have HE : Hid (readOf s at_ = (0, 0, 3)) := Lib.hid (by rw [HGO.out, if_pos h4])
        have d1 : (((byteN s (p + k) : Nat) : Int) == 0) = true := by rw [h4.1]; rfl
        have hk0 := h4.2
        clear h4
        go_wp2
        go_step3
        refine ⟨⟨3, by omega, HE.out, HG.out, hbel, _, _, _, _, _, _, _, _, _, _, _, _, _, _, _, _, _, _, _, _, _, _, _, _, _, _, _, _, _, _, _, _, _, _, _, _, _, _, _, _, _, _, _, _, _, _, _, _, _, _, _, _, rfl⟩, ?_⟩
        simp [left]
      · have HE : Hid (readOf s at_ = (unfoldN (acc s p (k + 1)), ((p + k + 1 : Nat) : Int), 0)) := Lib.hid (by rw [HGO.out, if_neg h4])
        by_cases hz : byteN s (p + k) = 0
        · have d1 : (((byteN s (p + k) : Nat) : Int) == 0) = true := by rw [hz]; rfl
          have hk0 : k = 0 := by omega
          have d2 : decide ((1 : Int) < (k : Int) + 1) = false := decide_eq_false (by omega)
          have HK := Lib.hid hk0
          clear h4 hz hk0
          go_wp2_with (go_at_call 30; refine (unfoldSign_any _ _ hal).mono ?_; rintro e w2 ⟨rfl, rfl⟩)
          rw [jumpsTo_ret]
          go_ret3
          exact ⟨congrArg Ending.returned (rd_ok HE.out), hbel⟩
        · have d1 : (((byteN s (p + k) : Nat) : Int) == 0) = false := by simp; omega
          clear h4
          go_wp2_with (go_at_call 30; refine (unfoldSign_any _ _ hal).mono ?_; rintro e w2 ⟨rfl, rfl⟩)
          rw [jumpsTo_ret]
          go_ret3
          exact ⟨congrArg Ending.returned (rd_ok HE.out), hbel⟩
    | _ + 3, hJ => exact hJ.elim
  · intro hp
    by_cases hneg : at_ < 0
    · go_wp2
      go_step3
      exact ⟨1, by omega, rd_neg hneg, heap_alloc_new w _, (Below.refl _ _).alloc (Nat.le_refl _) _, _, _, _, _, _, _, _, _, _, _, _, _, _, _, _, _, _, _, _, _, _, _, _, _, _, _, _, _, _, _, _, _, _, _, _, _, _, _, _, _, _, _, _, _, _, _, _, _, _, _, _, _, rfl⟩
    · obtain rfl : at_ = (p : Int) := by have := HP.out; omega
      have hJ : AtLabel s (p : Int) p w.heap.size w 1 { tmps := #[.string s, .int .i64 (p : Int), undef, undef, .int .i64 0, .int .i64 0, .nilIface, .int .u64 0, .int .u8 0, .int .i64 0, .pointer (some ⟨w.heap.size, 0, none⟩), .agg #[.int .i64 3], .int .i64 (p : Int), .bool false, undef, undef, undef, undef, undef, undef, undef, undef, undef, undef, undef, undef, undef, undef, undef, undef, undef, undef, undef, undef, undef, undef, undef, undef, undef, undef, undef, undef, undef, undef, undef, undef, undef, undef, undef, undef, undef, undef, undef, undef, undef], defers := [] } (w.alloc (.cells #[.int .i64 3] 56)) :=
        ⟨0, by omega, by omega, if_neg (by omega), heap_alloc_new w _, (Below.refl _ _).alloc (Nat.le_refl _) _, _, _, _, _, _, _, _, _, _, _, _, _, _, _, _, _, _, _, _, _, _, _, _, _, _, _, _, _, _, _, _, _, _, _, _, _, _, _, _, _, _, _, _, _, _, rfl⟩
      obtain ⟨R, hf, hw⟩ := hp 1 _ _ hJ
      have e : some (Code.seq .skip R) = some (Code.seq .skip _) := hf.symm
      injection e with e
      injection e with _ e
      subst e
      clear hp hf
      have HW := Lib.hid hw
      clear hw hJ
      go_wp2
      go_step3
      exact (‹∀ a w, Code.wp _ _ (jumpsTo _ _) a w → _›) _ _ HW.out
end Go.Proofs.YtldencefagnhfaaDoor
