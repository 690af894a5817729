/- The walk of the sets' told: the heads of a set, in order. -/
import Derived.Test.YtmhdbjoljonhdaaSetOf
namespace Go.Proofs.Ytmhdbjoljonhdaa
open Go.RowKit

/-- the heads of a list whose bit is in a set, counted from i on -/
def pickB (n : Nat) (hs : List ByteArray) (k : Nat) : List ByteArray := ((hs.take k).zipIdx.filter fun x => n.testBit x.2).map (·.1)
theorem pickB_zero (n : Nat) (hs : List ByteArray) : pickB n hs 0 = [] := rfl
theorem pickB_t {n : Nat} {hs : List ByteArray} {k : Nat} (h : k < hs.length) (hb : n.testBit k = true) : pickB n hs (k + 1) = pickB n hs k ++ [hs[k]] := by
  unfold pickB
  rw [List.take_succ_eq_append_getElem h, List.zipIdx_append, List.filter_append, List.map_append]
  simp [Nat.min_eq_left (Nat.le_of_lt h), hb]
theorem pickB_f {n : Nat} {hs : List ByteArray} {k : Nat} (h : k < hs.length) (hb : n.testBit k = false) : pickB n hs (k + 1) = pickB n hs k := by
  unfold pickB
  rw [List.take_succ_eq_append_getElem h, List.zipIdx_append, List.filter_append, List.map_append]
  simp [Nat.min_eq_left (Nat.le_of_lt h), hb]
theorem pickB_mem {n : Nat} {hs : List ByteArray} {k : Nat} {s : ByteArray} (h : s ∈ pickB n hs k) : s ∈ hs := by
  unfold pickB at h
  obtain ⟨⟨a, i⟩, h1, rfl⟩ := List.mem_map.1 h
  obtain ⟨h2, _⟩ := List.mem_filter.1 h1
  exact List.mem_of_mem_take (List.fst_mem_of_mem_zipIdx h2)
theorem pickB_len (n : Nat) (hs : List ByteArray) (k : Nat) : (pickB n hs k).length ≤ k := by
  unfold pickB
  rw [List.length_map]
  refine Nat.le_trans (List.length_filter_le _ _) ?_
  rw [List.length_zipIdx, List.length_take]
  omega
theorem hold_bit (n k : Nat) : holdsB n (2 ^ k) = n.testBit k := by
  rw [Bool.eq_iff_iff, holdsB_iff]
  constructor
  · intro hh; exact hh k Nat.testBit_two_pow_self
  · intro hh i hi
    rw [Nat.testBit_two_pow, decide_eq_true_eq] at hi
    rw [← hi]; exact hh
theorem pow_lt22 {k : Nat} (h : k < 22) : 2 ^ k < 4194304 := Nat.pow_lt_pow_right (a := 2) (by omega) h

theorem holdsBit_any (n k : Nat) (w : World) (hn : n < 4194304) (hk : k < 22) :
    Calls Try.prog 69 #[.int .u32 (n : Int), .int .u32 ((2 : Int) ^ k % 4294967296)] w fun e w' => e = .returned (.bool (n.testBit k)) ∧ w = w' := by
  rw [shl_eq k hk, ← hold_bit]
  exact holds_any n (2 ^ k) w hn (pow_lt22 hk)

set_option maxRecDepth 100000 in
set_option maxHeartbeats 1000000 in
theorem toldSet_any (hs : List ByteArray) (rl : List RuleN) (v : Value) (n hi : Nat) (w : World) (h : SetsG w hi v hs rl) (hh : hi ≤ w.heap.size) (hl : hs.length ≤ 20) (hn : n < 4194304) :
    Calls Try.prog 53 #[v, .int .u32 (n : Int)] w (MadeS w (pickB n hs hs.length)) := by
  obtain ⟨i0, hi0, hz0, hz1, hz2⟩ := info_parts Try.infoStr
  obtain ⟨A, c, B, d, rfl, hS, -⟩ := h.form
  obtain ⟨A', c', e', hlc, hc, hsz, hcell⟩ := hS
  injection e' with e1 _ e2
  subst e1 e2
  unfold maxLen at hc
  have HC := Lib.hid hcell
  have HZ : Hid (∀ k, ∀ s ∈ pickB n hs k, s.size ≤ maxLen) := Lib.hid fun k s hs => hsz s (pickB_mem hs)
  clear hcell hsz h
  go_enter Try.func53, Try.ntmps53
  go_wp2
  go_loopw [5, 6, 7, 11] (fun x _ _ i wr => ∃ k : Nat, k ≤ hs.length ∧ i = .int .i64 k ∧ Sts wr (w.heap.size + 1) x (pickB n hs k) ∧ Below w.heap.size w wr ∧ w.heap.size + 1 ≤ wr.heap.size) (fun _ _ _ i _ => hs.length - (intOf i).toNat)
  case atStart => exact ⟨0, by omega, rfl, World.ownsRow_nil _ _ _ _, al1 _ _, by simp⟩
  case round =>
    obtain ⟨k, hk, rfl, hsts, hbw, hsw⟩ := hrel
    have hln := pickB_len n hs k
    by_cases hlt : k < hs.length
    · obtain ⟨b, off, rfl, _, hbh, hcc⟩ := HC.out (by omega)
      have hck := (hbw.cell (p := ⟨b, off + k, none⟩) (by show b < _; omega)).trans (hcc k hlt)
      clear hcc
      cases hb : n.testBit k
      · have HB := Lib.hid hb
        have HP := Lib.hid (pickB_f hlt hb)
        clear hb
        go_wp2_with fail
        refine (holdsBit_any n k _ hn (by omega)).mono ?_
        rintro e w1 ⟨rfl, rfl⟩
        rw [HB.out]
        go_wp2
        go_roundw
        case rel => exact ⟨k + 1, by omega, by go_num, by rw [HP.out]; exact hsts, hbw, hsw⟩
        case measure => simp [intOf]; omega
      · have HB := Lib.hid hb
        have HP := Lib.hid (pickB_t hlt hb)
        clear hb
        go_wp2_with fail
        refine (holdsBit_any n k _ hn (by omega)).mono ?_
        rintro e w1 ⟨rfl, rfl⟩
        rw [HB.out]
        go_wp2_with (at_builtin; refine wpList_append_own _ rfl _ _ 27 rfl (w.heap.size + 1) 9 i0 (.string ByteArray.empty) 1 16 Try.underlying27 hi0 hz0 hz1 hz2 rfl (by decide) _ _ _ rfl (World.ownsRow.alloc hsts _) ⟨wr.heap.size, 0, none⟩ 1 1 [.string hs[k]] rfl rfl (cell_one_new _ _ _) (one_str _) (by unfold maxLen; omega) (by omega) (by simp; omega) ?_)
        intro v1 w1 hown1 hg1 _
        have s1 : Sts w1 (w.heap.size + 1) v1 (pickB n hs (k + 1)) := by
          rw [HP.out]
          exact Sts.one _ hown1
        have B1 : Below w.heap.size w w1 := Tx.below_grown (hbw.trans ((al1 wr _).mono hbw.size)) (World.ownsRow.alloc hsts _) hg1 (by simp; omega) (by omega)
        have z1 : w.heap.size + 1 ≤ w1.heap.size := by have := hg1.size; simp at this; omega
        clear hown1 hg1 hsts hbw
        go_wp2
        go_roundw
        case rel => exact ⟨k + 1, by omega, by go_num, s1, B1, z1⟩
        case measure => simp [intOf]; omega
    · have hks : k = hs.length := by omega
      subst hks
      obtain ⟨g, ho, hg⟩ := hsts.own (HZ.out _)
      clear hsts
      go_wp2
      go_ret
      exact ⟨_, g, rfl, ho, fun hn => by have := hg hn; omega, hbw⟩
end Go.Proofs.Ytmhdbjoljonhdaa
