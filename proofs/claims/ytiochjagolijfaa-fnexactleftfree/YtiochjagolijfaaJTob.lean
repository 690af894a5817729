import Derived.Test.YtiochjagolijfaaJJoin
import Derived.Test.YtiochjagolijfaaJFixS
import Derived.Test.YtiochjagolijfaaJOi
/- The walk of setOf. -/
namespace Go.Proofs.Ytiochjagolijfaa
open Go.RowKit

theorem symIdx_hit {hs : List ByteArray} {s : ByteArray} {k : Nat} (ht : tokB s = false) (hk : k < hs.length) (he : hs[k] = s) (hall : ∀ j (h : j < hs.length), j < k → hs[j] ≠ s) : symIdx hs s = k := by
  have hf : hs.findIdx (fun t => decide (t = s)) = k := by
    rw [List.findIdx_eq hk]
    exact ⟨by simpa using he, fun j hj => by simpa using hall j (by omega) hj⟩
  unfold symIdx
  rw [ht, if_neg (by decide), hf, if_pos hk]
theorem symIdx_miss {hs : List ByteArray} {s : ByteArray} (ht : tokB s = false) (hall : ∀ j (h : j < hs.length), hs[j] ≠ s) : symIdx hs s = 21 := by
  have hf : ¬ hs.findIdx (fun t => decide (t = s)) < hs.length := by
    intro h
    have := List.findIdx_getElem (w := h)
    exact hall _ h (by simpa using this)
  unfold symIdx
  rw [ht, if_neg (by decide), if_neg hf]
theorem ret_u32 {a b : Int} (h : a = b) : Ending.returned (.int .u32 a) = .returned (.int .u32 b) := by rw [h]
theorem shl_eq (k : Nat) (h : k < 22) : ((2 : Int) ^ k % 4294967296) = ((2 ^ k : Nat) : Int) := by
  have h1 : 2 ^ k < 2 ^ 22 := Nat.pow_lt_pow_right (a := 2) (by omega) h
  have h2 : ((2 : Int) ^ k) = ((2 ^ k : Nat) : Int) := by simp
  rw [h2]
  generalize 2 ^ k = m at h1 ⊢
  omega
theorem symIdx_tok {hs : List ByteArray} {s : ByteArray} (ht : tokB s = true) : symIdx hs s = 20 := if_pos ht

end Go.Proofs.Ytiochjagolijfaa

/- The walk of the sets' told: the heads of a set, in order. -/
namespace Go.Proofs.Ytiochjagolijfaa
open Go.RowKit

/-- the heads of a list whose bit is in a set, counted from i on -/
def pickB (n : Nat) (hs : List ByteArray) (k : Nat) : List ByteArray := ((hs.take k).zipIdx.filter fun x => n.testBit x.2).map (·.1)
theorem pickB_zero (n : Nat) (hs : List ByteArray) : pickB n hs 0 = [] := rfl
theorem pickB_t {n : Nat} {hs : List ByteArray} {k : Nat} (h : k < hs.length) (hb : n.testBit k = true) : pickB n hs (k + 1) = pickB n hs k ++ [hs[k]] := by
  unfold pickB
  rw [List.take_succ_eq_append_getElem h, List.zipIdx_append, List.filter_append, List.map_append]
  simp [Nat.min_eq_left (Nat.le_of_lt h), hb]
theorem pickB_f {n : Nat} {hs : List ByteArray} {k : Nat} (h : k < hs.length) (hb : n.testBit k = false) : pickB n hs (k + 1) = pickB n hs k := by
  unfold pickB
  rw [List.take_succ_eq_append_getElem h, List.zipIdx_append, List.filter_append, List.map_append]
  simp [Nat.min_eq_left (Nat.le_of_lt h), hb]
theorem pickB_mem {n : Nat} {hs : List ByteArray} {k : Nat} {s : ByteArray} (h : s ∈ pickB n hs k) : s ∈ hs := by
  unfold pickB at h
  obtain ⟨⟨a, i⟩, h1, rfl⟩ := List.mem_map.1 h
  obtain ⟨h2, _⟩ := List.mem_filter.1 h1
  exact List.mem_of_mem_take (List.fst_mem_of_mem_zipIdx h2)
theorem pickB_len (n : Nat) (hs : List ByteArray) (k : Nat) : (pickB n hs k).length ≤ k := by
  unfold pickB
  rw [List.length_map]
  refine Nat.le_trans (List.length_filter_le _ _) ?_
  rw [List.length_zipIdx, List.length_take]
  omega
theorem hold_bit (n k : Nat) : holdsB n (2 ^ k) = n.testBit k := by
  rw [Bool.eq_iff_iff, holdsB_iff]
  constructor
  · intro hh; exact hh k Nat.testBit_two_pow_self
  · intro hh i hi
    rw [Nat.testBit_two_pow, decide_eq_true_eq] at hi
    rw [← hi]; exact hh
theorem pow_lt22 {k : Nat} (h : k < 22) : 2 ^ k < 4194304 := Nat.pow_lt_pow_right (a := 2) (by omega) h

end Go.Proofs.Ytiochjagolijfaa

/- The walks of comeTo, nullable and productive. -/
namespace Go.Proofs.Ytiochjagolijfaa
open Go.RowKit

theorem Row.made1 (w : World) (o : Obj) (t : TypeId) (cur : Array Value) : Row ((w.alloc o).alloc (.cells cur t)) (w.heap.size + 1) t cur := by simpa using Row.made (w.alloc o) t cur

end Go.Proofs.Ytiochjagolijfaa

/- What came in, laid anew, on: toRule, toRuleS, toGram. -/
namespace Go.Proofs.Ytiochjagolijfaa
open Go.RowKit

set_option maxHeartbeats 1000000 in
theorem toRule_any (r : RuleD) (u : Value) (lo hi : Nat) (w : World) (h : Strs w lo hi u r.body) (hhi : hi ≤ w.heap.size) (hn : r.body.length ≤ 1048576) :
    Calls Try.prog 97 #[.agg #[.string r.head, u]] w fun e w' => ∃ x g, e = .returned (.agg #[.string r.head, x]) ∧ OwnS w' g x r.body ∧ w.heap.size ≤ g ∧ g < w'.heap.size ∧ Below w.heap.size w w' := by
  go_enter Try.func97, Try.ntmps97
  go_wp2_with fail
  refine (toStringS_any u r.body lo hi _ (h.below (B := w.heap.size) (al3 _ _ _ _) hhi) (by simp; omega) hn).mono ?_
  rintro e w1 ⟨x, rfl, hown, hlt, hb⟩
  have hb0 : Below w.heap.size w w1 := (al3 _ _ _ _).trans (hb.mono (by simp; omega))
  have R1 : Row w1 (w.heap.size + 1) 86 #[.string ⟨#[]⟩, .slice none 0 0] := by
    refine Row.below (Row.alloc ?_ _) hb (by simp)
    simpa using Row.made (w.alloc (.cells #[Value.string r.head, u] 139)) 86 #[.string ⟨#[]⟩, .slice none 0 0]
  have R2 : Row w1 (w.heap.size + 1 + 1) 86 #[.string r.head, .slice none 0 0] := by
    refine Row.below ?_ hb (by simp)
    simpa using Row.made ((w.alloc (.cells #[Value.string r.head, u] 139)).alloc (.cells #[.string ⟨#[]⟩, .slice none 0 0] 86)) 86 #[.string r.head, .slice none 0 0]
  clear hb
  have hg : w.heap.size + 1 + 1 + 1 < w1.heap.size := by simpa using hlt
  have hown' : OwnS w1 (w.heap.size + 1 + 1 + 1) x r.body := by simpa using hown
  clear hown hlt
  have c10 := R1.cell 0
  have c11 := R1.cell 1
  have c20 := R2.cell 0
  have c21 := R2.cell 1
  simp at c10 c11 c20 c21
  have f10 := R1.free 0
  have f11 := R1.free 1
  have f20 := R2.free 0
  have f21 := R2.free 1
  clear R1 R2
  have HO := Lib.hid hown'
  obtain ⟨A, c, rfl, -⟩ := hown'
  go_wp2
  refine bodyPost_ret (v := .agg #[.string r.head, .slice A r.body.length c]) (by simp [results, Try.results97, go_sem, c10, c11]) rfl ⟨_, w.heap.size + 1 + 1 + 1, rfl, ?_, by omega, by simpa [World.setCell] using hg, ?_⟩
  · refine HO.out.keep fun _ => ?_
    rw [Below.heap_setCell _ _ _ _ (by simp; omega), Below.heap_setCell _ _ _ _ (by simp; omega), Below.heap_setCell _ _ _ _ (by simp)]
  · exact ((hb0.setCell (by simp; omega) _).setCell (by simp) _).setCell (by simp) _
end Go.Proofs.Ytiochjagolijfaa
