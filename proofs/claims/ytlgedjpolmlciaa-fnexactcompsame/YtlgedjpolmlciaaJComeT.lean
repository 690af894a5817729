import Derived.Test.YtlgedjpolmlciaaJSetOf
/- The walk of the sets' told: the heads of a set, in order. -/
namespace Go.Proofs.Ytlgedjpolmlciaa
open Go.RowKit

/-- the heads of a list whose bit is in a set, counted from i on -/
def pickB (n : Nat) (hs : List ByteArray) (k : Nat) : List ByteArray := ((hs.take k).zipIdx.filter fun x => n.testBit x.2).map (·.1)
theorem pickB_zero (n : Nat) (hs : List ByteArray) : pickB n hs 0 = [] := rfl
theorem pickB_t {n : Nat} {hs : List ByteArray} {k : Nat} (h : k < hs.length) (hb : n.testBit k = true) : pickB n hs (k + 1) = pickB n hs k ++ [hs[k]] := by
  unfold pickB
  rw [List.take_succ_eq_append_getElem h, List.zipIdx_append, List.filter_append, List.map_append]
  simp [Nat.min_eq_left (Nat.le_of_lt h), hb]
theorem pickB_f {n : Nat} {hs : List ByteArray} {k : Nat} (h : k < hs.length) (hb : n.testBit k = false) : pickB n hs (k + 1) = pickB n hs k := by
  unfold pickB
  rw [List.take_succ_eq_append_getElem h, List.zipIdx_append, List.filter_append, List.map_append]
  simp [Nat.min_eq_left (Nat.le_of_lt h), hb]
theorem pickB_mem {n : Nat} {hs : List ByteArray} {k : Nat} {s : ByteArray} (h : s ∈ pickB n hs k) : s ∈ hs := by
  unfold pickB at h
  obtain ⟨⟨a, i⟩, h1, rfl⟩ := List.mem_map.1 h
  obtain ⟨h2, _⟩ := List.mem_filter.1 h1
  exact List.mem_of_mem_take (List.fst_mem_of_mem_zipIdx h2)
theorem pickB_len (n : Nat) (hs : List ByteArray) (k : Nat) : (pickB n hs k).length ≤ k := by
  unfold pickB
  rw [List.length_map]
  refine Nat.le_trans (List.length_filter_le _ _) ?_
  rw [List.length_zipIdx, List.length_take]
  omega
theorem hold_bit (n k : Nat) : holdsB n (2 ^ k) = n.testBit k := by
  rw [Bool.eq_iff_iff, holdsB_iff]
  constructor
  · intro hh; exact hh k Nat.testBit_two_pow_self
  · intro hh i hi
    rw [Nat.testBit_two_pow, decide_eq_true_eq] at hi
    rw [← hi]; exact hh
theorem pow_lt22 {k : Nat} (h : k < 22) : 2 ^ k < 4194304 := Nat.pow_lt_pow_right (a := 2) (by omega) h

end Go.Proofs.Ytlgedjpolmlciaa

/- The walks of comeTo, nullable and productive. -/
namespace Go.Proofs.Ytlgedjpolmlciaa
open Go.RowKit

theorem Row.made1 (w : World) (o : Obj) (t : TypeId) (cur : Array Value) : Row ((w.alloc o).alloc (.cells cur t)) (w.heap.size + 1) t cur := by simpa using Row.made (w.alloc o) t cur

end Go.Proofs.Ytlgedjpolmlciaa
