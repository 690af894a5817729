import Derived.Test.YtlgedjpolmlciaaJHeads
import Derived.Test.YtlgedjpolmlciaaJRightb
import Derived.Test.YtlgedjpolmlciaaJTxt
import Derived.Test.YtlgedjpolmlciaaJCom
import Derived.Shelf.Abstract
/- The walks of the model's l02In, l02Heads and Heads. -/
namespace Go.Proofs.Ytlgedjpolmlciaa
open Go.RowKit

theorem list_eqH (a b : ByteArray) : (a.toList == b.toList) = decide (a = b) := by
  rw [Bool.eq_iff_iff]; simp only [beq_iff_eq, decide_eq_true_eq]
  constructor
  · intro h
    apply ByteArray.ext
    apply Array.ext'
    simpa [ByteArray.toList_eq] using h
  · rintro rfl; rfl
/-- texts in a row of the call's own -/
def Sts (w : World) (base : Nat) (v : Value) (ss : List ByteArray) : Prop := w.ownsRow base 9 1 v ss.length (ss.map Value.string)
theorem Sts.nil (w : World) {base : Nat} (hb : base ≤ w.heap.size) : Sts (w.alloc (.cells #[] 9)) base (.slice (some ⟨w.heap.size, 0, none⟩) 0 0) [] := World.ownsRow_lit w #[] 0 hb (by unfold maxLen; omega) rfl
theorem Sts.one {w : World} {base : Nat} {v : Value} {ss : List ByteArray} (s : ByteArray) (h : w.ownsRow base 9 1 v (ss.length + 1) (ss.map Value.string ++ [.string s])) : Sts w base v (ss ++ [s]) := by
  unfold Sts
  rw [List.length_append, List.map_append]
  exact h
theorem Sts.own {w : World} {base : Nat} {v : Value} {ss : List ByteArray} (h : Sts w base v ss) (hz : ∀ s ∈ ss, s.size ≤ maxLen) : ∃ g, OwnS w g v ss ∧ (ss ≠ [] → base ≤ g ∧ g < w.heap.size) := by
  rcases h.2 with ⟨rfl, h0⟩ | ⟨g, cap, cur, rfl, hb, hh, hc, hm, hs, ht⟩
  · obtain rfl : ss = [] := List.eq_nil_of_length_eq_zero h0
    exact ⟨0, OwnS.nil w 0, fun hn => absurd rfl hn⟩
  · have hr : Row w g 9 cur := hh
    refine ⟨g, ⟨_, cap, rfl, hc, hm, hz, fun _ => ⟨0, cur, rfl, hr, fun i hi => ?_⟩⟩, fun _ => ⟨hb, hr.lt⟩⟩
    have h1 : (cur.toList.take (ss.length * 1))[i]? = some (.string ss[i]) := by rw [ht, List.getElem?_map, List.getElem?_eq_getElem hi]; rfl
    rw [List.getElem?_take_of_lt (by omega)] at h1
    rw [Nat.zero_add, ← Array.getElem?_toList]
    exact h1
theorem Sts.strs {w : World} {base : Nat} {v : Value} {ss : List ByteArray} (h : Sts w base v ss) (hz : ∀ s ∈ ss, s.size ≤ maxLen) : Strs w base w.heap.size v ss := by
  obtain ⟨g, ho, hg⟩ := h.own hz
  exact ho.strs hg
theorem one_str (s : ByteArray) : ∀ u ∈ [Value.string s], u.oneCell' = true := by
  intro u hu
  rw [List.mem_singleton] at hu; subst hu; rfl
theorem inB_t {ss : List ByteArray} {s : ByteArray} {k : Nat} (h : k < ss.length) (e : ss[k] = s) : inB ss s = true := (inB_iff _ _).2 (e ▸ List.getElem_mem h)
theorem inB_f {ss : List ByteArray} {s : ByteArray} (h : ∀ i (h : i < ss.length), ss[i] ≠ s) : inB ss s = false := by
  rw [Bool.eq_false_iff]
  intro e
  obtain ⟨i, hi, e2⟩ := List.getElem_of_mem ((inB_iff _ _).1 e)
  exact h i hi e2

end Go.Proofs.Ytlgedjpolmlciaa

/- The walks of joinSets, holds, wholeBody and fixedPoint. -/
namespace Go.Proofs.Ytlgedjpolmlciaa
open Go.RowKit

/-- a function value that makes a set of a set -/
def MakesSet (g : Nat) (lb : Array Value) (F : Nat → Nat) (w : World) : Prop :=
  ∀ (W : World) (k : Nat), k < 4194304 → Below w.heap.size w W → Calls Try.prog g (#[.int .u32 (k : Int)] ++ lb) W fun e w' => e = .returned (.int .u32 ((F k : Nat) : Int)) ∧ Below W.heap.size W w'

end Go.Proofs.Ytlgedjpolmlciaa

/- The walk of setOf. -/
namespace Go.Proofs.Ytlgedjpolmlciaa
open Go.RowKit

theorem symIdx_hit {hs : List ByteArray} {s : ByteArray} {k : Nat} (ht : tokB s = false) (hk : k < hs.length) (he : hs[k] = s) (hall : ∀ j (h : j < hs.length), j < k → hs[j] ≠ s) : symIdx hs s = k := by
  have hf : hs.findIdx (fun t => decide (t = s)) = k := by
    rw [List.findIdx_eq hk]
    exact ⟨by simpa using he, fun j hj => by simpa using hall j (by omega) hj⟩
  unfold symIdx
  rw [ht, if_neg (by decide), hf, if_pos hk]
theorem symIdx_miss {hs : List ByteArray} {s : ByteArray} (ht : tokB s = false) (hall : ∀ j (h : j < hs.length), hs[j] ≠ s) : symIdx hs s = 21 := by
  have hf : ¬ hs.findIdx (fun t => decide (t = s)) < hs.length := by
    intro h
    have := List.findIdx_getElem (w := h)
    exact hall _ h (by simpa using this)
  unfold symIdx
  rw [ht, if_neg (by decide), if_neg hf]
theorem ret_u32 {a b : Int} (h : a = b) : Ending.returned (.int .u32 a) = .returned (.int .u32 b) := by rw [h]
theorem shl_eq (k : Nat) (h : k < 22) : ((2 : Int) ^ k % 4294967296) = ((2 ^ k : Nat) : Int) := by
  have h1 : 2 ^ k < 2 ^ 22 := Nat.pow_lt_pow_right (a := 2) (by omega) h
  have h2 : ((2 : Int) ^ k) = ((2 ^ k : Nat) : Int) := by simp
  rw [h2]
  generalize 2 ^ k = m at h1 ⊢
  omega
theorem symIdx_tok {hs : List ByteArray} {s : ByteArray} (ht : tokB s = true) : symIdx hs s = 20 := if_pos ht

end Go.Proofs.Ytlgedjpolmlciaa
