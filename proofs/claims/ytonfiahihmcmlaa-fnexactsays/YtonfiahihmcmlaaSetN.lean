/- Sets as numbers, a bit a symbol; what a slice of such sets reads as; what a fixed point is. -/
import Derived.Test.YtonfiahihmcmlaaHeads
import Derived.Laws.BitsAllLaws
namespace Go.Proofs.Ytonfiahihmcmlaa
open Go.RowKit

def joinAll (l : List Nat) : Nat := l.foldl (· ||| ·) 0
theorem joinAll_nil : joinAll [] = 0 := rfl
theorem joinAll_snoc (l : List Nat) (x : Nat) : joinAll (l ++ [x]) = joinAll l ||| x := by unfold joinAll; rw [List.foldl_append]; rfl
theorem joinAll_take {l : List Nat} {k : Nat} (h : k < l.length) : joinAll (l.take (k + 1)) = joinAll (l.take k) ||| l[k] := by
  rw [List.take_succ_eq_append_getElem h, joinAll_snoc]
theorem joinAll_two (a b : Nat) : joinAll [a, b] = a ||| b := by simp [joinAll]
theorem foldl_bit (l : List Nat) (a i : Nat) : (l.foldl (· ||| ·) a).testBit i = true ↔ a.testBit i = true ∨ ∃ x ∈ l, x.testBit i = true := by
  induction l generalizing a with
  | nil => simp
  | cons x l ih =>
    rw [List.foldl_cons, ih, Nat.testBit_or]
    simp [or_assoc]
theorem joinAll_bit (l : List Nat) (i : Nat) : (joinAll l).testBit i = true ↔ ∃ x ∈ l, x.testBit i = true := by
  unfold joinAll; rw [foldl_bit]; simp
theorem or_lt {a b : Nat} (ha : a < 4194304) (hb : b < 4194304) : a ||| b < 4194304 := Nat.or_lt_two_pow (n := 22) ha hb
theorem foldl_lt (l : List Nat) (a : Nat) (ha : a < 4194304) (h : ∀ x ∈ l, x < 4194304) : l.foldl (· ||| ·) a < 4194304 := by
  induction l generalizing a with
  | nil => exact ha
  | cons x l ih => exact ih _ (or_lt ha (h x (by simp))) fun y hy => h y (by simp [hy])
theorem joinAll_lt {l : List Nat} (h : ∀ x ∈ l, x < 4194304) : joinAll l < 4194304 := foldl_lt l 0 (by omega) h
theorem joinAll_take_lt {l : List Nat} (h : ∀ x ∈ l, x < 4194304) (k : Nat) : joinAll (l.take k) < 4194304 := joinAll_lt fun x hx => h x (List.mem_of_mem_take hx)
theorem or_eq (a b : Nat) (ha : a < 4194304) (hb : b < 4194304) : bits .or .u32 (a : Int) (b : Int) = ((a ||| b : Nat) : Int) := u32_or_nat a b (by omega) (by omega)

/-- is all of o in s? -/
def holdsB (s o : Nat) : Bool := decide (o ||| s = s)
theorem holdsB_iff (s o : Nat) : holdsB s o = true ↔ ∀ i, o.testBit i = true → s.testBit i = true := by
  unfold holdsB
  rw [decide_eq_true_eq]
  constructor
  · intro h i hi
    rw [← h, Nat.testBit_or, hi, Bool.true_or]
  · intro h
    apply Nat.eq_of_testBit_eq
    intro i
    rw [Nat.testBit_or]
    cases hi : o.testBit i
    · simp
    · rw [h i hi]; rfl
theorem holds_eq (s o : Nat) (hs : s < 4194304) (ho : o < 4194304) : (bits .andNot .u32 (o : Int) (s : Int) == 0) = holdsB s o := by
  rw [u32_andNot_nat o s (by omega) (by omega), Bool.eq_iff_iff, holdsB_iff]
  have e : 4294967295 - s = 2 ^ 32 - (s + 1) := by omega
  rw [e]
  constructor
  · intro h i hi
    have h0 : o &&& (2 ^ 32 - (s + 1)) = 0 := by simpa using h
    have h1 : (o &&& (2 ^ 32 - (s + 1))).testBit i = false := by rw [h0]; simp
    rw [Nat.testBit_and, hi, Nat.testBit_two_pow_sub_succ (by omega)] at h1
    have hi32 : i < 32 := by
      rcases Nat.lt_or_ge i 32 with h | h
      · exact h
      · have : o < 2 ^ i := Nat.lt_of_lt_of_le (show o < 2 ^ 32 by omega) (Nat.pow_le_pow_right (by omega) h)
        rw [Nat.testBit_lt_two_pow this] at hi
        cases hi
    simpa [hi32] using h1
  · intro h
    have h0 : o &&& (2 ^ 32 - (s + 1)) = 0 := by
      apply Nat.eq_of_testBit_eq
      intro i
      rw [Nat.testBit_and, Nat.testBit_two_pow_sub_succ (by omega)]
      cases hi : o.testBit i
      · simp
      · rw [h i hi]; simp
    rw [h0]; rfl

/-- a list of sets, in blocks ahead of hi -/
def BitsAt (w : World) (hi : Nat) (v : Value) (l : List Nat) : Prop :=
  ∃ A c, v = .slice A l.length c ∧ l.length ≤ c ∧ c ≤ maxLen ∧ (∀ x ∈ l, x < 4194304) ∧
    (0 < l.length → ∃ b off, A = some ⟨b, off, none⟩ ∧ b < hi ∧ ∀ i (h : i < l.length), w.cell? ⟨b, off + i, none⟩ = some (.int .u32 (l[i] : Nat)))
theorem BitsAt.below {w w' : World} {hi : Nat} {v : Value} {l : List Nat} (h : BitsAt w hi v l) {B : Nat} (b : Below B w w') (hB : hi ≤ B) : BitsAt w' hi v l := by
  obtain ⟨A, c, h1, h2, h3, h4, h5⟩ := h
  refine ⟨A, c, h1, h2, h3, h4, fun hp => ?_⟩
  obtain ⟨g, off, e, hg, hc⟩ := h5 hp
  exact ⟨g, off, e, hg, fun i hi => (b.cell (p := ⟨g, off + i, none⟩) (by show g < B; omega)).trans (hc i hi)⟩
theorem BitsAt.more {w : World} {hi hi' : Nat} {v : Value} {l : List Nat} (h : BitsAt w hi v l) (hh : hi ≤ hi') : BitsAt w hi' v l := by
  obtain ⟨A, c, h1, h2, h3, h4, h5⟩ := h
  refine ⟨A, c, h1, h2, h3, h4, fun hp => ?_⟩
  obtain ⟨g, off, e, hg, hc⟩ := h5 hp
  exact ⟨g, off, e, by omega, hc⟩
theorem BitsAt.two {w : World} {g : Nat} {t : TypeId} {a b : Nat} (h : Row w g t #[.int .u32 (a : Int), .int .u32 (b : Int)]) (ha : a < 4194304) (hb : b < 4194304) :
    BitsAt w w.heap.size (.slice (some ⟨g, 0, none⟩) 2 2) [a, b] := by
  refine ⟨_, 2, rfl, by simp, by unfold maxLen; omega, by simp [ha, hb], fun _ => ⟨g, 0, rfl, h.lt, fun i hi => ?_⟩⟩
  rw [Nat.zero_add, h.cell]
  match i, hi with
  | 0, _ => rfl
  | 1, _ => rfl

/-- what is come to of b, by F again and again, till nothing changes -/
def FixAt (F : Nat → Nat) (b n : Nat) : Prop :=
  n < 4194304 ∧ (∀ i, b.testBit i = true → n.testBit i = true) ∧ (∀ i, (F n).testBit i = true → n.testBit i = true) ∧
    ∀ P : Nat → Prop, P b → (∀ k, k < 4194304 → P k → P (k ||| F k)) → P n
end Go.Proofs.Ytonfiahihmcmlaa
