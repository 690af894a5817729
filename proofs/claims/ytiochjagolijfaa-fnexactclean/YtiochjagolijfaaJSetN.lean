import Derived.Test.YtiochjagolijfaaJSym
import Derived.Test.YtiochjagolijfaaJOwns
import Derived.Deep.OwnRows
import Derived.Laws.BitsAllLaws
/- The walks of GramRight: both programs say of a grammar whether it is right by one and the same function, gramB. -/
namespace Go.Proofs.Ytiochjagolijfaa
open Go.RowKit

def symOK (s : ByteArray) : Bool := headB s || tokB s
def ruleB (r : RuleD) : Bool := headB r.head && decide (r.body.length ≤ 5) && r.body.all symOK
def gramB (rs : List RuleD) : Bool := decide (1 ≤ rs.length) && decide (rs.length ≤ 20) && rs.all ruleB

theorem ruleB_iff (r : RuleD) : ruleB r = true ↔ headB r.head = true ∧ r.body.length ≤ 5 ∧ ∀ i (h : i < r.body.length), symOK r.body[i] = true := by
  simp only [ruleB, Bool.and_eq_true, decide_eq_true_eq, List.all_eq_true, and_assoc]
  refine ⟨fun ⟨a, b, c⟩ => ⟨a, b, fun i h => c _ (List.getElem_mem h)⟩, fun ⟨a, b, c⟩ => ⟨a, b, fun s hs => ?_⟩⟩
  obtain ⟨i, hi, rfl⟩ := List.getElem_of_mem hs
  exact c i hi
theorem gramB_iff (rs : List RuleD) : gramB rs = true ↔ 1 ≤ rs.length ∧ rs.length ≤ 20 ∧ ∀ i (h : i < rs.length), ruleB rs[i] = true := by
  simp only [gramB, Bool.and_eq_true, decide_eq_true_eq, List.all_eq_true, and_assoc]
  refine ⟨fun ⟨a, b, c⟩ => ⟨a, b, fun i h => c _ (List.getElem_mem h)⟩, fun ⟨a, b, c⟩ => ⟨a, b, fun s hs => ?_⟩⟩
  obtain ⟨i, hi, rfl⟩ := List.getElem_of_mem hs
  exact c i hi
theorem ruleB_f {r : RuleD} (h : ¬ (headB r.head = true ∧ r.body.length ≤ 5 ∧ ∀ i (h : i < r.body.length), symOK r.body[i] = true)) : ruleB r = false := by
  rw [Bool.eq_false_iff]; exact fun e => h ((ruleB_iff r).1 e)
theorem gramB_f {rs : List RuleD} (h : ¬ (1 ≤ rs.length ∧ rs.length ≤ 20 ∧ ∀ i (h : i < rs.length), ruleB rs[i] = true)) : gramB rs = false := by
  rw [Bool.eq_false_iff]; exact fun e => h ((gramB_iff rs).1 e)
theorem symOK_no {r : RuleD} {k : Nat} (h : k < r.body.length) (h1 : headB r.body[k] = false) (h2 : tokB r.body[k] = false) : ruleB r = false :=
  ruleB_f fun ⟨_, _, h3⟩ => by have := h3 k h; unfold symOK at this; rw [h1, h2] at this; cases this

end Go.Proofs.Ytiochjagolijfaa

/- The walks of the program's Heads and Tokens. -/
namespace Go.Proofs.Ytiochjagolijfaa
open Go.RowKit Go.Maps

/-- a list of texts that a call has made -/
def MadeS (w : World) (ss : List ByteArray) (e : Ending) (w' : World) : Prop := ∃ u g, e = .returned u ∧ OwnS w' g u ss ∧ (ss ≠ [] → w.heap.size ≤ g ∧ g < w'.heap.size) ∧ Below w.heap.size w w'
theorem OwnS.nil (w : World) (g : Nat) : OwnS w g (.slice none 0 0) [] := ⟨none, 0, rfl, Nat.le_refl _, by unfold maxLen; omega, by simp, fun h => by simp at h⟩

def headsTo (rs : List RuleD) (k : Nat) : List ByteArray := (rs.take k).foldl (fun acc r => addSym acc r.head) []
/-- the heads of a right grammar -/
def headsOf (rs : List RuleD) : List ByteArray := if gramB rs = true then headsTo rs rs.length else []
theorem headsTo_succ {rs : List RuleD} {k : Nat} (h : k < rs.length) : headsTo rs (k + 1) = addSym (headsTo rs k) rs[k].head := by
  unfold headsTo; rw [List.take_succ_eq_append_getElem h, List.foldl_append]; rfl
theorem headsTo_nodup (rs : List RuleD) (k : Nat) : (headsTo rs k).Nodup := by
  induction k with
  | zero => simp [headsTo]
  | succ k ih =>
    by_cases h : k < rs.length
    · rw [headsTo_succ h]; exact addSym_nodup ih
    · have : headsTo rs (k + 1) = headsTo rs k := by unfold headsTo; rw [List.take_of_length_le (by omega), List.take_of_length_le (by omega)]
      rw [this]; exact ih
theorem headsTo_len (rs : List RuleD) (k : Nat) : (headsTo rs k).length ≤ k := by
  induction k with
  | zero => simp [headsTo]
  | succ k ih =>
    by_cases h : k < rs.length
    · rw [headsTo_succ h]; have := addSym_len (headsTo rs k) rs[k].head; omega
    · have : headsTo rs (k + 1) = headsTo rs k := by unfold headsTo; rw [List.take_of_length_le (by omega), List.take_of_length_le (by omega)]
      rw [this]; omega
theorem mem_addSym {acc : List ByteArray} {s t : ByteArray} (h : t ∈ addSym acc s) : t ∈ acc ∨ t = s := by
  unfold addSym at h
  split at h
  · exact .inl h
  · rw [List.mem_append, List.mem_singleton] at h; exact h
theorem headsTo_mem {rs : List RuleD} {k : Nat} {s : ByteArray} (h : s ∈ headsTo rs k) : ∃ i, ∃ h : i < rs.length, s = rs[i].head := by
  induction k with
  | zero => simp [headsTo] at h
  | succ k ih =>
    by_cases hk : k < rs.length
    · rw [headsTo_succ hk] at h
      rcases mem_addSym h with h | h
      · exact ih h
      · exact ⟨k, hk, h⟩
    · have : headsTo rs (k + 1) = headsTo rs k := by unfold headsTo; rw [List.take_of_length_le (by omega), List.take_of_length_le (by omega)]
      rw [this] at h; exact ih h
theorem symB_size' {lo hi : Nat} {s : ByteArray} (h : symB lo hi s = true) : s.size ≤ 4 := ((symB_iff lo hi s).1 h).2.1
theorem headB_size {s : ByteArray} (h : headB s = true) : s.size ≤ 4 := symB_size' h
theorem tokB_size {s : ByteArray} (h : tokB s = true) : s.size ≤ 4 := symB_size' h
theorem headsOf_len (rs : List RuleD) : (headsOf rs).length ≤ 1000 := by
  unfold headsOf
  split
  · rename_i h
    have := headsTo_len rs rs.length
    have := ((gramB_iff rs).1 h).2.1
    omega
  · simp
theorem headsOf_t {rs : List RuleD} (h : gramB rs = true) : headsOf rs = headsTo rs rs.length := if_pos h
theorem headsOf_f {rs : List RuleD} (h : gramB rs = false) : headsOf rs = [] := if_neg (by rw [h]; decide)

end Go.Proofs.Ytiochjagolijfaa

/- Sets as numbers, a bit a symbol; what a slice of such sets reads as; what a fixed point is. -/
namespace Go.Proofs.Ytiochjagolijfaa
open Go.RowKit

def joinAll (l : List Nat) : Nat := l.foldl (· ||| ·) 0
theorem joinAll_nil : joinAll [] = 0 := rfl
theorem joinAll_snoc (l : List Nat) (x : Nat) : joinAll (l ++ [x]) = joinAll l ||| x := by unfold joinAll; rw [List.foldl_append]; rfl
theorem joinAll_take {l : List Nat} {k : Nat} (h : k < l.length) : joinAll (l.take (k + 1)) = joinAll (l.take k) ||| l[k] := by
  rw [List.take_succ_eq_append_getElem h, joinAll_snoc]
theorem joinAll_two (a b : Nat) : joinAll [a, b] = a ||| b := by simp [joinAll]
theorem foldl_bit (l : List Nat) (a i : Nat) : (l.foldl (· ||| ·) a).testBit i = true ↔ a.testBit i = true ∨ ∃ x ∈ l, x.testBit i = true := by
  induction l generalizing a with
  | nil => simp
  | cons x l ih =>
    rw [List.foldl_cons, ih, Nat.testBit_or]
    simp [or_assoc]
theorem joinAll_bit (l : List Nat) (i : Nat) : (joinAll l).testBit i = true ↔ ∃ x ∈ l, x.testBit i = true := by
  unfold joinAll; rw [foldl_bit]; simp
theorem or_lt {a b : Nat} (ha : a < 4194304) (hb : b < 4194304) : a ||| b < 4194304 := Nat.or_lt_two_pow (n := 22) ha hb
theorem foldl_lt (l : List Nat) (a : Nat) (ha : a < 4194304) (h : ∀ x ∈ l, x < 4194304) : l.foldl (· ||| ·) a < 4194304 := by
  induction l generalizing a with
  | nil => exact ha
  | cons x l ih => exact ih _ (or_lt ha (h x (by simp))) fun y hy => h y (by simp [hy])
theorem joinAll_lt {l : List Nat} (h : ∀ x ∈ l, x < 4194304) : joinAll l < 4194304 := foldl_lt l 0 (by omega) h
theorem joinAll_take_lt {l : List Nat} (h : ∀ x ∈ l, x < 4194304) (k : Nat) : joinAll (l.take k) < 4194304 := joinAll_lt fun x hx => h x (List.mem_of_mem_take hx)
theorem or_eq (a b : Nat) (ha : a < 4194304) (hb : b < 4194304) : bits .or .u32 (a : Int) (b : Int) = ((a ||| b : Nat) : Int) := u32_or_nat a b (by omega) (by omega)

/-- is all of o in s? -/
def holdsB (s o : Nat) : Bool := decide (o ||| s = s)
theorem holdsB_iff (s o : Nat) : holdsB s o = true ↔ ∀ i, o.testBit i = true → s.testBit i = true := by
  unfold holdsB
  rw [decide_eq_true_eq]
  constructor
  · intro h i hi
    rw [← h, Nat.testBit_or, hi, Bool.true_or]
  · intro h
    apply Nat.eq_of_testBit_eq
    intro i
    rw [Nat.testBit_or]
    cases hi : o.testBit i
    · simp
    · rw [h i hi]; rfl
theorem holds_eq (s o : Nat) (hs : s < 4194304) (ho : o < 4194304) : (bits .andNot .u32 (o : Int) (s : Int) == 0) = holdsB s o := by
  rw [u32_andNot_nat o s (by omega) (by omega), Bool.eq_iff_iff, holdsB_iff]
  have e : 4294967295 - s = 2 ^ 32 - (s + 1) := by omega
  rw [e]
  constructor
  · intro h i hi
    have h0 : o &&& (2 ^ 32 - (s + 1)) = 0 := by simpa using h
    have h1 : (o &&& (2 ^ 32 - (s + 1))).testBit i = false := by rw [h0]; simp
    rw [Nat.testBit_and, hi, Nat.testBit_two_pow_sub_succ (by omega)] at h1
    have hi32 : i < 32 := by
      rcases Nat.lt_or_ge i 32 with h | h
      · exact h
      · have : o < 2 ^ i := Nat.lt_of_lt_of_le (show o < 2 ^ 32 by omega) (Nat.pow_le_pow_right (by omega) h)
        rw [Nat.testBit_lt_two_pow this] at hi
        cases hi
    simpa [hi32] using h1
  · intro h
    have h0 : o &&& (2 ^ 32 - (s + 1)) = 0 := by
      apply Nat.eq_of_testBit_eq
      intro i
      rw [Nat.testBit_and, Nat.testBit_two_pow_sub_succ (by omega)]
      cases hi : o.testBit i
      · simp
      · rw [h i hi]; simp
    rw [h0]; rfl

/-- a list of sets, in blocks ahead of hi -/
def BitsAt (w : World) (hi : Nat) (v : Value) (l : List Nat) : Prop :=
  ∃ A c, v = .slice A l.length c ∧ l.length ≤ c ∧ c ≤ maxLen ∧ (∀ x ∈ l, x < 4194304) ∧
    (0 < l.length → ∃ b off, A = some ⟨b, off, none⟩ ∧ b < hi ∧ ∀ i (h : i < l.length), w.cell? ⟨b, off + i, none⟩ = some (.int .u32 (l[i] : Nat)))
theorem BitsAt.below {w w' : World} {hi : Nat} {v : Value} {l : List Nat} (h : BitsAt w hi v l) {B : Nat} (b : Below B w w') (hB : hi ≤ B) : BitsAt w' hi v l := by
  obtain ⟨A, c, h1, h2, h3, h4, h5⟩ := h
  refine ⟨A, c, h1, h2, h3, h4, fun hp => ?_⟩
  obtain ⟨g, off, e, hg, hc⟩ := h5 hp
  exact ⟨g, off, e, hg, fun i hi => (b.cell (p := ⟨g, off + i, none⟩) (by show g < B; omega)).trans (hc i hi)⟩
theorem BitsAt.more {w : World} {hi hi' : Nat} {v : Value} {l : List Nat} (h : BitsAt w hi v l) (hh : hi ≤ hi') : BitsAt w hi' v l := by
  obtain ⟨A, c, h1, h2, h3, h4, h5⟩ := h
  refine ⟨A, c, h1, h2, h3, h4, fun hp => ?_⟩
  obtain ⟨g, off, e, hg, hc⟩ := h5 hp
  exact ⟨g, off, e, by omega, hc⟩
theorem BitsAt.two {w : World} {g : Nat} {t : TypeId} {a b : Nat} (h : Row w g t #[.int .u32 (a : Int), .int .u32 (b : Int)]) (ha : a < 4194304) (hb : b < 4194304) :
    BitsAt w w.heap.size (.slice (some ⟨g, 0, none⟩) 2 2) [a, b] := by
  refine ⟨_, 2, rfl, by simp, by unfold maxLen; omega, by simp [ha, hb], fun _ => ⟨g, 0, rfl, h.lt, fun i hi => ?_⟩⟩
  rw [Nat.zero_add, h.cell]
  match i, hi with
  | 0, _ => rfl
  | 1, _ => rfl

/-- what is come to of b, by F again and again, till nothing changes -/
def FixAt (F : Nat → Nat) (b n : Nat) : Prop :=
  n < 4194304 ∧ (∀ i, b.testBit i = true → n.testBit i = true) ∧ (∀ i, (F n).testBit i = true → n.testBit i = true) ∧
    ∀ P : Nat → Prop, P b → (∀ k, k < 4194304 → P k → P (k ||| F k)) → P n
end Go.Proofs.Ytiochjagolijfaa
