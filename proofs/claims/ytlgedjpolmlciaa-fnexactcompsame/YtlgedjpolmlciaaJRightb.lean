import Derived.Test.YtlgedjpolmlciaaJCom
import Derived.Test.YtlgedjpolmlciaaJTxt
import Derived.Deep.AppendLies
/- What a grammar of sets reads as in memory, and how its list of rules grows. -/
namespace Go.Proofs.Ytlgedjpolmlciaa
open Go.RowKit

/-- rules of sets: three cells each -/
def RulesN (w : World) (hi : Nat) (v : Value) (rl : List RuleN) : Prop :=
  ∃ A c, v = .slice A rl.length c ∧ rl.length ≤ c ∧ c ≤ maxLen ∧
    (0 < rl.length → ∃ b off, A = some ⟨b, off, none⟩ ∧ b < hi ∧ ∀ i (h : i < rl.length), rl[i].num ≤ 1000 ∧ rl[i].head < 4194304 ∧
      w.cell? ⟨b, off + i * 3, none⟩ = some (.int .i64 (rl[i].num : Nat)) ∧ w.cell? ⟨b, off + i * 3 + 1, none⟩ = some (.int .u32 (rl[i].head : Nat)) ∧
      ∃ u, w.cell? ⟨b, off + i * 3 + 2, none⟩ = some u ∧ BitsAt w hi u rl[i].body)
theorem RulesN.below {w w' : World} {hi : Nat} {v : Value} {rl : List RuleN} (h : RulesN w hi v rl) {B : Nat} (k : Below B w w') (hB : hi ≤ B) : RulesN w' hi v rl := by
  obtain ⟨A, c, h1, h2, h3, h5⟩ := h
  refine ⟨A, c, h1, h2, h3, fun hp => ?_⟩
  obtain ⟨b, off, e, hl, hc⟩ := h5 hp
  refine ⟨b, off, e, hl, fun i hi => ?_⟩
  obtain ⟨a1, a2, a3, a4, u, a5, a6⟩ := hc i hi
  exact ⟨a1, a2, (k.cell (p := ⟨b, off + i * 3, none⟩) (by show b < B; omega)).trans a3, (k.cell (p := ⟨b, off + i * 3 + 1, none⟩) (by show b < B; omega)).trans a4, u,
    (k.cell (p := ⟨b, off + i * 3 + 2, none⟩) (by show b < B; omega)).trans a5, a6.below k hB⟩
theorem RulesN.more {w : World} {hi hi' : Nat} {v : Value} {rl : List RuleN} (h : RulesN w hi v rl) (hh : hi ≤ hi') : RulesN w hi' v rl := by
  obtain ⟨A, c, h1, h2, h3, h5⟩ := h
  refine ⟨A, c, h1, h2, h3, fun hp => ?_⟩
  obtain ⟨b, off, e, hl, hc⟩ := h5 hp
  refine ⟨b, off, e, by omega, fun i hi => ?_⟩
  obtain ⟨a1, a2, a3, a4, u, a5, a6⟩ := hc i hi
  exact ⟨a1, a2, a3, a4, u, a5, a6.more hh⟩
theorem RulesN.nil (w : World) (hi : Nat) : RulesN w hi (.slice none 0 0) [] := ⟨none, 0, rfl, Nat.le_refl _, by unfold maxLen; omega, fun h => by simp at h⟩
theorem Strs.nil (w : World) (lo hi : Nat) : Strs w lo hi (.slice none 0 0) [] := ⟨none, 0, rfl, Nat.le_refl _, by unfold maxLen; omega, by simp, fun h => by simp at h⟩
/-- a grammar of sets -/
def SetsG (w : World) (hi : Nat) (v : Value) (hs : List ByteArray) (rl : List RuleN) : Prop := ∃ hv rv, v = .agg #[hv, rv] ∧ Strs w 0 hi hv hs ∧ RulesN w hi rv rl
theorem SetsG.below {w w' : World} {hi : Nat} {v : Value} {hs : List ByteArray} {rl : List RuleN} (h : SetsG w hi v hs rl) {B : Nat} (k : Below B w w') (hB : hi ≤ B) : SetsG w' hi v hs rl := by
  obtain ⟨hv, rv, e, h1, h2⟩ := h
  exact ⟨hv, rv, e, h1.below k hB, h2.below k hB⟩
theorem SetsG.more {w : World} {hi hi' : Nat} {v : Value} {hs : List ByteArray} {rl : List RuleN} (h : SetsG w hi v hs rl) (hh : hi ≤ hi') : SetsG w hi' v hs rl := by
  obtain ⟨hv, rv, e, h1, h2⟩ := h
  exact ⟨hv, rv, e, h1.more (Nat.le_refl _) hh, h2.more hh⟩
theorem SetsG.form {w : World} {hi : Nat} {v : Value} {hs : List ByteArray} {rl : List RuleN} (h : SetsG w hi v hs rl) :
    ∃ A c B d, v = .agg #[.slice A hs.length c, .slice B rl.length d] ∧ Strs w 0 hi (.slice A hs.length c) hs ∧ RulesN w hi (.slice B rl.length d) rl := by
  obtain ⟨hv, rv, rfl, h1, h2⟩ := h
  have h1' := h1
  have h2' := h2
  obtain ⟨A, c, rfl, -⟩ := h1'
  obtain ⟨B, d, rfl, -⟩ := h2'
  exact ⟨A, c, B, d, rfl, h1, h2⟩

def flatN (xs : List (RuleN × Value)) : List Value := xs.flatMap fun x => [.int .i64 (x.1.num : Int), .int .u32 (x.1.head : Int), x.2]
theorem flatN_snoc (xs : List (RuleN × Value)) (x : RuleN × Value) : flatN (xs ++ [x]) = flatN xs ++ [.int .i64 (x.1.num : Int), .int .u32 (x.1.head : Int), x.2] := by simp [flatN]
theorem flatN_at (xs : List (RuleN × Value)) (i : Nat) (h : i < xs.length) : (flatN xs)[i * 3]? = some (.int .i64 (xs[i].1.num : Int)) ∧ (flatN xs)[i * 3 + 1]? = some (.int .u32 (xs[i].1.head : Int)) ∧ (flatN xs)[i * 3 + 2]? = some xs[i].2 := by
  induction xs generalizing i with
  | nil => simp at h
  | cons x l ih =>
    cases i with
    | zero => exact ⟨rfl, rfl, rfl⟩
    | succ i =>
      have := ih i (by simpa using h)
      have e : flatN (x :: l) = .int .i64 (x.1.num : Int) :: .int .u32 (x.1.head : Int) :: x.2 :: flatN l := rfl
      rw [e, show (i + 1) * 3 = i * 3 + 1 + 1 + 1 by omega]
      simpa using this
end Go.Proofs.Ytlgedjpolmlciaa

/- The model's GramRight. -/
namespace Go.Proofs.Ytlgedjpolmlciaa
open Go.RowKit

end Go.Proofs.Ytlgedjpolmlciaa
