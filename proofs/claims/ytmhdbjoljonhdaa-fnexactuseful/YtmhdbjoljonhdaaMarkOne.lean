/- The marks from 1 on, their numbers behind a name. -/
import Derived.Test.YtmhdbjoljonhdaaMarkc
namespace Go.Proofs.Ytmhdbjoljonhdaa
open Go.RowKit

theorem cnt_bulk (rs : List RuleD) : cntTo rs rs.length ≤ bulkR rs := by
  unfold cntTo bulkR
  rw [List.take_length]
  induction rs with
  | nil => simp
  | cons r rs ih =>
    simp only [List.length_cons, List.map_cons, List.sum_cons] at ih ⊢
    unfold bulkS at ih ⊢
    omega
theorem markGram_one (v : Value) (rs : List RuleD) (lo hi : Nat) (w : World) (h : OwnR w lo hi v rs) (hh : hi ≤ w.heap.size) (h2 : cntTo rs rs.length ≤ 2000000) :
    Calls Try.prog 43 #[.agg #[v], .int .i64 1] w fun e w' => ∃ K : Int, e = .returned (.int .i64 K) ∧ 0 ≤ K ∧ OwnR w' lo hi v (markR 1 rs) ∧ Mid lo hi w w' :=
  Calls.mono (markGram_any v rs lo hi 1 w h hh (Nat.le_refl _) (by omega)) fun _ _ ⟨h1, h2⟩ => ⟨_, h1, by omega, h2⟩
theorem markStringS_one (v : Value) (ss : List ByteArray) (g : Nat) (w : World) (h : OwnS w g v ss) (h2 : ss.length ≤ 2000000) :
    Calls Try.prog 49 #[v, .int .i64 1] w fun e w' => ∃ K : Int, e = .returned (.int .i64 K) ∧ 0 ≤ K ∧ K = ((1 + ss.length : Nat) : Int) ∧ OwnS w' g v (marks 1 ss.length) ∧ Mid g (g + 1) w w' :=
  Calls.mono (markStringS_any v ss g 1 w h (Nat.le_refl _) (by omega)) fun _ _ ⟨h1, h2⟩ => ⟨_, h1, by omega, rfl, h2⟩
end Go.Proofs.Ytmhdbjoljonhdaa
