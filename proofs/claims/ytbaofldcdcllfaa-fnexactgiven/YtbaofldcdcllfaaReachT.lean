/- The walk of the model's Reachable; a list of yes and no that is filled place by place. -/
import Derived.Test.YtbaofldcdcllfaaReachS
namespace Go.Proofs.Ytbaofldcdcllfaa
open Go.RowKit

theorem Try.infoBool : (Try.prog.info? 4).map (fun i => (i.zero, i.size, i.bytes)) = some (some (.bool false), 1, 1) := by kernel_rfl
/-- k of a list of yes and no are laid in block g -/
def GoodTo (w : World) (g : Nat) (gs : List Bool) (k : Nat) : Prop :=
  ∃ cur, Row w g 4 cur ∧ cur.size = gs.length ∧ ∀ i (h : i < gs.length), i < k → cur[i]? = some (.bool gs[i])
theorem GoodTo.start (w : World) (gs : List Bool) (z : Array Value) (n : Nat) (hn : n = gs.length) : GoodTo (w.alloc (.cells (madeCells z n) 4)) w.heap.size gs 0 := by
  subst hn
  exact ⟨_, Row.made w _ _, size_madeCells _ _, fun _ _ h => by omega⟩
theorem GoodTo.row {w : World} {g k : Nat} {gs : List Bool} (h : GoodTo w g gs k) : ∃ cur, Row w g 4 cur ∧ cur.size = gs.length := by
  obtain ⟨cur, h1, h2, _⟩ := h
  exact ⟨cur, h1, h2⟩
theorem GoodTo.step {w : World} {g k : Nat} {gs : List Bool} (h : GoodTo w g gs k) (hk : k < gs.length) {b : Bool} (hb : gs[k] = b) : GoodTo (w.setCell ⟨g, k, none⟩ (.bool b)) g gs (k + 1) := by
  subst hb
  obtain ⟨cur, h1, h2, h3⟩ := h
  refine ⟨_, h1.put k _, by simp [h2], fun i hi hik => ?_⟩
  by_cases e : i = k
  · subst e
    rw [Array.getElem?_setIfInBounds_self_of_lt (by omega)]
  · rw [Array.getElem?_setIfInBounds_ne (by omega)]
    exact h3 i hi (by omega)
theorem GoodTo.below {w w' : World} {g k B : Nat} {gs : List Bool} (h : GoodTo w g gs k) (b : Below B w w') (hB : g < B) : GoodTo w' g gs k := by
  obtain ⟨cur, h1, h2, h3⟩ := h
  exact ⟨cur, h1.below b hB, h2, h3⟩
theorem GoodTo.done {w : World} {g : Nat} {gs : List Bool} (h : GoodTo w g gs gs.length) (hm : gs.length ≤ maxLen) {n : Nat} (hn : n = gs.length) : BoolsAt w (g + 1) (.slice (some ⟨g, 0, none⟩) n n) gs := by
  subst hn
  obtain ⟨cur, h1, h2, h3⟩ := h
  exact ⟨_, _, rfl, Nat.le_refl _, hm, fun _ => ⟨g, 0, rfl, by omega, fun i hi => by rw [Nat.zero_add, h1.cell]; exact h3 i hi hi⟩⟩

theorem makeBools (n : Nat) (hn : n ≤ 1000) (W : World) : (Instr.makeSlice 152 (.int .i64 (n : Int)) (.int .i64 (n : Int))).run Try.prog W = .ok (.slice (some ⟨W.heap.size, 0, none⟩) n n) (W.alloc (.cells (madeCells #[.bool false] n) 4)) := by
  obtain ⟨i0, hi0, hz0, hz1, hz2⟩ := info_parts Try.infoBool
  have := run_make (P := Try.prog) W 152 4 i0 _ Try.underlying152 hi0 hz0 .i64 .i64 n n (by omega) (by omega) (by rw [hz2]; omega) (by omega)
  simpa [hz1, Value.cells] using this

theorem ixOf_true (n : Nat) : ixOf (List.replicate n true) = List.range n := by
  unfold ixOf
  rw [List.length_replicate]
  apply List.filter_eq_self.2
  intro i hi
  rw [List.mem_range] at hi
  simp [hi]
theorem reachOf_f {rs : List RuleD} (h : gramB rs = false) : reachOf rs = [] := by unfold reachOf; rw [headsOf_f h]; rfl
theorem reachOf_t {rs : List RuleD} (h : gramB rs = true) : reachOf rs = reachBy rs (ixOf (List.replicate rs.length true)) := by
  unfold reachOf reachBy; rw [headsOf_t h, ixOf_true]; rfl

end Go.Proofs.Ytbaofldcdcllfaa
