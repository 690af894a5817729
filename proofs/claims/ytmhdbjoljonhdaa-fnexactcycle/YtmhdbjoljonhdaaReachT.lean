/- The walk of the model's Reachable; a list of yes and no that is filled place by place. -/
import Derived.Test.YtmhdbjoljonhdaaReachS
namespace Go.Proofs.Ytmhdbjoljonhdaa
open Go.RowKit

theorem Try.infoBool : (Try.prog.info? 4).map (fun i => (i.zero, i.size, i.bytes)) = some (some (.bool false), 1, 1) := by kernel_rfl
/-- k of a list of yes and no are laid in block g -/
def GoodTo (w : World) (g : Nat) (gs : List Bool) (k : Nat) : Prop :=
  ∃ cur, Row w g 4 cur ∧ cur.size = gs.length ∧ ∀ i (h : i < gs.length), i < k → cur[i]? = some (.bool gs[i])
theorem GoodTo.start (w : World) (gs : List Bool) (z : Array Value) (n : Nat) (hn : n = gs.length) : GoodTo (w.alloc (.cells (madeCells z n) 4)) w.heap.size gs 0 := by
  subst hn
  exact ⟨_, Row.made w _ _, size_madeCells _ _, fun _ _ h => by omega⟩
theorem GoodTo.row {w : World} {g k : Nat} {gs : List Bool} (h : GoodTo w g gs k) : ∃ cur, Row w g 4 cur ∧ cur.size = gs.length := by
  obtain ⟨cur, h1, h2, _⟩ := h
  exact ⟨cur, h1, h2⟩
theorem GoodTo.step {w : World} {g k : Nat} {gs : List Bool} (h : GoodTo w g gs k) (hk : k < gs.length) {b : Bool} (hb : gs[k] = b) : GoodTo (w.setCell ⟨g, k, none⟩ (.bool b)) g gs (k + 1) := by
  subst hb
  obtain ⟨cur, h1, h2, h3⟩ := h
  refine ⟨_, h1.put k _, by simp [h2], fun i hi hik => ?_⟩
  by_cases e : i = k
  · subst e
    rw [Array.getElem?_setIfInBounds_self_of_lt (by omega)]
  · rw [Array.getElem?_setIfInBounds_ne (by omega)]
    exact h3 i hi (by omega)
theorem GoodTo.below {w w' : World} {g k B : Nat} {gs : List Bool} (h : GoodTo w g gs k) (b : Below B w w') (hB : g < B) : GoodTo w' g gs k := by
  obtain ⟨cur, h1, h2, h3⟩ := h
  exact ⟨cur, h1.below b hB, h2, h3⟩
theorem GoodTo.done {w : World} {g : Nat} {gs : List Bool} (h : GoodTo w g gs gs.length) (hm : gs.length ≤ maxLen) {n : Nat} (hn : n = gs.length) : BoolsAt w (g + 1) (.slice (some ⟨g, 0, none⟩) n n) gs := by
  subst hn
  obtain ⟨cur, h1, h2, h3⟩ := h
  exact ⟨_, _, rfl, Nat.le_refl _, hm, fun _ => ⟨g, 0, rfl, by omega, fun i hi => by rw [Nat.zero_add, h1.cell]; exact h3 i hi hi⟩⟩

theorem makeBools (n : Nat) (hn : n ≤ 1000) (W : World) : (Instr.makeSlice 84 (.int .i64 (n : Int)) (.int .i64 (n : Int))).run Try.prog W = .ok (.slice (some ⟨W.heap.size, 0, none⟩) n n) (W.alloc (.cells (madeCells #[.bool false] n) 4)) := by
  obtain ⟨i0, hi0, hz0, hz1, hz2⟩ := info_parts Try.infoBool
  have := run_make (P := Try.prog) W 84 4 i0 _ Try.underlying84 hi0 hz0 .i64 .i64 n n (by omega) (by omega) (by rw [hz2]; omega) (by omega)
  simpa [hz1, Value.cells] using this

theorem ixOf_true (n : Nat) : ixOf (List.replicate n true) = List.range n := by
  unfold ixOf
  rw [List.length_replicate]
  apply List.filter_eq_self.2
  intro i hi
  rw [List.mem_range] at hi
  simp [hi]
theorem reachOf_f {rs : List RuleD} (h : gramB rs = false) : reachOf rs = [] := by unfold reachOf; rw [headsOf_f h]; rfl
theorem reachOf_t {rs : List RuleD} (h : gramB rs = true) : reachOf rs = reachBy rs (ixOf (List.replicate rs.length true)) := by
  unfold reachOf reachBy; rw [headsOf_t h, ixOf_true]; rfl

set_option maxRecDepth 100000 in
set_option maxHeartbeats 2000000 in
theorem specReachable_any (rs : List RuleD) (v : Value) (lo hi : Nat) (w : World) (h : Rules w lo hi v rs) (hh : hi ≤ w.heap.size) :
    Calls Try.prog 20 #[.agg #[v]] w (MadeS w (reachOf rs)) := by
  have HV := Lib.hid h
  obtain ⟨A, c, rfl, -⟩ := h
  have hb := al1 w (.cells #[.slice A rs.length c] 25)
  have R0 := Row.made w 25 #[.slice A rs.length c]
  cases hq : gramB rs
  · rw [reachOf_f hq]
    have HQ := Lib.hid hq
    clear hq
    go_enter Try.func20, Try.ntmps20
    go_wp2_with fail
    refine (specGramRight_any rs _ lo hi _ (HV.out.below hb hh) (by simp; omega)).mono ?_
    rintro e w1 ⟨rfl, b1⟩
    rw [HQ.out]
    go_wp2
    go_ret
    exact ⟨_, 0, rfl, ⟨_, 0, rfl, Nat.le_refl _, by unfold maxLen; omega, by simp, fun h => by simp at h⟩, fun hn => absurd rfl hn, (hb.trans (b1.mono (by simp))).trans ((al1 w1 _).mono (hb.trans (b1.mono (by simp))).size)⟩
  · rw [reachOf_t hq]
    have HQ := Lib.hid hq
    have hl20 := (Rt.of hq).few
    have hmk := makeBools rs.length (by omega)
    have HL : Hid (rs.length = (List.replicate rs.length true).length) := Lib.hid (by simp)
    clear hq
    go_enter Try.func20, Try.ntmps20
    go_wp2_with fail
    refine (specGramRight_any rs _ lo hi _ (HV.out.below hb hh) (by simp; omega)).mono ?_
    rintro e w1 ⟨rfl, b1⟩
    rw [HQ.out]
    have R1 := R0.below b1 (by simp)
    have c1 := R1.cell 0
    simp at c1
    have hb1 := hb.trans (b1.mono (by simp))
    have z1 := hb1.size
    have hl1 := R1.lt
    clear b1 hb R0
    go_wp2
    go_loopw [4, 15] (fun _ i wr => ∃ k : Nat, k ≤ rs.length ∧ i = .int .i64 k ∧ GoodTo wr w1.heap.size (List.replicate rs.length true) k ∧ Below w1.heap.size w1 wr) (fun _ i _ => rs.length - (intOf i).toNat)
    case atStart => exact ⟨0, by omega, rfl, GoodTo.start _ _ _ _ HL.out, al1 _ _⟩
    case round =>
      obtain ⟨k, hk, rfl, hgd, hbw⟩ := hrel
      have hsw := hbw.size
      obtain ⟨cur, hrow, hcs⟩ := hgd.row
      rw [← HL.out] at hcs
      have hgl := hrow.lt
      by_cases hlt : k < rs.length
      · obtain ⟨u0, hd0⟩ := hrow.there (show k < cur.size by omega)
        have hf0 := hrow.free k
        have hstep := hgd.step (b := true) (by rw [← HL.out]; exact hlt) (by simp)
        clear hcs hrow hgd
        go_wp2
        go_roundw
        case rel => exact ⟨k + 1, by omega, by go_num, hstep, hbw.setCell (Nat.le_refl _) _⟩
        case measure => simp [intOf]; omega
      · have hks : k = rs.length := by omega
        subst hks
        have cW := (R1.below hbw hl1).cell 0
        simp at cW
        have hbW := hb1.trans (hbw.mono z1)
        have BG := (show GoodTo _ w1.heap.size _ (List.replicate rs.length true).length by rw [← HL.out]; exact hgd).done (by rw [← HL.out]; unfold maxLen; omega) HL.out
        have HBG := Lib.hid BG
        clear hcs hrow hgd BG
        go_wp2_with fail
        refine (specReach_any rs _ _ _ lo hi (w1.heap.size + 1) _ (HV.out.below hbW hh) (by omega) HQ.out HBG.out (by omega) HL.out.symm).mono ?_
        rintro e w2 ⟨u, g, rfl, ho, hg, b2⟩
        go_wp2
        go_ret
        exact ⟨u, g, rfl, ho, fun hn => by have := hg hn; omega, hbW.trans (b2.mono (by omega))⟩
end Go.Proofs.Ytmhdbjoljonhdaa
