/- All Terms of a Comp, in a list of the call's own: termsOf; termsSame. -/
import Derived.Test.YtlgedjpolmlciaaJCmi
import Derived.Test.YtlgedjpolmlciaaUfsm
import Derived.Test.YtlgedjpolmlciaaJGmd
import Derived.Test.YtlgedjpolmlciaaJCme
namespace Go.Proofs.Ytlgedjpolmlciaa
open Go.RowKit

abbrev TxV := TermD × Value
def flatX (xs : List TxV) : List Value := xs.flatMap fun x => [.int .i64 x.1.kind, .int .i64 x.1.num, x.2]
theorem flatX_snoc (xs : List TxV) (x : TxV) : flatX (xs ++ [x]) = flatX xs ++ [.int .i64 x.1.kind, .int .i64 x.1.num, x.2] := by simp [flatX]
theorem flatX_len (xs : List TxV) : (flatX xs).length = xs.length * 3 := by
  induction xs with
  | nil => rfl
  | cons x l ih => simp only [flatX, List.flatMap_cons, List.length_append, List.length_cons, List.length_nil] at ih ⊢; omega
theorem flatX_at (xs : List TxV) (i j : Nat) (h : i < xs.length) (hj : j < 3) : (flatX xs)[i * 3 + j]? = [Value.int .i64 xs[i].1.kind, .int .i64 xs[i].1.num, xs[i].2][j]? := by
  induction xs generalizing i with
  | nil => simp at h
  | cons x l ih =>
    have e : flatX (x :: l) = [Value.int .i64 x.1.kind, .int .i64 x.1.num, x.2] ++ flatX l := rfl
    rw [e]
    cases i with
    | zero => rw [List.getElem?_append_left (by simp; omega)]; simp
    | succ i =>
      rw [List.getElem?_append_right (by simp; omega), show (i + 1) * 3 + j - [Value.int .i64 x.1.kind, .int .i64 x.1.num, x.2].length = i * 3 + j by simp; omega]
      exact ih i (by simpa using h)
structure GrowT (w : World) (base hi : Nat) (v : Value) (xs : List TxV) : Prop where
  row : w.ownsRow base 39 3 v xs.length (flatX xs)
  each : ∀ x ∈ xs, TopM x.1 ∧ KM true w 0 hi x.2 x.1.kids
theorem GrowT.below {w w' : World} {base hi : Nat} {v : Value} {xs : List TxV} (a : GrowT w base hi v xs) (hh : hi ≤ w.heap.size) (k : Below w.heap.size w w') : GrowT w' base hi v xs :=
  ⟨own_keep a.row fun g hg => k.block g (a.row.lt g hg).2, fun x hx => ⟨(a.each x hx).1, (a.each x hx).2.under k hh⟩⟩
theorem GrowT.snoc {w w' : World} {base hi g cap : Nat} {v : Value} {xs : List TxV} {y : TxV} (a : GrowT w base hi v xs) (hb : hi ≤ base) (hbw : base ≤ w.heap.size) (hy : TopM y.1 ∧ KM true w 0 hi y.2 y.1.kids)
    (ho : w'.ownsRow base 39 3 (.slice (some ⟨g, 0, none⟩) (xs.length + 1) cap) (xs.length + 1) (flatX xs ++ [.int .i64 y.1.kind, .int .i64 y.1.num, y.2])) (hg : w.grownBy w' v.ownBlock) :
    GrowT w' base hi (.slice (some ⟨g, 0, none⟩) (xs.length + 1) cap) (xs ++ [y]) := by
  have k : Keeps 0 hi w w' := fun p _ hp => hg.block p (by omega) fun e => by have := (a.row.lt p e.symm).1; omega
  refine ⟨by rw [flatX_snoc, List.length_append]; exact ho, fun x hx => ?_⟩
  rw [List.mem_append, List.mem_singleton] at hx
  rcases hx with hx | rfl
  · exact ⟨(a.each x hx).1, (a.each x hx).2.keep k⟩
  · exact ⟨hy.1, hy.2.keep k⟩
theorem GrowT.km {w : World} {base hi : Nat} {v : Value} {xs : List TxV} (a : GrowT w base hi v xs) (hh : hi ≤ w.heap.size) : KM true w 0 w.heap.size v (xs.map (·.1)) := by
  rcases a.row.2 with ⟨rfl, h0⟩ | ⟨g, cap, cur, rfl, hg, hh', hc, hm, hs, ht⟩
  · obtain rfl : xs = [] := List.eq_nil_of_length_eq_zero h0
    exact .mk none 0 [] (fun _ => .nilFunc) (Nat.le_refl _) (by unfold maxLen; omega) (fun i h => by simp at h) (fun h => by simp at h) (fun i h => by simp at h)
  · have hr : Row w g 39 cur := hh'
    have hl : (xs.map (·.1)).length = xs.length := List.length_map _
    have key : KM true w 0 w.heap.size (.slice (some ⟨g, 0, none⟩) (xs.map (·.1)).length cap) (xs.map (·.1)) := by
      refine .mk (some ⟨g, 0, none⟩) cap (xs.map (·.1)) (fun i => if h : i < xs.length then xs[i].2 else .nilFunc) (by rw [hl]; exact hc) hm (fun i hi => ?_) (fun _ => ⟨g, 0, rfl, Nat.zero_le _, hr.lt, fun _ => ⟨_, _, hr⟩, fun i hi => ?_⟩) (fun i hi => ?_)
      · rw [hl] at hi
        rw [List.getElem_map]
        exact (a.each _ (List.getElem_mem hi)).1
      · rw [hl] at hi
        have cell : ∀ j, j < 3 → cur[i * 3 + j]? = [Value.int .i64 xs[i].1.kind, .int .i64 xs[i].1.num, xs[i].2][j]? := fun j hj => by
          rw [← flatX_at xs i j hi hj, ← ht, List.getElem?_take_of_lt (by omega), Array.getElem?_toList]
        have c0 := cell 0 (by omega)
        rw [Nat.add_zero] at c0
        rw [List.getElem_map, dif_pos hi]
        exact ⟨by rw [Nat.zero_add, hr.cell, c0]; rfl, by rw [Nat.zero_add, hr.cell, cell 1 (by omega)]; rfl, by rw [Nat.zero_add, hr.cell, cell 2 (by omega)]; rfl⟩
      · rw [hl] at hi
        rw [List.getElem_map, dif_pos hi]
        exact (a.each _ (List.getElem_mem hi)).2.more (Nat.zero_le _) hh
    rw [hl] at key
    exact key

set_option maxRecDepth 100000 in
set_option maxHeartbeats 4000000 in
theorem termsOf_any (c : CompD) (vg vm vt : Value) (hi : Nat) (w : World) (h : CompAt true w 0 hi c vg vm vt) (hh : hi ≤ w.heap.size) (hn : c.mades.length ≤ 1048576) :
    Calls Try.prog 19 #[cmV vg vm c vt] w fun e w' => ∃ u, e = .returned u ∧ KM true w' 0 w'.heap.size u (c.null :: c.mades.map (·.term)) ∧ Below w.heap.size w w' := by
  obtain ⟨j0, hj0, hy0, hy1, hy2⟩ := info_parts Try.infoTermR
  have HC := Lib.hid h
  obtain ⟨Ag, cg, rfl, -⟩ := h.rules
  obtain ⟨Am, cm, rfl, hlm, hcm, hcell⟩ := h.mades
  obtain ⟨At, ct, Ut, rfl, -⟩ := h.kids.parts
  have HCL := Lib.hid hcell
  unfold maxLen at hcm
  have a1 := al1 w (.cells #[.slice Ag c.rules.length cg, .slice Am c.mades.length cm, .bool c.has, .int .i64 c.null.kind, .int .i64 c.null.num, .slice At c.null.kids.length ct] 41)
  have R0 := Row.made w 41 #[.slice Ag c.rules.length cg, .slice Am c.mades.length cm, .bool c.has, .int .i64 c.null.kind, .int .i64 c.null.num, .slice At c.null.kids.length ct]
  obtain ⟨e0, e1, e2, e3, e4, e5, e6⟩ := R0.six9
  have z1 : (w.alloc (.cells #[.slice Ag c.rules.length cg, .slice Am c.mades.length cm, .bool c.has, .int .i64 c.null.kind, .int .i64 c.null.num, .slice At c.null.kids.length ct] 41)).heap.size = w.heap.size + 1 := by simp
  have HG0 : Hid (GrowT ((w.alloc (.cells #[.slice Ag c.rules.length cg, .slice Am c.mades.length cm, .bool c.has, .int .i64 c.null.kind, .int .i64 c.null.num, .slice At c.null.kids.length ct] 41)).alloc (.cells #[.int .i64 c.null.kind, .int .i64 c.null.num, .slice At c.null.kids.length ct] 39)) (w.heap.size + 1) hi (.slice (some ⟨w.heap.size + 1, 0, none⟩) 1 1) [(c.null, .slice At c.null.kids.length ct)] ∧
      Below w.heap.size w ((w.alloc (.cells #[.slice Ag c.rules.length cg, .slice Am c.mades.length cm, .bool c.has, .int .i64 c.null.kind, .int .i64 c.null.num, .slice At c.null.kids.length ct] 41)).alloc (.cells #[.int .i64 c.null.kind, .int .i64 c.null.num, .slice At c.null.kids.length ct] 39))) := Lib.hid (by
    have a2 := al1 (w.alloc (.cells #[.slice Ag c.rules.length cg, .slice Am c.mades.length cm, .bool c.has, .int .i64 c.null.kind, .int .i64 c.null.num, .slice At c.null.kids.length ct] 41)) (.cells #[.int .i64 c.null.kind, .int .i64 c.null.num, .slice At c.null.kids.length ct] 39)
    have ho := World.ownsRow_lit (base := w.heap.size + 1) (e := 39) (size := 3) (w.alloc (.cells #[.slice Ag c.rules.length cg, .slice Am c.mades.length cm, .bool c.has, .int .i64 c.null.kind, .int .i64 c.null.num, .slice At c.null.kids.length ct] 41)) #[.int .i64 c.null.kind, .int .i64 c.null.num, .slice At c.null.kids.length ct] 1 (by rw [z1]; exact Nat.le_refl _) (by unfold maxLen; omega) rfl
    rw [z1] at ho
    exact ⟨⟨ho, fun x hx => by
      rw [List.mem_singleton] at hx
      subst hx
      exact ⟨HC.out.top, (HC.out.kids.under a1 hh).under a2 (by omega)⟩⟩, a1.trans (a2.mono (by omega))⟩)
  clear h hcell a1 R0
  unfold cmV
  go_enter Try.func19, Try.ntmps19
  go_wp2
  clear z1 e0 e1 e2 e3 e4 e5 e6
  generalize (w.alloc (.cells #[.slice Ag c.rules.length cg, .slice Am c.mades.length cm, .bool c.has, .int .i64 c.null.kind, .int .i64 c.null.num, .slice At c.null.kids.length ct] 41)).alloc (.cells #[.int .i64 c.null.kind, .int .i64 c.null.num, .slice At c.null.kids.length ct] 39) = wz at HG0 ⊢
  go_loopg [3, 5, 12] c.mades.length (fun gk v3 _ v12 wr => ∃ (k : Nat) (xs : List TxV), v12 = .int .i64 k ∧ k ≤ c.mades.length ∧ GrowT wr (w.heap.size + 1) hi v3 xs ∧ xs.map (·.1) = c.null :: (c.mades.take k).map (·.term) ∧ Below w.heap.size w wr ∧ w.heap.size + 1 ≤ wr.heap.size ∧ gk = c.mades.length - k)
  case atStart => exact ⟨0, _, rfl, by omega, HG0.out.1, by simp, HG0.out.2, by have := (HG0.out.1.row.lt (w.heap.size + 1) rfl).2; omega, rfl⟩
  case round =>
    clear HG0
    obtain ⟨k, xs, rfl, hk, hG, hxs, hbw, hzr, rfl⟩ := hrel
    by_cases hkm : k < c.mades.length
    · obtain ⟨b, off, rfl, _, hbh, _, hcc⟩ := HCL.out (by omega)
      obtain ⟨hhs, htop, hc0, u, x, hc1, hc2, hc3, hc4, hst, hkm'⟩ := hcc k hkm
      have k0 := (hbw.cell (p := ⟨b, off + k * 5, none⟩) (by show b < _; omega)).trans hc0
      have k1 := (hbw.cell (p := ⟨b, off + k * 5 + 1, none⟩) (by show b < _; omega)).trans hc1
      have k2 := (hbw.cell (p := ⟨b, off + k * 5 + 2, none⟩) (by show b < _; omega)).trans hc2
      have k3 := (hbw.cell (p := ⟨b, off + k * 5 + 3, none⟩) (by show b < _; omega)).trans hc3
      have k4 := (hbw.cell (p := ⟨b, off + k * 5 + 4, none⟩) (by show b < _; omega)).trans hc4
      obtain ⟨Au, cu, rfl, -⟩ := id hst
      obtain ⟨Ax, cx, Ux, rfl, -⟩ := id hkm'.parts
      have i1 : (k : Int) < (c.mades.length : Int) := by omega
      have hxl := Lib.hid (show xs.length = k + 1 from by
        have := congrArg List.length hxs
        rw [List.length_map, List.length_cons, List.length_map, List.length_take] at this
        omega)
      have ha := al1 wr (.cells #[.string c.mades[k].head, .slice Au c.mades[k].body.length cu, .int .i64 c.mades[k].term.kind, .int .i64 c.mades[k].term.num, .slice Ax c.mades[k].term.kids.length cx] 53)
      have R0 := Row.made wr 53 #[.string c.mades[k].head, .slice Au c.mades[k].body.length cu, .int .i64 c.mades[k].term.kind, .int .i64 c.mades[k].term.num, .slice Ax c.mades[k].term.kids.length cx]
      have r2 := R0.cell 2
      have r3 := R0.cell 3
      have r4 := R0.cell 4
      simp at r2 r3 r4
      have HGA := Lib.hid (hG.below (by omega) ha)
      have HBA := Lib.hid (hbw.trans (ha.mono (by omega)))
      have HKM := Lib.hid (hkm'.keep (Keeps.below HBA.out hh))
      have HXS := Lib.hid hxs
      have HTOP := Lib.hid htop
      clear hcc hc0 hc1 hc2 hc3 hc4 hst hkm' hG hxs hbw ha R0 htop
      go_wp2_with (at_builtin; refine wpList_append_lies _ rfl _ _ 37 rfl (w.heap.size + 1) 39 j0 _ 3 40 Try.underlying37 hj0 hy0 hy1 hy2 rfl (by decide) _ xs.length (flatX xs) rfl (World.ownsRow.alloc HGA.out.row _) ⟨wr.heap.size + 1, 0, none⟩ 1 1 [.int .i64 c.mades[k].term.kind, .int .i64 c.mades[k].term.num, .slice Ax c.mades[k].term.kids.length cx] rfl rfl (by have e := term_news (wr.alloc (.cells #[.string c.mades[k].head, .slice Au c.mades[k].body.length cu, .int .i64 c.mades[k].term.kind, .int .i64 c.mades[k].term.num, .slice Ax c.mades[k].term.kids.length cx] 53)) (.int .i64 c.mades[k].term.kind) (.int .i64 c.mades[k].term.num) (.slice Ax c.mades[k].term.kids.length cx); simpa using e) (term_one _ _ _ _ _) (by have := hxl.out; omega) (by have := hxl.out; unfold maxLen; omega) (by have := hxl.out; omega) (by have := hxl.out; simp; omega) (wr.heap.size + 2) (by simp) ?_)
      intro gg capg w6 hown6 hg6 hat6 hlt6
      generalize hwx : wr.alloc (.cells #[.string c.mades[k].head, .slice Au c.mades[k].body.length cu, .int .i64 c.mades[k].term.kind, .int .i64 c.mades[k].term.num, .slice Ax c.mades[k].term.kids.length cx] 53) = wx at *
      have hzx : wx.heap.size = wr.heap.size + 1 := by rw [← hwx]; simp
      have FIN : Hid (GrowT w6 (w.heap.size + 1) hi (.slice (some ⟨gg, 0, none⟩) (xs.length + 1) capg) (xs ++ [(c.mades[k].term, .slice Ax c.mades[k].term.kids.length cx)]) ∧ Below w.heap.size w w6 ∧ (xs ++ [((c.mades[k].term, .slice Ax c.mades[k].term.kids.length cx) : TxV)]).map (·.1) = c.null :: (c.mades.take (k + 1)).map (·.term) ∧ w.heap.size + 1 ≤ w6.heap.size) := Lib.hid (by
        have hb := al1 wx (.cells #[.int .i64 c.mades[k].term.kind, .int .i64 c.mades[k].term.num, .slice Ax c.mades[k].term.kids.length cx] 39)
        have GA := HGA.out.below (by omega) hb
        have hsz := hg6.size
        refine ⟨GA.snoc (by omega) (by simp; omega) ⟨HTOP.out, ((HKM.out.under hb (by omega)).more (Nat.zero_le _) (Nat.le_refl _))⟩ hown6 hg6, Tx.below_grown (HBA.out.trans (hb.mono (by omega))) GA.row hg6 (by simp; omega) (by omega), ?_, by simp at hsz; omega⟩
        rw [List.map_append, HXS.out, List.take_succ_eq_append_getElem hkm, List.map_append]
        rfl)
      clear hown6 hg6 hat6 hlt6
      go_wp2
      go_roundg (c.mades.length - (k + 1))
      case rel => exact ⟨k + 1, _, by go_num, by omega, FIN.out.1, FIN.out.2.2.1, FIN.out.2.1, FIN.out.2.2.2, rfl⟩
      case measure => omega
    · have hks : k = c.mades.length := by omega
      subst hks
      rw [List.take_length] at hxs
      have FIN := Lib.hid (And.intro (hxs ▸ hG.km (by omega)) hbw)
      clear hG hbw hxs
      go_wp2
      go_ret
      exact ⟨_, rfl, FIN.out⟩
set_option maxRecDepth 100000 in
set_option maxHeartbeats 1000000 in
theorem termsSame_any (x y : List TermD) (u v : Value) (hi : Nat) (w : World) (h : KM true w 0 hi u x) (h' : KM true w 0 hi v y) (hh : hi ≤ w.heap.size) (hn : sizeMs x ≤ 2097152) :
    Calls Try.prog 18 #[u, v] w fun e w' => ∃ r, e = .returned (.bool r) ∧ (r = true ↔ x = y) ∧ Below w.heap.size w w' := by
  have HU := Lib.hid h
  have HV := Lib.hid h'
  obtain ⟨A, c, U, rfl, -⟩ := h.parts
  obtain ⟨B, d, V, rfl, -⟩ := h'.parts
  clear h h'
  go_enter Try.func18, Try.ntmps18
  go_wp2_with fail
  refine (sameAll_anyM x y _ _ hi _ HU.out HV.out hh hn).mono ?_
  rintro e w1 ⟨r, rfl, hr, b1⟩
  have FIN := Lib.hid (And.intro hr b1)
  clear hr b1
  go_wp2
  go_ret
  exact ⟨r, rfl, FIN.out⟩
end Go.Proofs.Ytlgedjpolmlciaa
