/- The marks of a grammar, on: markRuleS, markGram, heldRuleS, heldGram. -/
import Derived.Test.YtbaofldcdcllfaaJMarkb
namespace Go.Proofs.Ytbaofldcdcllfaa
open Go.RowKit

def cntTo (rs : List RuleD) (j : Nat) : Nat := ((rs.take j).map fun r => 1 + r.body.length).sum
def bodyLen (rs : List RuleD) (j : Nat) : Nat := (rs[j]?.map fun r => r.body.length).getD 0
def mrk (k : Nat) (rs : List RuleD) (j : Nat) : RuleD := ⟨mt (k + cntTo rs j), marks (k + cntTo rs j + 1) (bodyLen rs j)⟩
def markUpto (k : Nat) (rs : List RuleD) : Nat → List RuleD
  | 0 => rs
  | j + 1 => (markUpto k rs j).set j (mrk k rs j)
/-- a marked list of rules -/
def markR (k : Nat) (rs : List RuleD) : List RuleD := markUpto k rs rs.length
theorem bodyLen_at {rs : List RuleD} {j : Nat} (h : j < rs.length) : bodyLen rs j = rs[j].body.length := by simp [bodyLen, h]
theorem cntTo_succ {rs : List RuleD} {j : Nat} (h : j < rs.length) : cntTo rs (j + 1) = cntTo rs j + (1 + rs[j].body.length) := by
  unfold cntTo; rw [List.take_succ_eq_append_getElem h, List.map_append, List.sum_append]; simp
theorem cntTo_le (rs : List RuleD) (j : Nat) : cntTo rs j ≤ cntTo rs rs.length := by
  unfold cntTo
  rw [List.take_length]
  conv => rhs; rw [← List.take_append_drop j rs]
  rw [List.map_append, List.sum_append]; omega
theorem markUpto_len (k : Nat) (rs : List RuleD) (j : Nat) : (markUpto k rs j).length = rs.length := by
  induction j with
  | zero => rfl
  | succ j ih => rw [markUpto, List.length_set, ih]
theorem markUpto_at (k : Nat) (rs : List RuleD) (j i : Nat) (h : i < (markUpto k rs j).length) : (markUpto k rs j)[i] = if i < j then mrk k rs i else rs[i]'(by rw [markUpto_len] at h; exact h) := by
  induction j with
  | zero => simp [markUpto]
  | succ j ih =>
    simp only [markUpto, List.getElem_set]
    have h' : i < (markUpto k rs j).length := by rw [markUpto_len] at h ⊢; exact h
    by_cases e : j = i
    · subst e; rw [if_pos rfl, if_pos (by omega)]
    · rw [if_neg e, ih h']
      by_cases e2 : i < j
      · rw [if_pos e2, if_pos (by omega)]
      · rw [if_neg e2, if_neg (by omega)]
theorem markR_len (k : Nat) (rs : List RuleD) : (markR k rs).length = rs.length := markUpto_len k rs _
theorem markR_at (k : Nat) (rs : List RuleD) (i : Nat) (h : i < (markR k rs).length) : (markR k rs)[i] = mrk k rs i :=
  (markUpto_at k rs rs.length i h).trans (if_pos (by rw [markR_len] at h; exact h))
theorem cntTo_ge (rs : List RuleD) : rs.length ≤ cntTo rs rs.length := by
  unfold cntTo
  rw [List.take_length]
  induction rs with
  | nil => simp
  | cons r rs ih => simp only [List.length_cons, List.map_cons, List.sum_cons]; omega
theorem mid_pick {w w' : World} {lo hi g : Nat} {ss : List ByteArray} (h1 : ss ≠ [] → lo ≤ g ∧ g < hi) (h2 : ss = [] → w.heap.size ≤ g) (m : Mid g (g + 1) w w') : Mid lo hi w w' :=
  ⟨m.os, m.tape, m.output, m.size, fun k hk hkk => m.block k hk (by
    by_cases e : ss = []
    · have := h2 e; omega
    · have := h1 e; omega)⟩

set_option maxRecDepth 100000 in
set_option maxHeartbeats 2000000 in
theorem markRuleS_any (v : Value) (rs : List RuleD) (lo hi k : Nat) (w : World) (h : OwnR w lo hi v rs) (h1 : 1 ≤ k) (h2 : k + cntTo rs rs.length ≤ 1000000000) :
    Calls Try.prog 43 #[v, .int .i64 (k : Int)] w fun e w' => e = .returned (.int .i64 ((k + cntTo rs rs.length : Nat) : Int)) ∧ OwnR w' lo hi v (markR k rs) ∧ Mid lo hi w w' := by
  obtain ⟨A, c, rfl, hlc, hc, hform⟩ := h.form
  have hge := cntTo_ge rs
  by_cases h0 : rs.length = 0
  · obtain rfl : rs = [] := List.eq_nil_of_length_eq_zero h0
    have HO : Hid (OwnR w lo hi (.slice A 0 c) (markR k [])) := Lib.hid h
    have e0 : cntTo [] 0 = 0 := rfl
    simp only [List.length_nil, e0, Nat.add_zero]
    clear hform h0 h
    go_enter Try.func43, Try.ntmps43
    go_wp2
    go_loop [1, 5] (fun x i => x = .int .i64 (k : Int) ∧ i = .int .i64 0) (fun _ _ => 0)
    case atStart => exact ⟨rfl, rfl⟩
    case round =>
      obtain ⟨rfl, rfl⟩ := hrel
      go_wp2
      go_ret
      exact ⟨rfl, HO.out, Mid.refl _ _ _⟩
  · obtain ⟨b, rfl, hown⟩ := hform (by omega)
    have HO := Lib.hid hown
    clear hform hown h
    go_enter Try.func43, Try.ntmps43
    go_wp2
    go_loopw [1, 5] (fun x i wr => ∃ (j : Nat), j ≤ rs.length ∧ i = .int .i64 (j : Int) ∧ x = .int .i64 ((k + cntTo rs j : Nat) : Int) ∧ OwnR wr lo hi (.slice (some ⟨b, 0, none⟩) (markUpto k rs j).length (markUpto k rs j).length) (markUpto k rs j) ∧ Mid lo hi w wr) (fun _ i _ => rs.length - (intOf i).toNat)
    case atStart => exact ⟨0, by omega, rfl, rfl, HO.out, Mid.refl _ _ _⟩
    case round =>
      obtain ⟨j, hj, rfl, rfl, hown, hmid⟩ := hrel
      by_cases hlt : j < rs.length
      · have hL := markUpto_len k rs j
        have hjL : j < (markUpto k rs j).length := by rw [hL]; exact hlt
        obtain ⟨gj, u, cur, hat⟩ := hown.at hjL
        have hLj : (markUpto k rs j)[j] = rs[j] := by rw [markUpto_at, if_neg (by omega)]
        have hcnt := cntTo_succ hlt
        have hcle := cntTo_le rs (j + 1)
        have hown1 : OwnS wr gj u rs[j].body := by have := hat.own hjL; rw [hLj] at this; exact this
        have HAT := Lib.hid hat
        have HLJ := Lib.hid hLj
        have HCN := Lib.hid hcnt
        have hbl := hat.row.lt
        have hcle' : cntTo rs j + (1 + rs[j].body.length) ≤ cntTo rs rs.length := by omega
        have HOS := Lib.hid hown1
        obtain ⟨Au, cu, rfl, -⟩ := hown1
        clear hat hLj hcnt hown hL hcle
        go_wp2_with fail
        refine (markText_any (k + cntTo rs j) _ (by omega) (by omega)).mono ?_
        rintro e w1 ⟨rfl, b1⟩
        have r1 := HAT.out.row.below b1 hbl
        have hsz := HAT.out.size
        obtain ⟨u0, hd0⟩ := r1.there (show j * 2 < cur.size by omega)
        have hf0 := r1.free (j * 2)
        have hd1 : w1.cell? ⟨b, j * 2 + 1, none⟩ = some (.slice Au rs[j].body.length cu) := by rw [r1.cell]; exact HAT.out.body
        have o2 : OwnS (w1.setCell ⟨b, j * 2, none⟩ (.string (mt (k + cntTo rs j)))) gj (.slice Au rs[j].body.length cu) rs[j].body := HOS.out.keep fun hn => by
          have hw := HAT.out.within hjL (by rw [HLJ.out]; exact hn)
          rw [Below.heap_setCell _ _ _ _ (by exact hw.2.2), b1.block _ (HOS.out.lt hn)]
        obtain ⟨g', o2', hg1, hg2⟩ := o2.pick
        have hmid2 := (hmid.trans (Mid.of_below (lo := lo) (hi := hi) b1 (Nat.le_refl _))).setCell (p := ⟨b, j * 2, none⟩) HAT.out.low HAT.out.high (.string (mt (k + cntTo rs j)))
        have hs2 : (w1.setCell ⟨b, j * 2, none⟩ (.string (mt (k + cntTo rs j)))).heap.size = w1.heap.size := by simp [World.setCell]
        have HS2 := Lib.hid hs2
        have HG1 := Lib.hid hg1
        have HG2 := Lib.hid hg2
        clear r1 o2 hs2 hg1 hg2
        go_wp2_with fail
        refine (markStringS_any _ rs[j].body g' (k + cntTo rs j + 1) _ o2' (by omega) (by omega)).mono ?_
        rintro e w3 ⟨rfl, o3, hm3⟩
        have hnew := HAT.out.put w1 w3 (mt (k + cntTo rs j)) (marks (k + cntTo rs j + 1) rs[j].body.length) g' hjL (by have := mt_size (k + cntTo rs j); unfold maxLen; omega) b1
          (by rw [HLJ.out, marks_len]) o3 (fun hn => HG1.out (by rw [HLJ.out] at hn; exact hn)) (fun hn => by rw [← HS2.out]; exact HG2.out (by rw [HLJ.out] at hn; exact hn)) hm3
        have hnew' : OwnR w3 lo hi (.slice (some ⟨b, 0, none⟩) (markUpto k rs (j + 1)).length (markUpto k rs (j + 1)).length) (markUpto k rs (j + 1)) := by
          have e1 : markUpto k rs (j + 1) = (markUpto k rs j).set j ⟨mt (k + cntTo rs j), marks (k + cntTo rs j + 1) rs[j].body.length⟩ := by
            rw [markUpto, mrk, bodyLen_at hlt]
          rw [e1, List.length_set]
          exact hnew
        have hmid3 : Mid lo hi w w3 := hmid2.trans (mid_pick (ss := rs[j].body) (fun hn => by
          rw [HG1.out hn]
          have hw := HAT.out.within hjL (by rw [HLJ.out]; exact hn)
          exact ⟨hw.1, hw.2.1⟩) HG2.out hm3)
        clear o2' o3 hm3 hnew hmid2
        go_wp2
        go_roundw
        case rel => exact ⟨j + 1, by omega, by go_num, by rw [HCN.out]; go_num, hnew', hmid3⟩
        case measure => simp [intOf]; omega
      · have hjs : j = rs.length := by omega
        subst hjs
        have HR : Hid (OwnR wr lo hi (.slice (some ⟨b, 0, none⟩) rs.length c) (markR k rs)) := Lib.hid (by
          have h3 := hown.back (c := c) (by rw [markUpto_len]; exact hlc) hc
          rw [markUpto_len] at h3
          exact h3)
        clear hown
        go_wp2
        go_ret
        exact ⟨rfl, HR.out, hmid⟩

set_option maxHeartbeats 1000000 in
theorem markGram_any (v : Value) (rs : List RuleD) (lo hi k : Nat) (w : World) (h : OwnR w lo hi v rs) (hh : hi ≤ w.heap.size) (h1 : 1 ≤ k) (h2 : k + cntTo rs rs.length ≤ 1000000000) :
    Calls Try.prog 18 #[.agg #[v], .int .i64 (k : Int)] w fun e w' => e = .returned (.int .i64 ((k + cntTo rs rs.length : Nat) : Int)) ∧ OwnR w' lo hi v (markR k rs) ∧ Mid lo hi w w' := by
  have hb := al1 w (.cells #[v] 41)
  go_enter Try.func18, Try.ntmps18
  go_wp2_with fail
  refine (markRuleS_any v rs lo hi k _ (h.keep (Keeps.below hb hh)) h1 h2).mono ?_
  rintro e w1 ⟨rfl, o1, m1⟩
  go_wp2
  go_ret
  exact ⟨rfl, o1, (Mid.of_below hb (Nat.le_refl _)).trans m1⟩
end Go.Proofs.Ytbaofldcdcllfaa
