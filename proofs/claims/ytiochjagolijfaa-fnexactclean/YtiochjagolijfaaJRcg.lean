import Derived.Test.YtiochjagolijfaaJBmp
import Derived.Test.YtiochjagolijfaaJFixS
import Derived.Deep.LoopGhost
/- allCome, of the program. -/
namespace Go.Proofs.Ytiochjagolijfaa
open Go.RowKit

set_option maxRecDepth 100000 in
set_option maxHeartbeats 2000000 in
theorem allCome_any (v : Value) (body acc : List ByteArray) (b lo hi : Nat) (w : World) (h : Strs w lo hi v body) (hhi : hi ≤ w.heap.size) (hm : SetM w b acc) :
    Calls Try.prog 95 #[v, .map (some b)] w fun e w' => e = .returned (.bool (allB body acc true)) ∧ Below w.heap.size w w' := by
  obtain ⟨A, c, rfl, hlc, hc, hsz, hcell⟩ := h
  unfold maxLen at hc
  have HC := Lib.hid hcell
  have HZ := Lib.hid hsz
  have HM := Lib.hid hm
  have hbl := hm.lt
  clear hcell hsz hm
  go_enter Try.func95, Try.ntmps95
  go_wp2
  go_loopg [6, 9] body.length (fun gk _ v9 wr => ∃ k : Nat, k ≤ body.length ∧ v9 = .int .i64 k ∧ Below w.heap.size w wr ∧ (∀ j (h : j < body.length), j < k → (inB acc body[j] || (true && tokB body[j])) = true) ∧ gk = body.length - k)
  case atStart => exact ⟨0, by omega, rfl, Below.refl _ _, (fun j _ hj => by omega), rfl⟩
  case round =>
    obtain ⟨k, hk, rfl, hbw, hall, rfl⟩ := hrel
    have HA := Lib.hid hall
    have HB := Lib.hid hbw
    have hzw := hbw.size
    clear hall
    by_cases hlt : k < body.length
    · obtain ⟨g, off, rfl, _, hgh, hcc⟩ := HC.out (by omega)
      have hck := (hbw.cell (p := ⟨g, off + k, none⟩) (by show g < _; omega)).trans (hcc k hlt)
      have hks := HZ.out _ (List.getElem_mem hlt)
      have i1 : (k : Int) < (body.length : Int) := by omega
      clear hcc hbw
      cases ht : tokB body[k]
      · have HT := Lib.hid ht
        clear ht
        go_wp2_with fail
        refine (implIsToken_any _ _).mono ?_
        rintro e w1 ⟨rfl, b1⟩
        rw [HT.out]
        have B1 := HB.out.trans (b1.mono hzw)
        have hlk := (HM.out.keep (B1.block b hbl)).look hks
        have HB1 := Lib.hid B1
        clear b1 B1
        cases hi' : inB acc body[k]
        · rw [hi'] at hlk
          have HI := Lib.hid hi'
          clear hi'
          go_wp2
          go_ret
          exact ⟨ret_bool (allB_no hlt (by rw [HI.out, HT.out]; rfl)).symm, HB1.out⟩
        · rw [hi'] at hlk
          have HI := Lib.hid hi'
          clear hi'
          go_wp2
          go_roundg (body.length - (k + 1))
          case rel => exact ⟨k + 1, by omega, by go_num, HB1.out, fun j hj hjk => by
            by_cases e : j = k
            · subst e; rw [HI.out]; rfl
            · exact HA.out j hj (by omega), rfl⟩
          case measure => omega
      · have HT := Lib.hid ht
        clear ht
        go_wp2_with fail
        refine (implIsToken_any _ _).mono ?_
        rintro e w1 ⟨rfl, b1⟩
        rw [HT.out]
        have HB1 := Lib.hid (HB.out.trans (b1.mono hzw))
        clear b1
        go_wp2
        go_roundg (body.length - (k + 1))
        case rel => exact ⟨k + 1, by omega, by go_num, HB1.out, (fun j hj hjk => by
          by_cases e : j = k
          · subst e; rw [HT.out]; simp
          · exact HA.out j hj (by omega)), rfl⟩
        case measure => omega
    · go_wp2
      go_ret
      exact ⟨ret_bool (allB_yes fun k hk => HA.out k hk (by omega)).symm, HB.out⟩
end Go.Proofs.Ytiochjagolijfaa

/- reachedFrom, of the program. -/
namespace Go.Proofs.Ytiochjagolijfaa
open Go.RowKit

/-- a stack of texts of the call's own -/
def StkS (w : World) (base : Nat) (v : Value) (op : List ByteArray) : Prop := w.ownsRow base 9 1 v op.length (op.map Value.string)
theorem StkS.keep {w w' : World} {base : Nat} {v : Value} {op : List ByteArray} (h : StkS w base v op) (k : ∀ g, v.ownBlock = some g → w'.heap[g]? = w.heap[g]?) : StkS w' base v op := own_keep h k
theorem StkS.parts {w : World} {base : Nat} {v : Value} {op : List ByteArray} {s : ByteArray} (h : StkS w base v (op ++ [s])) :
    ∃ g cap, v = .slice (some ⟨g, 0, none⟩) (op.length + 1) cap ∧ base ≤ g ∧ g < w.heap.size ∧ op.length + 1 ≤ cap ∧ cap ≤ maxLen ∧
      w.cell? ⟨g, op.length, none⟩ = some (.string s) ∧ StkS w base (.slice (some ⟨g, 0, none⟩) op.length cap) op := by
  have hl : (op ++ [s]).length = op.length + 1 := by simp
  unfold StkS at h
  rw [List.map_append, hl] at h
  obtain ⟨h1, h2⟩ := h
  rcases h2 with ⟨_, h0⟩ | ⟨g, cap, cur, rfl, hb, hh, hc, hm, hs, ht⟩
  · omega
  have hr : Row w g 9 cur := hh
  rw [Nat.mul_one] at ht
  have cell : ∀ j, j < op.length + 1 → cur[j]? = (op.map Value.string ++ [Value.string s])[j]? := fun j hj => by
    rw [← Array.getElem?_toList, ← List.getElem?_take_of_lt hj, ht]; rfl
  refine ⟨g, cap, rfl, hb, hr.lt, hc, hm, ?_, by simp, .inr ⟨g, cap, cur, rfl, hb, hh, by omega, hm, hs, ?_⟩⟩
  · rw [hr.cell, cell _ (by omega), List.getElem?_append_right (by simp)]; simp
  · rw [Nat.mul_one]
    have e := congrArg (List.take op.length) ht
    rw [List.take_take, Nat.min_eq_left (by omega)] at e
    rw [e, List.take_left' (by simp)]
theorem StkS.form {w : World} {base : Nat} {v : Value} {op : List ByteArray} (h : StkS w base v op) : ∃ A cap, v = .slice A op.length cap ∧ op.length ≤ cap ∧ cap ≤ maxLen := by
  rcases h.2 with ⟨rfl, h0⟩ | ⟨g, cap, cur, rfl, hb, hh, h1, h2, _⟩
  · exact ⟨none, 0, by rw [h0], by omega, by unfold maxLen; omega⟩
  · exact ⟨_, cap, rfl, h1, h2⟩
theorem StkS.made (w : World) (base : Nat) (s : ByteArray) (hb : base ≤ w.heap.size) : StkS (w.alloc (.cells #[.string s] 9)) base (.slice (some ⟨w.heap.size, 0, none⟩) 1 1) [s] :=
  ⟨by simp, .inr ⟨w.heap.size, 1, _, rfl, hb, heap_alloc_new w _, by simp, by unfold maxLen; omega, rfl, by simp⟩⟩
/-- what a round knows -/
structure RcI (w wr : World) (fs : List MadeD) (start : ByteArray) (v6 : Value) (rc op : List ByteArray) (t : ByteArray → Prop) : Prop where
  below : Below w.heap.size w wr
  set : SetM wr w.heap.size rc
  stk : StkS wr (w.heap.size + 1) v6 op
  num : StkN fs start rc op t
  few : ∀ s ∈ rc, s.size ≤ maxLen
  le : op.length ≤ rc.length
section
variable {w wr w' : World} {fs : List MadeD} {start : ByteArray} {v6 : Value} {rc op : List ByteArray} {t : ByteArray → Prop}
theorem RcI.next (h : RcI w wr fs start v6 rc op t) (k : Below wr.heap.size wr w') : RcI w w' fs start v6 rc op t where
  below := h.below.trans (k.mono h.below.size)
  set := h.set.keep (k.block _ h.set.lt)
  stk := h.stk.keep fun g hg => k.block g (World.ownsRow.lt h.stk g hg).2
  num := h.num
  few := h.few
  le := h.le
theorem RcI.push {w2 w3 : World} {o : Obj} {v' : Value} {s : ByteArray} {m : MadeD} (h : RcI w wr fs start v6 rc op t) (hm : m ∈ fs) (hr : m.head ∈ rc) (hs : s ∈ m.body) (ht : tokB s = false) (hn : inB rc s = false) (hz : s.size ≤ maxLen)
    (hS : SetM w2 w.heap.size (rc ++ [s])) (hg : wr.grownBy w2 (some w.heap.size)) (hk : StkS w3 (w.heap.size + 1) v' (op ++ [s])) (hg3 : (w2.alloc o).grownBy w3 v6.ownBlock) : RcI w w3 fs start v' (rc ++ [s]) (op ++ [s]) t := by
  have hv : ∀ q, v6.ownBlock = some q → w.heap.size + 1 ≤ q := fun q hq => (World.ownsRow.lt h.stk q hq).1
  have hzw := h.below.size
  have hz2 := hg.size
  have hz3 : w2.heap.size + 1 ≤ w3.heap.size := by have := hg3.size; simpa using this
  have k23 : ∀ q, q < w2.heap.size → q < w.heap.size + 1 → w3.heap[q]? = w2.heap[q]? := fun q h1 h2 =>
    (hg3.block q (by simp; omega) fun e => by have := hv q e.symm; omega).trans (Below.heap_alloc _ _ _ h1)
  have hl := hS.lt
  exact ⟨⟨hg3.os.trans (hg.os.trans h.below.os), hg3.tape.trans (hg.tape.trans h.below.tape), hg3.output.trans (hg.output.trans h.below.output), by omega, fun q hq => (k23 q (by omega) (by omega)).trans ((hg.block q (by omega) fun e => by injection e with e; omega).trans (h.below.block q hq))⟩,
    hS.keep (k23 _ hl (by omega)), hk, h.num.push hm hr hs ht hn, fun x hx => by
      rw [List.mem_append, List.mem_singleton] at hx
      rcases hx with hx | rfl
      · exact h.few x hx
      · exact hz, by have := h.le; simp only [List.length_append, List.length_singleton]; omega⟩
end
set_option maxRecDepth 100000 in
set_option maxHeartbeats 4000000 in
theorem reachedFrom_any (start : ByteArray) (fs : List MadeD) (f : HdF) (b base : Nat) (w : World) (hB : ByH w base b fs f) (hb : base ≤ w.heap.size) (hs : start.size ≤ maxLen) (hn : bulkDs fs ≤ 1048576) :
    Calls Try.prog 73 #[.string start, .map (some b)] w fun e w' => ∃ rc, e = .returned (.map (some w.heap.size)) ∧ SetM w' w.heap.size rc ∧ (∀ h, h ∈ rc ↔ RchF fs start h) ∧ Below w.heap.size w w' := by
  obtain ⟨s0, hs0, hx0, hx1, hx2⟩ := info_parts Try.infoStr
  have hmm := @run_makeMap Try.prog
  have HBY := Lib.hid hB
  have hbl := hB.lt
  have a0 := al1 w (.map #[] 0)
  obtain ⟨w1, hup, hS1, hg1, hz1⟩ := (SetM.made w).put (s := start) (by simp [maxLen]) hs
  have hz1' : w1.heap.size = w.heap.size + 1 := by rw [hz1]; simp
  have a2 := al1 w1 (.cells #[.string start] 9)
  have HI0 : Hid (RcI w (w1.alloc (.cells #[.string start] 9)) fs start (.slice (some ⟨w.heap.size + 1, 0, none⟩) 1 1) [start] [start] (fun _ => False)) := Lib.hid ⟨(a0.trans ⟨hg1.os, hg1.tape, hg1.output, hg1.size, fun q hq => hg1.block q (by simp; omega) fun e => by injection e with e; omega⟩).trans (a2.mono (by omega)),
    hS1.keep (a2.block _ hS1.lt), hz1' ▸ StkS.made w1 _ start (by omega), StkN.start fs start, fun s h => by rw [List.mem_singleton] at h; subst h; exact hs, Nat.le_refl _⟩
  clear a0 a2 hS1 hg1 hB
  go_enter Try.func73, Try.ntmps73
  go_wp2
  clear hmm hup
  generalize w1.alloc (.cells #[.string start] 9) = wz at HI0 ⊢
  go_loopg [6, 7, 9, 11, 35, 42] (2 * (1 + bulkDs fs - 1) + 1) (fun gk v6 _ _ _ _ _ wr => ∃ (rc op : List ByteArray), RcI w wr fs start v6 rc op (fun _ => False) ∧ gk = 2 * (1 + bulkDs fs - rc.length) + op.length)
  case atStart => exact ⟨[start], [start], HI0.out, rfl⟩
  case round =>
    clear HI0
    obtain ⟨rc, op, hI, rfl⟩ := hrel
    rcases List.eq_nil_or_concat op with rfl | ⟨op', h, rfl⟩
    · obtain ⟨A6, cap, rfl, -⟩ := hI.stk.form
      have HI := Lib.hid hI
      clear hI
      go_wp2
      go_ret
      exact ⟨rc, rfl, HI.out.set, HI.out.num.all, HI.out.below⟩
    · rw [List.concat_eq_append] at *
      obtain ⟨g, cap, rfl, hgb, hgl, hcap, hcm, s0', hpop⟩ := hI.stk.parts
      have hhs := hI.few h (hI.num.opens h (by simp))
      have hrc := hI.num.len
      have HIQ := Lib.hid hI
      have HPOP := Lib.hid (⟨hI.below, hI.set, hpop, hI.num.pop, hI.few, by have := hI.le; simp at this; omega⟩ : RcI w wr fs start (.slice (some ⟨g, 0, none⟩) op'.length cap) rc op' (· = h))
      have hzw := hI.below.size
      have HHRC : Hid (h ∈ rc) := Lib.hid (hI.num.opens h (by simp))
      have l1 := (HBY.out.below hb hI.below).look hhs |>.run
      have hA := HBY.out.look hhs
      have hdm := hA.grow.dm hb
      rw [hA.mades] at hdm
      obtain ⟨A, c, ev, hlc, hc, hcell⟩ := hdm
      rw [ev] at l1
      have HC := Lib.hid hcell
      unfold maxLen at hc hcm
      have hl0 : (0 : Int) < (op'.length : Int) + 1 := by omega
      clear hcell hI hpop hA
      go_wp2
      clear l1
      go_loopg [6, 9, 11, 35, 42] (ofHead fs h).length (fun gk v6 _ _ v35 _ wr => ∃ (k : Nat) (rq oq : List ByteArray), v35 = .int .i64 k ∧ k ≤ (ofHead fs h).length ∧ RcI w wr fs start v6 rq oq (· = h) ∧ (∀ x ∈ rc, x ∈ rq) ∧ (∀ i (hi : i < (ofHead fs h).length), i < k → ∀ s ∈ (ofHead fs h)[i].body, tokB s = false → s ∈ rq) ∧ 2 * (1 + bulkDs fs - rq.length) + oq.length ≤ 2 * (1 + bulkDs fs - rc.length) + op'.length ∧ gk = (ofHead fs h).length - k)
      case atStart => exact ⟨0, rc, op', rfl, by omega, HPOP.out, (fun _ hx => hx), (fun i _ hi => by omega), Nat.le_refl _, rfl⟩
      case round =>
        clear HPOP s0' hgb hgl
        obtain ⟨k, rq, oq, rfl, hk, hI, hsub, hdone, hcost, rfl⟩ := hrel
        have hzq := hI.below.size
        have hrql := hI.num.len
        by_cases hkm : k < (ofHead fs h).length
        · obtain ⟨b', off, rfl, _, hbh, _, hcc⟩ := HC.out (by omega)
          obtain ⟨hhs', htop, hc0, u, x, hc1, hc2, hc3, hc4, hst, hkm'⟩ := hcc k hkm
          have hbw := hI.below
          have k0 := (hbw.cell (p := ⟨b', off + k * 5, none⟩) (by show b' < _; omega)).trans hc0
          have k1 := (hbw.cell (p := ⟨b', off + k * 5 + 1, none⟩) (by show b' < _; omega)).trans hc1
          have k2 := (hbw.cell (p := ⟨b', off + k * 5 + 2, none⟩) (by show b' < _; omega)).trans hc2
          have k3 := (hbw.cell (p := ⟨b', off + k * 5 + 3, none⟩) (by show b' < _; omega)).trans hc3
          have k4 := (hbw.cell (p := ⟨b', off + k * 5 + 4, none⟩) (by show b' < _; omega)).trans hc4
          have hst' := hst
          obtain ⟨Au, cu, rfl, hbc, hbm, hbz, hbcell⟩ := hst'
          obtain ⟨Ax, cx, Ux, rfl, -⟩ := id hkm'.parts
          have hmem : (ofHead fs h)[k] ∈ ofHead fs h := List.getElem_mem hkm
          have hmf : (ofHead fs h)[k] ∈ fs ∧ (ofHead fs h)[k].head = h := by
            have := List.mem_filter.1 hmem
            exact ⟨this.1, by simpa using this.2⟩
          have HMF := Lib.hid hmf
          have HIA := Lib.hid (hI.next (al1 wr (.cells #[.string (ofHead fs h)[k].head, .slice Au (ofHead fs h)[k].body.length cu, .int .i64 (ofHead fs h)[k].term.kind, .int .i64 (ofHead fs h)[k].term.num, .slice Ax (ofHead fs h)[k].term.kids.length cx] 67)))
          have HSUB := Lib.hid hsub
          have HDN := Lib.hid hdone
          have HCB := Lib.hid hbcell
          have HBZ := Lib.hid hbz
          unfold maxLen at hbm
          clear hcc hc0 hc1 hc2 hc3 hc4 hst hkm' htop hbw hI hsub hdone hbcell hbz hmem hmf
          go_wp2
          clear k0 k1 k2 k3 k4
          generalize wr.alloc (.cells #[.string (ofHead fs h)[k].head, .slice Au (ofHead fs h)[k].body.length cu, .int .i64 (ofHead fs h)[k].term.kind, .int .i64 (ofHead fs h)[k].term.num, .slice Ax (ofHead fs h)[k].term.kids.length cx] 67) = wy at HIA ⊢
          go_loopg [6, 11, 42] (ofHead fs h)[k].body.length (fun gk v6 _ v42 wr => ∃ (q : Nat) (rt ot : List ByteArray), v42 = .int .i64 q ∧ q ≤ (ofHead fs h)[k].body.length ∧ RcI w wr fs start v6 rt ot (· = h) ∧ (∀ x ∈ rq, x ∈ rt) ∧ (∀ j (hj : j < (ofHead fs h)[k].body.length), j < q → tokB (ofHead fs h)[k].body[j] = false → (ofHead fs h)[k].body[j] ∈ rt) ∧ 2 * (1 + bulkDs fs - rt.length) + ot.length ≤ 2 * (1 + bulkDs fs - rq.length) + oq.length ∧ gk = (ofHead fs h)[k].body.length - q)
          case atStart => exact ⟨0, rq, oq, rfl, by omega, HIA.out, (fun _ hx => hx), (fun j _ hj => by omega), Nat.le_refl _, rfl⟩
          case round =>
            clear HIA
            obtain ⟨q, rt, ot, rfl, hq, hI, hsub, hdone, hcost3, rfl⟩ := hrel
            have hzt := hI.below.size
            have hrtl := hI.num.len
            have HI := Lib.hid hI
            have HSUB3 := Lib.hid hsub
            have HDN3 := Lib.hid hdone
            have hle := hI.le
            by_cases hqm : q < (ofHead fs h)[k].body.length
            · obtain ⟨b2, off2, rfl, _, hb2h, hcc2⟩ := HCB.out (by omega)
              have hcs := (hI.below.cell (p := ⟨b2, off2 + q, none⟩) (by show b2 < _; omega)).trans (hcc2 q hqm)
              have HSZ := Lib.hid (HBZ.out _ (List.getElem_mem hqm))
              have i1 : (q : Int) < ((ofHead fs h)[k].body.length : Int) := by omega
              clear hcc2 hI hsub hdone
              cases ht : tokB (ofHead fs h)[k].body[q]
              · have HT := Lib.hid ht
                clear ht
                go_wp2_with fail
                refine (implIsToken_any _ _).mono ?_
                rintro e w3 ⟨rfl, b3⟩
                rw [HT.out]
                have HI3 := Lib.hid (HI.out.next b3)
                have hlk := HI3.out.set.look HSZ.out
                clear b3
                cases hin : inB rt (ofHead fs h)[k].body[q]
                · rw [hin] at hlk
                  have HIN := Lib.hid hin
                  clear hin
                  obtain ⟨w4, hup, hS4, hg4, hz4⟩ := HI3.out.set.put (s := (ofHead fs h)[k].body[q]) (by unfold maxLen; omega) HSZ.out
                  have HS4 := Lib.hid hS4
                  have HG4 := Lib.hid hg4
                  have HOW := Lib.hid (HI3.out.stk.keep (w' := w4) fun g' hg' => hg4.block g' (World.ownsRow.lt HI3.out.stk g' hg').2 fun e => by
                    injection e with e
                    have := (World.ownsRow.lt HI3.out.stk g' hg').1
                    omega)
                  have hz4' : w.heap.size + 1 ≤ w4.heap.size := by have := hS4.lt; omega
                  clear hS4 hg4 hz4
                  go_wp2_with (at_builtin; refine wpList_append_lies _ rfl _ _ 63 rfl (w.heap.size + 1) 9 s0 _ 1 16 Try.underlying63 hs0 hx0 hx1 hx2 rfl (by decide) _ ot.length (ot.map Value.string) rfl (World.ownsRow.alloc HOW.out _) ⟨w4.heap.size, 0, none⟩ 1 1 [.string (ofHead fs h)[k].body[q]] rfl rfl (cell_one_new _ _ _) (one_str _) (by omega) (by unfold maxLen; omega) (by omega) (by simp; omega) (w4.heap.size + 1) (by simp) ?_)
                  intro gg capg w5 hown5 hg5 hat5 hlt5
                  have FIN := Lib.hid (HI3.out.push HMF.out.1 (by rw [HMF.out.2]; exact HSUB3.out _ (HSUB.out _ HHRC.out)) (List.getElem_mem hqm) HT.out HIN.out HSZ.out HS4.out HG4.out (v' := .slice (some ⟨gg, 0, none⟩) (ot.length + 1) capg) (by unfold StkS; rw [List.map_append, List.length_append]; exact hown5) hg5)
                  clear hown5 hg5 hat5 hlt5 hup hlk
                  go_wp2
                  go_roundg ((ofHead fs h)[k].body.length - (q + 1))
                  case rel =>
                    have := FIN.out.num.len
                    simp only [List.length_append, List.length_singleton] at this
                    exact ⟨q + 1, _, _, by go_num, by omega, FIN.out, (fun x hx => List.mem_append_left _ (HSUB3.out x hx)), (fun j hj hjq hjt => by
                      by_cases e : j = q
                      · subst e; simp
                      · exact List.mem_append_left _ (HDN3.out j hj (by omega) hjt)), by simp only [List.length_append, List.length_singleton]; omega, rfl⟩
                  case measure => omega
                · rw [hin] at hlk
                  have HIN := Lib.hid hin
                  clear hin
                  go_wp2
                  go_roundg ((ofHead fs h)[k].body.length - (q + 1))
                  case rel => exact ⟨q + 1, rt, ot, by go_num, by omega, HI3.out, HSUB3.out, (fun j hj hjq hjt => by
                      by_cases e : j = q
                      · subst e; exact (inB_iff _ _).1 HIN.out
                      · exact HDN3.out j hj (by omega) hjt), hcost3, rfl⟩
                  case measure => omega
              · have HT := Lib.hid ht
                clear ht
                go_wp2_with fail
                refine (implIsToken_any _ _).mono ?_
                rintro e w3 ⟨rfl, b3⟩
                rw [HT.out]
                have HI3 := Lib.hid (HI.out.next b3)
                clear b3
                go_wp2
                go_roundg ((ofHead fs h)[k].body.length - (q + 1))
                case rel => exact ⟨q + 1, rt, ot, by go_num, by omega, HI3.out, HSUB3.out, (fun j hj hjq hjt => by
                      by_cases e : j = q
                      · subst e; rw [HT.out] at hjt; cases hjt
                      · exact HDN3.out j hj (by omega) hjt), hcost3, rfl⟩
                case measure => omega
            · clear hI hsub hdone
              go_wp2
              go_roundg ((ofHead fs h).length - (k + 1))
              case rel => exact ⟨k + 1, rt, ot, by go_num, by omega, HI.out, (fun x hx => HSUB3.out x (HSUB.out x hx)), (fun i hi hik s hs hts => by
                  by_cases e : i = k
                  · subst e
                    obtain ⟨j, hj, rfl⟩ := List.getElem_of_mem hs
                    exact HDN3.out j hj (by omega) hts
                  · exact HSUB3.out _ (HDN.out i hi (by omega) s hs hts)), by omega, rfl⟩
              case measure => omega
        · have HI := Lib.hid hI
          have HD : Hid (DoneF fs rq h) := Lib.hid (fun m hm e s hs ht => by
            have hmo : m ∈ ofHead fs h := List.mem_filter.2 ⟨hm, by simpa using e⟩
            obtain ⟨i, hi, rfl⟩ := List.getElem_of_mem hmo
            exact hdone i hi (by omega) s hs ht)
          clear hI hsub hdone
          go_wp2
          go_roundg (2 * (1 + bulkDs fs - rq.length) + oq.length)
          case rel => exact ⟨rq, oq, ⟨HI.out.below, HI.out.set, HI.out.stk, HI.out.num.shut HD.out, HI.out.few, HI.out.le⟩, rfl⟩
          case measure => rw [List.length_append, List.length_singleton]; omega
end Go.Proofs.Ytiochjagolijfaa
