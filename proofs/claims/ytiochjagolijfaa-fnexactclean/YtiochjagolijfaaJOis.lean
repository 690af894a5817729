import Derived.Test.YtiochjagolijfaaJGmd
import Derived.Test.YtiochjagolijfaaJMark
import Derived.Test.YtiochjagolijfaaJTo
import Derived.Deep.LoopGhost
/- One Made of a list of the call's own becomes another one; Mades with marks, as data. No program stands in this text but its types' numbers. -/
namespace Go.Proofs.Ytiochjagolijfaa
open Go.RowKit

theorem flatD_get (xs : List Gx) (q : Nat) (h : q < xs.length * 5) : (flatD xs)[q]? = (xs[q / 5]'(by omega)).cells[q % 5]? := by
  have := flatD_at xs (q / 5) (q % 5) (by omega) (by omega)
  rw [← this]
  congr 1
  omega
/-- the j-th Made of a list, and what is to be shown when it becomes another one -/
theorem GrowD.turn {w : World} {base : Nat} {v : Value} {xs : List Gx} (a : GrowD w base v xs) {j : Nat} (hj : j < xs.length) :
    ∃ g c cur, v = .slice (some ⟨g, 0, none⟩) xs.length c ∧ base ≤ g ∧ Row w g 67 cur ∧ xs.length * 5 ≤ cur.size ∧ (∀ r, r < 5 → cur[j * 5 + r]? = xs[j].cells[r]?) ∧ GxAt w base xs[j] ∧ (g < xs[j].l ∨ xs[j].h ≤ g) ∧
      ∀ (w' : World) (y : Gx), y.l = xs[j].l → y.h = xs[j].h → y.u = xs[j].u → y.x = xs[j].x → GxAt w' base y → w.heap.size ≤ w'.heap.size →
        Row w' g 67 (((cur.setIfInBounds (j * 5) (.string y.m.head)).setIfInBounds (j * 5 + 2) (.int .i64 y.m.term.kind)).setIfInBounds (j * 5 + 3) (.int .i64 y.m.term.num)) →
        (∀ p, base ≤ p → p < w.heap.size → p ≠ g → (p < xs[j].l ∨ xs[j].h ≤ p) → w'.heap[p]? = w.heap[p]?) → GrowD w' base v (xs.set j y) := by
  rcases a.row.2 with ⟨rfl, h0⟩ | ⟨g, cap, cur, rfl, hb, hh, hc, hm, hs, ht⟩
  · omega
  have hr : Row w g 67 cur := hh
  have cell : ∀ q (hq : q < xs.length * 5), cur[q]? = (xs[q / 5]'(by omega)).cells[q % 5]? := fun q hq => by
    rw [← flatD_get xs q hq, ← ht, List.getElem?_take_of_lt (by omega), Array.getElem?_toList]
  refine ⟨g, cap, cur, rfl, hb, hr, by omega, fun r hr' => ?_, a.each _ (List.getElem_mem hj), a.out g rfl _ (List.getElem_mem hj), fun w' y e1 e2 e3 e4 hy hsz hr' hk => ?_⟩
  · have h1 : (j * 5 + r) / 5 = j := by omega
    have h2 : (j * 5 + r) % 5 = r := by omega
    rw [cell _ (by omega)]
    simp only [h1, h2]
  · have hlen : (xs.set j y).length = xs.length := List.length_set
    have sep : ∀ i (hi : i < xs.length), i ≠ j → xs[i].h ≤ xs[j].l ∨ xs[j].h ≤ xs[i].l := fun i hi hij => by
      have hp := List.pairwise_iff_getElem.1 a.pair
      rcases Nat.lt_or_gt_of_ne hij with q | q
      · exact .inl (hp i j hi hj q)
      · exact .inr (hp j i hj hi q)
    refine ⟨⟨by rw [flatD_len], .inr ⟨g, cap, _, by rw [hlen], hb, hr', by rw [hlen]; exact hc, hm, by simp [hs], ?_⟩⟩, fun x hx => ?_, ?_, fun p hp x hx => ?_⟩
    · refine List.ext_getElem? fun q => ?_
      by_cases hq : q < xs.length * 5
      · rw [List.getElem?_take_of_lt (by rw [hlen]; exact hq), Array.getElem?_toList, flatD_get _ q (by rw [hlen]; exact hq), List.getElem_set]
        by_cases e : j = q / 5
        · rw [if_pos e]
          have hcc := cell q hq
          have hxe : (xs[q / 5]'(by omega)) = xs[j] := by congr 1; exact e.symm
          rw [hxe] at hcc
          rcases (show q = j * 5 ∨ q = j * 5 + 1 ∨ q = j * 5 + 2 ∨ q = j * 5 + 3 ∨ q = j * 5 + 4 by omega) with h | h | h | h | h
          · rw [h, show j * 5 % 5 = 0 by omega, Array.getElem?_setIfInBounds_ne (by omega), Array.getElem?_setIfInBounds_ne (by omega), Array.getElem?_setIfInBounds_self_of_lt (by omega)]; rfl
          · rw [h] at hcc ⊢
            rw [show (j * 5 + 1) % 5 = 1 by omega] at hcc ⊢
            rw [Array.getElem?_setIfInBounds_ne (by omega), Array.getElem?_setIfInBounds_ne (by omega), Array.getElem?_setIfInBounds_ne (by omega), hcc]
            show some xs[j].u = some y.u
            rw [e3]
          · rw [h, show (j * 5 + 2) % 5 = 2 by omega, Array.getElem?_setIfInBounds_ne (by omega), Array.getElem?_setIfInBounds_self_of_lt (by simp; omega)]; rfl
          · rw [h, show (j * 5 + 3) % 5 = 3 by omega, Array.getElem?_setIfInBounds_self_of_lt (by simp; omega)]; rfl
          · rw [h] at hcc ⊢
            rw [show (j * 5 + 4) % 5 = 4 by omega] at hcc ⊢
            rw [Array.getElem?_setIfInBounds_ne (by omega), Array.getElem?_setIfInBounds_ne (by omega), Array.getElem?_setIfInBounds_ne (by omega), hcc]
            show some xs[j].x = some y.x
            rw [e4]
        · rw [if_neg e, Array.getElem?_setIfInBounds_ne (by omega), Array.getElem?_setIfInBounds_ne (by omega), Array.getElem?_setIfInBounds_ne (by omega), cell q hq]
      · rw [List.getElem?_take_eq_none (by rw [hlen]; omega), List.getElem?_eq_none (by rw [flatD_len, hlen]; omega)]
    · obtain ⟨i, hi, rfl⟩ := List.mem_iff_getElem.1 hx
      rw [hlen] at hi
      rw [List.getElem_set]
      by_cases e : j = i
      · rw [if_pos e]; exact hy
      · rw [if_neg e]
        have q := a.each xs[i] (List.getElem_mem hi)
        refine q.keep hsz fun p p1 p2 => hk p (by have := q.ord; omega) (by have := q.ord; omega) ?_ ?_
        · have := a.out g rfl _ (List.getElem_mem hi); omega
        · have := sep i hi (fun h => e h.symm); have := q.ord; omega
    · refine List.pairwise_iff_getElem.2 fun i k hi hk' hik => ?_
      rw [hlen] at hi hk'
      have hp := List.pairwise_iff_getElem.1 a.pair i k hi hk' hik
      rw [List.getElem_set, List.getElem_set]
      split <;> split
      · omega
      · rename_i h1 _; subst h1; rw [e2]; exact hp
      · rename_i _ h2; subst h2; rw [e1]; exact hp
      · exact hp
    · obtain rfl : g = p := by simpa [Value.ownBlock] using hp
      obtain ⟨i, hi, rfl⟩ := List.mem_iff_getElem.1 hx
      rw [hlen] at hi
      rw [List.getElem_set]
      split
      · rw [e1, e2]; exact a.out g rfl _ (List.getElem_mem hj)
      · exact a.out g rfl _ (List.getElem_mem hi)

/-- a Made into which marks from k on are laid -/
def markD (k : Nat) (m : MadeD) : MadeD := ⟨mt k, marks (k + 1) m.body.length, .node (k + 1 + m.body.length : Nat) (k + 2 + m.body.length : Nat) (markMs (k + 3 + m.body.length) m.term.kids)⟩
def cntD (m : MadeD) : Nat := 3 + m.body.length + 2 * sizeMs m.term.kids
def cntDs (ms : List MadeD) : Nat := (ms.map cntD).sum
def marksD : Nat → List MadeD → List MadeD
  | _, [] => []
  | k, m :: ms => markD k m :: marksD (k + cntD m) ms
theorem marksD_len (k : Nat) (ms : List MadeD) : (marksD k ms).length = ms.length := by
  induction ms generalizing k with
  | nil => rfl
  | cons m ms ih => simp [marksD, ih]
theorem marksD_at (k : Nat) (ms : List MadeD) (i : Nat) (h : i < (marksD k ms).length) : (marksD k ms)[i] = markD (k + cntDs (ms.take i)) (ms[i]'(by rw [marksD_len] at h; exact h)) := by
  induction ms generalizing k i with
  | nil => simp [marksD] at h
  | cons m ms ih =>
    cases i with
    | zero => simp [marksD, cntDs]
    | succ i =>
      have h' : i < (marksD (k + cntD m) ms).length := by simpa [marksD] using h
      have := ih (k + cntD m) i h'
      simp only [marksD, List.getElem_cons_succ, List.take_succ_cons, cntDs, List.map_cons, List.sum_cons]
      rw [this]
      congr 1
      unfold cntDs
      omega
theorem cntDs_take (ms : List MadeD) (k : Nat) (h : k < ms.length) : cntDs (ms.take (k + 1)) = cntDs (ms.take k) + cntD ms[k] := by
  unfold cntDs; rw [List.take_succ_eq_append_getElem h, List.map_append, List.sum_append]; simp
theorem cntDs_take_le (ms : List MadeD) (k : Nat) : cntDs (ms.take k) ≤ cntDs ms := by
  unfold cntDs
  conv => rhs; rw [← List.take_append_drop k ms]
  rw [List.map_append, List.sum_append]; omega
end Go.Proofs.Ytiochjagolijfaa

/- Numbers are laid into terms of a call's own, and found again: laws.markTermS, laws.heldTermS. -/
namespace Go.Proofs.Ytiochjagolijfaa
open Go.RowKit

def MkI (ts : List TermD) : Prop := ∀ (v : Value) (k lo hi : Nat) (w : World), OI w lo hi v ts → hi ≤ w.heap.size → 1 ≤ k → k + 2 * sizeMs ts ≤ 1000000000 →
  Calls Try.prog 35 #[v, .int .i64 (k : Int)] w fun e w' => e = .returned (.int .i64 ((k + 2 * sizeMs ts : Nat) : Int)) ∧ OI w' lo hi v (markMs k ts) ∧ Mid lo hi w w' ∧ w'.heap.size = w.heap.size

set_option maxRecDepth 100000 in
set_option maxHeartbeats 4000000 in
theorem markTermS_of (ts : List TermD) (ih : ∀ i (h : i < ts.length), MkI ts[i].kids) : MkI ts := by
  intro v k lo hi w h hh hk1 hk2
  have HO := Lib.hid h
  obtain ⟨A, c, U, L, E, rfl, hlc, hc, -⟩ := h.parts
  unfold maxLen at hc
  have hlen := length_sizeMs ts
  clear h
  go_enter Try.func35, Try.ntmps35
  go_wp2
  go_loopg [1, 5] ts.length (fun gk s1 s5 wr => ∃ j m : Nat, j ≤ ts.length ∧ s5 = .int .i64 j ∧ s1 = .int .i64 (m : Int) ∧ m = k + 2 * sizeMs (ts.take j) ∧ OI wr lo hi (.slice A ts.length c) (markUp k ts j) ∧ Mid lo hi w wr ∧ wr.heap.size = w.heap.size ∧ gk = ts.length - j)
  case atStart => exact ⟨0, k, by omega, rfl, rfl, by simp [sizeMs], by rw [markUp_zero]; exact HO.out, Mid.refl _ _ _, rfl, rfl⟩
  case round =>
    obtain ⟨j, m, hj, rfl, rfl, hm, hoi, hmid, hsz, rfl⟩ := hrel
    have hle := sizeMs_take_le ts j
    by_cases hlt : j < ts.length
    · have hsj := sizeMs_take ts j hlt
      have hst1 := sizeM_eq ts[j]
      have hle1 := sizeMs_take_le ts (j + 1)
      have hjl : j < (markUp k ts j).length := by rw [markUp_len]; exact hlt
      have hhere := markUp_here k ts j hlt
      obtain ⟨b, c9, cur, u, l, e, e9, hb1, hb2, hrow, hcs, q0, q1, q2, hl1, hl2, hl3, hbl, hsub, hturn⟩ := hoi.turn hjl
      rw [hhere] at hsub q0 q1
      injection e9 with e91 e92 e93
      subst e91 e93
      clear e92
      have HT := Lib.hid hturn
      have HST := Lib.hid (markUp_step k ts j hlt)
      have HM := Lib.hid hm
      have HMM := Lib.hid hmid
      have HSZ := Lib.hid hsz
      have hgl := hrow.lt
      have hm9 : m + 2 + 2 * sizeMs ts[j].kids ≤ 1000000000 := by omega
      have HM2 : Hid (m + 2 + 2 * sizeMs ts[j].kids = k + 2 * sizeMs (ts.take (j + 1))) := Lib.hid (by omega)
      have f0 := hrow.free (j * 3)
      have i1 : (j : Int) < (ts.length : Int) := by omega
      have R1 := hrow.put (j * 3) (.int .i64 (m : Int))
      have z1 : (wr.setCell ⟨b, j * 3, none⟩ (.int .i64 (m : Int))).heap.size = wr.heap.size := by simp [World.setCell]
      obtain ⟨u1, q1'⟩ := R1.there (i := j * 3 + 1) (by simp; omega)
      have f1 := R1.free (j * 3 + 1)
      have R2 := R1.put (j * 3 + 1) (.int .i64 ((m : Int) + 1))
      have q2' := R2.cell (j * 3 + 2)
      rw [Array.getElem?_setIfInBounds_ne (by omega), Array.getElem?_setIfInBounds_ne (by omega), q2] at q2'
      have hoth : ∀ p, p ≠ b → ((wr.setCell ⟨b, j * 3, none⟩ (.int .i64 (m : Int))).setCell ⟨b, j * 3 + 1, none⟩ (.int .i64 ((m : Int) + 1))).heap[p]? = wr.heap[p]? := fun p hp => by
        rw [Below.heap_setCell _ _ _ _ hp, Below.heap_setCell _ _ _ _ hp]
      have HS2 := Lib.hid (hsub.keep (w' := (wr.setCell ⟨b, j * 3, none⟩ (.int .i64 (m : Int))).setCell ⟨b, j * 3 + 1, none⟩ (.int .i64 ((m : Int) + 1))) fun p p1 p2 => hoth p (by omega))
      have HOT := Lib.hid hoth
      have M2 := Lib.hid ((hmid.setCell (p := ⟨b, j * 3, none⟩) hb1 hb2 (.int .i64 (m : Int))).setCell (p := ⟨b, j * 3 + 1, none⟩) hb1 hb2 (.int .i64 ((m : Int) + 1)))
      have HR2 := Lib.hid R2
      obtain ⟨A2, c2, U2, L2, E2, rfl, -⟩ := hsub.parts
      have hz2 : e ≤ wr.heap.size := by omega
      have cell0 := hrow.cell (j * 3)
      rw [q0] at cell0
      clear hm hsj hst1 hle1 hle hmid hsz hturn hhere hoi hsub hoth R1 R2 hrow q0 q1 q2
      go_wp2_with fail
      have step := ih j hlt _ (m + 2) l e ((wr.setCell ⟨b, j * 3, none⟩ (.int .i64 (m : Int))).setCell ⟨b, j * 3 + 1, none⟩ (.int .i64 ((m : Int) + 1))) HS2.out (by simp [World.setCell]; omega) (by omega) hm9
      rw [show ((m + 2 : Nat) : Int) = (m : Int) + 1 + 1 by omega] at step
      refine step.mono ?_
      rintro e4 w4 ⟨rfl, ho4, hmid4, hs4⟩
      clear step
      have FIN : Hid (OI w4 lo hi (.slice (some ⟨b, 0, none⟩) ts.length c) (markUp k ts (j + 1)) ∧ Mid lo hi w w4 ∧ w4.heap.size = w.heap.size) := Lib.hid (by
        have hz : ((wr.setCell ⟨b, j * 3, none⟩ (.int .i64 (m : Int))).setCell ⟨b, j * 3 + 1, none⟩ (.int .i64 ((m : Int) + 1))).heap.size = wr.heap.size := by simp [World.setCell]
        refine ⟨?_, M2.out.trans (hmid4.more hl1 hl3), by rw [hs4, hz]; exact HSZ.out⟩
        rw [← HST.out, ← HM.out]
        refine HT.out w4 (markM m ts[j]) ?_ ?_ ?_ fun p p1 p2 p3 p4 => ?_
        · rw [show TopM (markM m ts[j]) ↔ (-9223372036854775808 ≤ ((m + 1 : Nat) : Int) ∧ ((m + 1 : Nat) : Int) ≤ 9223372036854775807) ∧ -9223372036854775808 ≤ (m : Int) ∧ (m : Int) ≤ 9223372036854775807 by unfold TopM; rw [markM_kind, markM_num]]
          omega
        · rw [markM_kind, markM_num]
          have := HR2.out.same (w' := w4) (hmid4.block b (by rw [hz]; have := hgl; omega) (by omega))
          rw [show ((m + 1 : Nat) : Int) = (m : Int) + 1 by omega]
          exact this
        · rw [markM_kids]; exact ho4
        · rw [hmid4.block p (by rw [hz]; have := HSZ.out; omega) (by omega)]
          exact HOT.out p p3)
      clear ho4 hmid4 hs4
      go_wp2
      go_roundg (ts.length - (j + 1))
      case rel => exact ⟨j + 1, m + 2 + 2 * sizeMs ts[j].kids, by omega, by go_num, rfl, HM2.out, FIN.out.1, FIN.out.2.1, FIN.out.2.2, rfl⟩
      case measure => omega
    · have hje : j = ts.length := by omega
      subst hje
      rw [markUp_all] at hoi
      rw [List.take_length] at hm
      have HM := Lib.hid hm
      have FIN := Lib.hid (And.intro hoi (And.intro hmid hsz))
      clear hoi hmid hsz hm
      go_wp2
      go_ret
      exact ⟨ret_int (by rw [HM.out]), FIN.out⟩
theorem markTermS_any (ts : List TermD) : MkI ts := terms_ind markTermS_of ts
end Go.Proofs.Ytiochjagolijfaa
