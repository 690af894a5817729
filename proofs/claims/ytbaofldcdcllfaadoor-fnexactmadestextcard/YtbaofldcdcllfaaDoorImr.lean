/- Is a term right? The program: fieldsRight, rightWithin. -/
import Derived.Test.YtbaofldcdcllfaaDoorSmp
namespace Go.Proofs.YtbaofldcdcllfaaDoor
open Go.RowKit

set_option maxRecDepth 100000 in
set_option maxHeartbeats 4000000 in
theorem fieldsRight_any (t : TermD) (A : Option Addr) (c : Nat) (w : World) :
    Calls Tryd.prog 59 #[.agg #[.int .i64 t.kind, .int .i64 t.num, .slice A t.kids.length c]] w fun e w' => e = .returned (.bool (fieldB t)) ∧ Below w.heap.size w w' := by
  have hb0 := al1 w (.cells #[.int .i64 t.kind, .int .i64 t.num, .slice A t.kids.length c] 60)
  by_cases k1 : t.kind = 1
  · have HF : Hid (fieldB t = decide (t.num ≥ 0)) := Lib.hid (by unfold fieldB; rw [if_pos k1])
    have q1 : (t.kind == 1) = true := by simp [k1]
    clear k1
    go_enter Tryd.func59, Tryd.ntmps59
    go_wp2
    go_ret
    exact ⟨ret_boolM HF.out.symm, hb0⟩
  have q1 : (t.kind == 1) = false := by simp [k1]
  by_cases k2 : t.kind = 2
  · have q2 : (t.kind == 2) = true := by simp [k2]
    by_cases hn : t.num ≥ 0
    · have HF : Hid (fieldB t = ((t.kids.length : Int) == 0)) := Lib.hid (by
        unfold fieldB; rw [if_neg k1, if_pos k2, decide_eq_true hn, Bool.true_and, Bool.eq_iff_iff, decide_eq_true_eq, beq_iff_eq]; omega)
      have q3 : decide (t.num ≥ 0) = true := decide_eq_true hn
      clear k1 k2 hn
      go_enter Tryd.func59, Tryd.ntmps59
      go_wp2
      go_ret
      exact ⟨ret_boolM HF.out.symm, hb0⟩
    · have HF : Hid (fieldB t = false) := Lib.hid (by
        unfold fieldB; rw [if_neg k1, if_pos k2, decide_eq_false hn, Bool.false_and])
      have q3 : decide (t.num ≥ 0) = false := decide_eq_false hn
      clear k1 k2 hn
      go_enter Tryd.func59, Tryd.ntmps59
      go_wp2
      go_ret
      exact ⟨ret_boolM HF.out.symm, hb0⟩
  have q2 : (t.kind == 2) = false := by simp [k2]
  by_cases k3 : t.kind = 3
  · have q3 : (t.kind == 3) = true := by simp [k3]
    by_cases hn : t.num = 0
    · have HF : Hid (fieldB t = ((t.kids.length : Int) == 0)) := Lib.hid (by
        unfold fieldB; rw [if_neg k1, if_neg k2, if_pos k3, decide_eq_true hn, Bool.true_and, Bool.eq_iff_iff, decide_eq_true_eq, beq_iff_eq]; omega)
      have q4 : (t.num == 0) = true := by simp [hn]
      clear k1 k2 k3 hn
      go_enter Tryd.func59, Tryd.ntmps59
      go_wp2
      go_ret
      exact ⟨ret_boolM HF.out.symm, hb0⟩
    · have HF : Hid (fieldB t = false) := Lib.hid (by
        unfold fieldB; rw [if_neg k1, if_neg k2, if_pos k3, decide_eq_false hn, Bool.false_and])
      have q4 : (t.num == 0) = false := by simp [hn]
      clear k1 k2 k3 hn
      go_enter Tryd.func59, Tryd.ntmps59
      go_wp2
      go_ret
      exact ⟨ret_boolM HF.out.symm, hb0⟩
  have q3 : (t.kind == 3) = false := by simp [k3]
  by_cases k4 : t.kind = 4
  · have q4 : (t.kind == 4) = true := by simp [k4]
    by_cases hn : t.num = 0
    · have HF : Hid (fieldB t = ((t.kids.length : Int) == 2)) := Lib.hid (by
        unfold fieldB; rw [if_neg k1, if_neg k2, if_neg k3, if_pos k4, decide_eq_true hn, Bool.true_and, Bool.eq_iff_iff, decide_eq_true_eq, beq_iff_eq]; omega)
      have q5 : (t.num == 0) = true := by simp [hn]
      clear k1 k2 k3 k4 hn
      go_enter Tryd.func59, Tryd.ntmps59
      go_wp2
      go_ret
      exact ⟨ret_boolM HF.out.symm, hb0⟩
    · have HF : Hid (fieldB t = false) := Lib.hid (by
        unfold fieldB; rw [if_neg k1, if_neg k2, if_neg k3, if_pos k4, decide_eq_false hn, Bool.false_and])
      have q5 : (t.num == 0) = false := by simp [hn]
      clear k1 k2 k3 k4 hn
      go_enter Tryd.func59, Tryd.ntmps59
      go_wp2
      go_ret
      exact ⟨ret_boolM HF.out.symm, hb0⟩
  have q4 : (t.kind == 4) = false := by simp [k4]
  have HF : Hid (fieldB t = false) := Lib.hid (by unfold fieldB; rw [if_neg k1, if_neg k2, if_neg k3, if_neg k4])
  clear k1 k2 k3 k4
  go_enter Tryd.func59, Tryd.ntmps59
  go_wp2
  go_ret
  exact ⟨ret_boolM HF.out.symm, hb0⟩

/-- a term is right, no deeper than that, and of no more terms -/
def fitM (d : Nat) (t : TermD) (l : Int) : Bool := decide ((sizeM t : Int) ≤ l) && partM d t
/-- all of these are, one behind the other -/
def fitMs (d : Nat) (ts : List TermD) (l : Int) : Bool := decide ((sizeMs ts : Int) ≤ l) && ts.all (partM d)
theorem sizeM_pos (t : TermD) : 1 ≤ sizeM t := by rw [sizeM_eq]; omega
theorem fitM_small {d : Nat} {t : TermD} {l : Int} (h : l < 1) : fitM d t l = false := by
  unfold fitM; rw [decide_eq_false (by have := sizeM_pos t; omega)]; rfl
theorem fitM_field {d : Nat} {t : TermD} {l : Int} (h : fieldB t = false) : fitM d t l = false := by
  unfold fitM; rw [partM_field h, Bool.and_false]
theorem fitM_kids {d : Nat} {t : TermD} {l : Int} (h : fieldB t = true) : fitM (d + 1) t l = fitMs d t.kids (l - 1) := by
  unfold fitM fitMs; rw [partM_kids h, sizeM_eq]
  congr 1
  rw [Bool.eq_iff_iff, decide_eq_true_eq, decide_eq_true_eq]; omega
theorem fitMs_no {d : Nat} {ts : List TermD} {l : Int} {j : Nat} (hj : j < ts.length) (h : fitM d ts[j] (l - sizeMs (ts.take j)) = false) : fitMs d ts l = false := by
  unfold fitM at h
  unfold fitMs
  rw [Bool.and_eq_false_iff] at h ⊢
  rcases h with h | h
  · left
    rw [decide_eq_false_iff_not] at h ⊢
    have h1 := sizeMs_take ts j hj
    have h2 := sizeMs_take_le ts (j + 1)
    omega
  · right
    exact all_take_no _ _ _ hj h
theorem fitMs_yes {d : Nat} {ts : List TermD} {l : Int} (h : 0 ≤ l - sizeMs ts) (h2 : ts.all (partM d) = true) : fitMs d ts l = true := by
  unfold fitMs; rw [h2, decide_eq_true (by omega)]; rfl

/-- what rightWithin leaves: the block of what is left has turned, no other -/
def RwP (d : Nat) (t : TermD) (g : Nat) (l : Int) (w : World) (e : Ending) (w' : World) : Prop :=
  ∃ l' : Int, e = .returned (.bool (fitM d t l)) ∧ Row w' g 3 #[.int .i64 l'] ∧ (fitM d t l = true → l' = l - sizeM t) ∧ But g w w'
def RwC (d : Nat) : Prop := ∀ (t : TermD) (z : Bool) (u : Value) (lo hi g : Nat) (l : Int) (w : World), KM z w lo hi u t.kids → hi ≤ g → Row w g 3 #[.int .i64 l] → 0 ≤ l → l ≤ 200 →
  Calls Tryd.prog 53 #[tmV t u, .int .i64 (d : Int), .pointer (some ⟨g, 0, none⟩)] w (RwP d t g l w)

set_option maxRecDepth 100000 in
set_option maxHeartbeats 4000000 in
theorem rightWithin_of (d : Nat) (hd : d ≤ 30) (ih : ∀ k, d = k + 1 → RwC k) : RwC d := by
  intro t z u lo hi g l w h hg hrow hl0 hl1
  obtain ⟨A, c, U, rfl, hlc, hc, hs, hcell, hsub⟩ := h.parts
  unfold maxLen at hc
  have HC := Lib.hid hcell
  have HB := Lib.hid hsub
  have hgl := hrow.lt
  clear hcell hsub h hs
  unfold tmV
  have g0 := hrow.cell 0
  have f0 := hrow.free 0
  simp at g0
  have zs : (w.setCell ⟨g, 0, none⟩ (.int .i64 (l - 1))).heap.size = w.heap.size := by simp [World.setCell]
  have G1 : Row ((w.setCell ⟨g, 0, none⟩ (.int .i64 (l - 1))).alloc (.cells #[.int .i64 t.kind, .int .i64 t.num, .slice A t.kids.length c] 60)) g 3 #[.int .i64 (l - 1)] := (hrow.put 0 _).alloc _
  have R1 : Row ((w.setCell ⟨g, 0, none⟩ (.int .i64 (l - 1))).alloc (.cells #[.int .i64 t.kind, .int .i64 t.num, .slice A t.kids.length c] 60)) w.heap.size 60 #[.int .i64 t.kind, .int .i64 t.num, .slice A t.kids.length c] := by
    have := Row.made (w.setCell ⟨g, 0, none⟩ (.int .i64 (l - 1))) 60 #[.int .i64 t.kind, .int .i64 t.num, .slice A t.kids.length c]
    rwa [zs] at this
  have hbut1 : But g w ((w.setCell ⟨g, 0, none⟩ (.int .i64 (l - 1))).alloc (.cells #[.int .i64 t.kind, .int .i64 t.num, .slice A t.kids.length c] 60)) := ((But.refl g w).setCell _).trans (But.of (al1 _ _))
  have Z1 : Hid (((w.setCell ⟨g, 0, none⟩ (.int .i64 (l - 1))).alloc (.cells #[.int .i64 t.kind, .int .i64 t.num, .slice A t.kids.length c] 60)).heap.size = w.heap.size + 1) := Lib.hid (by simp [World.setCell])
  have g1 := (hrow.put 0 (.int .i64 (l - 1))).cell 0
  simp at g1
  clear zs hrow
  have fin0 : fitM d t l = false → RwP d t g l w (.returned (.bool false)) ((w.setCell ⟨g, 0, none⟩ (.int .i64 (l - 1))).alloc (.cells #[.int .i64 t.kind, .int .i64 t.num, .slice A t.kids.length c] 60)) := fun e => ⟨l - 1, by rw [e], G1, (fun h => by rw [e] at h; cases h), hbut1⟩
  by_cases h0 : d = 0
  · subst h0
    have FIN := Lib.hid (fin0 (by unfold fitM partM; simp))
    clear fin0
    go_enter Tryd.func53, Tryd.ntmps53
    go_wp2
    go_ret
    exact FIN.out
  obtain ⟨k, rfl⟩ : ∃ k, d = k + 1 := ⟨d - 1, by omega⟩
  have IH := Lib.hid (ih k rfl)
  clear ih h0
  have q0 : decide ((k : Int) + 1 < 1) = false := decide_eq_false (by omega)
  by_cases hl : l < 1
  · have FIN := Lib.hid (fin0 (fitM_small hl))
    have q1 : decide (l - 1 < 0) = true := decide_eq_true (by omega)
    clear fin0
    go_enter Tryd.func53, Tryd.ntmps53
    go_wp2
    go_ret
    exact FIN.out
  have q1 : decide (l - 1 < 0) = false := decide_eq_false (by omega)
  have HFIN := Lib.hid fin0
  clear fin0
  cases hf : fieldB t
  · have HF := Lib.hid hf
    have HFF := Lib.hid (fitM_field (d := k + 1) (l := l) hf)
    clear hf
    go_enter Tryd.func53, Tryd.ntmps53
    go_wp2_with fail
    generalize (w.setCell ⟨g, 0, none⟩ (.int .i64 (l - 1))).alloc (.cells #[.int .i64 t.kind, .int .i64 t.num, .slice A t.kids.length c] 60) = w1 at G1 R1 hbut1 Z1 HFIN ⊢
    refine (fieldsRight_any t A c w1).mono ?_
    rintro e w2 ⟨rfl, b2⟩
    rw [HF.out]
    have FIN : Hid (RwP (k + 1) t g l w (.returned (.bool false)) w2) := Lib.hid ⟨l - 1, by rw [HFF.out], G1.below b2 G1.lt, (fun h => by rw [HFF.out] at h; cases h), hbut1.trans (But.of b2)⟩
    go_wp2
    go_ret
    exact FIN.out
  · have HF := Lib.hid hf
    have HFK := Lib.hid (fitM_kids (d := k) (l := l) hf)
    have hsz := sizeM_eq t
    clear hf HFIN
    go_enter Tryd.func53, Tryd.ntmps53
    go_wp2_with fail
    generalize (w.setCell ⟨g, 0, none⟩ (.int .i64 (l - 1))).alloc (.cells #[.int .i64 t.kind, .int .i64 t.num, .slice A t.kids.length c] 60) = w1 at G1 R1 hbut1 Z1 ⊢
    refine (fieldsRight_any t A c w1).mono ?_
    rintro e w2 ⟨rfl, b2⟩
    rw [HF.out]
    have G2 := G1.below b2 G1.lt
    have R2 := R1.below b2 R1.lt
    have hbut2 := hbut1.trans (But.of b2)
    have HZ := Lib.hid hsz
    have c2 := R2.cell 2
    simp at c2
    have l2 := R2.lt
    clear b2 hbut1 G1 R1 g0 f0 g1 Z1 hsz
    go_wp2
    go_loopw [30] (fun i wr => ∃ j : Nat, j ≤ t.kids.length ∧ i = .int .i64 j ∧ (t.kids.take j).all (partM k) = true ∧ 0 ≤ l - 1 - (sizeMs (t.kids.take j) : Int) ∧ Row wr g 3 #[.int .i64 (l - 1 - (sizeMs (t.kids.take j) : Int))] ∧ But g w2 wr) (fun i _ => t.kids.length - (intOf i).toNat)
    case atStart => exact ⟨0, by omega, rfl, by simp, by simp [sizeMs]; omega, by simpa [sizeMs] using G2, But.refl _ _⟩
    case round =>
      obtain ⟨j, hj, rfl, hall, hle, hG, hbt⟩ := hrel
      have HA := Lib.hid hall
      have hsw := hbt.size
      clear hall
      by_cases hlt : j < t.kids.length
      · obtain ⟨b, off, rfl, _, hbh, _, hcc⟩ := HC.out (by omega)
        obtain ⟨hc0, hc1, hc2⟩ := hcc j hlt
        have hbx := hbut2.trans hbt
        have k0 := (hbx.cell (q := ⟨b, off + j * 3, none⟩) (by show b < _; omega) (by show b ≠ _; omega)).trans hc0
        have k1 := (hbx.cell (q := ⟨b, off + j * 3 + 1, none⟩) (by show b < _; omega) (by show b ≠ _; omega)).trans hc1
        have k2 := (hbx.cell (q := ⟨b, off + j * 3 + 2, none⟩) (by show b < _; omega) (by show b ≠ _; omega)).trans hc2
        have hst := HB.out j hlt
        generalize U j = uj at k2 hst
        obtain ⟨A', c', U', hu, -⟩ := hst.parts
        subst hu
        have hbx2 : But g w (wr.alloc (.cells #[.int .i64 t.kids[j].kind, .int .i64 t.kids[j].num, .slice A' t.kids[j].kids.length c'] 60)) := hbx.trans (But.of (al1 _ _))
        have hst' := hst.keep (hbx2.keeps (by omega) (.inl hg))
        have hts := sizeMs_take t.kids j hlt
        have HT := Lib.hid hts
        have hG2 := hG.alloc (.cells #[.int .i64 t.kids[j].kind, .int .i64 t.kids[j].num, .slice A' t.kids[j].kids.length c'] 60)
        clear hcc hc0 hc1 hc2 hts hbx2 hst
        cases hp : fitM k t.kids[j] (l - 1 - (sizeMs (t.kids.take j) : Int))
        · have HP := Lib.hid hp
          have HN := Lib.hid (fitMs_no (l := l - 1) hlt hp)
          clear hp
          go_wp2_with fail
          refine (IH.out t.kids[j] z _ lo hi g _ _ hst' hg hG2 hle (by omega)).mono ?_
          rintro e w3 ⟨l', rfl, hG3, _, hb3⟩
          rw [HP.out]
          have FIN : Hid (RwP (k + 1) t g l w (.returned (.bool false)) w3) := Lib.hid ⟨l', by rw [HFK.out, HN.out], hG3, (fun h => by rw [HFK.out, HN.out] at h; cases h), hbx.trans ((But.of (al1 _ _)).trans hb3)⟩
          go_wp2
          go_ret
          exact FIN.out
        · have HP := Lib.hid hp
          clear hp
          go_wp2_with fail
          refine (IH.out t.kids[j] z _ lo hi g _ _ hst' hg hG2 hle (by omega)).mono ?_
          rintro e w3 ⟨l', rfl, hG3, hl3, hb3⟩
          have hl4 := hl3 HP.out
          have HP2 : Hid (sizeM t.kids[j] ≤ l - 1 - (sizeMs (t.kids.take j) : Int) ∧ partM k t.kids[j] = true) := Lib.hid (by
            have := HP.out
            unfold fitM at this
            rw [Bool.and_eq_true, decide_eq_true_eq] at this
            exact this)
          have HL4 := Lib.hid hl4
          rw [HP.out]
          clear hl3 hl4
          go_wp2
          go_roundw
          case rel =>
            have e1 := HT.out
            have e2 := HL4.out
            have e3 := HP2.out
            refine ⟨j + 1, by omega, by go_num, by rw [all_take _ _ _ hlt, HA.out, e3.2]; rfl, by rw [e1]; omega, ?_, hbt.trans ((But.of (al1 _ _)).trans hb3)⟩
            rw [show l - 1 - ((sizeMs (t.kids.take (j + 1)) : Nat) : Int) = l' by rw [e1, e2]; omega]
            exact hG3
          case measure => simp [intOf]; omega
      · have hks : j = t.kids.length := by omega
        have HK := Lib.hid hks
        clear hks
        have FIN : Hid (RwP (k + 1) t g l w (.returned (.bool true)) wr) := Lib.hid (by
          have e := HK.out
          have a := HA.out
          subst e
          rw [List.take_length] at a hle hG
          have ht : fitM (k + 1) t l = true := by rw [HFK.out]; exact fitMs_yes hle a
          exact ⟨_, by rw [ht], hG, (fun _ => by rw [HZ.out]; omega), hbut2.trans hbt⟩)
        go_wp2
        go_ret
        exact FIN.out
theorem rightWithin_any : ∀ d, d ≤ 30 → RwC d := by
  intro d
  induction d with
  | zero => intro h; exact rightWithin_of 0 h (fun k e => by omega)
  | succ d ih => intro h; exact rightWithin_of (d + 1) h (fun k e => by
    have hk : k = d := by omega
    rw [hk]
    exact ih (by omega))

set_option maxRecDepth 100000 in
set_option maxHeartbeats 1000000 in
theorem implTermRight_any (t : TermD) (z : Bool) (u : Value) (lo hi : Nat) (w : World) (h : KM z w lo hi u t.kids) (hhi : hi ≤ w.heap.size) :
    Calls Tryd.prog 41 #[tmV t u] w fun e w' => e = .returned (.bool (termB t)) ∧ Below w.heap.size w w' := by
  have hb := al2 w (.cells #[.int .i64 t.kind, .int .i64 t.num, u] 60) (.cells #[.int .i64 200] 3)
  have HK := Lib.hid (h.under hb hhi)
  have G0 : Row ((w.alloc (.cells #[.int .i64 t.kind, .int .i64 t.num, u] 60)).alloc (.cells #[.int .i64 200] 3)) (w.heap.size + 1) 3 #[.int .i64 200] := by
    simpa using Row.made (w.alloc (.cells #[.int .i64 t.kind, .int .i64 t.num, u] 60)) 3 #[.int .i64 200]
  have HE : Hid (fitM 30 t 200 = termB t) := Lib.hid (by
    unfold fitM termB
    congr 1
    rw [Bool.eq_iff_iff, decide_eq_true_eq, decide_eq_true_eq]; omega)
  obtain ⟨A, c, U, rfl, -⟩ := h.parts
  clear h
  unfold tmV
  go_enter Tryd.func41, Tryd.ntmps41
  go_wp2_with fail
  refine (rightWithin_any 30 (Nat.le_refl _) t z _ lo hi (w.heap.size + 1) 200 _ HK.out (by omega) G0 (by omega) (by omega)).mono ?_
  rintro e w1 ⟨l', rfl, hG, _, hb1⟩
  have FB := Lib.hid (hb.trans (hb1.below (B := w.heap.size) (by omega) (by simp; omega)))
  go_wp2
  go_ret
  exact ⟨ret_boolM HE.out, FB.out⟩
end Go.Proofs.YtbaofldcdcllfaaDoor
