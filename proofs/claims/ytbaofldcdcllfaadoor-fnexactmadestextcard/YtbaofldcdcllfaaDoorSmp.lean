/- Is a term right? The model: spec.l06Part, spec.TermRight. -/
import Derived.Test.YtbaofldcdcllfaaDoorJSmz
import Derived.BigQuiet
namespace Go.Proofs.YtbaofldcdcllfaaDoor
open Go.RowKit

theorem ret_boolM {a b : Bool} (h : a = b) : Ending.returned (.bool a) = .returned (.bool b) := by rw [h]
def SpQ (d : Nat) : Prop := ∀ (t : TermD) (z : Bool) (u : Value) (lo hi : Nat) (w : World), KM z w lo hi u t.kids → hi ≤ w.heap.size →
  Calls Tryd.prog 50 #[tmV t u, .int .i64 (d : Int)] w fun e w' => e = .returned (.bool (partM d t)) ∧ Below w.heap.size w w'

theorem partM_field {d : Nat} {t : TermD} (h : fieldB t = false) : partM d t = false := by
  cases d with
  | zero => rfl
  | succ d => rw [partM_succ, h]; rfl
theorem partM_kids {d : Nat} {t : TermD} (h : fieldB t = true) : partM (d + 1) t = t.kids.all (partM d) := by rw [partM_succ, h]; rfl
theorem partM_leaf {d : Nat} {t : TermD} (h : t.kids.length = 0) : partM (d + 1) t = fieldB t := by
  rw [partM_succ, List.length_eq_zero_iff.1 h]; simp

set_option maxRecDepth 100000 in
set_option maxHeartbeats 4000000 in
theorem specPart6_of (d : Nat) (hd : d ≤ 30) (ih : ∀ k, d = k + 1 → SpQ k) : SpQ d := by
  intro t z u lo hi w h hhi
  obtain ⟨A, c, U, rfl, hlc, hc, hs, hcell, hsub⟩ := h.parts
  unfold maxLen at hc
  have HC := Lib.hid hcell
  have HB := Lib.hid hsub
  clear hcell hsub h hs
  unfold tmV
  have hb0 := al1 w (.cells #[.int .i64 t.kind, .int .i64 t.num, .slice A t.kids.length c] 60)
  by_cases h0 : d = 0
  · subst h0
    go_enter Tryd.func50, Tryd.ntmps50
    go_wp2
    go_ret
    exact ⟨rfl, hb0⟩
  obtain ⟨k, rfl⟩ : ∃ k, d = k + 1 := ⟨d - 1, by omega⟩
  have IH := Lib.hid (ih k rfl)
  clear ih h0
  have q0 : decide (((k + 1 : Nat) : Int) ≤ 0) = false := decide_eq_false (by omega)
  by_cases hn : t.num < 0
  · have HF : Hid (fieldB t = false) := Lib.hid (by
      unfold fieldB
      rw [decide_eq_false (show ¬ 0 ≤ t.num by omega), decide_eq_false (show ¬ t.num = 0 by omega)]
      simp)
    go_enter Tryd.func50, Tryd.ntmps50
    go_wp2
    go_ret
    exact ⟨ret_boolM (partM_field HF.out).symm, hb0⟩
  have q1 : decide (t.num < 0) = false := decide_eq_false hn
  by_cases k2 : t.kind = 2
  · have HF : Hid (partM (k + 1) t = decide (t.kids.length = 0)) := Lib.hid (by
      by_cases e : t.kids.length = 0
      · rw [partM_leaf e]; unfold fieldB; rw [if_neg (by omega), if_pos k2, decide_eq_true (show 0 ≤ t.num by omega)]; rfl
      · rw [partM_field (by unfold fieldB; rw [if_neg (by omega), if_pos k2, decide_eq_false e, Bool.and_false]), decide_eq_false e])
    have q2 : (t.kind == 2) = true := by simp [k2]
    clear k2
    go_enter Tryd.func50, Tryd.ntmps50
    go_wp2
    go_ret
    exact ⟨ret_boolM (by rw [HF.out, Bool.eq_iff_iff, decide_eq_true_eq, beq_iff_eq]; omega), hb0⟩
  have q2 : (t.kind == 2) = false := by simp [k2]
  by_cases k3 : t.kind = 3
  · have q3 : (t.kind == 3) = true := by simp [k3]
    by_cases e : t.kids.length = 0
    · have HF : Hid (partM (k + 1) t = (t.num == 0)) := Lib.hid (by
        rw [partM_leaf e]; unfold fieldB; rw [if_neg (by omega), if_neg (by omega), if_pos k3, decide_eq_true e, Bool.and_true, Bool.eq_iff_iff]; simp)
      have q4 : ((t.kids.length : Int) == 0) = true := by simp [e]
      clear k2 k3 e
      go_enter Tryd.func50, Tryd.ntmps50
      go_wp2
      go_ret
      exact ⟨ret_boolM HF.out.symm, hb0⟩
    · have HF : Hid (partM (k + 1) t = false) := Lib.hid (partM_field (by unfold fieldB; rw [if_neg (by omega), if_neg (by omega), if_pos k3, decide_eq_false e, Bool.and_false]))
      have q4 : ((t.kids.length : Int) == 0) = false := by rw [beq_eq_false_iff_ne]; omega
      clear k2 k3 e
      go_enter Tryd.func50, Tryd.ntmps50
      go_wp2
      go_ret
      exact ⟨ret_boolM HF.out.symm, hb0⟩
  have q3 : (t.kind == 3) = false := by simp [k3]
  have main : fieldB t = true → Calls Tryd.prog 50 #[.agg #[.int .i64 t.kind, .int .i64 t.num, .slice A t.kids.length c], .int .i64 ((k + 1 : Nat) : Int)] w fun e w' => e = .returned (.bool (partM (k + 1) t)) ∧ Below w.heap.size w w' := by
    intro hf
    have HF := Lib.hid (partM_kids (d := k) hf)
    have hq : (t.kind = 4 ∧ t.num = 0 ∧ t.kids.length = 2) ∨ t.kind = 1 := by
      unfold fieldB at hf
      by_cases k1 : t.kind = 1
      · exact .inr k1
      · rw [if_neg k1, if_neg k2, if_neg k3] at hf
        split at hf
        · simp at hf; exact .inl ⟨by assumption, hf⟩
        · cases hf
    have q5 : (t.kind == 4) = true → ((t.kids.length : Int) != 2) = false ∧ (t.num != 0) = false := by
      intro e; simp at e; rcases hq with ⟨a, b, c⟩ | a
      · simp [b, c]
      · omega
    have q6 : (t.kind != 4) = true → (t.kind != 1) = false := by
      intro e; simp at e; rcases hq with ⟨a, b, c⟩ | a
      · omega
      · simp [a]
    have R0 := Row.made w 60 #[.int .i64 t.kind, .int .i64 t.num, .slice A t.kids.length c]
    have dk : ((k + 1 : Nat) : Int) - 1 = (k : Int) := by omega
    have hk30 : (k : Int) ≤ 30 := by omega
    have rest : ∀ w0 : World, w0 = w.alloc (.cells #[.int .i64 t.kind, .int .i64 t.num, .slice A t.kids.length c] 60) → True := fun _ _ => trivial
    clear hf hq rest k2 k3
    by_cases k4 : t.kind = 4
    · have q7 : (t.kind == 4) = true := by simp [k4]
      have q8 : (t.kind != 4) = false := by simp [k4]
      obtain ⟨q9, q10⟩ := q5 q7
      clear k4 q5 q6
      go_enter Tryd.func50, Tryd.ntmps50
      go_wp2
      generalize w.alloc (.cells #[.int .i64 t.kind, .int .i64 t.num, .slice A t.kids.length c] 60) = w0 at hb0 R0 ⊢
      go_loopw [6] (fun i wr => ∃ j : Nat, j ≤ t.kids.length ∧ i = .int .i64 j ∧ (t.kids.take j).all (partM k) = true ∧ Below w0.heap.size w0 wr) (fun i _ => t.kids.length - (intOf i).toNat)
      case atStart => exact ⟨0, by omega, rfl, by simp, Below.refl _ _⟩
      case round =>
        obtain ⟨j, hj, rfl, hall, hbw⟩ := hrel
        have HA := Lib.hid hall
        have hsw := hbw.size
        have hws := hb0.size
        have R1 := R0.below hbw R0.lt
        have hlt0 := R1.lt
        have c2 := R1.cell 2
        simp at c2
        clear hall R1
        by_cases hlt : j < t.kids.length
        · obtain ⟨b, off, rfl, _, hbh, _, hcc⟩ := HC.out (by omega)
          obtain ⟨hc0, hc1, hc2⟩ := hcc j hlt
          have hbx := hb0.trans (hbw.mono hws)
          have k0 := (hbx.cell (p := ⟨b, off + j * 3, none⟩) (by show b < _; omega)).trans hc0
          have k1 := (hbx.cell (p := ⟨b, off + j * 3 + 1, none⟩) (by show b < _; omega)).trans hc1
          have k2 := (hbx.cell (p := ⟨b, off + j * 3 + 2, none⟩) (by show b < _; omega)).trans hc2
          have hst' := (HB.out j hlt).under hbx hhi
          clear hcc hc0 hc1 hc2
          cases hp : partM k t.kids[j]
          · have HP := Lib.hid hp
            have HN := Lib.hid (all_take_no _ _ _ hlt hp)
            clear hp
            go_wp2_with fail
            refine (IH.out t.kids[j] z (U j) lo hi _ hst' (by omega)).mono ?_
            rintro e w1 ⟨rfl, hb1⟩
            rw [HP.out]
            go_wp2
            go_ret
            exact ⟨ret_boolM (by rw [HF.out, HN.out]), hb0.trans ((hbw.trans (hb1.mono hsw)).mono hws)⟩
          · have HP := Lib.hid hp
            clear hp
            go_wp2_with fail
            refine (IH.out t.kids[j] z (U j) lo hi _ hst' (by omega)).mono ?_
            rintro e w1 ⟨rfl, hb1⟩
            rw [HP.out]
            go_wp2
            go_roundw
            case rel => exact ⟨j + 1, by omega, by go_num, by rw [all_take _ _ _ hlt, HA.out, HP.out]; rfl, hbw.trans (hb1.mono hsw)⟩
            case measure => simp [intOf]; omega
        · have hks : j = t.kids.length := by omega
          have HK := Lib.hid hks
          clear hks
          go_wp2
          go_ret
          refine ⟨ret_boolM ?_, hb0.trans (hbw.mono hws)⟩
          have e := HK.out
          have a := HA.out
          subst e
          rw [List.take_length] at a
          rw [HF.out, a]
    · have q7 : (t.kind == 4) = false := by simp [k4]
      have q8 : (t.kind != 4) = true := by simp [k4]
      have q9 := q6 q8
      clear k4 q5 q6
      go_enter Tryd.func50, Tryd.ntmps50
      go_wp2
      generalize w.alloc (.cells #[.int .i64 t.kind, .int .i64 t.num, .slice A t.kids.length c] 60) = w0 at hb0 R0 ⊢
      go_loopw [6] (fun i wr => ∃ j : Nat, j ≤ t.kids.length ∧ i = .int .i64 j ∧ (t.kids.take j).all (partM k) = true ∧ Below w0.heap.size w0 wr) (fun i _ => t.kids.length - (intOf i).toNat)
      case atStart => exact ⟨0, by omega, rfl, by simp, Below.refl _ _⟩
      case round =>
        obtain ⟨j, hj, rfl, hall, hbw⟩ := hrel
        have HA := Lib.hid hall
        have hsw := hbw.size
        have hws := hb0.size
        have R1 := R0.below hbw R0.lt
        have hlt0 := R1.lt
        have c2 := R1.cell 2
        simp at c2
        clear hall R1
        by_cases hlt : j < t.kids.length
        · obtain ⟨b, off, rfl, _, hbh, _, hcc⟩ := HC.out (by omega)
          obtain ⟨hc0, hc1, hc2⟩ := hcc j hlt
          have hbx := hb0.trans (hbw.mono hws)
          have k0 := (hbx.cell (p := ⟨b, off + j * 3, none⟩) (by show b < _; omega)).trans hc0
          have k1 := (hbx.cell (p := ⟨b, off + j * 3 + 1, none⟩) (by show b < _; omega)).trans hc1
          have k2 := (hbx.cell (p := ⟨b, off + j * 3 + 2, none⟩) (by show b < _; omega)).trans hc2
          have hst' := (HB.out j hlt).under hbx hhi
          clear hcc hc0 hc1 hc2
          cases hp : partM k t.kids[j]
          · have HP := Lib.hid hp
            have HN := Lib.hid (all_take_no _ _ _ hlt hp)
            clear hp
            go_wp2_with fail
            refine (IH.out t.kids[j] z (U j) lo hi _ hst' (by omega)).mono ?_
            rintro e w1 ⟨rfl, hb1⟩
            rw [HP.out]
            go_wp2
            go_ret
            exact ⟨ret_boolM (by rw [HF.out, HN.out]), hb0.trans ((hbw.trans (hb1.mono hsw)).mono hws)⟩
          · have HP := Lib.hid hp
            clear hp
            go_wp2_with fail
            refine (IH.out t.kids[j] z (U j) lo hi _ hst' (by omega)).mono ?_
            rintro e w1 ⟨rfl, hb1⟩
            rw [HP.out]
            go_wp2
            go_roundw
            case rel => exact ⟨j + 1, by omega, by go_num, by rw [all_take _ _ _ hlt, HA.out, HP.out]; rfl, hbw.trans (hb1.mono hsw)⟩
            case measure => simp [intOf]; omega
        · have hks : j = t.kids.length := by omega
          have HK := Lib.hid hks
          clear hks
          go_wp2
          go_ret
          refine ⟨ret_boolM ?_, hb0.trans (hbw.mono hws)⟩
          have e := HK.out
          have a := HA.out
          subst e
          rw [List.take_length] at a
          rw [HF.out, a]
  cases hf : fieldB t
  · have HF : Hid (partM (k + 1) t = false) := Lib.hid (partM_field hf)
    by_cases k4 : t.kind = 4
    · have q7 : (t.kind == 4) = true := by simp [k4]
      by_cases l2 : t.kids.length = 2
      · have q8 : ((t.kids.length : Int) != 2) = false := by simp [l2]
        have q9 : (t.num != 0) = true := by
          simp
          intro e
          unfold fieldB at hf
          simp [k4, l2, e] at hf
        clear main k2 k3 k4 hf l2
        go_enter Tryd.func50, Tryd.ntmps50
        go_wp2
        go_ret
        exact ⟨ret_boolM HF.out.symm, hb0⟩
      · have q8 : ((t.kids.length : Int) != 2) = true := by simp; omega
        clear main k2 k3 k4 hf l2
        go_enter Tryd.func50, Tryd.ntmps50
        go_wp2
        go_ret
        exact ⟨ret_boolM HF.out.symm, hb0⟩
    · have q7 : (t.kind == 4) = false := by simp [k4]
      have q8 : (t.kind != 4) = true := by simp [k4]
      have q9 : (t.kind != 1) = true := by
        simp
        intro e
        unfold fieldB at hf
        simp [e] at hf
        omega
      clear main k2 k3 k4 hf
      go_enter Tryd.func50, Tryd.ntmps50
      go_wp2
      go_ret
      exact ⟨ret_boolM HF.out.symm, hb0⟩
  · exact main hf
theorem specPart6_any : ∀ d, d ≤ 30 → SpQ d := by
  intro d
  induction d with
  | zero => intro h; exact specPart6_of 0 h (fun k e => by omega)
  | succ d ih => intro h; exact specPart6_of (d + 1) h (fun k e => by
    have hk : k = d := by omega
    rw [hk]
    exact ih (by omega))
end Go.Proofs.YtbaofldcdcllfaaDoor
