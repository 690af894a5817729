/- The walks of textRight and mostLooks. -/
import Derived.Test.YtmhdbjoljonhdaaWrun
namespace Go.Proofs.Ytmhdbjoljonhdaa
open Go.RowKit Go.Maps Go.Conc

def textB (t : List ByteArray) : Bool := decide (t.length ≤ 12) && t.all tokB
theorem textB_iff (t : List ByteArray) : textB t = true ↔ t.length ≤ 12 ∧ ∀ s ∈ t, tokB s = true := by simp [textB]
theorem textB_no {t : List ByteArray} {k : Nat} (h : k < t.length) (hb : tokB t[k] = false) : textB t = false := by
  rw [Bool.eq_false_iff]
  intro e
  have := ((textB_iff t).1 e).2 _ (List.getElem_mem h)
  rw [hb] at this; cases this

set_option maxRecDepth 100000 in
set_option maxHeartbeats 1000000 in
theorem textRight_any (t : List ByteArray) (v : Value) (lo hi : Nat) (w : World) (h : Strs w lo hi v t) (hh : hi ≤ w.heap.size) :
    Calls Try.prog 77 #[v] w fun e w' => e = .returned (.bool (textB t)) ∧ Below w.heap.size w w' := by
  obtain ⟨A, c, rfl, hlc, hc, hsz, hcell⟩ := h
  unfold maxLen at hc
  have HC := Lib.hid hcell
  clear hcell hsz
  by_cases hlen : t.length ≤ 12
  · go_enter Try.func77, Try.ntmps77
    go_wp2
    go_loopw [4, 10] (fun _ x wr => ∃ j : Nat, j ≤ t.length ∧ x = .int .i64 (j : Int) ∧ (∀ i (h : i < t.length), i < j → tokB t[i] = true) ∧ Below w.heap.size w wr) (fun _ x _ => t.length - (intOf x).toNat)
    case atStart => exact ⟨0, by omega, rfl, fun i _ h => by omega, Below.refl _ _⟩
    case round =>
      obtain ⟨j, hj, rfl, hall, hbw⟩ := hrel
      have hsw := hbw.size
      have HA := Lib.hid hall
      clear hall
      by_cases hlt : j < t.length
      · obtain ⟨b, off, rfl, _, hbh, hcc⟩ := HC.out (by omega)
        have hck := (hbw.cell (p := ⟨b, off + j, none⟩) (by show b < _; omega)).trans (hcc j hlt)
        clear hcc
        cases ht : tokB t[j]
        · have HT := Lib.hid ht
          clear ht
          go_wp2_with fail
          refine (implIsToken_any _ _).mono ?_
          rintro _ w1 ⟨rfl, b1⟩
          rw [HT.out]
          have hb1 := hbw.trans (b1.mono hsw)
          clear b1
          go_wp2
          go_ret
          exact ⟨ret_bool (textB_no hlt HT.out).symm, hb1⟩
        · have HT := Lib.hid ht
          clear ht
          go_wp2_with fail
          refine (implIsToken_any _ _).mono ?_
          rintro _ w1 ⟨rfl, b1⟩
          rw [HT.out]
          have hb1 := hbw.trans (b1.mono hsw)
          clear b1
          go_wp2
          go_roundw
          case rel => exact ⟨j + 1, by omega, by go_num, (fun i hi hl => by
            by_cases e : i = j
            · subst e; exact HT.out
            · exact HA.out i hi (by omega)), hb1⟩
          case measure => simp [intOf]; omega
      · go_wp2
        go_ret
        refine ⟨ret_bool ?_, hbw⟩
        rw [eq_comm, textB_iff]
        refine ⟨hlen, fun s hs => ?_⟩
        obtain ⟨i, hi, rfl⟩ := List.getElem_of_mem hs
        exact HA.out i hi (by omega)
  · have HF : Hid (textB t = false) := Lib.hid (by rw [Bool.eq_false_iff]; exact fun e => hlen ((textB_iff t).1 e).1)
    have i1 : 12 < (t.length : Int) := by omega
    go_enter Try.func77, Try.ntmps77
    go_wp2
    go_ret
    exact ⟨ret_bool HF.out.symm, Below.refl _ _⟩

theorem mostTo_le' {rs : List RuleD} {p : Nat} (hb : ∀ i (h : i < rs.length), rs[i].body.length ≤ 5) (hp : p ≤ 13) (k : Nat) (hk : k ≤ rs.length) : mostTo rs p k ≤ k * 1014 := by
  induction k with
  | zero => simp [mostTo]
  | succ k ih =>
    have := ih (by omega)
    have h1 := hb k (by omega)
    have h3 : p * p ≤ 13 * 13 := Nat.mul_le_mul hp hp
    have h4 : (rs[k].body.length + 1) * (p * p) ≤ 6 * (13 * 13) := Nat.mul_le_mul (by omega) h3
    rw [mostTo_succ (by omega), Nat.mul_assoc]
    omega

set_option maxRecDepth 100000 in
set_option maxHeartbeats 1000000 in
theorem mostLooks_any (rs : List RuleD) (v : Value) (p lo hi : Nat) (w : World) (h : Rules w lo hi v rs) (hh : hi ≤ w.heap.size) (hp : p ≤ 13) (h20 : rs.length ≤ 20) (hb5 : ∀ i (h : i < rs.length), rs[i].body.length ≤ 5) :
    Calls Try.prog 111 #[v, .int .i64 (p : Int)] w fun e w' => e = .returned (.int .i64 ((mostTo rs p rs.length : Nat) : Int)) ∧ Below w.heap.size w w' := by
  have HV := Lib.hid h
  obtain ⟨A, c, rfl, hlc, hc, -⟩ := h
  unfold maxLen at hc
  have HB5 := Lib.hid hb5
  clear hb5
  go_enter Try.func111, Try.ntmps111
  go_wp2
  go_loopw [5, 7, 10] (fun s _ x wr => ∃ j : Nat, j ≤ rs.length ∧ x = .int .i64 (j : Int) ∧ s = .int .i64 ((mostTo rs p j : Nat) : Int) ∧ Below w.heap.size w wr) (fun _ _ x _ => rs.length - (intOf x).toNat)
  case atStart => exact ⟨0, by omega, rfl, rfl, Below.refl _ _⟩
  case round =>
    obtain ⟨j, hj, rfl, rfl, hbw⟩ := hrel
    rename World => wr
    have hsw := hbw.size
    by_cases hlt : j < rs.length
    · obtain ⟨b, off, rfl, hbh, _, _, _, k0, B2, d2, k1, hst⟩ := (HV.out.below hbw hh).at hlt
      have hml := mostTo_le' HB5.out hp j (by omega)
      have h5 := HB5.out j hlt
      have m1 : (0 : Int) ≤ ((rs[j].body.length : Int) + 1) * (p : Int) := Int.mul_nonneg (by omega) (by omega)
      have m1' : ((rs[j].body.length : Int) + 1) * (p : Int) ≤ 6 * 13 := Int.mul_le_mul (by omega) (by omega) (by omega) (by omega)
      have m2 : (0 : Int) ≤ ((rs[j].body.length : Int) + 1) * (p : Int) * (p : Int) := Int.mul_nonneg m1 (by omega)
      have m2' : ((rs[j].body.length : Int) + 1) * (p : Int) * (p : Int) ≤ 6 * 13 * 13 := Int.mul_le_mul m1' (by omega) (by omega) (by omega)
      have HM : Hid ((mostTo rs p j : Int) + ((rs[j].body.length : Int) + 1) * (p : Int) * (p : Int) = ((mostTo rs p (j + 1) : Nat) : Int)) := Lib.hid (by rw [mostTo_succ hlt]; push_cast; rfl)
      have hbA := al1 wr (.cells #[.string rs[j].head, .slice B2 rs[j].body.length d2] 39)
      have HBA := Lib.hid (hbw.trans (hbA.mono hsw))
      have hbwr : b < wr.heap.size := by omega
      clear hst hbA
      go_wp2
      go_roundw
      case rel => exact ⟨j + 1, by omega, by go_num, by rw [HM.out], HBA.out⟩
      case measure => simp [intOf]; omega
    · have hje : j = rs.length := by omega
      subst hje
      go_wp2
      go_ret
      exact ⟨rfl, hbw⟩
end Go.Proofs.Ytmhdbjoljonhdaa
