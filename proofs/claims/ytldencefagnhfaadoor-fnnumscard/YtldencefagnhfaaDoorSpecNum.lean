/- The walk of the model's GetNum. -/
import Derived.Test.YtldencefagnhfaaDoorGetNum
namespace Go.Proofs.YtldencefagnhfaaDoor
open Go Go.RowKit

theorem add_step {a c k : Nat} (hk : k ≤ 9) (h9 : ¬ (k = 9 ∧ 1 < c)) (hl : a + c % 128 * 128 ^ k < 18446744073709551616) :
    IntKind.u64.wrap ((a : Int) + IntKind.u64.wrap ((c : Int) % 128 * 2 ^ (7 * k))) = ((a + c % 128 * 128 ^ k : Nat) : Int) := by
  rw [show (c : Int) % 128 = ((c % 128 : Nat) : Int) by omega, cast_part, u64_id (part_lt hk h9), ← Int.natCast_add, u64_id (by rw [← pow_eq]; exact hl), pow_eq]

set_option maxRecDepth 100000 in
set_option maxHeartbeats 2000000 in
theorem specGetNum_any (s : ByteArray) (at_ : Int) (w : World) (hs : s.size ≤ maxLen) (ha : -9223372036854775808 ≤ at_) (hb : at_ ≤ 9223372036854775807) :
    Calls Tryd.prog 14 #[.string s, .int .i64 at_] w fun e w' => e = .returned (nout (numOf s at_).1 (numOf s at_).2.1 (numOf s at_).2.2) ∧ Below w.heap.size w w' := by
  unfold maxLen at hs
  by_cases h1 : 8000 < s.size
  · have HN : Hid (numOf s at_ = (0, 0, 2)) := Lib.hid (if_pos h1)
    rw [HN.out]
    go_enter Tryd.func14, Tryd.ntmps14
    go_wp2
    exact bodyPost_ret (v := nout 0 0 2) (by simp [results, Tryd.results14, go_sem, nout]) rfl ⟨rfl, (Below.refl _ _).alloc (Nat.le_refl _) _⟩
  by_cases h2 : at_ < 0
  · have HN : Hid (numOf s at_ = (0, 0, 1)) := Lib.hid (by unfold numOf; rw [if_neg h1]; exact if_pos h2)
    rw [HN.out]
    go_enter Tryd.func14, Tryd.ntmps14
    go_wp2
    exact bodyPost_ret (v := nout 0 0 1) (by simp [results, Tryd.results14, go_sem, nout]) rfl ⟨rfl, (Below.refl _ _).alloc (Nat.le_refl _) _⟩
  obtain ⟨p, rfl⟩ := Int.eq_ofNat_of_zero_le (show 0 ≤ at_ by omega)
  have HN : Hid (numOf s (p : Int) = goN s p 10 0) := Lib.hid (by unfold numOf; rw [if_neg h1]; exact if_neg h2)
  rw [HN.out]
  go_enter Tryd.func14, Tryd.ntmps14
  go_wp2
  go_loop [5, 6, 7, 8] (fun u i _ _ => ∃ k : Nat, k ≤ 10 ∧ i = .int .i64 k ∧ u = .int .u64 (acc s p k : Nat) ∧ goN s p 10 0 = goN s p (10 - k) k) (fun _ i _ _ => 10 - (intOf i).toNat)
  case atStart => exact ⟨0, by omega, rfl, rfl, rfl⟩
  case round =>
    obtain ⟨k, hk, rfl, rfl, hgo⟩ := hrel
    have HGO := Lib.hid hgo
    clear hgo
    by_cases hk10 : k < 10
    · by_cases hsz : s.size ≤ p + k
      · have HE : Hid (goN s p 10 0 = (0, 0, 4)) := Lib.hid (by rw [HGO.out, show 10 - k = (9 - k) + 1 by omega, goN_short hsz])
        go_wp2
        rw [HE.out]
        exact bodyPost_ret (v := nout 0 0 4) (by simp [results, Tryd.results14, go_sem, nout]) rfl ⟨rfl, (Below.refl _ _).alloc (Nat.le_refl _) _⟩
      have hlt : p + k < s.size := by omega
      have hbyte := byteN_at s (p + k) hlt
      have hbl := byteN_lt s (p + k)
      have hac := acc_lt s p k
      by_cases h9 : k = 9 ∧ 1 < byteN s (p + k)
      · have HE : Hid (goN s p 10 0 = (0, 0, 3)) := Lib.hid (by rw [HGO.out, show 10 - k = (9 - k) + 1 by omega, goN_tenth hsz h9])
        have d1 : ((k : Int) == 9) = true := by simp; omega
        have b1 : (1 : Int) < (s[p + k].toNat : Int) := by omega
        have b2 : (s[p + k].toNat : Int) ≤ 255 := by omega
        clear hbyte h9
        go_wp2
        rw [HE.out]
        exact bodyPost_ret (v := nout 0 0 3) (by simp [results, Tryd.results14, go_sem, nout]) rfl ⟨rfl, (Below.refl _ _).alloc (Nat.le_refl _) _⟩
      have hal := acc_step_lt (s := s) (p := p) (show k ≤ 9 by omega) h9
      have hadd := add_step (a := acc s p k) (c := byteN s (p + k)) (show k ≤ 9 by omega) h9 hal
      rw [hbyte] at hadd
      have hd : ((k : Int) == 9) = decide (k = 9) := by rw [Bool.eq_iff_iff]; simp; omega
      have b2 : (s[p + k].toNat : Int) ≤ 255 := by omega
      by_cases h128 : byteN s (p + k) < 128
      · have b1 : (s[p + k].toNat : Int) < 128 := by omega
        have e9 : (if k = 9 then decide ((1 : Int) < (s[p + k].toNat : Int)) else false) = false := by
          split
          · exact decide_eq_false (by omega)
          · rfl
        by_cases h4 : byteN s (p + k) = 0 ∧ 0 < k
        · have HE : Hid (goN s p 10 0 = (0, 0, 3)) := Lib.hid (by rw [HGO.out, show 10 - k = (9 - k) + 1 by omega, goN_zero hsz h9 h128 h4])
          have z1 : ((s[p + k].toNat : Int) == 0) = true := by simp; omega
          have hk0 := h4.2
          have HD := Lib.hid hd
          have H9 := Lib.hid e9
          clear hbyte h9 h4 hadd hd e9
          by_cases hk9 : k = 9
          · have d1 : ((k : Int) == 9) = true := by rw [HD.out, decide_eq_true hk9]
            have d2 : decide ((1 : Int) < (s[p + k].toNat : Int)) = false := by have := H9.out; rw [if_pos hk9] at this; exact this
            have HK := Lib.hid hk9
            clear hk9
            go_wp2
            rw [HE.out]
            exact bodyPost_ret (v := nout 0 0 3) (by simp [results, Tryd.results14, go_sem, nout]) rfl ⟨rfl, (Below.refl _ _).alloc (Nat.le_refl _) _⟩
          · have d1 : ((k : Int) == 9) = false := by rw [HD.out, decide_eq_false hk9]
            go_wp2
            rw [HE.out]
            exact bodyPost_ret (v := nout 0 0 3) (by simp [results, Tryd.results14, go_sem, nout]) rfl ⟨rfl, (Below.refl _ _).alloc (Nat.le_refl _) _⟩
        · have HE : Hid (goN s p 10 0 = (unfoldN (acc s p (k + 1)), ((p + k + 1 : Nat) : Int), 0)) := Lib.hid (by rw [HGO.out, show 10 - k = (9 - k) + 1 by omega, goN_last hsz h9 h128 h4])
          have hz : acc s p k + s[p + k].toNat % 128 * 128 ^ k = acc s p (k + 1) := by rw [← hbyte]; rfl
          rw [hz] at hadd
          have HD := Lib.hid hd
          have H9 := Lib.hid e9
          have hz0 : ((s[p + k].toNat : Int) == 0) = decide (byteN s (p + k) = 0) := by rw [Bool.eq_iff_iff]; simp; omega
          have HZ0 := Lib.hid hz0
          have H4 := Lib.hid h4
          clear hbyte h9 h4 hd e9 hz hz0
          generalize acc s p (k + 1) = z at *
          by_cases hk9 : k = 9
          · have d1 : ((k : Int) == 9) = true := by rw [HD.out, decide_eq_true hk9]
            have d2 : decide ((1 : Int) < (s[p + k].toNat : Int)) = false := by have := H9.out; rw [if_pos hk9] at this; exact this
            have d3 : ((s[p + k].toNat : Int) == 0) = false := by rw [HZ0.out]; exact decide_eq_false (fun h => H4.out ⟨h, by omega⟩)
            have HK := Lib.hid hk9
            clear hk9
            by_cases hpar : z % 2 = 1
            · have q : ((z : Int) % 2 == 1) = true := by simp; omega
              have HV : Hid (unfoldN z = -((z : Int) / 2) - 1) := Lib.hid (by unfold unfoldN; rw [if_pos hpar]; omega)
              have HP := Lib.hid hpar
              clear hpar
              go_wp2
              rw [HE.out, HV.out]
              exact bodyPost_ret (v := nout (-((z : Int) / 2) - 1) ((p : Int) + (k : Int) + 1) 0) (by simp [results, Tryd.results14, go_sem, nout]) rfl ⟨rfl, (Below.refl _ _).alloc (Nat.le_refl _) _⟩
            · have q : ((z : Int) % 2 == 1) = false := by simp; omega
              have HV : Hid (unfoldN z = (z : Int) / 2) := Lib.hid (by unfold unfoldN; rw [if_neg hpar]; omega)
              have HP := Lib.hid hpar
              clear hpar
              go_wp2
              rw [HE.out, HV.out]
              exact bodyPost_ret (v := nout ((z : Int) / 2) ((p : Int) + (k : Int) + 1) 0) (by simp [results, Tryd.results14, go_sem, nout]) rfl ⟨rfl, (Below.refl _ _).alloc (Nat.le_refl _) _⟩
          · have d1 : ((k : Int) == 9) = false := by rw [HD.out, decide_eq_false hk9]
            by_cases hc0 : byteN s (p + k) = 0
            · have d3 : ((s[p + k].toNat : Int) == 0) = true := by rw [HZ0.out]; exact decide_eq_true hc0
              have hk0 : ¬ 0 < k := fun h => H4.out ⟨hc0, h⟩
              have d4 : decide ((0 : Int) < (k : Int)) = false := decide_eq_false (by omega)
              have HC := Lib.hid hc0
              clear hc0
              by_cases hpar : z % 2 = 1
              · have q : ((z : Int) % 2 == 1) = true := by simp; omega
                have HV : Hid (unfoldN z = -((z : Int) / 2) - 1) := Lib.hid (by unfold unfoldN; rw [if_pos hpar]; omega)
                have HP := Lib.hid hpar
                clear hpar
                go_wp2
                rw [HE.out, HV.out]
                exact bodyPost_ret (v := nout (-((z : Int) / 2) - 1) ((p : Int) + (k : Int) + 1) 0) (by simp [results, Tryd.results14, go_sem, nout]) rfl ⟨rfl, (Below.refl _ _).alloc (Nat.le_refl _) _⟩
              · have q : ((z : Int) % 2 == 1) = false := by simp; omega
                have HV : Hid (unfoldN z = (z : Int) / 2) := Lib.hid (by unfold unfoldN; rw [if_neg hpar]; omega)
                have HP := Lib.hid hpar
                clear hpar
                go_wp2
                rw [HE.out, HV.out]
                exact bodyPost_ret (v := nout ((z : Int) / 2) ((p : Int) + (k : Int) + 1) 0) (by simp [results, Tryd.results14, go_sem, nout]) rfl ⟨rfl, (Below.refl _ _).alloc (Nat.le_refl _) _⟩
            · have d3 : ((s[p + k].toNat : Int) == 0) = false := by rw [HZ0.out]; exact decide_eq_false hc0
              by_cases hpar : z % 2 = 1
              · have q : ((z : Int) % 2 == 1) = true := by simp; omega
                have HV : Hid (unfoldN z = -((z : Int) / 2) - 1) := Lib.hid (by unfold unfoldN; rw [if_pos hpar]; omega)
                have HP := Lib.hid hpar
                clear hpar
                go_wp2
                rw [HE.out, HV.out]
                exact bodyPost_ret (v := nout (-((z : Int) / 2) - 1) ((p : Int) + (k : Int) + 1) 0) (by simp [results, Tryd.results14, go_sem, nout]) rfl ⟨rfl, (Below.refl _ _).alloc (Nat.le_refl _) _⟩
              · have q : ((z : Int) % 2 == 1) = false := by simp; omega
                have HV : Hid (unfoldN z = (z : Int) / 2) := Lib.hid (by unfold unfoldN; rw [if_neg hpar]; omega)
                have HP := Lib.hid hpar
                clear hpar
                go_wp2
                rw [HE.out, HV.out]
                exact bodyPost_ret (v := nout ((z : Int) / 2) ((p : Int) + (k : Int) + 1) 0) (by simp [results, Tryd.results14, go_sem, nout]) rfl ⟨rfl, (Below.refl _ _).alloc (Nat.le_refl _) _⟩
      · have HE : Hid (goN s p 10 0 = goN s p (10 - (k + 1)) (k + 1)) := Lib.hid (by rw [HGO.out, show 10 - k = (9 - k) + 1 by omega, goN_more hsz h9 h128, show 9 - k = 10 - (k + 1) by omega])
        have hk9 : k < 9 := by omega
        have d1 : ((k : Int) == 9) = false := by rw [hd, decide_eq_false (by omega)]
        have b1 : (128 : Int) ≤ (s[p + k].toNat : Int) := by omega
        have hz : acc s p k + s[p + k].toNat % 128 * 128 ^ k = acc s p (k + 1) := by rw [← hbyte]; rfl
        rw [hz] at hadd
        have HA := Lib.hid hadd
        clear hbyte h9 hac hadd hd hz
        go_wp2
        go_round
        case rel => exact ⟨k + 1, by omega, by go_num, rd_val HA.out, HE.out⟩
        case measure => simp [intOf]; omega
    · have hk' : k = 10 := by omega
      have HE : Hid (goN s p 10 0 = (0, 0, 3)) := Lib.hid (by rw [HGO.out, hk']; rfl)
      clear hk'
      go_wp2
      rw [HE.out]
      exact bodyPost_ret (v := nout 0 0 3) (by simp [results, Tryd.results14, go_sem, nout]) rfl ⟨rfl, (Below.refl _ _).alloc (Nat.le_refl _) _⟩
end Go.Proofs.YtldencefagnhfaaDoor
