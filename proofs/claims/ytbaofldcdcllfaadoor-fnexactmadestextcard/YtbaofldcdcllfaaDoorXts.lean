/- The text of a term: the model's l06Text. -/
import Derived.Test.YtbaofldcdcllfaaDoorJXtd
import Derived.Test.YtbaofldcdcllfaaDoorStx
import Derived.Test.YtbaofldcdcllfaaDoorJSmz
namespace Go.Proofs.YtbaofldcdcllfaaDoor
open Go.RowKit

def SpW (d : Nat) : Prop := ∀ (t : TermD) (z : Bool) (u : Value) (lo hi : Nat) (w : World), partM d t = true → KM z w lo hi u t.kids → hi ≤ w.heap.size → TopM t → sizeM t ≤ 200 →
  Calls Tryd.prog 37 #[tmV t u] w fun e w' => e = .returned (.string (tb (textM t))) ∧ Below w.heap.size w w'

theorem dec_nat {n : Int} (h : 0 ≤ n) : ∃ m : Nat, n = (m : Int) ∧ decT n = Lib.decDigits m := ⟨n.toNat, by omega, rfl⟩
set_option maxRecDepth 100000 in
set_option maxHeartbeats 4000000 in
theorem specText6_of (d : Nat) (ih : SpW d) : SpW (d + 1) := by
  intro t z u lo hi w hp h hhi htop hn
  obtain ⟨d', hd', hf, hkp⟩ := partM_parts hp
  obtain rfl : d' = d := by omega
  have hfit : fitsM t := (fitsM_eq t).2 ⟨htop.1.2, h.fits⟩
  have hlen := textM_len t hfit
  have hkl := fun k => kidT_len t k h.fits
  have HKL := Lib.hid hkl
  have hsz := sizeM_eq t
  obtain ⟨A, c, U, rfl, hlc, hc, hs, hcell, hsub⟩ := h.parts
  unfold maxLen at hc
  have HC := Lib.hid hcell
  have HB := Lib.hid hsub
  have HS := Lib.hid hs
  have HKP := Lib.hid hkp
  have hk4 := field_kind hf
  have HF := Lib.hid hk4
  obtain ⟨⟨ht1, ht2⟩, ht3, ht4⟩ := htop
  clear hcell hsub h hs hkp hkl hfit hp hd' hk4 hf
  unfold tmV
  have hb0 := al1 w (.cells #[.int .i64 t.kind, .int .i64 t.num, .slice A t.kids.length c] 60)
  have R0 := Row.made w 60 #[.int .i64 t.kind, .int .i64 t.num, .slice A t.kids.length c]
  have HLN := Lib.hid hsz
  have HLEN := Lib.hid hlen
  clear hsz hlen
  go_enter Tryd.func37, Tryd.ntmps37
  go_wp2
  generalize w.alloc (.cells #[.int .i64 t.kind, .int .i64 t.num, .slice A t.kids.length c] 60) = w0 at hb0 R0 ⊢
  go_loopw [3, 4] (fun o i wr => ∃ k : Nat, k ≤ t.kids.length ∧ i = .int .i64 k ∧ o = .string (tb (kidT t k)) ∧ Below w0.heap.size w0 wr) (fun _ i _ => t.kids.length - (intOf i).toNat)
  case atStart => exact ⟨0, by omega, rfl, by rw [kidT_zero]; rfl, Below.refl _ _⟩
  case round =>
    obtain ⟨k, hk, rfl, rfl, hbw⟩ := hrel
    have hsw := hbw.size
    have hws := hb0.size
    have R1 := R0.below hbw R0.lt
    have hlt0 := R1.lt
    have c0 := R1.cell 0
    have c1 := R1.cell 1
    have c2 := R1.cell 2
    simp at c0 c1 c2
    have hpl := HKL.out k
    have hpz := tb_size (kidT t k)
    have hpz2 : (tb (kidT t k)).size ≤ 10000 := by have := HLN.out; omega
    clear hpz hpl R1
    by_cases hlt : k < t.kids.length
    · obtain ⟨b, off, rfl, _, hbh, _, hcc⟩ := HC.out (by omega)
      obtain ⟨hc0, hc1, hc2⟩ := hcc k hlt
      have hbx := hb0.trans (hbw.mono hws)
      have k0 := (hbx.cell (p := ⟨b, off + k * 3, none⟩) (by show b < _; omega)).trans hc0
      have k1 := (hbx.cell (p := ⟨b, off + k * 3 + 1, none⟩) (by show b < _; omega)).trans hc1
      have k2 := (hbx.cell (p := ⟨b, off + k * 3 + 2, none⟩) (by show b < _; omega)).trans hc2
      have hst' := (HB.out k hlt).under hbx hhi
      have htk : TopM t.kids[k] := HS.out k hlt
      have hkp := HKP.out k hlt
      have hks1 := sizeMs_get t.kids k hlt
      have hks : sizeM t.kids[k] ≤ 200 := by have := HLN.out; omega
      have hkt := textM_len t.kids[k] ((fitsM_eq _).2 ⟨htk.1.2, hst'.fits⟩)
      have hkz := tb_size (textM t.kids[k])
      have hkz2 : (tb (textM t.kids[k])).size ≤ 10000 := by omega
      clear hcc hc0 hc1 hc2 hkz hkt hks1
      by_cases hbl : 0 < k ∨ t.kind = 1
      · have HT := Lib.hid (kidT_blank t k hlt hbl)
        have hs3 : (tb (kidT t k) ++ (⟨#[32]⟩ : ByteArray)).size ≤ 10001 := by rw [ByteArray.size_append]; show _ + 1 ≤ _; omega
        by_cases hk0 : 0 < k
        · have q1 : decide ((k : Int) > 0) = true := decide_eq_true (by omega)
          go_wp2_with fail
          refine (ih t.kids[k] z (U k) lo hi _ hkp hst' (by omega) htk hks).mono ?_
          rintro e w1 ⟨rfl, hb1⟩
          go_wp2
          go_roundw
          case rel => exact ⟨k + 1, by omega, by go_num, by rw [HT.out, ← tb_app, ← tb_app]; rfl, hbw.trans (hb1.mono hsw)⟩
          case measure => simp [intOf]; omega
        · have q1 : decide ((k : Int) > 0) = false := decide_eq_false (by omega)
          have q2 : (t.kind == 1) = true := by rw [beq_iff_eq]; omega
          clear hbl
          go_wp2_with fail
          refine (ih t.kids[k] z (U k) lo hi _ hkp hst' (by omega) htk hks).mono ?_
          rintro e w1 ⟨rfl, hb1⟩
          go_wp2
          go_roundw
          case rel => exact ⟨k + 1, by omega, by go_num, by rw [HT.out, ← tb_app, ← tb_app]; rfl, hbw.trans (hb1.mono hsw)⟩
          case measure => simp [intOf]; omega
      · have q2 : (t.kind == 1) = false := by rw [beq_eq_false_iff_ne]; omega
        obtain rfl : k = 0 := by omega
        have HT : Hid (tb (kidT t 1) = tb (kidT t 0) ++ tb (textM t.kids[0])) := Lib.hid (by
          rw [kidT_bare t hlt (by omega), kidT_zero, tb_app, List.nil_append])
        rw [Nat.zero_mul, Nat.add_zero] at k0 k1 k2
        clear hbl
        go_wp2_with fail
        refine (ih t.kids[0] z (U 0) lo hi _ hkp hst' (by omega) htk hks).mono ?_
        rintro e w1 ⟨rfl, hb1⟩
        go_wp2
        go_roundw
        case rel => exact ⟨1, by omega, by go_num, by rw [HT.out], hbw.trans (hb1.mono hsw)⟩
        case measure => simp [intOf]; omega
    · have hks : k = t.kids.length := by omega
      have HK := Lib.hid hks
      clear hks
      have hbx := hb0.trans (hbw.mono hws)
      rcases HF.out with ⟨f1, f2⟩ | ⟨f1, f2, f3⟩ | ⟨f1, f2⟩ | ⟨f1, f2⟩
      · obtain ⟨m, hm1, hm2⟩ := dec_nat f2
        have HE : Hid (textM t = 40 :: Lib.decDigits m ++ kidT t k ++ [41]) := Lib.hid (by
          rw [textM_node f1, hm2, HK.out]
          unfold kidT
          rw [if_pos f1, List.take_length])
        have q : (t.kind == 1) = true := by rw [beq_iff_eq]; exact f1
        rw [hm1] at c1
        have hm3 : m ≤ 9223372036854775807 := by omega
        have hd := dec_len hm3
        clear hm1 hm2 f1 f2
        go_wp2_with fail
        refine (specDec_any m hm3 _).mono ?_
        rintro e w1 ⟨rfl, hb1⟩
        have z1 : (tb (kidT t k)).size ≤ 10000 := hpz2
        have hs4 : ((⟨#[40]⟩ : ByteArray) ++ ⟨(Lib.decDigits m).toArray⟩).size ≤ 22 := by rw [ByteArray.size_append]; show 1 + (tb _).size ≤ _; rw [tb_size]; omega
        have hs5 : (((⟨#[40]⟩ : ByteArray) ++ ⟨(Lib.decDigits m).toArray⟩) ++ tb (kidT t k)).size ≤ 10022 := by rw [ByteArray.size_append]; omega
        go_wp2
        go_ret
        refine ⟨ret_tb ?_, hbx.trans (hb1.mono (by omega))⟩
        rw [HE.out, ← tb_app, ← tb_app]
        rw [show tb (40 :: Lib.decDigits m) = tb [40] ++ tb (Lib.decDigits m) from (tb_app [40] _).symm]
        rfl
      · obtain ⟨m, hm1, hm2⟩ := dec_nat f2
        have HE : Hid (textM t = 36 :: Lib.decDigits m) := Lib.hid (by rw [textM_var f1, hm2])
        have q1 : (t.kind == 1) = false := by rw [beq_eq_false_iff_ne]; omega
        have q : (t.kind == 2) = true := by rw [beq_iff_eq]; exact f1
        rw [hm1] at c1
        have hm3 : m ≤ 9223372036854775807 := by omega
        have hd := dec_len hm3
        clear hm1 hm2 f1 f2 f3
        go_wp2_with fail
        refine (specDec_any m hm3 _).mono ?_
        rintro e w1 ⟨rfl, hb1⟩
        go_wp2
        go_ret
        refine ⟨ret_tb ?_, hbx.trans (hb1.mono (by omega))⟩
        rw [HE.out]
        exact tb_app [36] _
      · have HE : Hid (textM t = [91, 93]) := Lib.hid (textM_box f1)
        have q1 : (t.kind == 1) = false := by rw [beq_eq_false_iff_ne]; omega
        have q2 : (t.kind == 2) = false := by rw [beq_eq_false_iff_ne]; omega
        have q : (t.kind == 3) = true := by rw [beq_iff_eq]; exact f1
        clear f1 f2
        go_wp2
        go_ret
        exact ⟨ret_tb (by rw [HE.out]; rfl), hbx⟩
      · have HE : Hid (textM t = 60 :: kidT t k ++ [62]) := Lib.hid (by
          rw [textM_plug f1, HK.out]
          unfold kidT
          rw [if_neg (by omega), List.take_length])
        have q1 : (t.kind == 1) = false := by rw [beq_eq_false_iff_ne]; omega
        have q2 : (t.kind == 2) = false := by rw [beq_eq_false_iff_ne]; omega
        have q3 : (t.kind == 3) = false := by rw [beq_eq_false_iff_ne]; omega
        have hs4 : ((⟨#[60]⟩ : ByteArray) ++ tb (kidT t k)).size ≤ 10001 := by rw [ByteArray.size_append]; show 1 + _ ≤ _; omega
        clear f1 f2
        go_wp2
        go_ret
        refine ⟨ret_tb ?_, hbx⟩
        rw [HE.out, ← tb_app]
        rw [show tb (60 :: kidT t k) = tb [60] ++ tb (kidT t k) from (tb_app [60] _).symm]
        rfl
theorem specText6_any : ∀ d, SpW d := by
  intro d
  induction d with
  | zero => intro t z u lo hi w hp; cases hp
  | succ d ih => exact specText6_of d ih
end Go.Proofs.YtbaofldcdcllfaaDoor
