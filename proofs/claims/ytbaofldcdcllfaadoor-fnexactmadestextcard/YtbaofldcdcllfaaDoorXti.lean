/- The text of a term: the program's writeTerm. -/
import Derived.Test.YtbaofldcdcllfaaDoorXts
import Derived.Test.YtbaofldcdcllfaaDoorItx
namespace Go.Proofs.YtbaofldcdcllfaaDoor
open Go.RowKit

def WmC (d : Nat) : Prop := ∀ (t : TermD) (z : Bool) (u : Value) (lo hi B b : Nat) (l : List UInt8) (w : World), partM d t = true → KM z w lo hi u t.kids → hi ≤ B → B ≤ w.heap.size → Wr B b l w → Tens B w → TopM t → l.length + (textM t).length ≤ 100000 →
  Calls Tryd.prog 42 #[.pointer (some ⟨b, 0, none⟩), tmV t u] w fun e w' => e = .returned (.tuple #[]) ∧ Wr B b (l ++ textM t) w' ∧ Kp B b w w'

/-- a node's text, but for its end, when k of its Kids are told -/
def nodeM (t : TermD) (k : Nat) : List UInt8 := 40 :: decT t.num ++ blanksM (t.kids.take k)
theorem nodeM_zero (t : TermD) : nodeM t 0 = 40 :: decT t.num := by simp [nodeM, blanksM]
theorem nodeM_succ (t : TermD) (k : Nat) (h : k < t.kids.length) : nodeM t (k + 1) = nodeM t k ++ [32] ++ textM t.kids[k] := by
  unfold nodeM; rw [blanksM_take _ _ h]; simp
theorem nodeM_all {t : TermD} (h : t.kind = 1) : nodeM t t.kids.length ++ [41] = textM t := by
  unfold nodeM; rw [List.take_length, textM_node h]
theorem blanksM_take_le (ts : List TermD) (k : Nat) : (blanksM (ts.take k)).length ≤ (blanksM ts).length := by
  conv => rhs; rw [← List.take_append_drop k ts]
  rw [blanksM_append, List.length_append]; omega
theorem nodeM_len {t : TermD} (k : Nat) (h : t.kind = 1) : (nodeM t k).length + 1 ≤ (textM t).length := by
  rw [← nodeM_all h, List.length_append]
  unfold nodeM
  have := blanksM_take_le t.kids k
  rw [List.take_length]
  simp only [List.length_append, List.length_cons, List.length_nil]
  omega
theorem nodeM_len2 {t : TermD} (k : Nat) (hk : k < t.kids.length) (h : t.kind = 1) : (nodeM t k).length + 1 + (textM t.kids[k]).length + 1 ≤ (textM t).length := by
  have := nodeM_len (k + 1) h
  rw [nodeM_succ t k hk] at this
  simp only [List.length_append, List.length_cons, List.length_nil] at this
  omega
def plugT (a b : List UInt8) : List UInt8 := (60 :: a) ++ (32 :: b) ++ [62]
theorem plugT_len (a b : List UInt8) : (plugT a b).length = a.length + b.length + 3 := by unfold plugT; simp only [List.length_append, List.length_cons, List.length_nil]; omega
theorem plugM {t : TermD} (h : t.kind = 4) (h2 : t.kids.length = 2) (h0 : 0 < t.kids.length) (h1 : 1 < t.kids.length) : textM t = plugT (textM t.kids[0]) (textM t.kids[1]) := by
  rw [textM_plug h]
  have := joinsM_take t.kids 1 h1 (by omega)
  rw [joinsM_take0 t.kids h0] at this
  rw [show t.kids.take (1 + 1) = t.kids from List.take_of_length_le (by omega)] at this
  rw [this]
  simp [plugT, List.append_assoc]

set_option maxRecDepth 100000 in
set_option maxHeartbeats 4000000 in
theorem writeTerm_of (d : Nat) (ih : WmC d) : WmC (d + 1) := by
  intro t z u lo hi B b l w hp h hhi hBw hwr htn htop hn
  obtain ⟨d', hd', hf, hkp⟩ := partM_parts hp
  obtain rfl : d' = d := by omega
  obtain ⟨A, c, U, rfl, hlc, hc, hs, hcell, hsub⟩ := h.parts
  unfold maxLen at hc
  have HC := Lib.hid hcell
  have HB := Lib.hid hsub
  have HS := Lib.hid hs
  have HKP := Lib.hid hkp
  have HF := Lib.hid (field_kind hf)
  have HWR := Lib.hid hwr
  have HTN := Lib.hid htn
  have hbl := hwr.lt
  obtain ⟨⟨ht1, ht2⟩, ht3, ht4⟩ := htop
  clear hcell hsub h hs hkp hp hd' hf hwr htn
  unfold tmV
  have hb0 := al1 w (.cells #[.int .i64 t.kind, .int .i64 t.num, .slice A t.kids.length c] 60)
  have R0 := Row.made w 60 #[.int .i64 t.kind, .int .i64 t.num, .slice A t.kids.length c]
  have z0 : w.heap.size < (w.alloc (.cells #[.int .i64 t.kind, .int .i64 t.num, .slice A t.kids.length c] 60)).heap.size := by simp
  rcases HF.out with ⟨f1, f2⟩ | ⟨f1, f2, f3⟩ | ⟨f1, f2⟩ | ⟨f1, f2⟩
  · obtain ⟨m, hm1, hm2⟩ := dec_nat f2
    have HF1 := Lib.hid f1
    have q : (t.kind == 1) = true := by rw [beq_iff_eq]; exact f1
    have hm3 : m ≤ 9223372036854775807 := by omega
    have hd := dec_len hm3
    have hdz : (tb (Lib.decDigits m)).size ≤ 21 := by rw [tb_size]; exact hd
    have hp0 := nodeM_len 0 f1
    have HZ0 : Hid (nodeM t 0 = 40 :: Lib.decDigits m) := Lib.hid (by rw [nodeM_zero, hm2])
    have hrl : (Lib.decDigits m).length + 2 ≤ (textM t).length := by rw [HZ0.out] at hp0; simp at hp0; omega
    rw [hm1] at R0 hb0 z0 ⊢
    have hrz := tb_size (Lib.decDigits m)
    clear hm1 hm2 f1 f2
    go_enter Tryd.func42, Tryd.ntmps42
    go_wp2_with fail
    generalize w.alloc (.cells #[.int .i64 t.kind, .int .i64 (m : Int), .slice A t.kids.length c] 60) = w2 at hb0 R0 z0 ⊢
    refine (fmt_any m hm3 B w2 (HTN.out.on (hb0.mono hBw))).mono ?_
    rintro e w3 ⟨rfl, b3⟩
    have b23 : Below w.heap.size w w3 := hb0.trans (b3.mono (by omega))
    have R3 := R0.below b3 R0.lt
    clear hb0 b3 R0 z0
    have z3 := b23.size
    go_wp2_with fail
    refine (wrS_any B b l _ _ (HWR.out.on b23) (by rw [ByteArray.size_append]; show _ + (1 + _) ≤ _; omega) (by omega)).mono ?_
    rintro e w4 ⟨rfl, W4, b4, k4⟩
    have K4 : Kp B b w w4 := (Kp.of b23 hBw).trans ⟨b4, k4⟩
    have R4 := (Kp.mk b4 k4).row R3 (by omega) (by decide)
    have W4' : Wr B b (l ++ nodeM t 0) w4 := by
      rw [HZ0.out]
      have e : ((⟨#[40]⟩ : ByteArray) ++ tb (Lib.decDigits m)).data.toList = 40 :: Lib.decDigits m := by rw [ByteArray.data_append]; simp [tb]
      rw [e] at W4
      exact W4
    have c0 := R4.cell 2
    simp at c0
    have HK4 := Lib.hid K4
    have HW4 := Lib.hid W4'
    clear W4 W4' b4 k4 K4 R3 b23
    go_wp2
    go_loopw [19] (fun i wr => ∃ k : Nat, k ≤ t.kids.length ∧ i = .int .i64 k ∧ Wr B b (l ++ nodeM t k) wr ∧ Kp B b w wr) (fun i _ => t.kids.length - (intOf i).toNat)
    case atStart => exact ⟨0, by omega, rfl, HW4.out, HK4.out⟩
    case round =>
      obtain ⟨k, hk, rfl, hW, hK⟩ := hrel
      have hsw := hK.bel.size
      have HW := Lib.hid hW
      have HK := Lib.hid hK
      have hbr := hW.lt
      have hpl := nodeM_len k HF1.out
      clear hW hK
      by_cases hlt : k < t.kids.length
      · obtain ⟨bb, off, rfl, _, hbh, _, hcc⟩ := HC.out (by omega)
        obtain ⟨hc0, hc1, hc2⟩ := hcc k hlt
        have k0 := (HK.out.bel.cell (p := ⟨bb, off + k * 3, none⟩) (by show bb < _; omega)).trans hc0
        have k1 := (HK.out.bel.cell (p := ⟨bb, off + k * 3 + 1, none⟩) (by show bb < _; omega)).trans hc1
        have k2 := (HK.out.bel.cell (p := ⟨bb, off + k * 3 + 2, none⟩) (by show bb < _; omega)).trans hc2
        have hst := HB.out k hlt
        generalize U k = uj at k2 hst
        obtain ⟨A', c', U', hu, -⟩ := hst.parts
        subst hu
        have HST := Lib.hid hst
        have hl2 := nodeM_len2 k hlt HF1.out
        have HT := Lib.hid (nodeM_succ t k hlt)
        have htk : TopM t.kids[k] := HS.out k hlt
        have hkp := HKP.out k hlt
        have a5 := al1 wr (.cells #[.int .i64 t.kids[k].kind, .int .i64 t.kids[k].num, .slice A' t.kids[k].kids.length c'] 60)
        have R5 := Row.made wr 60 #[.int .i64 t.kids[k].kind, .int .i64 t.kids[k].num, .slice A' t.kids[k].kids.length c']
        have hml : (l ++ nodeM t k).length = l.length + (nodeM t k).length := List.length_append
        have HML := Lib.hid hml
        clear hcc hc0 hc1 hc2 hst hml
        go_wp2_with fail
        refine (wrS_any B b _ _ _ (HW.out.on a5) (by rw [HML.out]; show _ + 1 ≤ _; omega) (by simp; omega)).mono ?_
        rintro e w5 ⟨rfl, W5, b5, k5⟩
        have K5 : Kp B b w w5 := HK.out.trans ((Kp.of a5 (by omega)).trans ⟨b5, k5⟩)
        have R6 := (Kp.mk b5 k5).row R5 (by omega) (by decide)
        have c60 := R6.cell 0
        have c61 := R6.cell 1
        have c62 := R6.cell 2
        simp at c60 c61 c62
        have z5 := K5.bel.size
        have HK5 := Lib.hid K5
        have HW5 := Lib.hid W5
        clear K5 W5 b5 k5 R5 a5 R6
        go_wp2_with fail
        refine (ih t.kids[k] z _ lo hi B b _ w5 hkp (HST.out.under HK5.out.bel hhi) hhi (by omega) HW5.out (HTN.out.on HK5.out.bel) htk (by rw [List.length_append, HML.out]; show _ + 1 + _ ≤ _; omega)).mono ?_
        rintro e w6 ⟨rfl, W6, K6⟩
        have W6' : Hid (Wr B b (l ++ nodeM t (k + 1)) w6) := Lib.hid (by
          rw [HT.out]
          simpa [List.append_assoc] using W6)
        have HK6 := Lib.hid (HK5.out.trans K6)
        clear W6 K6
        go_wp2
        go_roundw
        case rel => exact ⟨k + 1, by omega, by go_num, W6'.out, HK6.out⟩
        case measure => simp [intOf]; omega
      · have hks : k = t.kids.length := by omega
        have HKS := Lib.hid hks
        have HE : Hid (l ++ nodeM t k ++ [41] = l ++ textM t) := Lib.hid (by
          have e := HKS.out
          subst e
          rw [List.append_assoc, nodeM_all HF1.out])
        have HML : Hid ((l ++ nodeM t k).length = l.length + (nodeM t k).length) := Lib.hid List.length_append
        clear hks
        go_wp2_with fail
        refine (wrS_any B b _ _ _ HW.out (by rw [HML.out]; show _ + 1 ≤ _; omega) (by omega)).mono ?_
        rintro e w5 ⟨rfl, W5, b5, k5⟩
        have FIN : Hid (Wr B b (l ++ textM t) w5 ∧ Kp B b w w5) := Lib.hid ⟨by rw [← HE.out]; exact W5, HK.out.trans ⟨b5, k5⟩⟩
        go_wp2
        go_end0
        exact ⟨rfl, FIN.out⟩
  · obtain ⟨m, hm1, hm2⟩ := dec_nat f2
    have q1 : (t.kind == 1) = false := by rw [beq_eq_false_iff_ne]; omega
    have q : (t.kind == 2) = true := by rw [beq_iff_eq]; exact f1
    have hm3 : m ≤ 9223372036854775807 := by omega
    have hd := dec_len hm3
    have hdz : (tb (Lib.decDigits m)).size ≤ 21 := by rw [tb_size]; exact hd
    have HE : Hid (textM t = 36 :: Lib.decDigits m) := Lib.hid (by rw [textM_var f1, hm2])
    rw [hm1] at R0 hb0 z0 ⊢
    clear hm1 hm2 f1 f2 f3
    go_enter Tryd.func42, Tryd.ntmps42
    go_wp2_with fail
    generalize w.alloc (.cells #[.int .i64 t.kind, .int .i64 (m : Int), .slice A t.kids.length c] 60) = w2 at hb0 R0 z0 ⊢
    refine (fmt_any m hm3 B w2 (HTN.out.on (hb0.mono hBw))).mono ?_
    rintro e w3 ⟨rfl, b3⟩
    have b23 : Below w.heap.size w w3 := hb0.trans (b3.mono (by omega))
    clear hb0 b3 R0 z0
    have z3 := b23.size
    go_wp2_with fail
    refine (wrS_any B b l _ _ (HWR.out.on b23) (by rw [ByteArray.size_append]; show _ + (1 + _) ≤ _; omega) (by omega)).mono ?_
    rintro e w4 ⟨rfl, W4, b4, k4⟩
    have FIN : Hid (Wr B b (l ++ textM t) w4 ∧ Kp B b w w4) := Lib.hid ⟨by
      rw [HE.out]
      have e : ((⟨#[36]⟩ : ByteArray) ++ tb (Lib.decDigits m)).data.toList = 36 :: Lib.decDigits m := by rw [ByteArray.data_append]; simp [tb]
      rw [e] at W4
      exact W4, (Kp.of b23 hBw).trans ⟨b4, k4⟩⟩
    go_wp2
    go_end0
    exact ⟨rfl, FIN.out⟩
  · have q1 : (t.kind == 1) = false := by rw [beq_eq_false_iff_ne]; omega
    have q2 : (t.kind == 2) = false := by rw [beq_eq_false_iff_ne]; omega
    have q : (t.kind == 3) = true := by rw [beq_iff_eq]; exact f1
    have HE : Hid (textM t = [91, 93]) := Lib.hid (textM_box f1)
    clear f1 f2
    go_enter Tryd.func42, Tryd.ntmps42
    go_wp2_with fail
    refine (wrS_any B b l _ _ (HWR.out.on hb0) (by show _ + 2 ≤ _; omega) (by omega)).mono ?_
    rintro e w4 ⟨rfl, W4, b4, k4⟩
    have FIN : Hid (Wr B b (l ++ textM t) w4 ∧ Kp B b w w4) := Lib.hid ⟨by
      rw [HE.out]
      exact W4, (Kp.of hb0 hBw).trans ⟨b4, k4⟩⟩
    go_wp2
    go_end0
    exact ⟨rfl, FIN.out⟩
  · have q1 : (t.kind == 1) = false := by rw [beq_eq_false_iff_ne]; omega
    have q2 : (t.kind == 2) = false := by rw [beq_eq_false_iff_ne]; omega
    have q3 : (t.kind == 3) = false := by rw [beq_eq_false_iff_ne]; omega
    have q : (t.kind == 4) = true := by rw [beq_iff_eq]; exact f1
    have hl0 : 0 < t.kids.length := by omega
    have hl1 : 1 < t.kids.length := by omega
    have hE := plugM f1 f2 hl0 hl1
    have HE := Lib.hid hE
    have hEl : (textM t.kids[0]).length + (textM t.kids[1]).length + 3 = (textM t).length := by rw [hE, plugT_len]
    have HEL := Lib.hid hEl
    obtain ⟨bb, off, rfl, _, hbh, _, hcc⟩ := HC.out (by omega)
    obtain ⟨hc0, hc1, hc2⟩ := hcc 0 hl0
    obtain ⟨hd0, hd1, hd2⟩ := hcc 1 hl1
    rw [Nat.zero_mul, Nat.add_zero] at hc0 hc1 hc2
    rw [Nat.one_mul] at hd0 hd1 hd2
    have hst0 := HB.out 0 hl0
    have hst1 := HB.out 1 hl1
    generalize U 0 = u0 at hc2 hst0
    generalize U 1 = u1 at hd2 hst1
    obtain ⟨A0, c0, U0, hu0, -⟩ := hst0.parts
    obtain ⟨A1, c1, U1, hu1, -⟩ := hst1.parts
    subst hu0 hu1
    have HS0 := Lib.hid hst0
    have HS1 := Lib.hid hst1
    have t0 : TopM t.kids[0] := HS.out 0 hl0
    have t1 : TopM t.kids[1] := HS.out 1 hl1
    have p0 := HKP.out 0 hl0
    have p1 := HKP.out 1 hl1
    have i0 : (0 : Int) < (t.kids.length : Int) := by omega
    have i1 : (1 : Int) < (t.kids.length : Int) := by omega
    have HCS := Lib.hid (And.intro hc0 (And.intro hc1 hc2))
    have HDS := Lib.hid (And.intro hd0 (And.intro hd1 hd2))
    clear hst0 hst1 hcc hE hEl f1 f2 hc0 hc1 hc2 hd0 hd1 hd2
    go_enter Tryd.func42, Tryd.ntmps42
    go_wp2_with fail
    refine (wrS_any B b l _ _ (HWR.out.on hb0) (by have := HEL.out; show _ + 1 ≤ _; omega) (by omega)).mono ?_
    rintro e w3 ⟨rfl, W3, b3, k3⟩
    have K3 : Kp B b w w3 := (Kp.of hb0 hBw).trans ⟨b3, k3⟩
    have R3 := (Kp.mk b3 k3).row R0 (by omega) (by decide)
    have HR3 := Lib.hid R3
    have HW3 := Lib.hid W3
    have HK3 := Lib.hid K3
    have a2 := R3.cell 2
    simp at a2
    have m0 := (K3.bel.cell (p := ⟨bb, off, none⟩) (by show bb < _; omega)).trans HCS.out.1
    have m1 := (K3.bel.cell (p := ⟨bb, off + 1, none⟩) (by show bb < _; omega)).trans HCS.out.2.1
    have m2 := (K3.bel.cell (p := ⟨bb, off + 2, none⟩) (by show bb < _; omega)).trans HCS.out.2.2
    have z3 := K3.bel.size
    clear W3 K3 b3 k3 R0 R3
    go_wp2_with fail
    refine (ih t.kids[0] z _ lo hi B b _ w3 p0 (HS0.out.under HK3.out.bel hhi) hhi (by omega) HW3.out (HTN.out.on HK3.out.bel) t0 (by rw [List.length_append]; have := HEL.out; show _ + 1 + _ ≤ _; omega)).mono ?_
    rintro e w4 ⟨rfl, W4, K4⟩
    have HR4 := Lib.hid (K4.row HR3.out (by omega) (by decide))
    have HK4 := Lib.hid (HK3.out.trans K4)
    have HW4 := Lib.hid W4
    have z4 := K4.bel.size
    clear W4 K4 m0 m1 m2 a2
    go_wp2_with fail
    refine (wrS_any B b _ _ _ HW4.out (by rw [List.length_append, List.length_append]; have := HEL.out; show _ + 1 + _ + 1 ≤ _; omega) (by omega)).mono ?_
    rintro e w5 ⟨rfl, W5, b5, k5⟩
    have R5 := (Kp.mk b5 k5).row HR4.out (by omega) (by decide)
    have HK5 : Hid (Kp B b w w5) := Lib.hid (HK4.out.trans ⟨b5, k5⟩)
    have HW5 := Lib.hid W5
    have a2 := R5.cell 2
    simp at a2
    have m0 := (HK5.out.bel.cell (p := ⟨bb, off + 3, none⟩) (by show bb < _; omega)).trans HDS.out.1
    have m1 := (HK5.out.bel.cell (p := ⟨bb, off + 3 + 1, none⟩) (by show bb < _; omega)).trans HDS.out.2.1
    have m2 := (HK5.out.bel.cell (p := ⟨bb, off + 3 + 2, none⟩) (by show bb < _; omega)).trans HDS.out.2.2
    have z5 := HK5.out.bel.size
    clear W5 b5 k5 R5
    go_wp2_with fail
    refine (ih t.kids[1] z _ lo hi B b _ w5 p1 (HS1.out.under HK5.out.bel hhi) hhi (by omega) HW5.out (HTN.out.on HK5.out.bel) t1 (by rw [List.length_append, List.length_append, List.length_append]; have := HEL.out; show _ + 1 + _ + 1 + _ ≤ _; omega)).mono ?_
    rintro e w6 ⟨rfl, W6, K6⟩
    have HK6 := Lib.hid (HK5.out.trans K6)
    have HW6 := Lib.hid W6
    have z6 := K6.bel.size
    clear W6 K6 m0 m1 m2 a2
    go_wp2_with fail
    refine (wrS_any B b _ _ _ HW6.out (by rw [List.length_append, List.length_append, List.length_append, List.length_append]; have := HEL.out; show _ + 1 + _ + 1 + _ + 1 ≤ _; omega) (by omega)).mono ?_
    rintro e w7 ⟨rfl, W7, b7, k7⟩
    have FIN : Hid (Wr B b (l ++ textM t) w7 ∧ Kp B b w w7) := Lib.hid ⟨by
      rw [HE.out]
      unfold plugT
      simpa [List.append_assoc] using W7, HK6.out.trans ⟨b7, k7⟩⟩
    go_wp2
    go_end0
    exact ⟨rfl, FIN.out⟩
theorem writeTerm_any : ∀ d, WmC d := by
  intro d
  induction d with
  | zero => intro t z u lo hi B b l w hp; cases hp
  | succ d ih => exact writeTerm_of d ih
end Go.Proofs.YtbaofldcdcllfaaDoor
