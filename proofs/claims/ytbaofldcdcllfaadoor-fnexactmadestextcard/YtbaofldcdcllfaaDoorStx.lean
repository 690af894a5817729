/- The text of a tree: the model's l05Text, TreeText. -/
import Derived.Test.YtbaofldcdcllfaaDoorJSym
import Derived.Test.YtbaofldcdcllfaaDoorJXtd
import Derived.Test.YtbaofldcdcllfaaDoorJIpo
import Derived.Test.YtbaofldcdcllfaaDoorJTmd
namespace Go.Proofs.YtbaofldcdcllfaaDoor
open Go.RowKit

/-- bytes as a text -/
def tb (l : List UInt8) : ByteArray := ⟨l.toArray⟩
theorem tb_size (l : List UInt8) : (tb l).size = l.length := by simp [tb, ByteArray.size]
theorem tb_app (a b : List UInt8) : tb a ++ tb b = tb (a ++ b) := by
  apply ByteArray.ext
  rw [ByteArray.data_append]
  simp [tb]
theorem tb_of (s : ByteArray) : tb s.data.toList = s := by
  apply ByteArray.ext
  simp [tb]
theorem ret_tb {a b : ByteArray} (h : a = b) : Ending.returned (.string a) = .returned (.string b) := by rw [h]
/-- a tree's text, but for its end, when k of its Kids are told -/
def partT (t : TreeD) (k : Nat) : List UInt8 := 40 :: ruleT t.rule ++ textsOf (t.kids.take k)
theorem partT_zero (t : TreeD) : partT t 0 = 40 :: ruleT t.rule := by simp [partT, textsOf]
theorem partT_succ (t : TreeD) (k : Nat) (h : k < t.kids.length) : partT t (k + 1) = partT t k ++ [32] ++ textOf t.kids[k] := by
  unfold partT; rw [textsOf_take _ _ h]; simp
theorem partT_all (t : TreeD) (h : ¬ (t.tok.size ≠ 0 ∧ t.kids.length = 0)) : partT t t.kids.length ++ [41] = textOf t := by
  unfold partT; rw [List.take_length, textOf_node h]
theorem partT_len (t : TreeD) (k : Nat) (h : ¬ (t.tok.size ≠ 0 ∧ t.kids.length = 0)) : (partT t k).length + 1 ≤ (textOf t).length := by
  rw [← partT_all t h, List.length_append]
  unfold partT
  have := textsOf_take_le t.kids k
  rw [List.take_length]
  simp only [List.length_append, List.length_cons, List.length_nil]
  omega
theorem partT_len2 (t : TreeD) (k : Nat) (hk : k < t.kids.length) (h : ¬ (t.tok.size ≠ 0 ∧ t.kids.length = 0)) : (partT t k).length + 1 + (textOf t.kids[k]).length + 1 ≤ (textOf t).length := by
  have := partT_len t (k + 1) h
  rw [partT_succ t k hk] at this
  simp only [List.length_append, List.length_cons, List.length_nil] at this
  omega

def SpX (t : TreeD) : Prop := ∀ (z : Bool) (u : Value) (lo hi : Nat) (w : World), Kd z w lo hi u t.kids → hi ≤ w.heap.size → TopOk t → (textOf t).length ≤ 1000000000 →
  Calls Tryd.prog 17 #[trV t u] w fun e w' => e = .returned (.string (tb (textOf t))) ∧ Below w.heap.size w w'

set_option maxRecDepth 100000 in
set_option maxHeartbeats 2000000 in
theorem specText5_of (t : TreeD) (ih : ∀ i (h : i < t.kids.length), SpX t.kids[i]) : SpX t := by
  intro z u lo hi w h hhi htop hn
  obtain ⟨A, c, U, rfl, hlc, hc, hs, hcell, hsub⟩ := h.parts
  unfold maxLen at hc
  have HC := Lib.hid hcell
  have HB := Lib.hid hsub
  have HS := Lib.hid hs
  obtain ⟨ht1, ht2, ht3⟩ := htop
  clear hcell hsub h hs
  unfold trV
  have hb0 := al1 w (.cells #[.int .i64 t.rule, .string t.tok, .slice A t.kids.length c] 29)
  have R0 := Row.made w 29 #[.int .i64 t.rule, .string t.tok, .slice A t.kids.length c]
  by_cases hlf : t.tok.size ≠ 0 ∧ t.kids.length = 0
  · have e1 : (t.tok.toList == []) = false := by rw [toks_empty, decide_eq_false hlf.1]
    have e2 : ((t.kids.length : Int) == 0) = true := by rw [hlf.2]; rfl
    have HE := Lib.hid (textOf_leaf hlf.1 hlf.2)
    clear hlf
    go_enter Tryd.func17, Tryd.ntmps17
    go_wp2
    go_ret
    exact ⟨ret_tb (by rw [HE.out, tb_of]), hb0⟩
  have HLF := Lib.hid hlf
  have e0 : (t.tok.toList == []) = false → ((t.kids.length : Int) == 0) = false := by
    intro e
    rw [toks_empty, decide_eq_false_iff_not] at e
    rw [beq_eq_false_iff_ne]
    intro e2
    exact hlf ⟨e, by omega⟩
  have hp0 := partT_len t 0 hlf
  clear hlf
  by_cases hr : t.rule < 0
  · have q1 : decide (t.rule ≥ 0) = false := decide_eq_false (by omega)
    have HP : Hid (tb (partT t 0) = ⟨#[40, 45]⟩) := Lib.hid (by rw [partT_zero]; unfold ruleT; rw [if_pos hr]; rfl)
    by_cases h1 : t.tok.size = 0
    · have e1 : (t.tok.toList == []) = true := by rw [toks_empty, decide_eq_true h1]
      clear e0 hr
      go_enter Tryd.func17, Tryd.ntmps17
      go_wp2
      generalize w.alloc (.cells #[.int .i64 t.rule, .string t.tok, .slice A t.kids.length c] 29) = w0 at hb0 R0 ⊢
      go_loopw [3, 4] (fun o i wr => ∃ k : Nat, k ≤ t.kids.length ∧ i = .int .i64 k ∧ o = .string (tb (partT t k)) ∧ Below w0.heap.size w0 wr) (fun _ i _ => t.kids.length - (intOf i).toNat)
      case atStart => exact ⟨0, by omega, rfl, by rw [HP.out], Below.refl _ _⟩
      case round =>
        obtain ⟨k, hk, rfl, rfl, hbw⟩ := hrel
        have hsw := hbw.size
        have hws := hb0.size
        have R1 := R0.below hbw R0.lt
        have hlt0 := R1.lt
        have c2 := R1.cell 2
        simp at c2
        have hpl := partT_len t k HLF.out
        have hpz := tb_size (partT t k)
        have hpz2 : (tb (partT t k)).size ≤ 1000000000 := by omega
        clear hpz
        by_cases hlt : k < t.kids.length
        · obtain ⟨b, off, rfl, _, hbh, _, hcc⟩ := HC.out (by omega)
          obtain ⟨hc0, hc1, hc2⟩ := hcc k hlt
          have hbx := hb0.trans (hbw.mono hws)
          have k0 := (hbx.cell (p := ⟨b, off + k * 3, none⟩) (by show b < _; omega)).trans hc0
          have k1 := (hbx.cell (p := ⟨b, off + k * 3 + 1, none⟩) (by show b < _; omega)).trans hc1
          have k2 := (hbx.cell (p := ⟨b, off + k * 3 + 2, none⟩) (by show b < _; omega)).trans hc2
          have hst' := (HB.out k hlt).under hbx hhi
          have hl2 := partT_len2 t k hlt HLF.out
          have HT := Lib.hid (partT_succ t k hlt)
          have hkz := tb_size (textOf t.kids[k])
          have hkz2 : (tb (textOf t.kids[k])).size ≤ 1000000000 := by omega
          have HSZ : Hid ((tb (partT t k)).size + 1 + (tb (textOf t.kids[k])).size ≤ 1000000000) := Lib.hid (by have := tb_size (partT t k); omega)
          have htk : TopOk t.kids[k] := HS.out k hlt
          clear hcc hc0 hc1 hc2 R1 hkz
          go_wp2_with fail
          refine (ih k hlt z (U k) lo hi _ hst' (by omega) htk (by omega)).mono ?_
          rintro e w1 ⟨rfl, hb1⟩
          have hs3 : (tb (partT t k) ++ (⟨#[32]⟩ : ByteArray)).size ≤ 1000000001 := by rw [ByteArray.size_append]; have := hpz2; show _ + 1 ≤ _; omega
          go_wp2
          go_roundw
          case rel => exact ⟨k + 1, by omega, by go_num, by rw [HT.out, ← tb_app, ← tb_app]; rfl, hbw.trans (hb1.mono hsw)⟩
          case measure => simp [intOf]; omega
        · have hks : k = t.kids.length := by omega
          have HK := Lib.hid hks
          clear hks R1
          go_wp2
          go_ret
          refine ⟨ret_tb ?_, hb0.trans (hbw.mono hws)⟩
          have e := HK.out
          subst e
          rw [← partT_all t HLF.out, ← tb_app]
          rfl
    · have e1 : (t.tok.toList == []) = false := by rw [toks_empty, decide_eq_false h1]
      have e2 := e0 e1
      clear e0 hr
      go_enter Tryd.func17, Tryd.ntmps17
      go_wp2
      generalize w.alloc (.cells #[.int .i64 t.rule, .string t.tok, .slice A t.kids.length c] 29) = w0 at hb0 R0 ⊢
      go_loopw [3, 4] (fun o i wr => ∃ k : Nat, k ≤ t.kids.length ∧ i = .int .i64 k ∧ o = .string (tb (partT t k)) ∧ Below w0.heap.size w0 wr) (fun _ i _ => t.kids.length - (intOf i).toNat)
      case atStart => exact ⟨0, by omega, rfl, by rw [HP.out], Below.refl _ _⟩
      case round =>
        obtain ⟨k, hk, rfl, rfl, hbw⟩ := hrel
        have hsw := hbw.size
        have hws := hb0.size
        have R1 := R0.below hbw R0.lt
        have hlt0 := R1.lt
        have c2 := R1.cell 2
        simp at c2
        have hpl := partT_len t k HLF.out
        have hpz := tb_size (partT t k)
        have hpz2 : (tb (partT t k)).size ≤ 1000000000 := by omega
        clear hpz
        by_cases hlt : k < t.kids.length
        · obtain ⟨b, off, rfl, _, hbh, _, hcc⟩ := HC.out (by omega)
          obtain ⟨hc0, hc1, hc2⟩ := hcc k hlt
          have hbx := hb0.trans (hbw.mono hws)
          have k0 := (hbx.cell (p := ⟨b, off + k * 3, none⟩) (by show b < _; omega)).trans hc0
          have k1 := (hbx.cell (p := ⟨b, off + k * 3 + 1, none⟩) (by show b < _; omega)).trans hc1
          have k2 := (hbx.cell (p := ⟨b, off + k * 3 + 2, none⟩) (by show b < _; omega)).trans hc2
          have hst' := (HB.out k hlt).under hbx hhi
          have hl2 := partT_len2 t k hlt HLF.out
          have HT := Lib.hid (partT_succ t k hlt)
          have hkz := tb_size (textOf t.kids[k])
          have hkz2 : (tb (textOf t.kids[k])).size ≤ 1000000000 := by omega
          have HSZ : Hid ((tb (partT t k)).size + 1 + (tb (textOf t.kids[k])).size ≤ 1000000000) := Lib.hid (by have := tb_size (partT t k); omega)
          have htk : TopOk t.kids[k] := HS.out k hlt
          clear hcc hc0 hc1 hc2 R1 hkz
          go_wp2_with fail
          refine (ih k hlt z (U k) lo hi _ hst' (by omega) htk (by omega)).mono ?_
          rintro e w1 ⟨rfl, hb1⟩
          have hs3 : (tb (partT t k) ++ (⟨#[32]⟩ : ByteArray)).size ≤ 1000000001 := by rw [ByteArray.size_append]; have := hpz2; show _ + 1 ≤ _; omega
          go_wp2
          go_roundw
          case rel => exact ⟨k + 1, by omega, by go_num, by rw [HT.out, ← tb_app, ← tb_app]; rfl, hbw.trans (hb1.mono hsw)⟩
          case measure => simp [intOf]; omega
        · have hks : k = t.kids.length := by omega
          have HK := Lib.hid hks
          clear hks R1
          go_wp2
          go_ret
          refine ⟨ret_tb ?_, hb0.trans (hbw.mono hws)⟩
          have e := HK.out
          subst e
          rw [← partT_all t HLF.out, ← tb_app]
          rfl
  · obtain ⟨n, hrn⟩ := Int.eq_ofNat_of_zero_le (show 0 ≤ t.rule by omega)
    rw [hrn] at ht2 ht3 R0 hb0 ⊢
    have q1 : decide ((n : Int) ≥ 0) = true := decide_eq_true (by omega)
    have HP : Hid (tb (partT t 0) = (⟨#[40]⟩ : ByteArray) ++ ⟨(Lib.decDigits n).toArray⟩) := Lib.hid (by
      rw [partT_zero]; unfold ruleT; rw [if_neg hr, hrn, Int.toNat_natCast]
      exact (tb_app [40] (Lib.decDigits n)).symm)
    clear hr hrn
    by_cases h1 : t.tok.size = 0
    · have e1 : (t.tok.toList == []) = true := by rw [toks_empty, decide_eq_true h1]
      clear e0
      go_enter Tryd.func17, Tryd.ntmps17
      go_wp2_with fail
      refine (specDec_any n (by omega) _).mono ?_
      rintro e w0 ⟨rfl, b1⟩
      have hd := dec_len (N := n) (by omega)
      have hd2 : (⟨(Lib.decDigits n).toArray⟩ : ByteArray).size ≤ 21 := by simp [ByteArray.size]; exact hd
      have R9 := R0.below b1 R0.lt
      have hb9 := hb0.trans (b1.mono (by simp))
      clear R0 hb0 b1
      go_wp2
      have R0 := R9
      have hb0 := hb9
      clear R9 hb9
      go_loopw [3, 4] (fun o i wr => ∃ k : Nat, k ≤ t.kids.length ∧ i = .int .i64 k ∧ o = .string (tb (partT t k)) ∧ Below w0.heap.size w0 wr) (fun _ i _ => t.kids.length - (intOf i).toNat)
      case atStart => exact ⟨0, by omega, rfl, by rw [HP.out], Below.refl _ _⟩
      case round =>
        obtain ⟨k, hk, rfl, rfl, hbw⟩ := hrel
        have hsw := hbw.size
        have hws := hb0.size
        have R1 := R0.below hbw R0.lt
        have hlt0 := R1.lt
        have c2 := R1.cell 2
        simp at c2
        have hpl := partT_len t k HLF.out
        have hpz := tb_size (partT t k)
        have hpz2 : (tb (partT t k)).size ≤ 1000000000 := by omega
        clear hpz
        by_cases hlt : k < t.kids.length
        · obtain ⟨b, off, rfl, _, hbh, _, hcc⟩ := HC.out (by omega)
          obtain ⟨hc0, hc1, hc2⟩ := hcc k hlt
          have hbx := hb0.trans (hbw.mono hws)
          have k0 := (hbx.cell (p := ⟨b, off + k * 3, none⟩) (by show b < _; omega)).trans hc0
          have k1 := (hbx.cell (p := ⟨b, off + k * 3 + 1, none⟩) (by show b < _; omega)).trans hc1
          have k2 := (hbx.cell (p := ⟨b, off + k * 3 + 2, none⟩) (by show b < _; omega)).trans hc2
          have hst' := (HB.out k hlt).under hbx hhi
          have hl2 := partT_len2 t k hlt HLF.out
          have HT := Lib.hid (partT_succ t k hlt)
          have hkz := tb_size (textOf t.kids[k])
          have hkz2 : (tb (textOf t.kids[k])).size ≤ 1000000000 := by omega
          have HSZ : Hid ((tb (partT t k)).size + 1 + (tb (textOf t.kids[k])).size ≤ 1000000000) := Lib.hid (by have := tb_size (partT t k); omega)
          have htk : TopOk t.kids[k] := HS.out k hlt
          clear hcc hc0 hc1 hc2 R1 hkz
          go_wp2_with fail
          refine (ih k hlt z (U k) lo hi _ hst' (by omega) htk (by omega)).mono ?_
          rintro e w1 ⟨rfl, hb1⟩
          have hs3 : (tb (partT t k) ++ (⟨#[32]⟩ : ByteArray)).size ≤ 1000000001 := by rw [ByteArray.size_append]; have := hpz2; show _ + 1 ≤ _; omega
          go_wp2
          go_roundw
          case rel => exact ⟨k + 1, by omega, by go_num, by rw [HT.out, ← tb_app, ← tb_app]; rfl, hbw.trans (hb1.mono hsw)⟩
          case measure => simp [intOf]; omega
        · have hks : k = t.kids.length := by omega
          have HK := Lib.hid hks
          clear hks R1
          go_wp2
          go_ret
          refine ⟨ret_tb ?_, hb0.trans (hbw.mono hws)⟩
          have e := HK.out
          subst e
          rw [← partT_all t HLF.out, ← tb_app]
          rfl
    · have e1 : (t.tok.toList == []) = false := by rw [toks_empty, decide_eq_false h1]
      have e2 := e0 e1
      clear e0
      go_enter Tryd.func17, Tryd.ntmps17
      go_wp2_with fail
      refine (specDec_any n (by omega) _).mono ?_
      rintro e w0 ⟨rfl, b1⟩
      have hd := dec_len (N := n) (by omega)
      have hd2 : (⟨(Lib.decDigits n).toArray⟩ : ByteArray).size ≤ 21 := by simp [ByteArray.size]; exact hd
      have R9 := R0.below b1 R0.lt
      have hb9 := hb0.trans (b1.mono (by simp))
      clear R0 hb0 b1
      go_wp2
      have R0 := R9
      have hb0 := hb9
      clear R9 hb9
      go_loopw [3, 4] (fun o i wr => ∃ k : Nat, k ≤ t.kids.length ∧ i = .int .i64 k ∧ o = .string (tb (partT t k)) ∧ Below w0.heap.size w0 wr) (fun _ i _ => t.kids.length - (intOf i).toNat)
      case atStart => exact ⟨0, by omega, rfl, by rw [HP.out], Below.refl _ _⟩
      case round =>
        obtain ⟨k, hk, rfl, rfl, hbw⟩ := hrel
        have hsw := hbw.size
        have hws := hb0.size
        have R1 := R0.below hbw R0.lt
        have hlt0 := R1.lt
        have c2 := R1.cell 2
        simp at c2
        have hpl := partT_len t k HLF.out
        have hpz := tb_size (partT t k)
        have hpz2 : (tb (partT t k)).size ≤ 1000000000 := by omega
        clear hpz
        by_cases hlt : k < t.kids.length
        · obtain ⟨b, off, rfl, _, hbh, _, hcc⟩ := HC.out (by omega)
          obtain ⟨hc0, hc1, hc2⟩ := hcc k hlt
          have hbx := hb0.trans (hbw.mono hws)
          have k0 := (hbx.cell (p := ⟨b, off + k * 3, none⟩) (by show b < _; omega)).trans hc0
          have k1 := (hbx.cell (p := ⟨b, off + k * 3 + 1, none⟩) (by show b < _; omega)).trans hc1
          have k2 := (hbx.cell (p := ⟨b, off + k * 3 + 2, none⟩) (by show b < _; omega)).trans hc2
          have hst' := (HB.out k hlt).under hbx hhi
          have hl2 := partT_len2 t k hlt HLF.out
          have HT := Lib.hid (partT_succ t k hlt)
          have hkz := tb_size (textOf t.kids[k])
          have hkz2 : (tb (textOf t.kids[k])).size ≤ 1000000000 := by omega
          have HSZ : Hid ((tb (partT t k)).size + 1 + (tb (textOf t.kids[k])).size ≤ 1000000000) := Lib.hid (by have := tb_size (partT t k); omega)
          have htk : TopOk t.kids[k] := HS.out k hlt
          clear hcc hc0 hc1 hc2 R1 hkz
          go_wp2_with fail
          refine (ih k hlt z (U k) lo hi _ hst' (by omega) htk (by omega)).mono ?_
          rintro e w1 ⟨rfl, hb1⟩
          have hs3 : (tb (partT t k) ++ (⟨#[32]⟩ : ByteArray)).size ≤ 1000000001 := by rw [ByteArray.size_append]; have := hpz2; show _ + 1 ≤ _; omega
          go_wp2
          go_roundw
          case rel => exact ⟨k + 1, by omega, by go_num, by rw [HT.out, ← tb_app, ← tb_app]; rfl, hbw.trans (hb1.mono hsw)⟩
          case measure => simp [intOf]; omega
        · have hks : k = t.kids.length := by omega
          have HK := Lib.hid hks
          clear hks R1
          go_wp2
          go_ret
          refine ⟨ret_tb ?_, hb0.trans (hbw.mono hws)⟩
          have e := HK.out
          subst e
          rw [← partT_all t HLF.out, ← tb_app]
          rfl
theorem specText5_any (t : TreeD) : SpX t := tree_ind specText5_of t

/-- TreeText, as data -/
def treeT (t : TreeD) : List UInt8 := if sizeT t ≤ 200 then textOf t else []
theorem Upto.big {n : Nat} {r : Int} (h : Upto n 200 r) : decide (r > 200) = decide (¬ n ≤ 200) := by
  unfold Upto at h
  rw [Bool.eq_iff_iff, decide_eq_true_eq, decide_eq_true_eq]
  omega
set_option maxRecDepth 100000 in
set_option maxHeartbeats 1000000 in
theorem specTreeText_any (t : TreeD) (z : Bool) (u : Value) (lo hi : Nat) (w : World) (h : Kd z w lo hi u t.kids) (hhi : hi ≤ w.heap.size) (ht : TopOk t) (hn : bulkT t ≤ 1048576) :
    Calls Tryd.prog 6 #[trV t u] w fun e w' => e = .returned (.string (tb (treeT t))) ∧ Below w.heap.size w w' := by
  have hb := al1 w (.cells #[.int .i64 t.rule, .string t.tok, u] 29)
  have HK := Lib.hid (h.under hb hhi)
  have R0 := Row.made w 29 #[.int .i64 t.rule, .string t.tok, u]
  have hsz := sizeT_le_bulkT t
  have hft : fitsT t := (fitsT_eq t).2 ⟨ht.2.2, h.fits⟩
  have hlen := textOf_len t hft
  have HT := Lib.hid ht
  obtain ⟨A, c, U, rfl, -⟩ := h.parts
  clear h hft ht
  unfold trV
  go_enter Tryd.func6, Tryd.ntmps6
  go_wp2_with fail
  refine (specSize5_any t z _ lo hi 200 _ HK.out (by simp; omega) (by omega) (by omega) (by omega)).mono ?_
  rintro e w1 ⟨r, rfl, hup, b1⟩
  have HU := Lib.hid hup.big
  have R1 := R0.below b1 R0.lt
  have a0 := R1.cell 0
  have a1 := R1.cell 1
  have a2 := R1.cell 2
  simp at a0 a1 a2
  have HB1 := Lib.hid (hb.trans (b1.mono (by simp)))
  have HK1 := Lib.hid (HK.out.under b1 (by simp; omega))
  have z1 : w.heap.size < w1.heap.size := R1.lt
  clear hup R1 b1 R0 hb
  by_cases hf : sizeT t ≤ 200
  · have q : decide (r > 200) = false := by rw [HU.out]; simp [hf]
    have HE : Hid (treeT t = textOf t) := Lib.hid (by unfold treeT; rw [if_pos hf])
    go_wp2_with fail
    refine (specText5_any t z _ lo hi w1 HK1.out (by omega) HT.out (by omega)).mono ?_
    rintro e w2 ⟨rfl, b2⟩
    go_wp2
    go_ret
    exact ⟨ret_tb (by rw [HE.out]), HB1.out.trans (b2.mono (by omega))⟩
  · have q : decide (r > 200) = true := by rw [HU.out]; simp [hf]
    have HE : Hid (treeT t = []) := Lib.hid (by unfold treeT; rw [if_neg hf])
    go_wp2
    go_ret
    exact ⟨ret_tb (by rw [HE.out]; rfl), HB1.out⟩
end Go.Proofs.YtbaofldcdcllfaaDoor
