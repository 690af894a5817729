import Derived.Test.YtokdhgocgicdnaaGreatDoorJWri
import Derived.Lib.AppendIntMem
import Derived.Test.YtokdhgocgicdnaaGreatDoorJIyh
import Derived.Test.YtokdhgocgicdnaaGreatDoorJIpu
/- The text of a tree: the program's ruleDigits, writeTree. -/
namespace Go.Proofs.YtokdhgocgicdnaaGreatDoor
open Go.RowKit

theorem grow_below (w : World) (k : Nat) (os : Array Obj) : Below w.heap.size w (Sort.grow (w.drewN k) os) :=
  ⟨rfl, rfl, rfl, by simp [Sort.grow, World.drewN], fun i hi => by simp [Sort.grow, World.drewN, Array.getElem?_append_left hi]⟩
/-- the table of tens lies as it was laid, whatever is done from block B on -/
abbrev Tens (B : Nat) (w : World) : Prop := Lib.TabBelow Tryz.prog B w "internal/strconv.uint64pow10" .u64 Lib.pow10Tab
theorem fmt_any (n : Nat) (hn : n ≤ 9223372036854775807) (B : Nat) (w : World) (ht : Tens B w) :
    Calls Tryz.prog 70 #[.int .i64 (n : Int), .int .i64 10] w fun e w' => e = .returned (.string (tb (Lib.decDigits n))) ∧ Below w.heap.size w w' :=
  Calls.mono (Tryz.strconv_FormatInt_10 (n : Int) (by omega) (by omega) w ht.here) fun _ _ ⟨h1, k, os, h2⟩ => ⟨by rw [h1]; unfold Lib.itoa; rw [if_neg (by omega), Int.toNat_natCast]; rfl, by rw [h2]; exact grow_below w k os⟩

set_option maxRecDepth 100000 in
set_option maxHeartbeats 1000000 in
theorem ruleDigits_any (r : Int) (h1 : r ≤ 9223372036854775807) (B : Nat) (w : World) (ht : Tens B w) :
    Calls Tryz.prog 56 #[.int .i64 r] w fun e w' => e = .returned (.string (tb (ruleT r))) ∧ Below w.heap.size w w' := by
  by_cases hr : r < 0
  · have HE : Hid (tb (ruleT r) = ⟨#[45]⟩) := Lib.hid (by unfold ruleT; rw [if_pos hr]; rfl)
    go_enter Tryz.func56, Tryz.ntmps56
    go_wp2
    go_ret
    exact ⟨ret_tb HE.out.symm, Below.refl _ _⟩
  · obtain ⟨n, hrn⟩ := Int.eq_ofNat_of_zero_le (show 0 ≤ r by omega)
    have HE : Hid (ruleT r = Lib.decDigits n) := Lib.hid (by unfold ruleT; rw [if_neg hr, hrn, Int.toNat_natCast])
    subst hrn
    rw [HE.out]
    have HT := Lib.hid ht
    clear ht
    go_enter Tryz.func56, Tryz.ntmps56
    go_wp2_with fail
    refine (fmt_any n (by omega) B w HT.out).mono ?_
    rintro e w1 ⟨rfl, b1⟩
    go_wp2
    go_ret
    exact ⟨rfl, b1⟩

theorem ta_leaf (x y : Value) (W : World) : (Instr.typeAssert (.iface 97 (.agg #[x, y])) 90 97 true).run Tryz.prog W = .ok (.tuple #[.agg #[x, y], .bool true]) W := by kernel_rfl
theorem ta_no (x : Value) (W : World) : (Instr.typeAssert (.iface 103 x) 90 97 true).run Tryz.prog W = .ok (.tuple #[.agg #[.int .i64 0, .string ⟨#[]⟩], .bool false]) W := by kernel_rfl
theorem ta_node (x y z : Value) (W : World) : (Instr.typeAssert (.iface 103 (.agg #[x, y, z])) 90 103 true).run Tryz.prog W = .ok (.tuple #[.agg #[x, y, z], .bool true]) W := by kernel_rfl
/-- what a writer leaves of all else: blocks below B, and those that are no rows of bytes -/
structure Kp (B b : Nat) (w w' : World) : Prop where
  bel : Below B w w'
  oth : Lib.OthersKept 5 (some b) w w'
theorem Kp.refl (B b : Nat) (w : World) : Kp B b w w := ⟨Below.refl _ _, Lib.OthersKept.refl _ _ _⟩
theorem Kp.trans {B b : Nat} {a c d : World} (h : Kp B b a c) (k : Kp B b c d) : Kp B b a d := ⟨h.bel.trans k.bel, h.oth.trans k.oth⟩
theorem Kp.of {B b : Nat} {w w' : World} (h : Below w.heap.size w w') (hB : B ≤ w.heap.size) : Kp B b w w' := ⟨h.mono hB, fun k o hk _ _ => by
  have hlt : k < w.heap.size := by
    rcases Nat.lt_or_ge k w.heap.size with h1 | h1
    · exact h1
    · rw [Array.getElem?_eq_none h1] at hk; cases hk
  rw [h.block k hlt]; exact hk⟩
theorem Kp.row {B b g : Nat} {w w' : World} {t : TypeId} {cur : Array Value} (h : Kp B b w w') (r : Row w g t cur) (hb : g ≠ b) (ht : t ≠ 5) : Row w' g t cur :=
  h.oth g _ r (fun e => hb (Option.some.inj e)) (fun c fz e => ht (by injection e))
theorem Wr.lt {B b : Nat} {l : List UInt8} {w : World} (h : Wr B b l w) : b < w.heap.size := h.elim (fun x => x.lt) (fun x => x.lt)

def WtC (t : TreeD) : Prop := ∀ (z : Bool) (u : Value) (lo hi B b : Nat) (l : List UInt8) (w : World), Kd z w lo hi u t.kids → hi ≤ B → B ≤ w.heap.size → Wr B b l w → Tens B w → TopOk t → l.length + (textOf t).length ≤ 1000000000 →
  Calls Tryz.prog 36 #[.pointer (some ⟨b, 0, none⟩), trV t u] w fun e w' => e = .returned (.tuple #[]) ∧ Wr B b (l ++ textOf t) w' ∧ Kp B b w w'

set_option maxRecDepth 100000 in
set_option maxHeartbeats 4000000 in
theorem writeTree_of (t : TreeD) (ih : ∀ i (h : i < t.kids.length), WtC t.kids[i]) : WtC t := by
  intro z u lo hi B b l w h hhi hBw hwr htn htop hn
  obtain ⟨A, c, U, rfl, hlc, hc, hs, hcell, hsub⟩ := h.parts
  unfold maxLen at hc
  have HC := Lib.hid hcell
  have HB := Lib.hid hsub
  have HS := Lib.hid hs
  have HWR := Lib.hid hwr
  have HTN := Lib.hid htn
  have hbl := hwr.lt
  obtain ⟨ht1, ht2, ht3⟩ := htop
  clear hcell hsub h hs hwr htn
  unfold trV
  by_cases hlf : t.tok.size ≠ 0 ∧ t.kids.length = 0
  · have HP := Lib.hid (partV_leaf hlf (.slice A t.kids.length c))
    have HE := Lib.hid (textOf_leaf hlf.1 hlf.2)
    have hlen : t.tok.size = (textOf t).length := by rw [textOf_leaf hlf.1 hlf.2, Array.length_toList]; rfl
    have HL := Lib.hid hlen
    clear hlf hlen
    have hta := ta_leaf
    go_enter Tryz.func36, Tryz.ntmps36
    go_wp2_with fail
    refine (partOf_any t A c _).mono ?_
    rintro e w1 ⟨rfl, hw1⟩
    rw [HP.out]
    have b1 : Below w.heap.size w w1 := by rw [hw1]; exact al2 _ _ _
    have z1 : w.heap.size ≤ w1.heap.size := b1.size
    clear hw1
    go_wp2_with fail
    have b2 : Below w.heap.size w (w1.alloc (.cells #[.int .i64 t.rule, .string t.tok] 97)) := b1.alloc z1 _
    refine (wrS_any B b l t.tok _ (HWR.out.on b2) (by have := HL.out; omega) (by simp; omega)).mono ?_
    rintro e w2 ⟨rfl, W2, b3, k3⟩
    have FIN : Hid (Wr B b (l ++ textOf t) w2 ∧ Kp B b w w2) := Lib.hid ⟨by rw [HE.out]; exact W2, (Kp.of b2 hBw).trans ⟨b3, k3⟩⟩
    go_wp2
    go_end0
    exact ⟨rfl, FIN.out⟩
  · have HP := Lib.hid (partV_node hlf (.slice A t.kids.length c))
    have HLF := Lib.hid hlf
    have hp0 := partT_len t 0 hlf
    have hz0 := partT_zero t
    have HZ0 := Lib.hid hz0
    have hrl : (ruleT t.rule).length + 2 ≤ (textOf t).length := by rw [hz0] at hp0; simp at hp0; omega
    have hrz := tb_size (ruleT t.rule)
    clear hlf hz0
    have hta := ta_no
    have htb := ta_node
    go_enter Tryz.func36, Tryz.ntmps36
    go_wp2_with fail
    refine (partOf_any t A c _).mono ?_
    rintro e w1 ⟨rfl, hw1⟩
    rw [HP.out]
    have b1 : Below w.heap.size w w1 := by rw [hw1]; exact al2 _ _ _
    have z1 : w.heap.size ≤ w1.heap.size := b1.size
    clear hw1
    go_wp2_with fail
    have b2 : Below w.heap.size w (w1.alloc (.cells #[.int .i64 t.rule, .string t.tok, .slice A t.kids.length c] 103)) := b1.alloc z1 _
    have R2 := Row.made w1 103 #[.int .i64 t.rule, .string t.tok, .slice A t.kids.length c]
    have z2 : w.heap.size < (w1.alloc (.cells #[.int .i64 t.rule, .string t.tok, .slice A t.kids.length c] 103)).heap.size := by simp; omega
    generalize w1.alloc (.cells #[.int .i64 t.rule, .string t.tok, .slice A t.kids.length c] 103) = w2 at b2 R2 z2 ⊢
    refine (ruleDigits_any t.rule ht3 B w2 (HTN.out.on (b2.mono hBw))).mono ?_
    rintro e w3 ⟨rfl, b3⟩
    have b23 : Below w.heap.size w w3 := b2.trans (b3.mono (by omega))
    have R3 := R2.below b3 R2.lt
    have hr2 : (tb (ruleT t.rule)).size ≤ 1000000000 := by omega
    clear b2 b3 R2 z2
    have z3 := b23.size
    go_wp2_with fail
    refine (wrS_any B b l _ _ (HWR.out.on b23) (by rw [ByteArray.size_append]; show _ + (1 + _) ≤ _; omega) (by omega)).mono ?_
    rintro e w4 ⟨rfl, W4, b4, k4⟩
    have K4 : Kp B b w w4 := (Kp.of b23 hBw).trans ⟨b4, k4⟩
    have R4 := (Kp.mk b4 k4).row R3 (by omega) (by decide)
    have W4' : Wr B b (l ++ partT t 0) w4 := by
      rw [HZ0.out]
      have e : ((⟨#[40]⟩ : ByteArray) ++ tb (ruleT t.rule)).data.toList = 40 :: ruleT t.rule := by rw [ByteArray.data_append]; simp [tb]
      rw [e] at W4
      exact W4
    have c0 := R4.cell 2
    simp at c0
    have HK4 := Lib.hid K4
    have HW4 := Lib.hid W4'
    clear W4 W4' b4 k4 K4 R3 b23
    go_wp2
    go_loopw [29] (fun i wr => ∃ k : Nat, k ≤ t.kids.length ∧ i = .int .i64 k ∧ Wr B b (l ++ partT t k) wr ∧ Kp B b w wr) (fun i _ => t.kids.length - (intOf i).toNat)
    case atStart => exact ⟨0, by omega, rfl, HW4.out, HK4.out⟩
    case round =>
      obtain ⟨k, hk, rfl, hW, hK⟩ := hrel
      have hsw := hK.bel.size
      have HW := Lib.hid hW
      have HK := Lib.hid hK
      have hbr := hW.lt
      have hpl := partT_len t k HLF.out
      clear hW hK
      by_cases hlt : k < t.kids.length
      · obtain ⟨bb, off, rfl, _, hbh, _, hcc⟩ := HC.out (by omega)
        obtain ⟨hc0, hc1, hc2⟩ := hcc k hlt
        have k0 := (HK.out.bel.cell (p := ⟨bb, off + k * 3, none⟩) (by show bb < _; omega)).trans hc0
        have k1 := (HK.out.bel.cell (p := ⟨bb, off + k * 3 + 1, none⟩) (by show bb < _; omega)).trans hc1
        have k2 := (HK.out.bel.cell (p := ⟨bb, off + k * 3 + 2, none⟩) (by show bb < _; omega)).trans hc2
        have hst := HB.out k hlt
        generalize U k = uj at k2 hst
        obtain ⟨A', c', U', hu, -⟩ := hst.parts
        subst hu
        have HST := Lib.hid hst
        have hl2 := partT_len2 t k hlt HLF.out
        have HT := Lib.hid (partT_succ t k hlt)
        have htk : TopOk t.kids[k] := HS.out k hlt
        have a5 := al1 wr (.cells #[.int .i64 t.kids[k].rule, .string t.kids[k].tok, .slice A' t.kids[k].kids.length c'] 29)
        have R5 := Row.made wr 29 #[.int .i64 t.kids[k].rule, .string t.kids[k].tok, .slice A' t.kids[k].kids.length c']
        have hml : (l ++ partT t k).length = l.length + (partT t k).length := List.length_append
        have HML := Lib.hid hml
        clear hcc hc0 hc1 hc2 hst hml
        go_wp2_with fail
        refine (wrS_any B b _ _ _ (HW.out.on a5) (by rw [HML.out]; show _ + 1 ≤ _; omega) (by simp; omega)).mono ?_
        rintro e w5 ⟨rfl, W5, b5, k5⟩
        have K5 : Kp B b w w5 := HK.out.trans ((Kp.of a5 (by omega)).trans ⟨b5, k5⟩)
        have R6 := (Kp.mk b5 k5).row R5 (by omega) (by decide)
        have c60 := R6.cell 0
        have c61 := R6.cell 1
        have c62 := R6.cell 2
        simp at c60 c61 c62
        have z5 := K5.bel.size
        have HK5 := Lib.hid K5
        have HW5 := Lib.hid W5
        clear K5 W5 b5 k5 R5 a5 R6
        go_wp2_with fail
        refine (ih k hlt z _ lo hi B b _ w5 (HST.out.under HK5.out.bel hhi) hhi (by omega) HW5.out (HTN.out.on HK5.out.bel) htk (by rw [List.length_append, HML.out]; show _ + 1 + _ ≤ _; omega)).mono ?_
        rintro e w6 ⟨rfl, W6, K6⟩
        have W6' : Hid (Wr B b (l ++ partT t (k + 1)) w6) := Lib.hid (by
          rw [HT.out]
          simpa [List.append_assoc] using W6)
        have HK6 := Lib.hid (HK5.out.trans K6)
        clear W6 K6
        go_wp2
        go_roundw
        case rel => exact ⟨k + 1, by omega, by go_num, W6'.out, HK6.out⟩
        case measure => simp [intOf]; omega
      · have hks : k = t.kids.length := by omega
        have HKS := Lib.hid hks
        have HE : Hid (l ++ partT t k ++ [41] = l ++ textOf t) := Lib.hid (by
          have e := HKS.out
          subst e
          rw [List.append_assoc, partT_all t HLF.out])
        have HML : Hid ((l ++ partT t k).length = l.length + (partT t k).length) := Lib.hid List.length_append
        clear hks
        go_wp2_with fail
        refine (wrS_any B b _ _ _ HW.out (by rw [HML.out]; show _ + 1 ≤ _; omega) (by omega)).mono ?_
        rintro e w5 ⟨rfl, W5, b5, k5⟩
        have FIN : Hid (Wr B b (l ++ textOf t) w5 ∧ Kp B b w w5) := Lib.hid ⟨by rw [← HE.out]; exact W5, HK.out.trans ⟨b5, k5⟩⟩
        go_wp2
        go_end0
        exact ⟨rfl, FIN.out⟩
theorem writeTree_any (t : TreeD) : WtC t := tree_ind writeTree_of t
end Go.Proofs.YtokdhgocgicdnaaGreatDoor

/- The text of a tree: the program's TreeText. -/
namespace Go.Proofs.YtokdhgocgicdnaaGreatDoor
open Go.RowKit

theorem Tens.mono {B B' : Nat} {w : World} (h : Tens B w) (hB : B ≤ B') : Tens B' w := fun w' hb => h w' (hb.mono hB)
theorem specTreeText_t (t : TreeD) (u : Value) (lo hi : Nat) (w : World) (ht : TopOk t) (h : Kd true w lo hi u t.kids) (hhi : hi ≤ w.heap.size) (hn : bulkT t ≤ 1048576) :
    Calls Tryz.prog 15 #[trV t u] w fun e w' => e = .returned (.string (tb (treeT t))) ∧ Below w.heap.size w w' := specTreeText_any t true u lo hi w h hhi ht hn
set_option maxRecDepth 100000 in
set_option maxHeartbeats 1000000 in
theorem implTreeText_t (t : TreeD) (u : Value) (lo hi : Nat) (w : World) (ht : TopOk t) (h : Kd true w lo hi u t.kids) (hhi : hi ≤ w.heap.size) (hn : bulkT t ≤ 1048576) (B : Nat) (htn : Tens B w) (hB : B ≤ w.heap.size) :
    Calls Tryz.prog 14 #[trV t u] w fun e w' => e = .returned (.string (tb (treeT t))) ∧ Below w.heap.size w w' := by
  have hb := al1 w (.cells #[.int .i64 t.rule, .string t.tok, u] 29)
  have HK := Lib.hid (h.under hb hhi)
  have R0 := Row.made w 29 #[.int .i64 t.rule, .string t.tok, u]
  have hsz := sizeT_le_bulkT t
  have hft : fitsT t := (fitsT_eq t).2 ⟨ht.2.2, h.fits⟩
  have hlen := textOf_len t hft
  have HT := Lib.hid ht
  have HTN := Lib.hid htn
  obtain ⟨A, c, U, rfl, -⟩ := h.parts
  clear h hft ht htn
  unfold trV
  go_enter Tryz.func14, Tryz.ntmps14
  go_wp2_with fail
  refine (implSizeOf_any t _ lo hi _ HT.out HK.out (by simp; omega) (by omega)).mono ?_
  rintro e w1 ⟨rfl, b1⟩
  have R1 := R0.below b1 R0.lt
  have a0 := R1.cell 0
  have a1 := R1.cell 1
  have a2 := R1.cell 2
  simp at a0 a1 a2
  have HB1 := Lib.hid (hb.trans (b1.mono (by simp)))
  have HK1 := Lib.hid (HK.out.under b1 (by simp; omega))
  have z1 : w.heap.size < w1.heap.size := R1.lt
  clear R1 b1 R0 hb
  by_cases hf : sizeT t ≤ 200
  · have q : decide ((sizeT t : Int) > 200) = false := decide_eq_false (by omega)
    have HE : Hid (treeT t = textOf t) := Lib.hid (by unfold treeT; rw [if_pos hf])
    have a9 := al1 w1 (.cells #[.pointer none, .slice none 0 0] 67)
    have W9 : Hid (Wr w1.heap.size w1.heap.size [] (w1.alloc (.cells #[.pointer none, .slice none 0 0] 67))) := Lib.hid (Lib.IsBuilderF.of (by simpa [Lib.byteCells] using Lib.fresh_isBuilder 67 5 w1))
    have T9 : Hid (Tens w1.heap.size (w1.alloc (.cells #[.pointer none, .slice none 0 0] 67))) := Lib.hid ((Tens.mono (HTN.out.on (HB1.out.mono hB)) (by omega)).on a9)
    have HK9 := Lib.hid (HK1.out.under a9 (by omega))
    go_wp2_with fail
    refine (writeTree_any t true _ lo hi w1.heap.size w1.heap.size [] _ HK9.out (by omega) (by simp) W9.out T9.out HT.out (by simp; omega)).mono ?_
    rintro e w2 ⟨rfl, W2, K2⟩
    rw [List.nil_append] at W2
    have b2 : Below w.heap.size w w2 := HB1.out.trans ((a9.mono (by omega)).trans (K2.bel.mono (by omega)))
    have z2 := K2.bel.size
    have z3 : w1.heap.size ≤ w2.heap.size := by simp at z2; omega
    clear K2 a9
    go_wp2_with fail
    refine (Tryz.Builder_String_any_k w1.heap.size w1.heap.size (textOf t) _ W2 z3).mono ?_
    rintro e w3 ⟨rfl, _, b3, _⟩
    go_wp2
    go_ret
    exact ⟨ret_tb (by rw [HE.out]; rfl), b2.trans (b3.mono (by omega))⟩
  · have q : decide ((sizeT t : Int) > 200) = true := decide_eq_true (by omega)
    have HE : Hid (treeT t = []) := Lib.hid (by unfold treeT; rw [if_neg hf])
    go_wp2
    go_ret
    exact ⟨ret_tb (by rw [HE.out]; rfl), HB1.out⟩
end Go.Proofs.YtokdhgocgicdnaaGreatDoor

/- Lists that were taken for alike, as data: what follows from them; places that stand for others, and how their ways grow shorter. No program stands in this text. -/
namespace Go.Proofs.YtokdhgocgicdnaaGreatDoor
open Go.RowKit

section
variable {α β : Type} {own : α → β} {kids : α → List α}
/-- what follows from lists that were taken for alike -/
inductive Eqv (D : List (List α × List α)) : List α → List α → Prop
  | refl (x : List α) : Eqv D x x
  | pair (x y : List α) (h : (x, y) ∈ D) : Eqv D x y
  | symm (x y : List α) (h : Eqv D x y) : Eqv D y x
  | trans (x y z : List α) (h : Eqv D x y) (k : Eqv D y z) : Eqv D x z
theorem Eqv.mono {D D' : List (List α × List α)} {x y : List α} (h : Eqv D x y) (hd : ∀ e ∈ D, e ∈ D') : Eqv D' x y := by
  induction h with
  | refl x => exact .refl x
  | pair x y h => exact .pair x y (hd _ h)
  | symm x y _ ih => exact .symm _ _ ih
  | trans x y z _ _ ih1 ih2 => exact .trans _ _ _ ih1 ih2
/-- alike down to a depth -/
def Agree (own : α → β) (kids : α → List α) : Nat → List α → List α → Prop
  | 0, _, _ => True
  | n + 1, x, y => x.length = y.length ∧ ∀ i (h : i < x.length) (h' : i < y.length), own x[i] = own y[i] ∧ Agree own kids n (kids x[i]) (kids y[i])
theorem Agree.refl : ∀ (n : Nat) (x : List α), Agree own kids n x x
  | 0, _ => trivial
  | n + 1, _ => ⟨rfl, fun _ _ _ => ⟨rfl, Agree.refl n _⟩⟩
theorem Agree.symm : ∀ (n : Nat) (x y : List α), Agree own kids n x y → Agree own kids n y x
  | 0, _, _, _ => trivial
  | n + 1, _, _, h => ⟨h.1.symm, fun i h1 h2 => ⟨(h.2 i h2 h1).1.symm, Agree.symm n _ _ (h.2 i h2 h1).2⟩⟩
theorem Agree.trans : ∀ (n : Nat) (x y z : List α), Agree own kids n x y → Agree own kids n y z → Agree own kids n x z
  | 0, _, _, _, _, _ => trivial
  | n + 1, _, _, _, h, k => ⟨h.1.trans k.1, fun i h1 h2 => ⟨(h.2 i h1 (h.1 ▸ h1)).1.trans (k.2 i (h.1 ▸ h1) h2).1, Agree.trans n _ _ _ (h.2 i h1 (h.1 ▸ h1)).2 (k.2 i (h.1 ▸ h1) h2).2⟩⟩
/-- two lists are as long as each other, their own parts are alike, and of the first n the Kids are taken for alike -/
structure ClsU (own : α → β) (kids : α → List α) (D : List (List α × List α)) (x y : List α) (n : Nat) : Prop where
  len : x.length = y.length
  own_ : ∀ i (h : i < x.length) (h' : i < y.length), own x[i] = own y[i]
  kid : ∀ j (h : j < x.length) (h' : j < y.length), j < n → (kids x[j]).length = (kids y[j]).length ∧ (kids x[j] = [] ∨ Eqv D (kids x[j]) (kids y[j]))
theorem ClsU.mono {D D' : List (List α × List α)} {x y : List α} {n : Nat} (h : ClsU own kids D x y n) (hd : ∀ e ∈ D, e ∈ D') : ClsU own kids D' x y n :=
  ⟨h.len, h.own_, fun j h1 h2 hn => ⟨(h.kid j h1 h2 hn).1, (h.kid j h1 h2 hn).2.imp id fun e => e.mono hd⟩⟩
theorem agree_of {D : List (List α × List α)} (hc : ∀ e ∈ D, ClsU own kids D e.1 e.2 e.1.length) : ∀ (n : Nat) (x y : List α), Eqv D x y → Agree own kids n x y := by
  intro n
  induction n with
  | zero => intro _ _ _; trivial
  | succ n ih =>
    intro x y h
    induction h with
    | refl x => exact Agree.refl _ _
    | pair x y h =>
      have c := hc _ h
      refine ⟨c.len, fun i h1 h2 => ⟨c.own_ i h1 h2, ?_⟩⟩
      obtain ⟨k1, k2⟩ := c.kid i h1 h2 h1
      rcases k2 with e | e
      · rw [e] at k1 ⊢
        rw [List.eq_nil_of_length_eq_zero k1.symm]
        exact Agree.refl _ _
      · exact ih _ _ e
    | symm x y _ ih1 => exact Agree.symm _ _ _ ih1
    | trans x y z _ _ ih1 ih2 => exact Agree.trans _ _ _ _ ih1 ih2
theorem eq_of_agree {sz : List α → Nat} (hsz : ∀ (x : List α) i (h : i < x.length), sz (kids x[i]) < sz x) (ext : ∀ a b, own a = own b → kids a = kids b → a = b) : ∀ (n : Nat) (x y : List α), Agree own kids n x y → sz x < n → x = y := by
  intro n
  induction n with
  | zero => intro _ _ _ h; omega
  | succ n ih =>
    intro x y h hs
    refine List.ext_getElem h.1 fun i h1 h2 => ?_
    obtain ⟨a1, a2⟩ := h.2 i h1 h2
    have := hsz x i h1
    exact ext _ _ a1 (ih _ _ a2 (by omega))
theorem same_of {sz : List α → Nat} (hsz : ∀ (x : List α) i (h : i < x.length), sz (kids x[i]) < sz x) (ext : ∀ a b, own a = own b → kids a = kids b → a = b) {D : List (List α × List α)} (hc : ∀ e ∈ D, ClsU own kids D e.1 e.2 e.1.length) {x y : List α} (h : Eqv D x y) : x = y :=
  eq_of_agree hsz ext _ x y (agree_of hc (sz x + 1) x y h) (Nat.lt_succ_self _)

/-- each place leads to one that is taken for alike, later and later -/
structure UfT {κ : Type} [DecidableEq κ] (At : κ → List α → Prop) (D : List (List α × List α)) (M : List (κ × κ)) (t : κ → Nat) (T : Nat) : Prop where
  link : ∀ p q, lk M p = some q → ∃ x y, At p x ∧ At q y ∧ Eqv D x y
  time : ∀ p q, lk M p = some q → t p < T ∧ ∀ r, lk M q = some r → t p < t q
section
variable {κ : Type} [DecidableEq κ] {At : κ → List α → Prop} {D D' : List (List α × List α)} {M : List (κ × κ)} {t : κ → Nat} {T : Nat}
theorem lk_mem {l : List (κ × κ)} {x : κ × κ} (h : x ∈ l) : ∃ q, lk l x.1 = some q := by
  induction l with
  | nil => cases h
  | cons y l ih =>
    unfold lk
    by_cases e : x.1 = y.1
    · exact ⟨y.2, by rw [if_pos e]⟩
    · rw [if_neg e]
      rcases List.mem_cons.1 h with rfl | h
      · exact absurd rfl e
      · exact ih h
theorem UfT.nil (At : κ → List α → Prop) (D : List (List α × List α)) : UfT At D ([] : List (κ × κ)) (fun _ => 0) 0 := ⟨(fun _ _ h => by cases h), (fun _ _ h => by cases h)⟩
theorem UfT.mono (a : UfT At D M t T) (hd : ∀ e ∈ D, e ∈ D') : UfT At D' M t T := ⟨fun p q h => by
  obtain ⟨x, y, h1, h2, h3⟩ := a.link p q h
  exact ⟨x, y, h1, h2, h3.mono hd⟩, a.time⟩
theorem UfT.key (a : UfT At D M t T) {x : κ × κ} (h : x ∈ M) : ∃ y, At x.1 y := by
  obtain ⟨q, hq⟩ := lk_mem h
  obtain ⟨y, _, h1, _⟩ := a.link _ _ hq
  exact ⟨y, h1⟩
theorem UfT.short (hfun : ∀ p x y, At p x → At p y → x = y) (a : UfT At D M t T) {p q r : κ} (h1 : lk M p = some q) (h2 : lk M q = some r) : UfT At D (up M p r) t T := by
  obtain ⟨x, y, p1, p2, p3⟩ := a.link p q h1
  obtain ⟨y', z, q1, q2, q3⟩ := a.link q r h2
  obtain rfl := hfun _ _ _ p2 q1
  have hpq := (a.time p q h1).2 r h2
  refine ⟨fun u v h => ?_, fun u v h => ?_⟩
  · rw [lk_up] at h
    by_cases e : u = p
    · subst e
      rw [if_pos rfl] at h
      injection h with h
      subst h
      exact ⟨x, z, p1, q2, .trans _ _ _ p3 q3⟩
    · rw [if_neg e] at h
      exact a.link u v h
  · rw [lk_up] at h
    by_cases e : u = p
    · subst e
      rw [if_pos rfl] at h
      injection h with h
      subst h
      refine ⟨(a.time u q h1).1, fun s hs => ?_⟩
      rw [lk_up] at hs
      by_cases e2 : r = u
      · subst e2
        have := (a.time q r h2).2 q h1
        omega
      · rw [if_neg e2] at hs
        have := (a.time q r h2).2 s hs
        omega
    · rw [if_neg e] at h
      refine ⟨(a.time u v h).1, fun s hs => ?_⟩
      rw [lk_up] at hs
      by_cases e2 : v = p
      · subst e2
        exact (a.time u v h).2 q h1
      · rw [if_neg e2] at hs
        exact (a.time u v h).2 s hs
theorem UfT.join (a : UfT At D M t T) {p q : κ} (hp : lk M p = none) (hq : lk M q = none) (hne : p ≠ q) {x y : List α} (h1 : At p x) (h2 : At q y) (h3 : Eqv D x y) : ∃ t' T', UfT At D (up M p q) t' T' := by
  refine ⟨fun u => if u = p then T else t u, T + 1, fun u v h => ?_, fun u v h => ?_⟩
  · rw [lk_up] at h
    by_cases e : u = p
    · subst e
      rw [if_pos rfl] at h
      injection h with h
      subst h
      exact ⟨x, y, h1, h2, h3⟩
    · rw [if_neg e] at h
      exact a.link u v h
  · rw [lk_up] at h
    by_cases e : u = p
    · subst e
      rw [if_pos rfl] at h
      injection h with h
      subst h
      refine ⟨by rw [if_pos rfl]; omega, fun s hs => ?_⟩
      rw [lk_up, if_neg (Ne.symm hne), hq] at hs
      cases hs
    · rw [if_neg e] at h
      have ht := (a.time u v h).1
      refine ⟨by rw [if_neg e]; omega, fun s hs => ?_⟩
      rw [lk_up] at hs
      rw [if_neg e]
      by_cases e2 : v = p
      · rw [if_pos e2]; exact ht
      · rw [if_neg e2] at hs
        rw [if_neg e2]
        exact (a.time u v h).2 s hs
end
/-- two lists that are still to be looked at -/
structure Pr2 (α : Type) where
  va : Value
  vb : Value
  a : List α
  b : List α
structure SmJ (own : α → β) (kids : α → List α) (K : Value → List α → Prop) (ra rb : List α) (L : List (Pr2 α)) (D : List (List α × List α)) (cur : Option (List α × List α)) : Prop where
  kd : ∀ p ∈ L, K p.va p.a ∧ K p.vb p.b
  same : ra = rb → ∀ p ∈ L, p.a = p.b
  root : (ra, rb) ∈ D
  cls : ∀ e ∈ D, (∃ p ∈ L, p.a = e.1 ∧ p.b = e.2) ∨ ClsU own kids D e.1 e.2 e.1.length ∨ cur = some e
section
variable {K : Value → List α → Prop} {ra rb : List α} {L : List (Pr2 α)} {D : List (List α × List α)}
theorem SmJ.start {va vb : Value} (ha : K va ra) (hb : K vb rb) : SmJ own kids K ra rb [⟨va, vb, ra, rb⟩] [(ra, rb)] none where
  kd := fun p hp => by simp at hp; subst hp; exact ⟨ha, hb⟩
  same := fun h p hp => by simp at hp; subst hp; exact h
  root := by simp
  cls := fun e he => by simp at he; subst he; exact .inl ⟨_, List.mem_singleton_self _, rfl, rfl⟩
theorem SmJ.take {p : Pr2 α} (h : SmJ own kids K ra rb (L ++ [p]) D none) : SmJ own kids K ra rb L D (some (p.a, p.b)) where
  kd := fun q hq => h.kd q (List.mem_append_left _ hq)
  same := fun e q hq => h.same e q (List.mem_append_left _ hq)
  root := h.root
  cls := fun e he => by
    rcases h.cls e he with ⟨q, hq, h1, h2⟩ | h1 | h1
    · rcases List.mem_append.1 hq with hq | hq
      · exact .inl ⟨q, hq, h1, h2⟩
      · rw [List.mem_singleton] at hq
        subst hq
        exact .inr (.inr (by rw [h1, h2]))
    · exact .inr (.inl h1)
    · cases h1
theorem SmJ.done {x y : List α} (h : SmJ own kids K ra rb L D (some (x, y))) (hc : ClsU own kids D x y x.length) : SmJ own kids K ra rb L D none where
  kd := h.kd
  same := h.same
  root := h.root
  cls := fun e he => by
    rcases h.cls e he with h1 | h1 | h1
    · exact .inl h1
    · exact .inr (.inl h1)
    · injection h1 with h1
      subst h1
      exact .inr (.inl hc)
theorem SmJ.push {cur : Option (List α × List α)} (h : SmJ own kids K ra rb L D cur) {p : Pr2 α} (h1 : K p.va p.a) (h2 : K p.vb p.b) (he : ra = rb → p.a = p.b) : SmJ own kids K ra rb (L ++ [p]) ((p.a, p.b) :: D) cur where
  kd := fun r hr => by
    rcases List.mem_append.1 hr with hr | hr
    · exact h.kd r hr
    · rw [List.mem_singleton] at hr; subst hr; exact ⟨h1, h2⟩
  same := fun e r hr => by
    rcases List.mem_append.1 hr with hr | hr
    · exact h.same e r hr
    · rw [List.mem_singleton] at hr; subst hr; exact he e
  root := List.mem_cons_of_mem _ h.root
  cls := fun e hm => by
    rcases List.mem_cons.1 hm with rfl | hm
    · exact .inl ⟨_, List.mem_append_right _ (List.mem_singleton_self _), rfl, rfl⟩
    · rcases h.cls e hm with ⟨r, hr, a1, a2⟩ | a1 | a1
      · exact .inl ⟨r, List.mem_append_left _ hr, a1, a2⟩
      · exact .inr (.inl (a1.mono fun e he => List.mem_cons_of_mem _ he))
      · exact .inr (.inr a1)
theorem SmJ.all (h : SmJ own kids K ra rb [] D none) {sz : List α → Nat} (hsz : ∀ (x : List α) i (h : i < x.length), sz (kids x[i]) < sz x) (ext : ∀ a b, own a = own b → kids a = kids b → a = b) : ra = rb := by
  refine same_of hsz ext (fun e he => ?_) (.pair _ _ h.root)
  rcases h.cls e he with ⟨p, hp, _⟩ | h1 | h1
  · simp at hp
  · exact h1
  · cases h1
end
end
end Go.Proofs.YtokdhgocgicdnaaGreatDoor

/- Of the blocks ahead only one has turned, a map; trees stand then as they stood. No program stands in this text but its types' numbers. -/
namespace Go.Proofs.YtokdhgocgicdnaaGreatDoor
open Go.RowKit

/-- of the blocks ahead of B only m has turned -/
structure Nr (m B : Nat) (w w' : World) : Prop where
  os : w'.os = w.os
  tape : w'.tape = w.tape
  output : w'.output = w.output
  size : w.heap.size ≤ w'.heap.size
  block : ∀ k, k < B → k ≠ m → w'.heap[k]? = w.heap[k]?
theorem Nr.refl (m B : Nat) (w : World) : Nr m B w w := ⟨rfl, rfl, rfl, Nat.le_refl _, fun _ _ _ => rfl⟩
theorem Nr.below {m B C : Nat} {a b c : World} (h : Nr m B a b) (k : Below C b c) (hC : B ≤ C) : Nr m B a c :=
  ⟨k.os.trans h.os, k.tape.trans h.tape, k.output.trans h.output, Nat.le_trans h.size k.size, fun i h1 h2 => (k.block i (by omega)).trans (h.block i h1 h2)⟩
theorem Nr.mid {m B : Nat} {a b c : World} (h : Nr m B a b) (k : Mid m (m + 1) b c) (hb : B ≤ b.heap.size) : Nr m B a c :=
  ⟨k.os.trans h.os, k.tape.trans h.tape, k.output.trans h.output, Nat.le_trans h.size k.size, fun i h1 h2 => (k.block i (by omega) (by omega)).trans (h.block i h1 h2)⟩
theorem Nr.grown {m B : Nat} {a b c : World} {row : Option Nat} (h : Nr m B a b) (k : b.grownBy c row) (hb : B ≤ b.heap.size) (hr : ∀ g, row = some g → B ≤ g) : Nr m B a c :=
  ⟨k.os.trans h.os, k.tape.trans h.tape, k.output.trans h.output, Nat.le_trans h.size k.size, fun i h1 h2 => (k.block i (by omega) (fun e => by have := hr i e.symm; omega)).trans (h.block i h1 h2)⟩
theorem Nr.free {m B : Nat} {w w' : World} (h : Nr m B w w') {es : Array MapEntry} {c : Nat} (hm : w.heap[m]? = some (.map es c)) {b : Nat} (hf : FreeB w b) (hb : b < B) : FreeB w' b := by
  obtain ⟨x, y, hh⟩ := hf
  refine ⟨x, y, (h.block b hb ?_).trans hh⟩
  rintro rfl
  rw [hm] at hh
  cases hh
theorem Kd.near {m B : Nat} {z : Bool} {w w' : World} {lo hi : Nat} {v : Value} {ts : List TreeD} (h : Kd z w lo hi v ts) (k : Nr m B w w') (hB : hi ≤ B) {es : Array MapEntry} {c : Nat} (hm : w.heap[m]? = some (.map es c)) : Kd z w' lo hi v ts := by
  induction h with
  | mk A c ts U hl hc hs hcell sub ih =>
    refine .mk A c ts U hl hc hs (fun hp => ?_) ih
    obtain ⟨b, off, e, h1, h2, hz, hcc⟩ := hcell hp
    have hne : b ≠ m := by
      rintro rfl
      have := (hcc 0 hp).1
      simp [World.cell?, hm] at this
    have hbk := k.block b (by omega) hne
    have cell : ∀ j, w'.cell? ⟨b, j, none⟩ = w.cell? ⟨b, j, none⟩ := fun j => World.cell?_of_block (w := w) hbk
    exact ⟨b, off, e, h1, h2, (fun e => by obtain ⟨x, y, hh⟩ := hz e; exact ⟨x, y, hbk.trans hh⟩), fun i hi => by rw [cell, cell, cell]; exact hcc i hi⟩
end Go.Proofs.YtokdhgocgicdnaaGreatDoor

/- The place that stands for another one: (takenAlike[Tree]).standFor. -/
namespace Go.Proofs.YtokdhgocgicdnaaGreatDoor
open Go.RowKit

/-- a list of trees lies at a place -/
def AtT (w : World) (hi : Nat) (p : Place) (x : List TreeD) : Prop := plOk w p ∧ p.1.block < hi ∧ ∃ c, Kd true w 0 hi (.slice (some p.1) p.2 c) x
theorem AtT.func {w : World} {hi : Nat} : ∀ (p : Place) (x y : List TreeD), AtT w hi p x → AtT w hi p y → x = y := fun p x y h k => by
  obtain ⟨_, _, c, h⟩ := h
  obtain ⟨_, _, d, k⟩ := k
  exact k.same rfl h
theorem zeroPl (w : World) : (zeroValue 116).run Tryz.prog w = .ok (.agg #[.pointer none, .int .i64 0]) w := by kernel_rfl
/-- the map of what was taken for alike, in memory -/
structure UfM (w5 : World) (m hi : Nat) (w : World) (M : List (Place × Place)) : Prop where
  map : PM w m plV plV M
  key : ∀ x ∈ M, ∃ y, AtT w5 hi x.1 y
  near : Nr m hi w5 w
  here : ∃ es c, w5.heap[m]? = some (.map es c)
theorem UfM.ok {w5 w : World} {m hi : Nat} {M : List (Place × Place)} (h : UfM w5 m hi w M) {p : Place} {x : List TreeD} (hp : AtT w5 hi p x) : plOk w p := by
  obtain ⟨es, c, hm⟩ := h.here
  exact h.near.free hm hp.1 hp.2.1
theorem UfM.keep {w5 w w' : World} {m hi : Nat} {M : List (Place × Place)} (h : UfM w5 m hi w M) (b : Below w.heap.size w w') (hh : hi ≤ w.heap.size) : UfM w5 m hi w' M := ⟨h.map.keep (b.block _ h.map.lt), h.key, h.near.below b hh, h.here⟩
theorem UfM.look {w5 w : World} {m hi : Nat} {M : List (Place × Place)} (h : UfM w5 m hi w M) {p : Place} {x : List TreeD} (hp : AtT w5 hi p x) :
    (Instr.lookup 108 (.map (some m)) (plV p) true).run Tryz.prog w = .ok (.tuple #[(lk M p).elim (.agg #[.pointer none, .int .i64 0]) plV, .bool (lk M p).isSome]) w :=
  h.map.look2 keyPlace Tryz.underlying108 (fun x hx => by obtain ⟨y, hy⟩ := h.key x hx; exact h.ok hy) (zeroPl w) p (h.ok hp)
theorem UfM.put {w5 w : World} {m hi : Nat} {M : List (Place × Place)} (h : UfM w5 m hi w M) {p q : Place} {x : List TreeD} (hp : AtT w5 hi p x) (hh : hi ≤ w.heap.size) :
    ∃ w', (Instr.mapUpdate 108 (.map (some m)) (plV p) (plV q)).run Tryz.prog w = .ok () w' ∧ UfM w5 m hi w' (up M p q) ∧ Mid m (m + 1) w w' ∧ w'.heap.size = w.heap.size := by
  obtain ⟨w', h1, h2, h3, h4⟩ := h.map.put keyPlace Tryz.underlying108 (fun x hx => by obtain ⟨y, hy⟩ := h.key x hx; exact h.ok hy) p (h.ok hp) q
  refine ⟨w', h1, ⟨h2, fun y hy => ?_, h.near.mid h3 hh, h.here⟩, h3, h4⟩
  rcases mem_up hy with e | e
  · rw [e]; exact ⟨x, hp⟩
  · exact h.key y e
/-- where the way from a place has come to -/
structure StP (w5 : World) (hi : Nat) (D : List (List TreeD × List TreeD)) (M0 M : List (Place × Place)) (t : Place → Nat) (T : Nat) (x : List TreeD) (q : Place) (y : List TreeD) : Prop where
  uf : UfT (AtT w5 hi) D M t T
  keys : ∀ q, lk M q = none ↔ lk M0 q = none
  at_ : AtT w5 hi q y
  eqv : Eqv D x y
def stepsP (M : List (Place × Place)) (t : Place → Nat) (T : Nat) (q : Place) : Nat := match lk M q with
  | none => 0
  | some _ => T - t q
theorem StP.next {w5 : World} {hi : Nat} {D : List (List TreeD × List TreeD)} {M0 M : List (Place × Place)} {t : Place → Nat} {T : Nat} {x y : List TreeD} {q r : Place} (a : StP w5 hi D M0 M t T x q y) (h : lk M q = some r) : ∃ z, StP w5 hi D M0 M t T x r z ∧ stepsP M t T r < stepsP M t T q := by
  obtain ⟨u, v, h1, h2, h3⟩ := a.uf.link q r h
  obtain rfl := AtT.func _ _ _ h1 a.at_
  refine ⟨v, ⟨a.uf, a.keys, h2, .trans _ _ _ a.eqv h3⟩, ?_⟩
  obtain ⟨t1, t2⟩ := a.uf.time q r h
  unfold stepsP
  rw [h]
  cases hr : lk M r with
  | none => show 0 < T - t q; omega
  | some s =>
    have := t2 s hr
    have := (a.uf.time r s hr).1
    show T - t r < T - t q
    omega
theorem StP.short {w5 : World} {hi : Nat} {D : List (List TreeD × List TreeD)} {M0 M : List (Place × Place)} {t : Place → Nat} {T : Nat} {x y : List TreeD} {q r s : Place} (a : StP w5 hi D M0 M t T x q y) (h : lk M q = some r) (h2 : lk M r = some s) : ∃ z, StP w5 hi D M0 (up M q s) t T x r z ∧ stepsP (up M q s) t T r < stepsP M t T q := by
  obtain ⟨z, b, hb⟩ := a.next h
  have hne : r ≠ q := fun e => by
    subst e
    have := (a.uf.time r r h).2 r h
    omega
  refine ⟨z, ⟨a.uf.short AtT.func h h2, fun u => ?_, b.at_, b.eqv⟩, ?_⟩
  · rw [lk_up, ← a.keys u]
    by_cases e : u = q
    · subst e; rw [if_pos rfl, h]; simp
    · rw [if_neg e]
  · have : stepsP (up M q s) t T r = stepsP M t T r := by
      unfold stepsP
      rw [lk_up_other _ _ hne]
    rw [this]; exact hb
end Go.Proofs.YtokdhgocgicdnaaGreatDoor
