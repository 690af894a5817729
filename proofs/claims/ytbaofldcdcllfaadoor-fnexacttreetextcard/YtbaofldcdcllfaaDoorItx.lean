/- The text of a tree: the program's ruleDigits, writeTree. -/
import Derived.Test.YtbaofldcdcllfaaDoorStx
import Derived.Test.YtbaofldcdcllfaaDoorWri
import Derived.Lib.AppendIntMem
namespace Go.Proofs.YtbaofldcdcllfaaDoor
open Go.RowKit

theorem grow_below (w : World) (k : Nat) (os : Array Obj) : Below w.heap.size w (Sort.grow (w.drewN k) os) :=
  ⟨rfl, rfl, rfl, by simp [Sort.grow, World.drewN], fun i hi => by simp [Sort.grow, World.drewN, Array.getElem?_append_left hi]⟩
/-- the table of tens lies as it was laid, whatever is done from block B on -/
abbrev Tens (B : Nat) (w : World) : Prop := Lib.TabBelow Tryd.prog B w "internal/strconv.uint64pow10" .u64 Lib.pow10Tab
theorem fmt_any (n : Nat) (hn : n ≤ 9223372036854775807) (B : Nat) (w : World) (ht : Tens B w) :
    Calls Tryd.prog 47 #[.int .i64 (n : Int), .int .i64 10] w fun e w' => e = .returned (.string (tb (Lib.decDigits n))) ∧ Below w.heap.size w w' :=
  Calls.mono (Tryd.strconv_FormatInt_10 (n : Int) (by omega) (by omega) w ht.here) fun _ _ ⟨h1, k, os, h2⟩ => ⟨by rw [h1]; unfold Lib.itoa; rw [if_neg (by omega), Int.toNat_natCast]; rfl, by rw [h2]; exact grow_below w k os⟩

set_option maxRecDepth 100000 in
set_option maxHeartbeats 1000000 in
theorem ruleDigits_any (r : Int) (h1 : r ≤ 9223372036854775807) (B : Nat) (w : World) (ht : Tens B w) :
    Calls Tryd.prog 33 #[.int .i64 r] w fun e w' => e = .returned (.string (tb (ruleT r))) ∧ Below w.heap.size w w' := by
  by_cases hr : r < 0
  · have HE : Hid (tb (ruleT r) = ⟨#[45]⟩) := Lib.hid (by unfold ruleT; rw [if_pos hr]; rfl)
    go_enter Tryd.func33, Tryd.ntmps33
    go_wp2
    go_ret
    exact ⟨ret_tb HE.out.symm, Below.refl _ _⟩
  · obtain ⟨n, hrn⟩ := Int.eq_ofNat_of_zero_le (show 0 ≤ r by omega)
    have HE : Hid (ruleT r = Lib.decDigits n) := Lib.hid (by unfold ruleT; rw [if_neg hr, hrn, Int.toNat_natCast])
    subst hrn
    rw [HE.out]
    have HT := Lib.hid ht
    clear ht
    go_enter Tryd.func33, Tryd.ntmps33
    go_wp2_with fail
    refine (fmt_any n (by omega) B w HT.out).mono ?_
    rintro e w1 ⟨rfl, b1⟩
    go_wp2
    go_ret
    exact ⟨rfl, b1⟩

theorem ta_leaf (x y : Value) (W : World) : (Instr.typeAssert (.iface 76 (.agg #[x, y])) 73 76 true).run Tryd.prog W = .ok (.tuple #[.agg #[x, y], .bool true]) W := by kernel_rfl
theorem ta_no (x : Value) (W : World) : (Instr.typeAssert (.iface 78 x) 73 76 true).run Tryd.prog W = .ok (.tuple #[.agg #[.int .i64 0, .string ⟨#[]⟩], .bool false]) W := by kernel_rfl
theorem ta_node (x y z : Value) (W : World) : (Instr.typeAssert (.iface 78 (.agg #[x, y, z])) 73 78 true).run Tryd.prog W = .ok (.tuple #[.agg #[x, y, z], .bool true]) W := by kernel_rfl
/-- what a writer leaves of all else: blocks below B, and those that are no rows of bytes -/
structure Kp (B b : Nat) (w w' : World) : Prop where
  bel : Below B w w'
  oth : Lib.OthersKept 5 (some b) w w'
theorem Kp.refl (B b : Nat) (w : World) : Kp B b w w := ⟨Below.refl _ _, Lib.OthersKept.refl _ _ _⟩
theorem Kp.trans {B b : Nat} {a c d : World} (h : Kp B b a c) (k : Kp B b c d) : Kp B b a d := ⟨h.bel.trans k.bel, h.oth.trans k.oth⟩
theorem Kp.of {B b : Nat} {w w' : World} (h : Below w.heap.size w w') (hB : B ≤ w.heap.size) : Kp B b w w' := ⟨h.mono hB, fun k o hk _ _ => by
  have hlt : k < w.heap.size := by
    rcases Nat.lt_or_ge k w.heap.size with h1 | h1
    · exact h1
    · rw [Array.getElem?_eq_none h1] at hk; cases hk
  rw [h.block k hlt]; exact hk⟩
theorem Kp.row {B b g : Nat} {w w' : World} {t : TypeId} {cur : Array Value} (h : Kp B b w w') (r : Row w g t cur) (hb : g ≠ b) (ht : t ≠ 5) : Row w' g t cur :=
  h.oth g _ r (fun e => hb (Option.some.inj e)) (fun c fz e => ht (by injection e))
theorem Wr.lt {B b : Nat} {l : List UInt8} {w : World} (h : Wr B b l w) : b < w.heap.size := h.elim (fun x => x.lt) (fun x => x.lt)

def WtC (t : TreeD) : Prop := ∀ (z : Bool) (u : Value) (lo hi B b : Nat) (l : List UInt8) (w : World), Kd z w lo hi u t.kids → hi ≤ B → B ≤ w.heap.size → Wr B b l w → Tens B w → TopOk t → l.length + (textOf t).length ≤ 1000000000 →
  Calls Tryd.prog 20 #[.pointer (some ⟨b, 0, none⟩), trV t u] w fun e w' => e = .returned (.tuple #[]) ∧ Wr B b (l ++ textOf t) w' ∧ Kp B b w w'

set_option maxRecDepth 100000 in
set_option maxHeartbeats 4000000 in
theorem writeTree_of (t : TreeD) (ih : ∀ i (h : i < t.kids.length), WtC t.kids[i]) : WtC t := by
  intro z u lo hi B b l w h hhi hBw hwr htn htop hn
  obtain ⟨A, c, U, rfl, hlc, hc, hs, hcell, hsub⟩ := h.parts
  unfold maxLen at hc
  have HC := Lib.hid hcell
  have HB := Lib.hid hsub
  have HS := Lib.hid hs
  have HWR := Lib.hid hwr
  have HTN := Lib.hid htn
  have hbl := hwr.lt
  obtain ⟨ht1, ht2, ht3⟩ := htop
  clear hcell hsub h hs hwr htn
  unfold trV
  by_cases hlf : t.tok.size ≠ 0 ∧ t.kids.length = 0
  · have HP := Lib.hid (partV_leaf hlf (.slice A t.kids.length c))
    have HE := Lib.hid (textOf_leaf hlf.1 hlf.2)
    have hlen : t.tok.size = (textOf t).length := by rw [textOf_leaf hlf.1 hlf.2, Array.length_toList]; rfl
    have HL := Lib.hid hlen
    clear hlf hlen
    have hta := ta_leaf
    go_enter Tryd.func20, Tryd.ntmps20
    go_wp2_with fail
    refine (partOf_any t A c _).mono ?_
    rintro e w1 ⟨rfl, hw1⟩
    rw [HP.out]
    have b1 : Below w.heap.size w w1 := by rw [hw1]; exact al2 _ _ _
    have z1 : w.heap.size ≤ w1.heap.size := b1.size
    clear hw1
    go_wp2_with fail
    have b2 : Below w.heap.size w (w1.alloc (.cells #[.int .i64 t.rule, .string t.tok] 76)) := b1.alloc z1 _
    refine (wrS_any B b l t.tok _ (HWR.out.on b2) (by have := HL.out; omega) (by simp; omega)).mono ?_
    rintro e w2 ⟨rfl, W2, b3, k3⟩
    have FIN : Hid (Wr B b (l ++ textOf t) w2 ∧ Kp B b w w2) := Lib.hid ⟨by rw [HE.out]; exact W2, (Kp.of b2 hBw).trans ⟨b3, k3⟩⟩
    go_wp2
    go_end0
    exact ⟨rfl, FIN.out⟩
  · have HP := Lib.hid (partV_node hlf (.slice A t.kids.length c))
    have HLF := Lib.hid hlf
    have hp0 := partT_len t 0 hlf
    have hz0 := partT_zero t
    have HZ0 := Lib.hid hz0
    have hrl : (ruleT t.rule).length + 2 ≤ (textOf t).length := by rw [hz0] at hp0; simp at hp0; omega
    have hrz := tb_size (ruleT t.rule)
    clear hlf hz0
    have hta := ta_no
    have htb := ta_node
    go_enter Tryd.func20, Tryd.ntmps20
    go_wp2_with fail
    refine (partOf_any t A c _).mono ?_
    rintro e w1 ⟨rfl, hw1⟩
    rw [HP.out]
    have b1 : Below w.heap.size w w1 := by rw [hw1]; exact al2 _ _ _
    have z1 : w.heap.size ≤ w1.heap.size := b1.size
    clear hw1
    go_wp2_with fail
    have b2 : Below w.heap.size w (w1.alloc (.cells #[.int .i64 t.rule, .string t.tok, .slice A t.kids.length c] 78)) := b1.alloc z1 _
    have R2 := Row.made w1 78 #[.int .i64 t.rule, .string t.tok, .slice A t.kids.length c]
    have z2 : w.heap.size < (w1.alloc (.cells #[.int .i64 t.rule, .string t.tok, .slice A t.kids.length c] 78)).heap.size := by simp; omega
    generalize w1.alloc (.cells #[.int .i64 t.rule, .string t.tok, .slice A t.kids.length c] 78) = w2 at b2 R2 z2 ⊢
    refine (ruleDigits_any t.rule ht3 B w2 (HTN.out.on (b2.mono hBw))).mono ?_
    rintro e w3 ⟨rfl, b3⟩
    have b23 : Below w.heap.size w w3 := b2.trans (b3.mono (by omega))
    have R3 := R2.below b3 R2.lt
    have hr2 : (tb (ruleT t.rule)).size ≤ 1000000000 := by omega
    clear b2 b3 R2 z2
    have z3 := b23.size
    go_wp2_with fail
    refine (wrS_any B b l _ _ (HWR.out.on b23) (by rw [ByteArray.size_append]; show _ + (1 + _) ≤ _; omega) (by omega)).mono ?_
    rintro e w4 ⟨rfl, W4, b4, k4⟩
    have K4 : Kp B b w w4 := (Kp.of b23 hBw).trans ⟨b4, k4⟩
    have R4 := (Kp.mk b4 k4).row R3 (by omega) (by decide)
    have W4' : Wr B b (l ++ partT t 0) w4 := by
      rw [HZ0.out]
      have e : ((⟨#[40]⟩ : ByteArray) ++ tb (ruleT t.rule)).data.toList = 40 :: ruleT t.rule := by rw [ByteArray.data_append]; simp [tb]
      rw [e] at W4
      exact W4
    have c0 := R4.cell 2
    simp at c0
    have HK4 := Lib.hid K4
    have HW4 := Lib.hid W4'
    clear W4 W4' b4 k4 K4 R3 b23
    go_wp2
    go_loopw [29] (fun i wr => ∃ k : Nat, k ≤ t.kids.length ∧ i = .int .i64 k ∧ Wr B b (l ++ partT t k) wr ∧ Kp B b w wr) (fun i _ => t.kids.length - (intOf i).toNat)
    case atStart => exact ⟨0, by omega, rfl, HW4.out, HK4.out⟩
    case round =>
      obtain ⟨k, hk, rfl, hW, hK⟩ := hrel
      have hsw := hK.bel.size
      have HW := Lib.hid hW
      have HK := Lib.hid hK
      have hbr := hW.lt
      have hpl := partT_len t k HLF.out
      clear hW hK
      by_cases hlt : k < t.kids.length
      · obtain ⟨bb, off, rfl, _, hbh, _, hcc⟩ := HC.out (by omega)
        obtain ⟨hc0, hc1, hc2⟩ := hcc k hlt
        have k0 := (HK.out.bel.cell (p := ⟨bb, off + k * 3, none⟩) (by show bb < _; omega)).trans hc0
        have k1 := (HK.out.bel.cell (p := ⟨bb, off + k * 3 + 1, none⟩) (by show bb < _; omega)).trans hc1
        have k2 := (HK.out.bel.cell (p := ⟨bb, off + k * 3 + 2, none⟩) (by show bb < _; omega)).trans hc2
        have hst := HB.out k hlt
        generalize U k = uj at k2 hst
        obtain ⟨A', c', U', hu, -⟩ := hst.parts
        subst hu
        have HST := Lib.hid hst
        have hl2 := partT_len2 t k hlt HLF.out
        have HT := Lib.hid (partT_succ t k hlt)
        have htk : TopOk t.kids[k] := HS.out k hlt
        have a5 := al1 wr (.cells #[.int .i64 t.kids[k].rule, .string t.kids[k].tok, .slice A' t.kids[k].kids.length c'] 29)
        have R5 := Row.made wr 29 #[.int .i64 t.kids[k].rule, .string t.kids[k].tok, .slice A' t.kids[k].kids.length c']
        have hml : (l ++ partT t k).length = l.length + (partT t k).length := List.length_append
        have HML := Lib.hid hml
        clear hcc hc0 hc1 hc2 hst hml
        go_wp2_with fail
        refine (wrS_any B b _ _ _ (HW.out.on a5) (by rw [HML.out]; show _ + 1 ≤ _; omega) (by simp; omega)).mono ?_
        rintro e w5 ⟨rfl, W5, b5, k5⟩
        have K5 : Kp B b w w5 := HK.out.trans ((Kp.of a5 (by omega)).trans ⟨b5, k5⟩)
        have R6 := (Kp.mk b5 k5).row R5 (by omega) (by decide)
        have c60 := R6.cell 0
        have c61 := R6.cell 1
        have c62 := R6.cell 2
        simp at c60 c61 c62
        have z5 := K5.bel.size
        have HK5 := Lib.hid K5
        have HW5 := Lib.hid W5
        clear K5 W5 b5 k5 R5 a5 R6
        go_wp2_with fail
        refine (ih k hlt z _ lo hi B b _ w5 (HST.out.under HK5.out.bel hhi) hhi (by omega) HW5.out (HTN.out.on HK5.out.bel) htk (by rw [List.length_append, HML.out]; show _ + 1 + _ ≤ _; omega)).mono ?_
        rintro e w6 ⟨rfl, W6, K6⟩
        have W6' : Hid (Wr B b (l ++ partT t (k + 1)) w6) := Lib.hid (by
          rw [HT.out]
          simpa [List.append_assoc] using W6)
        have HK6 := Lib.hid (HK5.out.trans K6)
        clear W6 K6
        go_wp2
        go_roundw
        case rel => exact ⟨k + 1, by omega, by go_num, W6'.out, HK6.out⟩
        case measure => simp [intOf]; omega
      · have hks : k = t.kids.length := by omega
        have HKS := Lib.hid hks
        have HE : Hid (l ++ partT t k ++ [41] = l ++ textOf t) := Lib.hid (by
          have e := HKS.out
          subst e
          rw [List.append_assoc, partT_all t HLF.out])
        have HML : Hid ((l ++ partT t k).length = l.length + (partT t k).length) := Lib.hid List.length_append
        clear hks
        go_wp2_with fail
        refine (wrS_any B b _ _ _ HW.out (by rw [HML.out]; show _ + 1 ≤ _; omega) (by omega)).mono ?_
        rintro e w5 ⟨rfl, W5, b5, k5⟩
        have FIN : Hid (Wr B b (l ++ textOf t) w5 ∧ Kp B b w w5) := Lib.hid ⟨by rw [← HE.out]; exact W5, HK.out.trans ⟨b5, k5⟩⟩
        go_wp2
        go_end0
        exact ⟨rfl, FIN.out⟩
theorem writeTree_any (t : TreeD) : WtC t := tree_ind writeTree_of t
end Go.Proofs.YtbaofldcdcllfaaDoor
