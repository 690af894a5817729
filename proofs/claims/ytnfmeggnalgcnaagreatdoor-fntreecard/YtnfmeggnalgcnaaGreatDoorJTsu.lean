import Derived.Shelf.Strings.BuilderF
import Derived.Shelf.Strings.BuilderK
import Derived.Test.YtnfmeggnalgcnaaGreatDoorJTre
import Derived.Test.YtnfmeggnalgcnaaGreatDoorShelf
import Derived.Lib.OthersKept
import Derived.Test.YtnfmeggnalgcnaaGreatDoorJStx
import Derived.Lib.AppendIntMem
import Derived.Test.YtnfmeggnalgcnaaGreatDoorJIrs
import Derived.Test.YtnfmeggnalgcnaaGreatDoorJStr
/- A strings.Builder that is written by a pointer: WriteString, String; the table of numbers by hand (the tool finds no body that names two of the types). -/
namespace Go.Proofs
open Go.Shelf
def Tryz.laysW_ren : Go.Shelf.Ren := ⟨fun | 166 => 54 | 240 => 67 | 276 => 80 | n => n, fun | 70 => 65 | 72 => 67 | 9 => 9 | 0 => 0 | 37 => 22 | 3 => 3 | 4 => 4 | 5 => 5 | 20 => 20 | 75 => 107 | 80 => 69 | 164 => 152 | n => n, fun | n => n⟩
theorem Tryz.laysW : Go.Proofs.Lays.n166 Tryz.prog Tryz.laysW_ren := {
  mixed := by kernel_rfl
  f166 := Tryz.func54.trans (congrArg some (by kernel_rfl))
  f240 := Tryz.func67.trans (congrArg some (by kernel_rfl))
  f276 := Tryz.func80.trans (congrArg some (by kernel_rfl))
  t0 := Tryz.underlying0
  a0 := Tryz.isAgg0
  z0 := Tryz.sizeOf0
  v0 := Tryz.zeroValue0
  t3 := Tryz.underlying3
  a3 := Tryz.isAgg3
  z3 := Tryz.sizeOf3
  v3 := Tryz.zeroValue3
  t4 := Tryz.underlying4
  a4 := Tryz.isAgg4
  z4 := Tryz.sizeOf4
  v4 := Tryz.zeroValue4
  t9 := Tryz.underlying9
  a9 := Tryz.isAgg9
  z9 := Tryz.sizeOf9
  v9 := Tryz.zeroValue9
  t20 := Tryz.underlying20
  a20 := Tryz.isAgg20
  z20 := Tryz.sizeOf20
  v20 := Tryz.zeroValue20
  t37 := Tryz.underlying22
  a37 := Tryz.isAgg22
  z37 := Tryz.sizeOf22
  v37 := Tryz.zeroValue22
  t70 := Tryz.underlying65
  a70 := Tryz.isAgg65
  z70 := Tryz.sizeOf65
  v70 := Tryz.zeroValue65
  t72 := Tryz.underlying67
  a72 := Tryz.isAgg67
  z72 := Tryz.sizeOf67
  v72 := Tryz.zeroValue67
  t75 := Tryz.underlying107
  a75 := Tryz.isAgg107
  z75 := Tryz.sizeOf107
  v75 := Tryz.zeroValue107
  t164 := Tryz.underlying152
  a164 := Tryz.isAgg152
  z164 := Tryz.sizeOf152
  v164 := Tryz.zeroValue152 }
theorem Tryz.laysW_extra : Builder.Extra Tryz.prog Tryz.laysW_ren := {
  sizeBuilder := by kernel_rfl
  liesBuilder := by kernel_rfl
  t5 := Tryz.underlying5
  a5 := Tryz.isAgg5
  z5 := Tryz.sizeOf5
  v5 := Tryz.zeroValue5
  infoByte := by kernel_rfl
  cellsByte := by kernel_rfl
  sizeByte := by kernel_rfl
  neB5 := by decide }
end Go.Proofs
namespace Go.Proofs.YtnfmeggnalgcnaaGreatDoor
open Go.RowKit

/-- block b is a strings.Builder of these bytes, of the call's own from B on -/
abbrev Wr (B b : Nat) (l : List UInt8) (w : World) : Prop := Lib.IsBuilderF 67 5 B b (Lib.byteCells l) w
/-- a builder stands while memory behind it is made -/
theorem Wr.on {B b : Nat} {l : List UInt8} {w w' : World} (h : Wr B b l w) (k : Below w.heap.size w w') : Wr B b l w' := by
  have hat : ∀ p, Lib.BuilderAtF 67 5 B b p (Lib.byteCells l) w → Lib.BuilderAtF 67 5 B b p (Lib.byteCells l) w' := fun p hp => by
    have hlt := hp.lt
    obtain ⟨hB, v, hb, hown, hne⟩ := hp
    refine ⟨hB, v, (k.block b hlt).trans hb, ?_, hne⟩
    exact hown.kept (row := none) ⟨k.os, k.tape, k.output, k.size, fun i hi _ => k.block i hi⟩ (by
      rcases hown.2 with ⟨rfl, _⟩ | ⟨g, cap, cur, fz, rfl, _⟩
      · exact .inl rfl
      · exact .inr (by simp [Value.ownBlock]))
  exact h.elim (fun x => .inl (hat _ x)) (fun x => .inr (hat _ x))
theorem wrS_any (B b : Nat) (l : List UInt8) (s : ByteArray) (w : World) (h : Wr B b l w) (hlen : l.length + s.size ≤ 140737488355328) (hBw : B ≤ w.heap.size) :
    Calls Tryz.prog 54 #[.pointer (some ⟨b, 0, none⟩), .string s] w fun e w' => e = .returned (.tuple #[.int .i64 s.size, .nilIface]) ∧ Wr B b (l ++ s.data.toList) w' ∧ Below B w w' ∧ Lib.OthersKept 5 (some b) w w' :=
  Calls.mono (Any.Builder_WriteString_k Tryz.laysW Tryz.laysW_extra B b (Lib.byteCells l) s w h (by rw [Lib.byteCells_length]; exact hlen) hBw) fun _ _ ⟨h1, h2, h3, h4⟩ =>
    ⟨h1, .inr (by rw [Lib.byteCells_append]; exact h2), h3, h4⟩
end Go.Proofs.YtnfmeggnalgcnaaGreatDoor

/- The text of a tree: the program's ruleDigits, writeTree. -/
namespace Go.Proofs.YtnfmeggnalgcnaaGreatDoor
open Go.RowKit

theorem grow_below (w : World) (k : Nat) (os : Array Obj) : Below w.heap.size w (Sort.grow (w.drewN k) os) :=
  ⟨rfl, rfl, rfl, by simp [Sort.grow, World.drewN], fun i hi => by simp [Sort.grow, World.drewN, Array.getElem?_append_left hi]⟩
/-- the table of tens lies as it was laid, whatever is done from block B on -/
abbrev Tens (B : Nat) (w : World) : Prop := Lib.TabBelow Tryz.prog B w "internal/strconv.uint64pow10" .u64 Lib.pow10Tab
theorem fmt_any (n : Nat) (hn : n ≤ 9223372036854775807) (B : Nat) (w : World) (ht : Tens B w) :
    Calls Tryz.prog 68 #[.int .i64 (n : Int), .int .i64 10] w fun e w' => e = .returned (.string (tb (Lib.decDigits n))) ∧ Below w.heap.size w w' :=
  Calls.mono (Tryz.strconv_FormatInt_10 (n : Int) (by omega) (by omega) w ht.here) fun _ _ ⟨h1, k, os, h2⟩ => ⟨by rw [h1]; unfold Lib.itoa; rw [if_neg (by omega), Int.toNat_natCast]; rfl, by rw [h2]; exact grow_below w k os⟩

set_option maxRecDepth 100000 in
set_option maxHeartbeats 1000000 in
theorem ruleDigits_any (r : Int) (h1 : r ≤ 9223372036854775807) (B : Nat) (w : World) (ht : Tens B w) :
    Calls Tryz.prog 55 #[.int .i64 r] w fun e w' => e = .returned (.string (tb (ruleT r))) ∧ Below w.heap.size w w' := by
  by_cases hr : r < 0
  · have HE : Hid (tb (ruleT r) = ⟨#[45]⟩) := Lib.hid (by unfold ruleT; rw [if_pos hr]; rfl)
    go_enter Tryz.func55, Tryz.ntmps55
    go_wp2
    go_ret
    exact ⟨ret_tb HE.out.symm, Below.refl _ _⟩
  · obtain ⟨n, hrn⟩ := Int.eq_ofNat_of_zero_le (show 0 ≤ r by omega)
    have HE : Hid (ruleT r = Lib.decDigits n) := Lib.hid (by unfold ruleT; rw [if_neg hr, hrn, Int.toNat_natCast])
    subst hrn
    rw [HE.out]
    have HT := Lib.hid ht
    clear ht
    go_enter Tryz.func55, Tryz.ntmps55
    go_wp2_with fail
    refine (fmt_any n (by omega) B w HT.out).mono ?_
    rintro e w1 ⟨rfl, b1⟩
    go_wp2
    go_ret
    exact ⟨rfl, b1⟩

theorem ta_leaf (x y : Value) (W : World) : (Instr.typeAssert (.iface 105 (.agg #[x, y])) 98 105 true).run Tryz.prog W = .ok (.tuple #[.agg #[x, y], .bool true]) W := by kernel_rfl
theorem ta_no (x : Value) (W : World) : (Instr.typeAssert (.iface 111 x) 98 105 true).run Tryz.prog W = .ok (.tuple #[.agg #[.int .i64 0, .string ⟨#[]⟩], .bool false]) W := by kernel_rfl
theorem ta_node (x y z : Value) (W : World) : (Instr.typeAssert (.iface 111 (.agg #[x, y, z])) 98 111 true).run Tryz.prog W = .ok (.tuple #[.agg #[x, y, z], .bool true]) W := by kernel_rfl
/-- what a writer leaves of all else: blocks below B, and those that are no rows of bytes -/
structure Kp (B b : Nat) (w w' : World) : Prop where
  bel : Below B w w'
  oth : Lib.OthersKept 5 (some b) w w'
theorem Kp.refl (B b : Nat) (w : World) : Kp B b w w := ⟨Below.refl _ _, Lib.OthersKept.refl _ _ _⟩
theorem Kp.trans {B b : Nat} {a c d : World} (h : Kp B b a c) (k : Kp B b c d) : Kp B b a d := ⟨h.bel.trans k.bel, h.oth.trans k.oth⟩
theorem Kp.of {B b : Nat} {w w' : World} (h : Below w.heap.size w w') (hB : B ≤ w.heap.size) : Kp B b w w' := ⟨h.mono hB, fun k o hk _ _ => by
  have hlt : k < w.heap.size := by
    rcases Nat.lt_or_ge k w.heap.size with h1 | h1
    · exact h1
    · rw [Array.getElem?_eq_none h1] at hk; cases hk
  rw [h.block k hlt]; exact hk⟩
theorem Kp.row {B b g : Nat} {w w' : World} {t : TypeId} {cur : Array Value} (h : Kp B b w w') (r : Row w g t cur) (hb : g ≠ b) (ht : t ≠ 5) : Row w' g t cur :=
  h.oth g _ r (fun e => hb (Option.some.inj e)) (fun c fz e => ht (by injection e))
theorem Wr.lt {B b : Nat} {l : List UInt8} {w : World} (h : Wr B b l w) : b < w.heap.size := h.elim (fun x => x.lt) (fun x => x.lt)

def WtC (t : TreeD) : Prop := ∀ (z : Bool) (u : Value) (lo hi B b : Nat) (l : List UInt8) (w : World), Kd z w lo hi u t.kids → hi ≤ B → B ≤ w.heap.size → Wr B b l w → Tens B w → TopOk t → l.length + (textOf t).length ≤ 1000000000 →
  Calls Tryz.prog 36 #[.pointer (some ⟨b, 0, none⟩), trV t u] w fun e w' => e = .returned (.tuple #[]) ∧ Wr B b (l ++ textOf t) w' ∧ Kp B b w w'

set_option maxRecDepth 100000 in
set_option maxHeartbeats 4000000 in
theorem writeTree_of (t : TreeD) (ih : ∀ i (h : i < t.kids.length), WtC t.kids[i]) : WtC t := by
  intro z u lo hi B b l w h hhi hBw hwr htn htop hn
  obtain ⟨A, c, U, rfl, hlc, hc, hs, hcell, hsub⟩ := h.parts
  unfold maxLen at hc
  have HC := Lib.hid hcell
  have HB := Lib.hid hsub
  have HS := Lib.hid hs
  have HWR := Lib.hid hwr
  have HTN := Lib.hid htn
  have hbl := hwr.lt
  obtain ⟨ht1, ht2, ht3⟩ := htop
  clear hcell hsub h hs hwr htn
  unfold trV
  by_cases hlf : t.tok.size ≠ 0 ∧ t.kids.length = 0
  · have HP := Lib.hid (partV_leaf hlf (.slice A t.kids.length c))
    have HE := Lib.hid (textOf_leaf hlf.1 hlf.2)
    have hlen : t.tok.size = (textOf t).length := by rw [textOf_leaf hlf.1 hlf.2, Array.length_toList]; rfl
    have HL := Lib.hid hlen
    clear hlf hlen
    have hta := ta_leaf
    go_enter Tryz.func36, Tryz.ntmps36
    go_wp2_with fail
    refine (partOf_any t A c _).mono ?_
    rintro e w1 ⟨rfl, hw1⟩
    rw [HP.out]
    have b1 : Below w.heap.size w w1 := by rw [hw1]; exact al2 _ _ _
    have z1 : w.heap.size ≤ w1.heap.size := b1.size
    clear hw1
    go_wp2_with fail
    have b2 : Below w.heap.size w (w1.alloc (.cells #[.int .i64 t.rule, .string t.tok] 105)) := b1.alloc z1 _
    refine (wrS_any B b l t.tok _ (HWR.out.on b2) (by have := HL.out; omega) (by simp; omega)).mono ?_
    rintro e w2 ⟨rfl, W2, b3, k3⟩
    have FIN : Hid (Wr B b (l ++ textOf t) w2 ∧ Kp B b w w2) := Lib.hid ⟨by rw [HE.out]; exact W2, (Kp.of b2 hBw).trans ⟨b3, k3⟩⟩
    go_wp2
    go_end0
    exact ⟨rfl, FIN.out⟩
  · have HP := Lib.hid (partV_node hlf (.slice A t.kids.length c))
    have HLF := Lib.hid hlf
    have hp0 := partT_len t 0 hlf
    have hz0 := partT_zero t
    have HZ0 := Lib.hid hz0
    have hrl : (ruleT t.rule).length + 2 ≤ (textOf t).length := by rw [hz0] at hp0; simp at hp0; omega
    have hrz := tb_size (ruleT t.rule)
    clear hlf hz0
    have hta := ta_no
    have htb := ta_node
    go_enter Tryz.func36, Tryz.ntmps36
    go_wp2_with fail
    refine (partOf_any t A c _).mono ?_
    rintro e w1 ⟨rfl, hw1⟩
    rw [HP.out]
    have b1 : Below w.heap.size w w1 := by rw [hw1]; exact al2 _ _ _
    have z1 : w.heap.size ≤ w1.heap.size := b1.size
    clear hw1
    go_wp2_with fail
    have b2 : Below w.heap.size w (w1.alloc (.cells #[.int .i64 t.rule, .string t.tok, .slice A t.kids.length c] 111)) := b1.alloc z1 _
    have R2 := Row.made w1 111 #[.int .i64 t.rule, .string t.tok, .slice A t.kids.length c]
    have z2 : w.heap.size < (w1.alloc (.cells #[.int .i64 t.rule, .string t.tok, .slice A t.kids.length c] 111)).heap.size := by simp; omega
    generalize w1.alloc (.cells #[.int .i64 t.rule, .string t.tok, .slice A t.kids.length c] 111) = w2 at b2 R2 z2 ⊢
    refine (ruleDigits_any t.rule ht3 B w2 (HTN.out.on (b2.mono hBw))).mono ?_
    rintro e w3 ⟨rfl, b3⟩
    have b23 : Below w.heap.size w w3 := b2.trans (b3.mono (by omega))
    have R3 := R2.below b3 R2.lt
    have hr2 : (tb (ruleT t.rule)).size ≤ 1000000000 := by omega
    clear b2 b3 R2 z2
    have z3 := b23.size
    go_wp2_with fail
    refine (wrS_any B b l _ _ (HWR.out.on b23) (by rw [ByteArray.size_append]; show _ + (1 + _) ≤ _; omega) (by omega)).mono ?_
    rintro e w4 ⟨rfl, W4, b4, k4⟩
    have K4 : Kp B b w w4 := (Kp.of b23 hBw).trans ⟨b4, k4⟩
    have R4 := (Kp.mk b4 k4).row R3 (by omega) (by decide)
    have W4' : Wr B b (l ++ partT t 0) w4 := by
      rw [HZ0.out]
      have e : ((⟨#[40]⟩ : ByteArray) ++ tb (ruleT t.rule)).data.toList = 40 :: ruleT t.rule := by rw [ByteArray.data_append]; simp [tb]
      rw [e] at W4
      exact W4
    have c0 := R4.cell 2
    simp at c0
    have HK4 := Lib.hid K4
    have HW4 := Lib.hid W4'
    clear W4 W4' b4 k4 K4 R3 b23
    go_wp2
    go_loopw [29] (fun i wr => ∃ k : Nat, k ≤ t.kids.length ∧ i = .int .i64 k ∧ Wr B b (l ++ partT t k) wr ∧ Kp B b w wr) (fun i _ => t.kids.length - (intOf i).toNat)
    case atStart => exact ⟨0, by omega, rfl, HW4.out, HK4.out⟩
    case round =>
      obtain ⟨k, hk, rfl, hW, hK⟩ := hrel
      have hsw := hK.bel.size
      have HW := Lib.hid hW
      have HK := Lib.hid hK
      have hbr := hW.lt
      have hpl := partT_len t k HLF.out
      clear hW hK
      by_cases hlt : k < t.kids.length
      · obtain ⟨bb, off, rfl, _, hbh, _, hcc⟩ := HC.out (by omega)
        obtain ⟨hc0, hc1, hc2⟩ := hcc k hlt
        have k0 := (HK.out.bel.cell (p := ⟨bb, off + k * 3, none⟩) (by show bb < _; omega)).trans hc0
        have k1 := (HK.out.bel.cell (p := ⟨bb, off + k * 3 + 1, none⟩) (by show bb < _; omega)).trans hc1
        have k2 := (HK.out.bel.cell (p := ⟨bb, off + k * 3 + 2, none⟩) (by show bb < _; omega)).trans hc2
        have hst := HB.out k hlt
        generalize U k = uj at k2 hst
        obtain ⟨A', c', U', hu, -⟩ := hst.parts
        subst hu
        have HST := Lib.hid hst
        have hl2 := partT_len2 t k hlt HLF.out
        have HT := Lib.hid (partT_succ t k hlt)
        have htk : TopOk t.kids[k] := HS.out k hlt
        have a5 := al1 wr (.cells #[.int .i64 t.kids[k].rule, .string t.kids[k].tok, .slice A' t.kids[k].kids.length c'] 29)
        have R5 := Row.made wr 29 #[.int .i64 t.kids[k].rule, .string t.kids[k].tok, .slice A' t.kids[k].kids.length c']
        have hml : (l ++ partT t k).length = l.length + (partT t k).length := List.length_append
        have HML := Lib.hid hml
        clear hcc hc0 hc1 hc2 hst hml
        go_wp2_with fail
        refine (wrS_any B b _ _ _ (HW.out.on a5) (by rw [HML.out]; show _ + 1 ≤ _; omega) (by simp; omega)).mono ?_
        rintro e w5 ⟨rfl, W5, b5, k5⟩
        have K5 : Kp B b w w5 := HK.out.trans ((Kp.of a5 (by omega)).trans ⟨b5, k5⟩)
        have R6 := (Kp.mk b5 k5).row R5 (by omega) (by decide)
        have c60 := R6.cell 0
        have c61 := R6.cell 1
        have c62 := R6.cell 2
        simp at c60 c61 c62
        have z5 := K5.bel.size
        have HK5 := Lib.hid K5
        have HW5 := Lib.hid W5
        clear K5 W5 b5 k5 R5 a5 R6
        go_wp2_with fail
        refine (ih k hlt z _ lo hi B b _ w5 (HST.out.under HK5.out.bel hhi) hhi (by omega) HW5.out (HTN.out.on HK5.out.bel) htk (by rw [List.length_append, HML.out]; show _ + 1 + _ ≤ _; omega)).mono ?_
        rintro e w6 ⟨rfl, W6, K6⟩
        have W6' : Hid (Wr B b (l ++ partT t (k + 1)) w6) := Lib.hid (by
          rw [HT.out]
          simpa [List.append_assoc] using W6)
        have HK6 := Lib.hid (HK5.out.trans K6)
        clear W6 K6
        go_wp2
        go_roundw
        case rel => exact ⟨k + 1, by omega, by go_num, W6'.out, HK6.out⟩
        case measure => simp [intOf]; omega
      · have hks : k = t.kids.length := by omega
        have HKS := Lib.hid hks
        have HE : Hid (l ++ partT t k ++ [41] = l ++ textOf t) := Lib.hid (by
          have e := HKS.out
          subst e
          rw [List.append_assoc, partT_all t HLF.out])
        have HML : Hid ((l ++ partT t k).length = l.length + (partT t k).length) := Lib.hid List.length_append
        clear hks
        go_wp2_with fail
        refine (wrS_any B b _ _ _ HW.out (by rw [HML.out]; show _ + 1 ≤ _; omega) (by omega)).mono ?_
        rintro e w5 ⟨rfl, W5, b5, k5⟩
        have FIN : Hid (Wr B b (l ++ textOf t) w5 ∧ Kp B b w w5) := Lib.hid ⟨by rw [← HE.out]; exact W5, HK.out.trans ⟨b5, k5⟩⟩
        go_wp2
        go_end0
        exact ⟨rfl, FIN.out⟩
theorem writeTree_any (t : TreeD) : WtC t := tree_ind writeTree_of t
end Go.Proofs.YtnfmeggnalgcnaaGreatDoor

/- The text of a tree: the program's TreeText. -/
namespace Go.Proofs.YtnfmeggnalgcnaaGreatDoor
open Go.RowKit

theorem Tens.mono {B B' : Nat} {w : World} (h : Tens B w) (hB : B ≤ B') : Tens B' w := fun w' hb => h w' (hb.mono hB)
theorem specTreeText_t (t : TreeD) (u : Value) (lo hi : Nat) (w : World) (ht : TopOk t) (h : Kd true w lo hi u t.kids) (hhi : hi ≤ w.heap.size) (hn : bulkT t ≤ 1048576) :
    Calls Tryz.prog 15 #[trV t u] w fun e w' => e = .returned (.string (tb (treeT t))) ∧ Below w.heap.size w w' := specTreeText_any t true u lo hi w h hhi ht hn
set_option maxRecDepth 100000 in
set_option maxHeartbeats 1000000 in
theorem implTreeText_t (t : TreeD) (u : Value) (lo hi : Nat) (w : World) (ht : TopOk t) (h : Kd true w lo hi u t.kids) (hhi : hi ≤ w.heap.size) (hn : bulkT t ≤ 1048576) (B : Nat) (htn : Tens B w) (hB : B ≤ w.heap.size) :
    Calls Tryz.prog 14 #[trV t u] w fun e w' => e = .returned (.string (tb (treeT t))) ∧ Below w.heap.size w w' := by
  have hb := al1 w (.cells #[.int .i64 t.rule, .string t.tok, u] 29)
  have HK := Lib.hid (h.under hb hhi)
  have R0 := Row.made w 29 #[.int .i64 t.rule, .string t.tok, u]
  have hsz := sizeT_le_bulkT t
  have hft : fitsT t := (fitsT_eq t).2 ⟨ht.2.2, h.fits⟩
  have hlen := textOf_len t hft
  have HT := Lib.hid ht
  have HTN := Lib.hid htn
  obtain ⟨A, c, U, rfl, -⟩ := h.parts
  clear h hft ht htn
  unfold trV
  go_enter Tryz.func14, Tryz.ntmps14
  go_wp2_with fail
  refine (implSizeOf_any t _ lo hi _ HT.out HK.out (by simp; omega) (by omega)).mono ?_
  rintro e w1 ⟨rfl, b1⟩
  have R1 := R0.below b1 R0.lt
  have a0 := R1.cell 0
  have a1 := R1.cell 1
  have a2 := R1.cell 2
  simp at a0 a1 a2
  have HB1 := Lib.hid (hb.trans (b1.mono (by simp)))
  have HK1 := Lib.hid (HK.out.under b1 (by simp; omega))
  have z1 : w.heap.size < w1.heap.size := R1.lt
  clear R1 b1 R0 hb
  by_cases hf : sizeT t ≤ 200
  · have q : decide ((sizeT t : Int) > 200) = false := decide_eq_false (by omega)
    have HE : Hid (treeT t = textOf t) := Lib.hid (by unfold treeT; rw [if_pos hf])
    have a9 := al1 w1 (.cells #[.pointer none, .slice none 0 0] 67)
    have W9 : Hid (Wr w1.heap.size w1.heap.size [] (w1.alloc (.cells #[.pointer none, .slice none 0 0] 67))) := Lib.hid (Lib.IsBuilderF.of (by simpa [Lib.byteCells] using Lib.fresh_isBuilder 67 5 w1))
    have T9 : Hid (Tens w1.heap.size (w1.alloc (.cells #[.pointer none, .slice none 0 0] 67))) := Lib.hid ((Tens.mono (HTN.out.on (HB1.out.mono hB)) (by omega)).on a9)
    have HK9 := Lib.hid (HK1.out.under a9 (by omega))
    go_wp2_with fail
    refine (writeTree_any t true _ lo hi w1.heap.size w1.heap.size [] _ HK9.out (by omega) (by simp) W9.out T9.out HT.out (by simp; omega)).mono ?_
    rintro e w2 ⟨rfl, W2, K2⟩
    rw [List.nil_append] at W2
    have b2 : Below w.heap.size w w2 := HB1.out.trans ((a9.mono (by omega)).trans (K2.bel.mono (by omega)))
    have z2 := K2.bel.size
    have z3 : w1.heap.size ≤ w2.heap.size := by simp at z2; omega
    clear K2 a9
    go_wp2_with fail
    refine (Tryz.Builder_String_any_k w1.heap.size w1.heap.size (textOf t) _ W2 z3).mono ?_
    rintro e w3 ⟨rfl, _, b3, _⟩
    go_wp2
    go_ret
    exact ⟨ret_tb (by rw [HE.out]; rfl), b2.trans (b3.mono (by omega))⟩
  · have q : decide ((sizeT t : Int) > 200) = true := decide_eq_true (by omega)
    have HE : Hid (treeT t = []) := Lib.hid (by unfold treeT; rw [if_neg hf])
    go_wp2
    go_ret
    exact ⟨ret_tb (by rw [HE.out]; rfl), HB1.out⟩
end Go.Proofs.YtnfmeggnalgcnaaGreatDoor

/- Two lists of trees, alike but for what is in the Kids: impl.sameTops. -/
namespace Go.Proofs.YtnfmeggnalgcnaaGreatDoor
open Go.RowKit

def TopEq (a b : TreeD) : Prop := a.rule = b.rule ∧ a.tok = b.tok ∧ a.kids.length = b.kids.length
instance (a b : TreeD) : Decidable (TopEq a b) := inferInstanceAs (Decidable (_ ∧ _ ∧ _))
def TopsEq (x y : List TreeD) : Prop := x.length = y.length ∧ ∀ i (h : i < x.length) (h' : i < y.length), TopEq x[i] y[i]

set_option maxRecDepth 100000 in
set_option maxHeartbeats 1000000 in
theorem sameTop_any (a b : TreeD) (A B : Option Addr) (c d : Nat) (w : World) :
    Calls Tryz.prog 60 #[.agg #[.int .i64 a.rule, .string a.tok, .slice A a.kids.length c], .agg #[.int .i64 b.rule, .string b.tok, .slice B b.kids.length d]] w fun e w' => e = .returned (.bool (decide (TopEq a b))) ∧ Below w.heap.size w w' := by
  by_cases h1 : a.rule = b.rule
  · have e1 : (a.rule == b.rule) = true := by rw [beq_iff_eq]; exact h1
    by_cases h2 : a.tok = b.tok
    · have e2 := bytes_beq_t h2
      have HE : Hid (decide (TopEq a b) = ((a.kids.length : Int) == (b.kids.length : Int))) := Lib.hid (by
        rw [Bool.eq_iff_iff, decide_eq_true_eq, beq_iff_eq]
        unfold TopEq
        constructor
        · rintro ⟨_, _, h⟩; omega
        · intro h; exact ⟨h1, h2, by omega⟩)
      have H2 := Lib.hid h2
      have H1 := Lib.hid h1
      clear h2 h1
      go_enter Tryz.func60, Tryz.ntmps60
      go_wp2
      go_ret
      exact ⟨ret_bool HE.out.symm, al2 _ _ _⟩
    · have e2 := bytes_beq_f h2
      have HE := Lib.hid (decide_eq_false (fun h : TopEq a b => h2 h.2.1))
      have H1 := Lib.hid h1
      clear h1
      go_enter Tryz.func60, Tryz.ntmps60
      go_wp2
      go_ret
      exact ⟨ret_bool HE.out.symm, al2 _ _ _⟩
  · have e1 : (a.rule == b.rule) = false := by rw [beq_eq_false_iff_ne]; exact h1
    have HE := Lib.hid (decide_eq_false (fun h : TopEq a b => h1 h.1))
    go_enter Tryz.func60, Tryz.ntmps60
    go_wp2
    go_ret
    exact ⟨ret_bool HE.out.symm, al2 _ _ _⟩
open Classical in
theorem topsEq_f {x y : List TreeD} (h : ¬ TopsEq x y) : decide (TopsEq x y) = false := decide_eq_false h
end Go.Proofs.YtnfmeggnalgcnaaGreatDoor

/- Two lists of trees, alike but for what is in the Kids: slices.EqualFunc, impl.sameTops. -/
namespace Go.Proofs.YtnfmeggnalgcnaaGreatDoor
open Go.RowKit

set_option maxRecDepth 100000 in
set_option maxHeartbeats 4000000 in
theorem equalFunc_any (x y : List TreeD) (z : Bool) (v u : Value) (lo hi : Nat) (w : World) (hv : Kd z w lo hi v x) (hu : Kd z w lo hi u y) (hh : hi ≤ w.heap.size) :
    Calls Tryz.prog 59 #[v, u, .func (.func 60) #[] #[]] w fun e w' => ∃ a, e = .returned (.bool a) ∧ (a = true ↔ TopsEq x y) ∧ Below w.heap.size w w' := by
  obtain ⟨A, c, U, rfl, hlc, hc, _, hcell, hsub⟩ := hv.parts
  obtain ⟨B, d, V, rfl, hld, hd, _, hcell', hsub'⟩ := hu.parts
  have HC := Lib.hid hcell
  have HC' := Lib.hid hcell'
  have HB := Lib.hid hsub
  have HB' := Lib.hid hsub'
  unfold maxLen at hc hd
  clear hcell hcell' hsub hsub' hv hu
  by_cases hn : x.length = y.length
  · have n0 : ((x.length : Int) != (y.length : Int)) = false := by rw [bne_eq_false_iff_eq]; omega
    have HN := Lib.hid hn
    clear hn
    go_enter Tryz.func59, Tryz.ntmps59
    go_wp2
    go_loopg [17] x.length (fun gk i wr => ∃ k : Nat, k ≤ x.length ∧ i = .int .i64 k ∧ Below w.heap.size w wr ∧ (∀ j (h : j < x.length) (h' : j < y.length), j < k → TopEq x[j] y[j]) ∧ gk = x.length - k)
    case atStart => exact ⟨0, by omega, rfl, Below.refl _ _, (fun j _ _ hj => by omega), rfl⟩
    case round =>
      obtain ⟨k, hk, rfl, hbw, hall, rfl⟩ := hrel
      have HA := Lib.hid hall
      clear hall
      have hsw := hbw.size
      by_cases hlt : k < x.length
      · have hlt' : k < y.length := by have := HN.out; omega
        obtain ⟨b, off, rfl, _, hbh, _, hcc⟩ := HC.out (by omega)
        obtain ⟨hc0, hc1, hc2⟩ := hcc k hlt
        obtain ⟨b', off', rfl, _, hbh', _, hcc'⟩ := HC'.out (by omega)
        obtain ⟨hd0, hd1, hd2⟩ := hcc' k hlt'
        obtain ⟨A2, c2, U2, e2, -⟩ := (HB.out k hlt).parts
        obtain ⟨B2, d2, V2, f2, -⟩ := (HB'.out k hlt').parts
        rw [e2] at hc2
        rw [f2] at hd2
        have k0 := (hbw.cell (p := ⟨b, off + k * 3, none⟩) (by show b < _; omega)).trans hc0
        have k1 := (hbw.cell (p := ⟨b, off + k * 3 + 1, none⟩) (by show b < _; omega)).trans hc1
        have k2 := (hbw.cell (p := ⟨b, off + k * 3 + 2, none⟩) (by show b < _; omega)).trans hc2
        have m0 := (hbw.cell (p := ⟨b', off' + k * 3, none⟩) (by show b' < _; omega)).trans hd0
        have m1 := (hbw.cell (p := ⟨b', off' + k * 3 + 1, none⟩) (by show b' < _; omega)).trans hd1
        have m2 := (hbw.cell (p := ⟨b', off' + k * 3 + 2, none⟩) (by show b' < _; omega)).trans hd2
        have i1 : (k : Int) < (x.length : Int) := by omega
        have i2 : (k : Int) < (y.length : Int) := by omega
        have hb1 : b < wr.heap.size := by omega
        have hb2 : b' < wr.heap.size := by omega
        clear hcc hcc' hc0 hc1 hc2 hd0 hd1 hd2 e2 f2
        by_cases ht : TopEq x[k] y[k]
        · have HT := Lib.hid ht
          have HD := Lib.hid (decide_eq_true ht)
          clear ht
          go_wp2_with fail
          refine (sameTop_any x[k] y[k] _ _ _ _ _).mono ?_
          rintro e w1 ⟨rfl, b1⟩
          rw [HD.out]
          have hb3 : Below wr.heap.size wr w1 := (al2 _ _ _).trans (b1.mono (by simp; omega))
          go_wp2
          go_roundg (x.length - (k + 1))
          case rel => exact ⟨k + 1, by omega, by go_num, hbw.trans (hb3.mono hsw), (fun j hj hj' hjk => by
            by_cases e : j = k
            · subst e; exact HT.out
            · exact HA.out j hj hj' (by omega)), rfl⟩
          case measure => omega
        · have HE : Hid (¬ TopsEq x y) := Lib.hid (fun h => ht (h.2 k hlt hlt'))
          have HD := Lib.hid (decide_eq_false ht)
          clear ht
          go_wp2_with fail
          refine (sameTop_any x[k] y[k] _ _ _ _ _).mono ?_
          rintro e w1 ⟨rfl, b1⟩
          rw [HD.out]
          have hb3 : Below wr.heap.size wr w1 := (al2 _ _ _).trans (b1.mono (by simp; omega))
          go_wp2
          go_ret
          exact ⟨false, rfl, ⟨(fun h => by cases h), fun h => absurd h HE.out⟩, hbw.trans (hb3.mono hsw)⟩
      · have HE : Hid (TopsEq x y) := Lib.hid ⟨HN.out, fun i hi hi' => HA.out i hi hi' (by omega)⟩
        go_wp2
        go_ret
        exact ⟨true, rfl, ⟨fun _ => HE.out, fun _ => rfl⟩, hbw⟩
  · have n0 : ((x.length : Int) != (y.length : Int)) = true := by rw [bne_iff_ne]; omega
    go_enter Tryz.func59, Tryz.ntmps59
    go_wp2
    go_ret
    exact ⟨false, rfl, ⟨(fun h => by cases h), fun h => absurd h.1 hn⟩, Below.refl _ _⟩

set_option maxRecDepth 100000 in
set_option maxHeartbeats 1000000 in
theorem sameTops_any (x y : List TreeD) (z : Bool) (v u : Value) (lo hi : Nat) (w : World) (hv : Kd z w lo hi v x) (hu : Kd z w lo hi u y) (hh : hi ≤ w.heap.size) :
    Calls Tryz.prog 41 #[.agg #[v, u]] w fun e w' => ∃ a, e = .returned (.bool a) ∧ (a = true ↔ TopsEq x y) ∧ Below w.heap.size w w' := by
  have hb := al1 w (.cells #[v, u] 73)
  have HV := Lib.hid (hv.under hb hh)
  have HU := Lib.hid (hu.under hb hh)
  obtain ⟨A, c, U, rfl, -⟩ := hv.parts
  obtain ⟨B, d, V, rfl, -⟩ := hu.parts
  clear hv hu
  go_enter Tryz.func41, Tryz.ntmps41
  go_wp2_with fail
  refine (equalFunc_any x y z _ _ lo hi _ HV.out HU.out (by simp; omega)).mono ?_
  rintro e w1 ⟨a, rfl, ha, b1⟩
  have HA := Lib.hid ha
  clear ha
  go_wp2
  go_ret
  exact ⟨a, rfl, HA.out, hb.trans (b1.mono (by simp))⟩
end Go.Proofs.YtnfmeggnalgcnaaGreatDoor
