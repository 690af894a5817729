import Derived.Test.YtokdhgocgicdnaaGreatDoorIso
import Derived.Test.YtokdhgocgicdnaaGreatDoorJIpu
import Derived.Test.YtokdhgocgicdnaaGreatDoorJSyz
import Derived.RangeFuncNested
import Derived.RangeFuncBound
import Derived.RangeFuncCalls
import Derived.RangeFuncLeaves
import Derived.Shelf.Abstract
import Derived.Shelf.RegionOpen
import Derived.WalkKit
import Derived.OwnWalkIn
import Derived.TacticsInMore
import Derived.LoopNIn
import Derived.LoopIn
/- How many parts a tree has: impl.SizeOf. -/
namespace Go.Proofs.YtokdhgocgicdnaaGreatDoor
open Go.RowKit

/-- a list of just one tree, in a new block -/
theorem one_kd {z : Bool} {w : World} {lo hi : Nat} {u : Value} {t : TreeD} (h : Kd z w lo hi u t.kids) (ht : TopOk t) (hhi : hi ≤ w.heap.size) :
    Kd z (w.alloc (.cells #[.int .i64 t.rule, .string t.tok, u] 29)) 0 (w.heap.size + 1) (.slice (some ⟨w.heap.size, 0, none⟩) 1 1) [t] := by
  have r := Row.made w 29 #[.int .i64 t.rule, .string t.tok, u]
  refine .mk (some ⟨w.heap.size, 0, none⟩) 1 [t] (fun _ => u) (Nat.le_refl _) (by unfold maxLen; omega) (fun i hi => ?_) (fun _ => ⟨w.heap.size, 0, rfl, Nat.zero_le _, by omega, fun _ => ⟨_, _, r⟩, fun i hi => ?_⟩) (fun i hi => ?_)
  · obtain rfl : i = 0 := by simpa using hi
    exact ht
  · obtain rfl : i = 0 := by simpa using hi
    exact ⟨by rw [r.cell]; rfl, by rw [r.cell]; rfl, by rw [r.cell]; rfl⟩
  · obtain rfl : i = 0 := by simpa using hi
    exact (h.under (B := w.heap.size) (al1 _ _) hhi).more (Nat.zero_le _) (by omega)

set_option maxRecDepth 100000 in
set_option maxHeartbeats 1000000 in
theorem sizeOfTree_any (t : TreeD) (u : Value) (lo hi : Nat) (w : World) (ht : TopOk t) (h : Kd true w lo hi u t.kids) (hhi : hi ≤ w.heap.size) (hn : sizeT t ≤ 2097152) :
    Calls Tryz.prog 39 #[trV t u, ownF] w fun e w' => e = .returned (.int .i64 (sizeT t : Int)) ∧ Below w.heap.size w w' := by
  have b1 := al1 w (.cells #[.int .i64 t.rule, .string t.tok, u] 29)
  have h1 := h.under b1 hhi
  have k := one_kd h1 ht (by simp; omega)
  have hs : sizeTs [t] = sizeT t := by simp [sizeTs]
  have hsz : (w.alloc (.cells #[.int .i64 t.rule, .string t.tok, u] 29)).heap.size = w.heap.size + 1 := by simp
  rw [hsz] at k
  have K := Lib.hid k
  have HS := Lib.hid hs
  clear hs
  have b2 := al2 w (.cells #[.int .i64 t.rule, .string t.tok, u] 29) (.cells #[.int .i64 t.rule, .string t.tok, u] 29)
  have HB := Lib.hid b2
  obtain ⟨A, c, U, rfl, -⟩ := h.parts
  unfold trV
  clear h h1 k b1 b2 hsz
  go_enter Tryz.func39, Tryz.ntmps39
  go_wp2_with fail
  refine (sizeOfAll_any (.slice (some ⟨w.heap.size + 1, 0, none⟩) 1 1) [t] 0 (w.heap.size + 1 + 1) _ K.out (by simp) (by rw [HS.out]; exact hn)).mono ?_
  rintro e w1 ⟨rfl, hb⟩
  rw [HS.out]
  go_wp2
  go_ret
  exact ⟨rfl, HB.out.trans (hb.mono (by simp; omega))⟩
set_option maxRecDepth 100000 in
set_option maxHeartbeats 1000000 in
theorem implSizeOf_any (t : TreeD) (u : Value) (lo hi : Nat) (w : World) (ht : TopOk t) (h : Kd true w lo hi u t.kids) (hhi : hi ≤ w.heap.size) (hn : sizeT t ≤ 2097152) :
    Calls Tryz.prog 16 #[trV t u] w fun e w' => e = .returned (.int .i64 (sizeT t : Int)) ∧ Below w.heap.size w w' := by
  have b1 := al1 w (.cells #[.int .i64 t.rule, .string t.tok, u] 29)
  have K := Lib.hid (h.under b1 hhi)
  obtain ⟨A, c, U, rfl, -⟩ := h.parts
  unfold trV
  clear h
  go_enter Tryz.func16, Tryz.ntmps16
  go_wp2_with fail
  refine (sizeOfTree_any t (.slice A t.kids.length c) lo hi _ ht K.out (by simp; omega) hn).mono ?_
  rintro e w1 ⟨rfl, hb⟩
  go_wp2
  go_ret
  exact ⟨rfl, b1.trans (hb.mono (by simp))⟩
end Go.Proofs.YtokdhgocgicdnaaGreatDoor

/- The symbol of a whole tree: impl.rightSymbol, impl.TreeRight. -/
namespace Go.Proofs.YtokdhgocgicdnaaGreatDoor
open Go.RowKit
theorem nodeSymbol_any (rs : List RuleD) (t : TreeD) : SyN rs t := tree_ind (nodeSymbol_of rs) t

set_option maxRecDepth 100000 in
set_option maxHeartbeats 4000000 in
theorem implRightSymbol_any (rs : List RuleD) (t : TreeD) (v u : Value) (lo hi lo2 hi2 : Nat) (w : World) (hr : Rules w lo2 hi2 v rs) (ht : TopOk t) (hk : Kd true w lo hi u t.kids) (hh : hi ≤ w.heap.size) (hh2 : hi2 ≤ w.heap.size) (hn : sizeT t ≤ 2097152) :
    Calls Tryz.prog 24 #[.agg #[v], trV t u] w fun e w' => e = .returned (.string (rightS rs t)) ∧ Below w.heap.size w w' := by
  have hb0 := al2 w (.cells #[v] 25) (.cells #[.int .i64 t.rule, .string t.tok, u] 29)
  have HB0 := Lib.hid hb0
  have RG := (Row.made w 25 #[v]).alloc (.cells #[.int .i64 t.rule, .string t.tok, u] 29)
  have RT := Row.made (w.alloc (.cells #[v] 25)) 29 #[.int .i64 t.rule, .string t.tok, u]
  have hsz : (w.alloc (.cells #[v] 25)).heap.size = w.heap.size + 1 := by simp
  rw [hsz] at RT
  have hsz2 : ((w.alloc (.cells #[v] 25)).alloc (.cells #[.int .i64 t.rule, .string t.tok, u] 29)).heap.size = w.heap.size + 1 + 1 := by simp
  have HRL := Lib.hid (hr.below hb0 hh2)
  have HKD := Lib.hid (hk.under hb0 hh)
  have HT := Lib.hid ht
  obtain ⟨Av, cv, rfl, -⟩ := hr
  obtain ⟨A, c, U, rfl, -⟩ := hk.parts
  clear hb0 hsz hk ht
  unfold trV
  cases hg : gramB rs
  · have HE : Hid (rightS rs t = ByteArray.empty) := Lib.hid (by unfold rightS; rw [if_neg (by rw [hg]; rintro ⟨h, _⟩; cases h)])
    have HG := Lib.hid hg
    clear hg
    go_enter Tryz.func24, Tryz.ntmps24
    go_wp2_with fail
    refine (implGramRight_any rs _ lo2 hi2 _ HRL.out (by simp; omega)).mono ?_
    rintro e w1 ⟨rfl, b1⟩
    rw [HG.out]
    go_wp2
    go_ret
    exact ⟨ret_str HE.out.symm, HB0.out.trans (b1.mono (by simp; omega))⟩
  · have HG := Lib.hid hg
    clear hg
    by_cases hbig : sizeT t ≤ 200
    · have HE : Hid (rightS rs t = symT rs t) := Lib.hid (by unfold rightS; rw [if_pos ⟨HG.out, hbig⟩])
      have nb : decide ((sizeT t : Int) > 200) = false := decide_eq_false (by omega)
      by_cases hlf : t.tok.size ≠ 0 ∧ t.kids.length = 0
      · have HLF := Lib.hid hlf
        have hmeth := methLeaf (.int .i64 t.rule) (.string t.tok)
        clear hlf
        go_enter Tryz.func24, Tryz.ntmps24
        go_wp2_with fail
        generalize (w.alloc (.cells #[.slice Av rs.length cv] 25)).alloc (.cells #[.int .i64 t.rule, .string t.tok, .slice A t.kids.length c] 29) = w0 at RG RT HB0 HRL HKD hsz2 ⊢
        refine (implGramRight_any rs _ lo2 hi2 w0 HRL.out (by omega)).mono ?_
        rintro e w1 ⟨rfl, b1⟩
        rw [HG.out]
        have z1 := b1.size
        have RT1 := RT.below b1 (by omega)
        have a0 := RT1.cell 0
        have a1 := RT1.cell 1
        have a2 := RT1.cell 2
        simp at a0 a1 a2
        go_wp2_with fail
        refine (implSizeOf_any t _ lo hi w1 HT.out (HKD.out.under b1 (by omega)) (by omega) hn).mono ?_
        rintro e w2 ⟨rfl, b2⟩
        have z2 := b2.size
        have b12 := b1.trans (b2.mono z1)
        have HBX := Lib.hid (HB0.out.trans (b12.mono (by omega)))
        have RT2 := RT.below b12 (by omega)
        have RG2 := RG.below b12 (by omega)
        have t0 := RT2.cell 0
        have t1 := RT2.cell 1
        have t2 := RT2.cell 2
        have t3 := RG2.cell 0
        simp at t0 t1 t2 t3
        have V5 : Kd true w2.drew lo hi (.slice A t.kids.length c) t.kids := (HKD.out.under b12 (by omega)).drewN 1
        have R5 : Rules w2.drew lo2 hi2 (.slice Av rs.length cv) rs := HRL.out.below (B := w0.heap.size) b12.drew (by omega)
        clear RT2 RG2 RT1 a0 a1 a2 b1 b2 b12
        go_wp2
        go_region_held3 (fun w' => (w'.cell? ⟨w.heap.size + 1, 0, none⟩ = some (.int .i64 t.rule) ∧ w'.cell? ⟨w.heap.size + 1, 1, none⟩ = some (.string t.tok) ∧ w'.cell? ⟨w.heap.size + 1, 2, none⟩ = some (.slice A t.kids.length c)) ∧ w'.cell? ⟨w.heap.size, 0, none⟩ = some (.slice Av rs.length cv))
          (first | go_keep | (refine ⟨⟨?_, ?_, ?_⟩, ?_⟩ <;> (rw [b6.cell (by simp <;> omega)]; assumption)) | (refine ⟨⟨?_, ?_, ?_⟩, ?_⟩ <;> (rw [b7.cell (by simp <;> omega), b6.cell (by simp <;> omega)]; assumption)))
          (first
            | (go_at_call 49; refine (partOf_below t A c w2.drew).mono ?_; rintro e w6 ⟨rfl, b6⟩; have z6 : w2.heap.size ≤ w6.heap.size := b6.size; rw [partV_leaf HLF.out])
            | (go_at_call 132; refine (leafSymbol_any rs t _ w6 HLF.out.1 HLF.out.2).mono ?_; rintro e w7 ⟨rfl, b7⟩))
        go_wp2
        go_ret
        exact ⟨ret_str HE.out.symm, HBX.out.trans (((Below.refl _ _).drew.trans (b6.mono (by simp <;> omega))).trans (b7.mono (by omega)))⟩
      · have HLF := Lib.hid hlf
        have hmeth := methNode (.int .i64 t.rule) (.string t.tok) (.slice A t.kids.length c)
        clear hlf
        go_enter Tryz.func24, Tryz.ntmps24
        go_wp2_with fail
        generalize (w.alloc (.cells #[.slice Av rs.length cv] 25)).alloc (.cells #[.int .i64 t.rule, .string t.tok, .slice A t.kids.length c] 29) = w0 at RG RT HB0 HRL HKD hsz2 ⊢
        refine (implGramRight_any rs _ lo2 hi2 w0 HRL.out (by omega)).mono ?_
        rintro e w1 ⟨rfl, b1⟩
        rw [HG.out]
        have z1 := b1.size
        have RT1 := RT.below b1 (by omega)
        have a0 := RT1.cell 0
        have a1 := RT1.cell 1
        have a2 := RT1.cell 2
        simp at a0 a1 a2
        go_wp2_with fail
        refine (implSizeOf_any t _ lo hi w1 HT.out (HKD.out.under b1 (by omega)) (by omega) hn).mono ?_
        rintro e w2 ⟨rfl, b2⟩
        have z2 := b2.size
        have b12 := b1.trans (b2.mono z1)
        have HBX := Lib.hid (HB0.out.trans (b12.mono (by omega)))
        have RT2 := RT.below b12 (by omega)
        have RG2 := RG.below b12 (by omega)
        have t0 := RT2.cell 0
        have t1 := RT2.cell 1
        have t2 := RT2.cell 2
        have t3 := RG2.cell 0
        simp at t0 t1 t2 t3
        have V5 : Kd true w2.drew lo hi (.slice A t.kids.length c) t.kids := (HKD.out.under b12 (by omega)).drewN 1
        have R5 : Rules w2.drew lo2 hi2 (.slice Av rs.length cv) rs := HRL.out.below (B := w0.heap.size) b12.drew (by omega)
        clear RT2 RG2 RT1 a0 a1 a2 b1 b2 b12
        go_wp2
        go_region_held3 (fun w' => (w'.cell? ⟨w.heap.size + 1, 0, none⟩ = some (.int .i64 t.rule) ∧ w'.cell? ⟨w.heap.size + 1, 1, none⟩ = some (.string t.tok) ∧ w'.cell? ⟨w.heap.size + 1, 2, none⟩ = some (.slice A t.kids.length c)) ∧ w'.cell? ⟨w.heap.size, 0, none⟩ = some (.slice Av rs.length cv))
          (first | go_keep | (refine ⟨⟨?_, ?_, ?_⟩, ?_⟩ <;> (rw [b6.cell (by simp <;> omega)]; assumption)) | (refine ⟨⟨?_, ?_, ?_⟩, ?_⟩ <;> (rw [b7.cell (by simp <;> omega), b6.cell (by simp <;> omega)]; assumption)))
          (first
            | (go_at_call 49; refine (partOf_below t A c w2.drew).mono ?_; rintro e w6 ⟨rfl, b6⟩; have z6 : w2.heap.size ≤ w6.heap.size := b6.size; rw [partV_node HLF.out])
            | (go_at_call 133; refine (nodeSymbol_any rs t true _ _ lo hi lo2 hi2 w6 HLF.out (V5.under b6 (by simp; omega)) (R5.below b6 (by simp; omega)) (by omega) (by omega)).mono ?_; rintro e w7 ⟨rfl, b7⟩))
        go_wp2
        go_ret
        exact ⟨ret_str HE.out.symm, HBX.out.trans (((Below.refl _ _).drew.trans (b6.mono (by simp <;> omega))).trans (b7.mono (by omega)))⟩
    · have HE : Hid (rightS rs t = ByteArray.empty) := Lib.hid (by unfold rightS; rw [if_neg (fun h => hbig h.2)])
      have nb : decide ((sizeT t : Int) > 200) = true := decide_eq_true (by omega)
      go_enter Tryz.func24, Tryz.ntmps24
      go_wp2_with fail
      generalize (w.alloc (.cells #[.slice Av rs.length cv] 25)).alloc (.cells #[.int .i64 t.rule, .string t.tok, .slice A t.kids.length c] 29) = w0 at RG RT HB0 HRL HKD hsz2 ⊢
      refine (implGramRight_any rs _ lo2 hi2 w0 HRL.out (by omega)).mono ?_
      rintro e w1 ⟨rfl, b1⟩
      rw [HG.out]
      have z1 := b1.size
      have RT1 := RT.below b1 (by omega)
      have a0 := RT1.cell 0
      have a1 := RT1.cell 1
      have a2 := RT1.cell 2
      simp at a0 a1 a2
      go_wp2_with fail
      refine (implSizeOf_any t _ lo hi w1 HT.out (HKD.out.under b1 (by omega)) (by omega) hn).mono ?_
      rintro e w2 ⟨rfl, b2⟩
      have z2 := b2.size
      have b12 := b1.trans (b2.mono z1)
      have HBX := Lib.hid (HB0.out.trans (b12.mono (by omega)))
      go_wp2
      go_ret
      exact ⟨ret_str HE.out.symm, HBX.out⟩

set_option maxRecDepth 100000 in
set_option maxHeartbeats 1000000 in
theorem implTreeRight_any (rs : List RuleD) (t : TreeD) (v u : Value) (lo hi lo2 hi2 : Nat) (w : World) (hr : Rules w lo2 hi2 v rs) (ht : TopOk t) (hk : Kd true w lo hi u t.kids) (hh : hi ≤ w.heap.size) (hh2 : hi2 ≤ w.heap.size) (hn : sizeT t ≤ 2097152) :
    Calls Tryz.prog 10 #[.agg #[v], trV t u] w fun e w' => e = .returned (.bool (rightB rs t)) ∧ Below w.heap.size w w' := by
  have hb0 := al2 w (.cells #[v] 25) (.cells #[.int .i64 t.rule, .string t.tok, u] 29)
  have HB0 := Lib.hid hb0
  have HRL := Lib.hid (hr.below hb0 hh2)
  have HKD := Lib.hid (hk.under hb0 hh)
  have HT := Lib.hid ht
  obtain ⟨Av, cv, rfl, -⟩ := hr
  obtain ⟨A, c, U, rfl, -⟩ := hk.parts
  clear hb0 hk ht
  unfold trV
  have HS : Hid (((rightS rs t).toList == []) = !rightB rs t) := Lib.hid (by rw [toks_empty]; unfold rightB; simp)
  go_enter Tryz.func10, Tryz.ntmps10
  go_wp2_with fail
  refine (implRightSymbol_any rs t _ _ lo hi lo2 hi2 _ HRL.out HT.out HKD.out (by simp; omega) (by simp; omega) hn).mono ?_
  rintro e w1 ⟨rfl, b1⟩
  have d1 := HS.out
  go_wp2
  go_ret
  exact ⟨ret_bool (by simp), HB0.out.trans (b1.mono (by simp; omega))⟩
end Go.Proofs.YtokdhgocgicdnaaGreatDoor

/- The texts of a tree handed on one by one: impl.handToks, inside a fence. -/
namespace Go.Proofs.YtokdhgocgicdnaaGreatDoor
open Go.RowKit Go.Shelf
attribute [local go_sem] Oper.semAt_some

theorem room_of_noneT {F : Fence} (hd : F.depth = none) (k : Nat) : F.room k := fun d h => by rw [hd] at h; cases h
theorem roundAny {F : Fence} (hd : F.depth = none) {m m' : Nat} {P : Program} {l : Nat} {f : FuncId} {tmps : Array Value} {assign body : Code} {w : World} {R : Ending → World → Prop}
    (h : RoundIn F m P l f tmps assign body w R) : RoundIn F m' P l f tmps assign body w R := ⟨h.1, fun c cs _ => h.2 c cs (room_of_noneT hd _)⟩
theorem yieldAny {F : Fence} (hd : F.depth = none) {m : Nat} (m' : Nat) {P : Program} {l : Nat} {args : Array Value} {W : World} {R : Ending → World → Prop} (h : YieldAt F m P l args W R) : YieldAt F m' P l args W R := by
  obtain ⟨fn, tmps, assign, body, hy, hR⟩ := h
  exact ⟨fn, tmps, assign, body, hy, roundAny hd hR⟩

/-- what lay below n₀ lies, and so does every block of trees -/
structure Kt (n₀ : Nat) (W W' : World) : Prop where
  below : Below n₀ W W'
  tree : ∀ (k : Nat) (cur : Array Value) (fr : Nat × Nat), W.heap[k]? = some (Obj.cells cur 29 fr) → W'.heap[k]? = W.heap[k]?
theorem Kt.refl (n₀ : Nat) (W : World) : Kt n₀ W W := ⟨Below.refl _ _, fun _ _ _ _ => rfl⟩
theorem Kt.trans {n₀ : Nat} {A B C : World} (h : Kt n₀ A B) (k : Kt n₀ B C) : Kt n₀ A C :=
  ⟨h.below.trans k.below, fun i cur fr hi => (k.tree i cur fr ((h.tree i cur fr hi).trans hi)).trans (h.tree i cur fr hi)⟩
theorem Kt.alloc {n₀ : Nat} (W : World) (o : Obj) (h : n₀ ≤ W.heap.size) : Kt n₀ W (W.alloc o) :=
  ⟨(Below.refl _ _).alloc h _, fun i cur fr hi => Below.heap_alloc W o i (by
    rcases Nat.lt_or_ge i W.heap.size with h1 | h1
    · exact h1
    · rw [Array.getElem?_eq_none h1] at hi; cases hi)⟩
theorem Kt.row {n₀ : Nat} {W W' : World} (k : Kt n₀ W W') {g : Nat} {cur : Array Value} (h : Row W g 29 cur) : Row W' g 29 cur := (k.tree g cur (0, 0) h).trans h

def HtP (F : Fence) (l n₀ N : Nat) (J Jx : List ByteArray → World → Prop) (t : TreeD) : Prop :=
  ∀ (n : Nat) (u : Value) (lo hi : Nat) (pre : List ByteArray) (W : World), Kd true W lo hi u t.kids → hi ≤ n₀ → n₀ ≤ W.heap.size → J pre W → pre.length + (yieldT t).length ≤ N → bulkT t ≤ 1048576 →
    CallsIn F n Tryz.prog 51 #[trV t u, .func (.yield l) #[] #[]] W fun e W' =>
      (e = .returned (.bool true) ∧ J (pre ++ yieldT t) W' ∧ Kt n₀ W W') ∨ (e = .returned (.bool false) ∧ ∃ q, q <+: yieldT t ∧ Jx (pre ++ q) W')

set_option maxRecDepth 100000 in
set_option maxHeartbeats 4000000 in
theorem handToks_of (F : Fence) (hd : F.depth = none) (hf : ∀ f, F.fn f) (hro : F.round = none) (l n₀ N : Nat) (J Jx : List ByteArray → World → Prop) (hJa : ∀ pre W o, n₀ ≤ W.heap.size → J pre W → J pre (W.alloc o))
    (hY : ∀ m pre (x : ByteArray) W, x.size ≤ 1048576 → J pre W → pre.length < N → YieldAt F m Tryz.prog l #[.string x] W fun e W' =>
      (e = .returned (.bool true) ∧ J (pre ++ [x]) W' ∧ Kt n₀ W W') ∨ (e = .returned (.bool false) ∧ Jx (pre ++ [x]) W'))
    (t : TreeD) (ih : ∀ i (h : i < t.kids.length), HtP F l n₀ N J Jx t.kids[i]) : HtP F l n₀ N J Jx t := by
  intro n u lo hi pre W hk hh hn hJ hN hbk
  have hbe := bulkT_eq t
  have hdd : ∀ k : Nat, (F.depth.isSome = true → 1 ≤ k) := fun k h => by rw [hd] at h; cases h
  have HY := Lib.hid (yieldT_eq t)
  have HKD := Lib.hid hk
  obtain ⟨A, c, U, rfl, hlc, hc, _, hcell, hsub⟩ := hk.parts
  have HC := Lib.hid hcell
  have HB := Lib.hid hsub
  unfold maxLen at hc
  clear hk hcell hsub
  have R0 := Row.made W 29 #[.int .i64 t.rule, .string t.tok, .slice A t.kids.length c]
  have J0 := hJa pre W (.cells #[.int .i64 t.rule, .string t.tok, .slice A t.kids.length c] 29) hn hJ
  have K0 := Kt.alloc (n₀ := n₀) W (.cells #[.int .i64 t.rule, .string t.tok, .slice A t.kids.length c] 29) hn
  unfold trV
  by_cases h0 : t.tok.size = 0
  · have e0 : (t.tok.toList == []) = true := by rw [toks_empty, decide_eq_true h0]
    have HP : Hid (yieldT t = yieldTs t.kids) := Lib.hid (by rw [HY.out, if_pos h0]; simp)
    refine callsIn_of_wp Tryz.func51 rfl (hf _) ?_ hro
    simp only [Tryz.ntmps51, List.size_toArray, List.length_cons, List.length_nil, Nat.reduceAdd, Nat.reduceSub, Array.replicate_succ, Array.replicate_zero, List.push_toArray, List.append_toArray, List.nil_append, List.cons_append]
    --LOOP1
    gi_wp2
    gi_loopw [20] (fun i wr => ∃ (k : Nat) (acc : List ByteArray), k ≤ t.kids.length ∧ i = .int .i64 k ∧ acc = pre ++ yieldTs (t.kids.take k) ∧ J acc wr ∧ Kt n₀ W wr) (fun i _ => t.kids.length - (intOf i).toNat)
    case atStart => exact ⟨0, pre, by omega, rfl, by simp [yieldTs], J0, K0⟩
    case round =>
      obtain ⟨k, acc, hk, rfl, hacc, hJ1, hK1⟩ := hrel
      have HACC := Lib.hid hacc
      have hsw := hK1.below.size
      clear hacc
      by_cases hlt : k < t.kids.length
      · obtain ⟨b1, off, rfl, _, hbh, _, hcc⟩ := HC.out (by omega)
        obtain ⟨hc0, hc1, hc2⟩ := hcc k hlt
        have B0 := hK1.below
        have k0 := (B0.cell (p := ⟨b1, off + k * 3, none⟩) (by show b1 < _; omega)).trans hc0
        have k1 := (B0.cell (p := ⟨b1, off + k * 3 + 1, none⟩) (by show b1 < _; omega)).trans hc1
        have k2 := (B0.cell (p := ⟨b1, off + k * 3 + 2, none⟩) (by show b1 < _; omega)).trans hc2
        obtain ⟨A2, c2, U2, e2, -⟩ := (HB.out k hlt).parts
        rw [e2] at k2
        have i1 : (k : Int) < (t.kids.length : Int) := by omega
        have hb1w : b1 < wr.heap.size := by omega
        have K2 := Kt.alloc (n₀ := n₀) wr (.cells #[.int .i64 t.kids[k].rule, .string t.kids[k].tok, .slice A2 t.kids[k].kids.length c2] 29) (by omega)
        have J2 := hJa acc wr (.cells #[.int .i64 t.kids[k].rule, .string t.kids[k].tok, .slice A2 t.kids[k].kids.length c2] 29) (by omega) hJ1
        have V2 := ((HB.out k hlt).under B0 hh).under K2.below hh
        rw [e2] at V2
        have HYS := Lib.hid (yieldTs_take t.kids k hlt)
        have hlen : acc.length + (yieldT t.kids[k]).length ≤ N := by
          have e1 := congrArg List.length HACC.out
          have e2 := congrArg List.length HYS.out
          have e3 := congrArg List.length HP.out
          have e4 : (yieldTs (t.kids.take (k + 1))).length ≤ (yieldTs t.kids).length := by
            conv => rhs; rw [← List.take_append_drop (k + 1) t.kids]
            rw [yieldTs_append, List.length_append]; omega
          simp only [List.length_append] at e1 e2 e3
          omega
        have hz2 : n₀ ≤ (wr.alloc (.cells #[.int .i64 t.kids[k].rule, .string t.kids[k].tok, .slice A2 t.kids[k].kids.length c2] 29)).heap.size := by simp; omega
        have step := fun m => ih k hlt m (.slice A2 t.kids[k].kids.length c2) lo hi acc _ V2 hh hz2 J2 hlen (by have := bulkTs_get t.kids k hlt; omega)
        have HST := Lib.hid step
        have HK12 := Lib.hid (hK1.trans K2)
        clear step hcc hc0 hc1 hc2 e2 B0 V2 J2 K2 hz2 hlen hJ1 hK1
        unfold trV at HST
        gi_wp2_with ((try refine ⟨hdd _, ?_⟩); gi_at_call 51; refine (HST.out _).mono ?_; rintro e W3 (⟨rfl, hJ3, hk3⟩ | ⟨rfl, q, hq, hx3⟩))
        · go_roundw
          case rel => exact ⟨k + 1, _, by omega, by go_num, by rw [HYS.out, HACC.out, List.append_assoc], hJ3, HK12.out.trans hk3⟩
          case measure => simp [intOf]; omega
        · go_ret
          refine .inr ⟨rfl, ([] : List ByteArray) ++ yieldTs (t.kids.take k) ++ q, ?_, ?_⟩
          · obtain ⟨r, hr⟩ := hq
            refine ⟨r ++ yieldTs (t.kids.drop (k + 1)), ?_⟩
            rw [HP.out]
            conv => rhs; rw [← List.take_append_drop (k + 1) t.kids]
            rw [yieldTs_append, HYS.out, ← hr]
            simp [List.append_assoc]
          · have e := HACC.out
            have e5 : pre ++ (([] : List ByteArray) ++ yieldTs (t.kids.take k) ++ q) = acc ++ q := by rw [e]; simp [List.append_assoc]
            rw [e5]
            exact hx3
      · have hke : k = t.kids.length := by omega
        have HE := Lib.hid hke
        clear hke
        gi_wp2
        go_ret
        refine .inl ⟨rfl, ?_, hK1⟩
        have e := HACC.out
        rw [HE.out, List.take_length] at e
        have e5 : pre ++ yieldT t = acc := by rw [e, HP.out] <;> simp [List.append_assoc]
        rw [e5]
        exact hJ1
  · have e0 : (t.tok.toList == []) = false := by rw [toks_empty, decide_eq_false h0]
    have HP : Hid (yieldT t = [t.tok] ++ yieldTs t.kids) := Lib.hid (by rw [HY.out, if_neg h0])
    have hlt0 : pre.length < N := by
      have := congrArg List.length HP.out
      simp only [List.length_append, List.length_cons, List.length_nil] at this
      omega
    have yl : ∀ m, YieldAt F m Tryz.prog l #[.string t.tok] (W.alloc (.cells #[.int .i64 t.rule, .string t.tok, .slice A t.kids.length c] 29)) fun e W2 =>
        (e = .returned (.bool true) ∧ J (pre ++ [t.tok]) W2 ∧ Kt n₀ W W2 ∧ W2.cell? ⟨W.heap.size, 2, none⟩ = some (.slice A t.kids.length c)) ∨ (e = .returned (.bool false) ∧ Jx (pre ++ [t.tok]) W2) := fun m =>
      YieldAt.mono (hY m pre t.tok _ (by omega) J0 hlt0) fun e W2 h => h.elim (fun ⟨he, hj, hk2⟩ => .inl ⟨he, hj, K0.trans hk2, ((hk2.row R0).cell 2).trans rfl⟩) .inr
    obtain ⟨fn, tmps, assign, body, hy, hR⟩ := yl (n - 1)
    clear yl
    refine callsIn_of_wp Tryz.func51 rfl (hf _) ?_ hro
    simp only [Tryz.ntmps51, List.size_toArray, List.length_cons, List.length_nil, Nat.reduceAdd, Nat.reduceSub, Array.replicate_succ, Array.replicate_zero, List.push_toArray, List.append_toArray, List.nil_append, List.cons_append]
    gi_wp2_with ((try refine ⟨hdd _, ?_⟩); refine hR.mono ?_; clear hR; rintro e W2 (⟨rfl, hJ2, hK2, c2'⟩ | ⟨rfl, hx2⟩))
    · gi_loopw [20] (fun i wr => ∃ (k : Nat) (acc : List ByteArray), k ≤ t.kids.length ∧ i = .int .i64 k ∧ acc = (pre ++ [t.tok]) ++ yieldTs (t.kids.take k) ∧ J acc wr ∧ Kt n₀ W wr) (fun i _ => t.kids.length - (intOf i).toNat)
      case atStart => exact ⟨0, (pre ++ [t.tok]), by omega, rfl, by simp [yieldTs], hJ2, hK2⟩
      case round =>
        obtain ⟨k, acc, hk, rfl, hacc, hJ1, hK1⟩ := hrel
        have HACC := Lib.hid hacc
        have hsw := hK1.below.size
        clear hacc
        by_cases hlt : k < t.kids.length
        · obtain ⟨b1, off, rfl, _, hbh, _, hcc⟩ := HC.out (by omega)
          obtain ⟨hc0, hc1, hc2⟩ := hcc k hlt
          have B0 := hK1.below
          have k0 := (B0.cell (p := ⟨b1, off + k * 3, none⟩) (by show b1 < _; omega)).trans hc0
          have k1 := (B0.cell (p := ⟨b1, off + k * 3 + 1, none⟩) (by show b1 < _; omega)).trans hc1
          have k2 := (B0.cell (p := ⟨b1, off + k * 3 + 2, none⟩) (by show b1 < _; omega)).trans hc2
          obtain ⟨A2, c2, U2, e2, -⟩ := (HB.out k hlt).parts
          rw [e2] at k2
          have i1 : (k : Int) < (t.kids.length : Int) := by omega
          have hb1w : b1 < wr.heap.size := by omega
          have K2 := Kt.alloc (n₀ := n₀) wr (.cells #[.int .i64 t.kids[k].rule, .string t.kids[k].tok, .slice A2 t.kids[k].kids.length c2] 29) (by omega)
          have J2 := hJa acc wr (.cells #[.int .i64 t.kids[k].rule, .string t.kids[k].tok, .slice A2 t.kids[k].kids.length c2] 29) (by omega) hJ1
          have V2 := ((HB.out k hlt).under B0 hh).under K2.below hh
          rw [e2] at V2
          have HYS := Lib.hid (yieldTs_take t.kids k hlt)
          have hlen : acc.length + (yieldT t.kids[k]).length ≤ N := by
            have e1 := congrArg List.length HACC.out
            have e2 := congrArg List.length HYS.out
            have e3 := congrArg List.length HP.out
            have e4 : (yieldTs (t.kids.take (k + 1))).length ≤ (yieldTs t.kids).length := by
              conv => rhs; rw [← List.take_append_drop (k + 1) t.kids]
              rw [yieldTs_append, List.length_append]; omega
            simp only [List.length_append, List.length_cons, List.length_nil] at e1 e2 e3
            omega
          have hz2 : n₀ ≤ (wr.alloc (.cells #[.int .i64 t.kids[k].rule, .string t.kids[k].tok, .slice A2 t.kids[k].kids.length c2] 29)).heap.size := by simp; omega
          have step := fun m => ih k hlt m (.slice A2 t.kids[k].kids.length c2) lo hi acc _ V2 hh hz2 J2 hlen (by have := bulkTs_get t.kids k hlt; omega)
          have HST := Lib.hid step
          have HK12 := Lib.hid (hK1.trans K2)
          clear step hcc hc0 hc1 hc2 e2 B0 V2 J2 K2 hz2 hlen hJ1 hK1
          unfold trV at HST
          gi_wp2_with ((try refine ⟨hdd _, ?_⟩); gi_at_call 51; refine (HST.out _).mono ?_; rintro e W3 (⟨rfl, hJ3, hk3⟩ | ⟨rfl, q, hq, hx3⟩))
          · go_roundw
            case rel => exact ⟨k + 1, _, by omega, by go_num, by rw [HYS.out, HACC.out, List.append_assoc], hJ3, HK12.out.trans hk3⟩
            case measure => simp [intOf]; omega
          · go_ret
            refine .inr ⟨rfl, [t.tok] ++ yieldTs (t.kids.take k) ++ q, ?_, ?_⟩
            · obtain ⟨r, hr⟩ := hq
              refine ⟨r ++ yieldTs (t.kids.drop (k + 1)), ?_⟩
              rw [HP.out]
              conv => rhs; rw [← List.take_append_drop (k + 1) t.kids]
              rw [yieldTs_append, HYS.out, ← hr]
              simp [List.append_assoc]
            · have e := HACC.out
              have e5 : pre ++ ([t.tok] ++ yieldTs (t.kids.take k) ++ q) = acc ++ q := by rw [e]; simp [List.append_assoc]
              rw [e5]
              exact hx3
        · have hke : k = t.kids.length := by omega
          have HE := Lib.hid hke
          clear hke
          gi_wp2
          go_ret
          refine .inl ⟨rfl, ?_, hK1⟩
          have e := HACC.out
          rw [HE.out, List.take_length] at e
          have e5 : pre ++ yieldT t = acc := by rw [e, HP.out] <;> simp [List.append_assoc]
          rw [e5]
          exact hJ1
    · go_ret
      exact .inr ⟨rfl, [t.tok], ⟨yieldTs t.kids, by rw [HP.out]⟩, hx2⟩
theorem handToks_in (F : Fence) (hd : F.depth = none) (hf : ∀ f, F.fn f) (hro : F.round = none) (l n₀ N : Nat) (J Jx : List ByteArray → World → Prop) (hJa : ∀ pre W o, n₀ ≤ W.heap.size → J pre W → J pre (W.alloc o))
    (hY : ∀ m pre (x : ByteArray) W, x.size ≤ 1048576 → J pre W → pre.length < N → YieldAt F m Tryz.prog l #[.string x] W fun e W' =>
      (e = .returned (.bool true) ∧ J (pre ++ [x]) W' ∧ Kt n₀ W W') ∨ (e = .returned (.bool false) ∧ Jx (pre ++ [x]) W')) (t : TreeD) : HtP F l n₀ N J Jx t :=
  tree_ind (handToks_of F hd hf hro l n₀ N J Jx hJa hY) t

/-- a text that a round is handed -/
abbrev Tk := { x : ByteArray // x.size ≤ 1048576 }
def texts (xs : List Tk) : List ByteArray := xs.map (·.1)
def liftJ (J : List Tk → World → Prop) (bs : List ByteArray) (W : World) : Prop := ∃ xs : List Tk, texts xs = bs ∧ J xs W

set_option maxRecDepth 100000 in
set_option maxHeartbeats 2000000 in
/-- the closure that toksOf hands back -/
theorem toks1_in (F : Fence) (hd : F.depth = none) (hf : ∀ f, F.fn f) (hro : F.round = none) (n l n₀ Bt : Nat) (t : TreeD) (A : Option Addr) (c lo hi : Nat) (J Jx : List Tk → World → Prop) (hJa : ∀ pre W o, n₀ ≤ W.heap.size → J pre W → J pre (W.alloc o))
    (hY : ∀ pre (x : Tk) W, J pre W → pre.length < (yieldT t).length → YieldAt F (n - 1) Tryz.prog l #[.string x.1] W fun e W' =>
      (e = .returned (.bool true) ∧ J (pre ++ [x]) W' ∧ Kt n₀ W W') ∨ (e = .returned (.bool false) ∧ Jx (pre ++ [x]) W'))
    (W : World) (hrow : Row W Bt 29 #[.int .i64 t.rule, .string t.tok, .slice A t.kids.length c]) (hk : Kd true W lo hi (.slice A t.kids.length c) t.kids) (hh : hi ≤ n₀) (hn : n₀ ≤ W.heap.size) (hb : bulkT t ≤ 1048576) (h0 : J [] W) :
    CallsIn F n Tryz.prog 50 #[.func (.yield l) #[] #[], .pointer (some ⟨Bt, 0, none⟩)] W fun e W' => (∃ v, e = .returned v) ∧
      ((∃ ys, texts ys = yieldT t ∧ J ys W') ∨ (∃ pre, texts pre <+: yieldT t ∧ Jx pre W')) := by
  have hdd : ∀ k : Nat, (F.depth.isSome = true → 1 ≤ k) := fun k h => by rw [hd] at h; cases h
  have hp := handToks_in F hd hf hro l n₀ (yieldT t).length (liftJ J) (liftJ Jx) (fun pre W o h1 ⟨xs, e, hj⟩ => ⟨xs, e, hJa xs W o h1 hj⟩)
    (fun m pre x W hx ⟨xs, e, hj⟩ hl => by
      have hl' : xs.length < (yieldT t).length := by rw [← e] at hl; simpa [texts] using hl
      refine yieldAny hd m (YieldAt.mono (hY xs ⟨x, hx⟩ W hj hl') fun e' W' h => ?_)
      rcases h with ⟨h1, h2, h3⟩ | ⟨h1, h2⟩
      · exact .inl ⟨h1, ⟨xs ++ [⟨x, hx⟩], by simp [texts] at e ⊢; exact e, h2⟩, h3⟩
      · exact .inr ⟨h1, ⟨xs ++ [⟨x, hx⟩], by simp [texts] at e ⊢; exact e, h2⟩⟩) t (n - 1) (.slice A t.kids.length c) lo hi [] W hk hh hn ⟨[], rfl, h0⟩ (by simp) hb
  unfold trV at hp
  have c0 := hrow.cell 0
  have c1 := hrow.cell 1
  have c2 := hrow.cell 2
  simp at c0 c1 c2
  refine callsIn_of_wp Tryz.func50 rfl (hf _) ?_ hro
  simp only [Tryz.ntmps50, List.size_toArray, List.length_cons, List.length_nil, Nat.reduceAdd, Nat.reduceSub, Array.replicate_succ, Array.replicate_zero, List.push_toArray, List.append_toArray, List.nil_append, List.cons_append]
  gi_wp2_with ((try refine ⟨hdd _, ?_⟩); gi_at_call 51; refine hp.mono ?_; clear hp; rintro e W1 (⟨rfl, ⟨ys, e1, hJ1⟩, _⟩ | ⟨rfl, q, hq, ⟨ys, e1, hx⟩⟩))
  · go_end0
    exact ⟨⟨_, rfl⟩, .inl ⟨ys, by simpa using e1, hJ1⟩⟩
  · go_end0
    exact ⟨⟨_, rfl⟩, .inr ⟨ys, by rw [e1]; simpa using hq, hx⟩⟩

set_option maxHeartbeats 1000000 in
theorem toksOf_in (F : Fence) (hf : ∀ f, F.fn f) (hro : F.round = none) (n : Nat) (t : TreeD) (u : Value) (w : World) :
    CallsIn F n Tryz.prog 26 #[.agg #[.int .i64 t.rule, .string t.tok, u]] w fun e w' => e = .returned (.func (.func 50) #[] #[.pointer (some ⟨w.heap.size, 0, none⟩)]) ∧ w' = w.alloc (.cells #[.int .i64 t.rule, .string t.tok, u] 29) := by
  refine callsIn_of_wp Tryz.func26 rfl (hf _) ?_ hro
  simp only [Tryz.ntmps26, List.size_toArray, List.length_cons, List.length_nil, Nat.reduceAdd, Nat.reduceSub, Array.replicate_succ, Array.replicate_zero, List.push_toArray, List.append_toArray, List.nil_append, List.cons_append]
  gi_wp2
  go_ret
  exact ⟨rfl, rfl⟩

theorem toks_stops (F : Fence) (hd : F.depth = none) (hf : ∀ f, F.fn f) (hro : F.round = none) (n n₀ Bt : Nat) (t : TreeD) (A : Option Addr) (c lo hi : Nat) (w : World) (hBt : Bt < w.heap.size) (hn₀ : n₀ ≤ w.heap.size)
    (hrow : Row w Bt 29 #[.int .i64 t.rule, .string t.tok, .slice A t.kids.length c]) (hk : Kd true w lo hi (.slice A t.kids.length c) t.kids) (hh : hi ≤ n₀) (hb : bulkT t ≤ 1048576) :
    SeqStopsK F n Tryz.prog 50 #[.pointer (some ⟨Bt, 0, none⟩)] (fun x : Tk => #[Value.string x.1]) (Kt n₀) (fun ys => texts ys = yieldT t) (fun pre => texts pre <+: yieldT t) (yieldT t).length w := fun l J Jx W hW hJ _ hY h0 =>
  toks1_in F hd hf hro n l n₀ Bt t A c lo hi J Jx (fun pre W1 o _ hj => hJ pre W1 _ none hj (World.grownBy_alloc W1 o none) (fun r e => by cases e)) hY W (hrow.below hW hBt) (hk.under (hW.mono hn₀) hh) hh (Nat.le_trans hn₀ hW.size) hb h0
end Go.Proofs.YtokdhgocgicdnaaGreatDoor
