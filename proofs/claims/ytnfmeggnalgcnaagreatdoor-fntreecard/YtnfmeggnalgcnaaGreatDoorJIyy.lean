import Derived.Test.YtnfmeggnalgcnaaGreatDoorJSyz
import Derived.RangeFuncNested
import Derived.RangeFuncBound
import Derived.RangeFuncCalls
import Derived.RangeFuncLeaves
import Derived.Shelf.Abstract
import Derived.Shelf.RegionOpen
import Derived.WalkKit
import Derived.OwnWalkIn
import Derived.TacticsInMore
import Derived.LoopNIn
import Derived.LoopIn
import Derived.Test.YtnfmeggnalgcnaaGreatDoorJIrs
import Derived.Maps.AppendAt
/- The texts of a tree handed on one by one: impl.handToks, inside a fence. -/
namespace Go.Proofs.YtnfmeggnalgcnaaGreatDoor
open Go.RowKit Go.Shelf
attribute [local go_sem] Oper.semAt_some

theorem room_of_noneT {F : Fence} (hd : F.depth = none) (k : Nat) : F.room k := fun d h => by rw [hd] at h; cases h
theorem roundAny {F : Fence} (hd : F.depth = none) {m m' : Nat} {P : Program} {l : Nat} {f : FuncId} {tmps : Array Value} {assign body : Code} {w : World} {R : Ending → World → Prop}
    (h : RoundIn F m P l f tmps assign body w R) : RoundIn F m' P l f tmps assign body w R := ⟨h.1, fun c cs _ => h.2 c cs (room_of_noneT hd _)⟩
theorem yieldAny {F : Fence} (hd : F.depth = none) {m : Nat} (m' : Nat) {P : Program} {l : Nat} {args : Array Value} {W : World} {R : Ending → World → Prop} (h : YieldAt F m P l args W R) : YieldAt F m' P l args W R := by
  obtain ⟨fn, tmps, assign, body, hy, hR⟩ := h
  exact ⟨fn, tmps, assign, body, hy, roundAny hd hR⟩

/-- what lay below n₀ lies, and so does every block of trees -/
structure Kt (n₀ : Nat) (W W' : World) : Prop where
  below : Below n₀ W W'
  tree : ∀ (k : Nat) (cur : Array Value) (fr : Nat × Nat), W.heap[k]? = some (Obj.cells cur 29 fr) → W'.heap[k]? = W.heap[k]?
theorem Kt.refl (n₀ : Nat) (W : World) : Kt n₀ W W := ⟨Below.refl _ _, fun _ _ _ _ => rfl⟩
theorem Kt.trans {n₀ : Nat} {A B C : World} (h : Kt n₀ A B) (k : Kt n₀ B C) : Kt n₀ A C :=
  ⟨h.below.trans k.below, fun i cur fr hi => (k.tree i cur fr ((h.tree i cur fr hi).trans hi)).trans (h.tree i cur fr hi)⟩
theorem Kt.alloc {n₀ : Nat} (W : World) (o : Obj) (h : n₀ ≤ W.heap.size) : Kt n₀ W (W.alloc o) :=
  ⟨(Below.refl _ _).alloc h _, fun i cur fr hi => Below.heap_alloc W o i (by
    rcases Nat.lt_or_ge i W.heap.size with h1 | h1
    · exact h1
    · rw [Array.getElem?_eq_none h1] at hi; cases hi)⟩
theorem Kt.row {n₀ : Nat} {W W' : World} (k : Kt n₀ W W') {g : Nat} {cur : Array Value} (h : Row W g 29 cur) : Row W' g 29 cur := (k.tree g cur (0, 0) h).trans h

def HtP (F : Fence) (l n₀ N : Nat) (J Jx : List ByteArray → World → Prop) (t : TreeD) : Prop :=
  ∀ (n : Nat) (u : Value) (lo hi : Nat) (pre : List ByteArray) (W : World), Kd true W lo hi u t.kids → hi ≤ n₀ → n₀ ≤ W.heap.size → J pre W → pre.length + (yieldT t).length ≤ N → bulkT t ≤ 1048576 →
    CallsIn F n Tryz.prog 50 #[trV t u, .func (.yield l) #[] #[]] W fun e W' =>
      (e = .returned (.bool true) ∧ J (pre ++ yieldT t) W' ∧ Kt n₀ W W') ∨ (e = .returned (.bool false) ∧ ∃ q, q <+: yieldT t ∧ Jx (pre ++ q) W')

set_option maxRecDepth 100000 in
set_option maxHeartbeats 4000000 in
theorem handToks_of (F : Fence) (hd : F.depth = none) (hf : ∀ f, F.fn f) (hro : F.round = none) (l n₀ N : Nat) (J Jx : List ByteArray → World → Prop) (hJa : ∀ pre W o, n₀ ≤ W.heap.size → J pre W → J pre (W.alloc o))
    (hY : ∀ m pre (x : ByteArray) W, x.size ≤ 1048576 → J pre W → pre.length < N → YieldAt F m Tryz.prog l #[.string x] W fun e W' =>
      (e = .returned (.bool true) ∧ J (pre ++ [x]) W' ∧ Kt n₀ W W') ∨ (e = .returned (.bool false) ∧ Jx (pre ++ [x]) W'))
    (t : TreeD) (ih : ∀ i (h : i < t.kids.length), HtP F l n₀ N J Jx t.kids[i]) : HtP F l n₀ N J Jx t := by
  intro n u lo hi pre W hk hh hn hJ hN hbk
  have hbe := bulkT_eq t
  have hdd : ∀ k : Nat, (F.depth.isSome = true → 1 ≤ k) := fun k h => by rw [hd] at h; cases h
  have HY := Lib.hid (yieldT_eq t)
  have HKD := Lib.hid hk
  obtain ⟨A, c, U, rfl, hlc, hc, _, hcell, hsub⟩ := hk.parts
  have HC := Lib.hid hcell
  have HB := Lib.hid hsub
  unfold maxLen at hc
  clear hk hcell hsub
  have R0 := Row.made W 29 #[.int .i64 t.rule, .string t.tok, .slice A t.kids.length c]
  have J0 := hJa pre W (.cells #[.int .i64 t.rule, .string t.tok, .slice A t.kids.length c] 29) hn hJ
  have K0 := Kt.alloc (n₀ := n₀) W (.cells #[.int .i64 t.rule, .string t.tok, .slice A t.kids.length c] 29) hn
  unfold trV
  by_cases h0 : t.tok.size = 0
  · have e0 : (t.tok.toList == []) = true := by rw [toks_empty, decide_eq_true h0]
    have HP : Hid (yieldT t = yieldTs t.kids) := Lib.hid (by rw [HY.out, if_pos h0]; simp)
    refine callsIn_of_wp Tryz.func50 rfl (hf _) ?_ hro
    simp only [Tryz.ntmps50, List.size_toArray, List.length_cons, List.length_nil, Nat.reduceAdd, Nat.reduceSub, Array.replicate_succ, Array.replicate_zero, List.push_toArray, List.append_toArray, List.nil_append, List.cons_append]
    --LOOP1
    gi_wp2
    gi_loopw [20] (fun i wr => ∃ (k : Nat) (acc : List ByteArray), k ≤ t.kids.length ∧ i = .int .i64 k ∧ acc = pre ++ yieldTs (t.kids.take k) ∧ J acc wr ∧ Kt n₀ W wr) (fun i _ => t.kids.length - (intOf i).toNat)
    case atStart => exact ⟨0, pre, by omega, rfl, by simp [yieldTs], J0, K0⟩
    case round =>
      obtain ⟨k, acc, hk, rfl, hacc, hJ1, hK1⟩ := hrel
      have HACC := Lib.hid hacc
      have hsw := hK1.below.size
      clear hacc
      by_cases hlt : k < t.kids.length
      · obtain ⟨b1, off, rfl, _, hbh, _, hcc⟩ := HC.out (by omega)
        obtain ⟨hc0, hc1, hc2⟩ := hcc k hlt
        have B0 := hK1.below
        have k0 := (B0.cell (p := ⟨b1, off + k * 3, none⟩) (by show b1 < _; omega)).trans hc0
        have k1 := (B0.cell (p := ⟨b1, off + k * 3 + 1, none⟩) (by show b1 < _; omega)).trans hc1
        have k2 := (B0.cell (p := ⟨b1, off + k * 3 + 2, none⟩) (by show b1 < _; omega)).trans hc2
        obtain ⟨A2, c2, U2, e2, -⟩ := (HB.out k hlt).parts
        rw [e2] at k2
        have i1 : (k : Int) < (t.kids.length : Int) := by omega
        have hb1w : b1 < wr.heap.size := by omega
        have K2 := Kt.alloc (n₀ := n₀) wr (.cells #[.int .i64 t.kids[k].rule, .string t.kids[k].tok, .slice A2 t.kids[k].kids.length c2] 29) (by omega)
        have J2 := hJa acc wr (.cells #[.int .i64 t.kids[k].rule, .string t.kids[k].tok, .slice A2 t.kids[k].kids.length c2] 29) (by omega) hJ1
        have V2 := ((HB.out k hlt).under B0 hh).under K2.below hh
        rw [e2] at V2
        have HYS := Lib.hid (yieldTs_take t.kids k hlt)
        have hlen : acc.length + (yieldT t.kids[k]).length ≤ N := by
          have e1 := congrArg List.length HACC.out
          have e2 := congrArg List.length HYS.out
          have e3 := congrArg List.length HP.out
          have e4 : (yieldTs (t.kids.take (k + 1))).length ≤ (yieldTs t.kids).length := by
            conv => rhs; rw [← List.take_append_drop (k + 1) t.kids]
            rw [yieldTs_append, List.length_append]; omega
          simp only [List.length_append] at e1 e2 e3
          omega
        have hz2 : n₀ ≤ (wr.alloc (.cells #[.int .i64 t.kids[k].rule, .string t.kids[k].tok, .slice A2 t.kids[k].kids.length c2] 29)).heap.size := by simp; omega
        have step := fun m => ih k hlt m (.slice A2 t.kids[k].kids.length c2) lo hi acc _ V2 hh hz2 J2 hlen (by have := bulkTs_get t.kids k hlt; omega)
        have HST := Lib.hid step
        have HK12 := Lib.hid (hK1.trans K2)
        clear step hcc hc0 hc1 hc2 e2 B0 V2 J2 K2 hz2 hlen hJ1 hK1
        unfold trV at HST
        gi_wp2_with ((try refine ⟨hdd _, ?_⟩); gi_at_call 50; refine (HST.out _).mono ?_; rintro e W3 (⟨rfl, hJ3, hk3⟩ | ⟨rfl, q, hq, hx3⟩))
        · go_roundw
          case rel => exact ⟨k + 1, _, by omega, by go_num, by rw [HYS.out, HACC.out, List.append_assoc], hJ3, HK12.out.trans hk3⟩
          case measure => simp [intOf]; omega
        · go_ret
          refine .inr ⟨rfl, ([] : List ByteArray) ++ yieldTs (t.kids.take k) ++ q, ?_, ?_⟩
          · obtain ⟨r, hr⟩ := hq
            refine ⟨r ++ yieldTs (t.kids.drop (k + 1)), ?_⟩
            rw [HP.out]
            conv => rhs; rw [← List.take_append_drop (k + 1) t.kids]
            rw [yieldTs_append, HYS.out, ← hr]
            simp [List.append_assoc]
          · have e := HACC.out
            have e5 : pre ++ (([] : List ByteArray) ++ yieldTs (t.kids.take k) ++ q) = acc ++ q := by rw [e]; simp [List.append_assoc]
            rw [e5]
            exact hx3
      · have hke : k = t.kids.length := by omega
        have HE := Lib.hid hke
        clear hke
        gi_wp2
        go_ret
        refine .inl ⟨rfl, ?_, hK1⟩
        have e := HACC.out
        rw [HE.out, List.take_length] at e
        have e5 : pre ++ yieldT t = acc := by rw [e, HP.out] <;> simp [List.append_assoc]
        rw [e5]
        exact hJ1
  · have e0 : (t.tok.toList == []) = false := by rw [toks_empty, decide_eq_false h0]
    have HP : Hid (yieldT t = [t.tok] ++ yieldTs t.kids) := Lib.hid (by rw [HY.out, if_neg h0])
    have hlt0 : pre.length < N := by
      have := congrArg List.length HP.out
      simp only [List.length_append, List.length_cons, List.length_nil] at this
      omega
    have yl : ∀ m, YieldAt F m Tryz.prog l #[.string t.tok] (W.alloc (.cells #[.int .i64 t.rule, .string t.tok, .slice A t.kids.length c] 29)) fun e W2 =>
        (e = .returned (.bool true) ∧ J (pre ++ [t.tok]) W2 ∧ Kt n₀ W W2 ∧ W2.cell? ⟨W.heap.size, 2, none⟩ = some (.slice A t.kids.length c)) ∨ (e = .returned (.bool false) ∧ Jx (pre ++ [t.tok]) W2) := fun m =>
      YieldAt.mono (hY m pre t.tok _ (by omega) J0 hlt0) fun e W2 h => h.elim (fun ⟨he, hj, hk2⟩ => .inl ⟨he, hj, K0.trans hk2, ((hk2.row R0).cell 2).trans rfl⟩) .inr
    obtain ⟨fn, tmps, assign, body, hy, hR⟩ := yl (n - 1)
    clear yl
    refine callsIn_of_wp Tryz.func50 rfl (hf _) ?_ hro
    simp only [Tryz.ntmps50, List.size_toArray, List.length_cons, List.length_nil, Nat.reduceAdd, Nat.reduceSub, Array.replicate_succ, Array.replicate_zero, List.push_toArray, List.append_toArray, List.nil_append, List.cons_append]
    gi_wp2_with ((try refine ⟨hdd _, ?_⟩); refine hR.mono ?_; clear hR; rintro e W2 (⟨rfl, hJ2, hK2, c2'⟩ | ⟨rfl, hx2⟩))
    · gi_loopw [20] (fun i wr => ∃ (k : Nat) (acc : List ByteArray), k ≤ t.kids.length ∧ i = .int .i64 k ∧ acc = (pre ++ [t.tok]) ++ yieldTs (t.kids.take k) ∧ J acc wr ∧ Kt n₀ W wr) (fun i _ => t.kids.length - (intOf i).toNat)
      case atStart => exact ⟨0, (pre ++ [t.tok]), by omega, rfl, by simp [yieldTs], hJ2, hK2⟩
      case round =>
        obtain ⟨k, acc, hk, rfl, hacc, hJ1, hK1⟩ := hrel
        have HACC := Lib.hid hacc
        have hsw := hK1.below.size
        clear hacc
        by_cases hlt : k < t.kids.length
        · obtain ⟨b1, off, rfl, _, hbh, _, hcc⟩ := HC.out (by omega)
          obtain ⟨hc0, hc1, hc2⟩ := hcc k hlt
          have B0 := hK1.below
          have k0 := (B0.cell (p := ⟨b1, off + k * 3, none⟩) (by show b1 < _; omega)).trans hc0
          have k1 := (B0.cell (p := ⟨b1, off + k * 3 + 1, none⟩) (by show b1 < _; omega)).trans hc1
          have k2 := (B0.cell (p := ⟨b1, off + k * 3 + 2, none⟩) (by show b1 < _; omega)).trans hc2
          obtain ⟨A2, c2, U2, e2, -⟩ := (HB.out k hlt).parts
          rw [e2] at k2
          have i1 : (k : Int) < (t.kids.length : Int) := by omega
          have hb1w : b1 < wr.heap.size := by omega
          have K2 := Kt.alloc (n₀ := n₀) wr (.cells #[.int .i64 t.kids[k].rule, .string t.kids[k].tok, .slice A2 t.kids[k].kids.length c2] 29) (by omega)
          have J2 := hJa acc wr (.cells #[.int .i64 t.kids[k].rule, .string t.kids[k].tok, .slice A2 t.kids[k].kids.length c2] 29) (by omega) hJ1
          have V2 := ((HB.out k hlt).under B0 hh).under K2.below hh
          rw [e2] at V2
          have HYS := Lib.hid (yieldTs_take t.kids k hlt)
          have hlen : acc.length + (yieldT t.kids[k]).length ≤ N := by
            have e1 := congrArg List.length HACC.out
            have e2 := congrArg List.length HYS.out
            have e3 := congrArg List.length HP.out
            have e4 : (yieldTs (t.kids.take (k + 1))).length ≤ (yieldTs t.kids).length := by
              conv => rhs; rw [← List.take_append_drop (k + 1) t.kids]
              rw [yieldTs_append, List.length_append]; omega
            simp only [List.length_append, List.length_cons, List.length_nil] at e1 e2 e3
            omega
          have hz2 : n₀ ≤ (wr.alloc (.cells #[.int .i64 t.kids[k].rule, .string t.kids[k].tok, .slice A2 t.kids[k].kids.length c2] 29)).heap.size := by simp; omega
          have step := fun m => ih k hlt m (.slice A2 t.kids[k].kids.length c2) lo hi acc _ V2 hh hz2 J2 hlen (by have := bulkTs_get t.kids k hlt; omega)
          have HST := Lib.hid step
          have HK12 := Lib.hid (hK1.trans K2)
          clear step hcc hc0 hc1 hc2 e2 B0 V2 J2 K2 hz2 hlen hJ1 hK1
          unfold trV at HST
          gi_wp2_with ((try refine ⟨hdd _, ?_⟩); gi_at_call 50; refine (HST.out _).mono ?_; rintro e W3 (⟨rfl, hJ3, hk3⟩ | ⟨rfl, q, hq, hx3⟩))
          · go_roundw
            case rel => exact ⟨k + 1, _, by omega, by go_num, by rw [HYS.out, HACC.out, List.append_assoc], hJ3, HK12.out.trans hk3⟩
            case measure => simp [intOf]; omega
          · go_ret
            refine .inr ⟨rfl, [t.tok] ++ yieldTs (t.kids.take k) ++ q, ?_, ?_⟩
            · obtain ⟨r, hr⟩ := hq
              refine ⟨r ++ yieldTs (t.kids.drop (k + 1)), ?_⟩
              rw [HP.out]
              conv => rhs; rw [← List.take_append_drop (k + 1) t.kids]
              rw [yieldTs_append, HYS.out, ← hr]
              simp [List.append_assoc]
            · have e := HACC.out
              have e5 : pre ++ ([t.tok] ++ yieldTs (t.kids.take k) ++ q) = acc ++ q := by rw [e]; simp [List.append_assoc]
              rw [e5]
              exact hx3
        · have hke : k = t.kids.length := by omega
          have HE := Lib.hid hke
          clear hke
          gi_wp2
          go_ret
          refine .inl ⟨rfl, ?_, hK1⟩
          have e := HACC.out
          rw [HE.out, List.take_length] at e
          have e5 : pre ++ yieldT t = acc := by rw [e, HP.out] <;> simp [List.append_assoc]
          rw [e5]
          exact hJ1
    · go_ret
      exact .inr ⟨rfl, [t.tok], ⟨yieldTs t.kids, by rw [HP.out]⟩, hx2⟩
theorem handToks_in (F : Fence) (hd : F.depth = none) (hf : ∀ f, F.fn f) (hro : F.round = none) (l n₀ N : Nat) (J Jx : List ByteArray → World → Prop) (hJa : ∀ pre W o, n₀ ≤ W.heap.size → J pre W → J pre (W.alloc o))
    (hY : ∀ m pre (x : ByteArray) W, x.size ≤ 1048576 → J pre W → pre.length < N → YieldAt F m Tryz.prog l #[.string x] W fun e W' =>
      (e = .returned (.bool true) ∧ J (pre ++ [x]) W' ∧ Kt n₀ W W') ∨ (e = .returned (.bool false) ∧ Jx (pre ++ [x]) W')) (t : TreeD) : HtP F l n₀ N J Jx t :=
  tree_ind (handToks_of F hd hf hro l n₀ N J Jx hJa hY) t

/-- a text that a round is handed -/
abbrev Tk := { x : ByteArray // x.size ≤ 1048576 }
def texts (xs : List Tk) : List ByteArray := xs.map (·.1)
def liftJ (J : List Tk → World → Prop) (bs : List ByteArray) (W : World) : Prop := ∃ xs : List Tk, texts xs = bs ∧ J xs W

set_option maxRecDepth 100000 in
set_option maxHeartbeats 2000000 in
/-- the closure that toksOf hands back -/
theorem toks1_in (F : Fence) (hd : F.depth = none) (hf : ∀ f, F.fn f) (hro : F.round = none) (n l n₀ Bt : Nat) (t : TreeD) (A : Option Addr) (c lo hi : Nat) (J Jx : List Tk → World → Prop) (hJa : ∀ pre W o, n₀ ≤ W.heap.size → J pre W → J pre (W.alloc o))
    (hY : ∀ pre (x : Tk) W, J pre W → pre.length < (yieldT t).length → YieldAt F (n - 1) Tryz.prog l #[.string x.1] W fun e W' =>
      (e = .returned (.bool true) ∧ J (pre ++ [x]) W' ∧ Kt n₀ W W') ∨ (e = .returned (.bool false) ∧ Jx (pre ++ [x]) W'))
    (W : World) (hrow : Row W Bt 29 #[.int .i64 t.rule, .string t.tok, .slice A t.kids.length c]) (hk : Kd true W lo hi (.slice A t.kids.length c) t.kids) (hh : hi ≤ n₀) (hn : n₀ ≤ W.heap.size) (hb : bulkT t ≤ 1048576) (h0 : J [] W) :
    CallsIn F n Tryz.prog 49 #[.func (.yield l) #[] #[], .pointer (some ⟨Bt, 0, none⟩)] W fun e W' => (∃ v, e = .returned v) ∧
      ((∃ ys, texts ys = yieldT t ∧ J ys W') ∨ (∃ pre, texts pre <+: yieldT t ∧ Jx pre W')) := by
  have hdd : ∀ k : Nat, (F.depth.isSome = true → 1 ≤ k) := fun k h => by rw [hd] at h; cases h
  have hp := handToks_in F hd hf hro l n₀ (yieldT t).length (liftJ J) (liftJ Jx) (fun pre W o h1 ⟨xs, e, hj⟩ => ⟨xs, e, hJa xs W o h1 hj⟩)
    (fun m pre x W hx ⟨xs, e, hj⟩ hl => by
      have hl' : xs.length < (yieldT t).length := by rw [← e] at hl; simpa [texts] using hl
      refine yieldAny hd m (YieldAt.mono (hY xs ⟨x, hx⟩ W hj hl') fun e' W' h => ?_)
      rcases h with ⟨h1, h2, h3⟩ | ⟨h1, h2⟩
      · exact .inl ⟨h1, ⟨xs ++ [⟨x, hx⟩], by simp [texts] at e ⊢; exact e, h2⟩, h3⟩
      · exact .inr ⟨h1, ⟨xs ++ [⟨x, hx⟩], by simp [texts] at e ⊢; exact e, h2⟩⟩) t (n - 1) (.slice A t.kids.length c) lo hi [] W hk hh hn ⟨[], rfl, h0⟩ (by simp) hb
  unfold trV at hp
  have c0 := hrow.cell 0
  have c1 := hrow.cell 1
  have c2 := hrow.cell 2
  simp at c0 c1 c2
  refine callsIn_of_wp Tryz.func49 rfl (hf _) ?_ hro
  simp only [Tryz.ntmps49, List.size_toArray, List.length_cons, List.length_nil, Nat.reduceAdd, Nat.reduceSub, Array.replicate_succ, Array.replicate_zero, List.push_toArray, List.append_toArray, List.nil_append, List.cons_append]
  gi_wp2_with ((try refine ⟨hdd _, ?_⟩); gi_at_call 50; refine hp.mono ?_; clear hp; rintro e W1 (⟨rfl, ⟨ys, e1, hJ1⟩, _⟩ | ⟨rfl, q, hq, ⟨ys, e1, hx⟩⟩))
  · go_end0
    exact ⟨⟨_, rfl⟩, .inl ⟨ys, by simpa using e1, hJ1⟩⟩
  · go_end0
    exact ⟨⟨_, rfl⟩, .inr ⟨ys, by rw [e1]; simpa using hq, hx⟩⟩

set_option maxHeartbeats 1000000 in
theorem toksOf_in (F : Fence) (hf : ∀ f, F.fn f) (hro : F.round = none) (n : Nat) (t : TreeD) (u : Value) (w : World) :
    CallsIn F n Tryz.prog 26 #[.agg #[.int .i64 t.rule, .string t.tok, u]] w fun e w' => e = .returned (.func (.func 49) #[] #[.pointer (some ⟨w.heap.size, 0, none⟩)]) ∧ w' = w.alloc (.cells #[.int .i64 t.rule, .string t.tok, u] 29) := by
  refine callsIn_of_wp Tryz.func26 rfl (hf _) ?_ hro
  simp only [Tryz.ntmps26, List.size_toArray, List.length_cons, List.length_nil, Nat.reduceAdd, Nat.reduceSub, Array.replicate_succ, Array.replicate_zero, List.push_toArray, List.append_toArray, List.nil_append, List.cons_append]
  gi_wp2
  go_ret
  exact ⟨rfl, rfl⟩

theorem toks_stops (F : Fence) (hd : F.depth = none) (hf : ∀ f, F.fn f) (hro : F.round = none) (n n₀ Bt : Nat) (t : TreeD) (A : Option Addr) (c lo hi : Nat) (w : World) (hBt : Bt < w.heap.size) (hn₀ : n₀ ≤ w.heap.size)
    (hrow : Row w Bt 29 #[.int .i64 t.rule, .string t.tok, .slice A t.kids.length c]) (hk : Kd true w lo hi (.slice A t.kids.length c) t.kids) (hh : hi ≤ n₀) (hb : bulkT t ≤ 1048576) :
    SeqStopsK F n Tryz.prog 49 #[.pointer (some ⟨Bt, 0, none⟩)] (fun x : Tk => #[Value.string x.1]) (Kt n₀) (fun ys => texts ys = yieldT t) (fun pre => texts pre <+: yieldT t) (yieldT t).length w := fun l J Jx W hW hJ _ hY h0 =>
  toks1_in F hd hf hro n l n₀ Bt t A c lo hi J Jx (fun pre W1 o _ hj => hJ pre W1 _ none hj (World.grownBy_alloc W1 o none) (fun r e => by cases e)) hY W (hrow.below hW hBt) (hk.under (hW.mono hn₀) hh) hh (Nat.le_trans hn₀ hW.size) hb h0
end Go.Proofs.YtnfmeggnalgcnaaGreatDoor

/- The texts of a tree: impl.Yield. -/
namespace Go.Proofs.YtnfmeggnalgcnaaGreatDoor
open Go.RowKit Go.Shelf
attribute [local go_sem] Oper.semAt_some
attribute [-go_sem] Builtin.append_

theorem drC {B : Nat} {w w' : World} (h : Below B w.drew w') : Below B w w' := ⟨h.os, h.tape, h.output, h.size, h.block⟩
theorem kt_append {n₀ B : Nat} {W Wc w1 : World} {v v' : Value} {k : Nat} {xs : List Value} {tmp : Obj} (hb : Below W.heap.size W Wc) (hn : n₀ ≤ W.heap.size) (hrow : Wc.ownsRow n₀ 9 1 v k xs) (hg : (Wc.alloc tmp).grownBy w1 v.ownBlock) (hv1 : Boxed w1 B 26 v)
    (hb2 : Below n₀ Wc (w1.setCell ⟨B, 0, none⟩ v')) : Kt n₀ W (w1.setCell ⟨B, 0, none⟩ v') := by
  refine ⟨(hb.mono hn).trans hb2, fun i cur fr hi => ?_⟩
  have hlt : i < W.heap.size := (Array.getElem?_eq_some_iff.1 hi).1
  have hc : Wc.heap[i]? = some (.cells cur 29 fr) := (hb.block i hlt).trans hi
  have hltc : i < Wc.heap.size := (Array.getElem?_eq_some_iff.1 hc).1
  have h1 : w1.heap[i]? = Wc.heap[i]? := by
    refine (hg.block i (by simp; omega) fun e => ?_).trans (Below.heap_alloc Wc tmp i hltc)
    rcases hrow.2 with ⟨rfl, _⟩ | ⟨g, cap, cur', rfl, _, hgb, _⟩
    · simp [Value.ownBlock] at e
    · obtain rfl : i = g := by simpa [Value.ownBlock] using e
      rw [hc] at hgb
      injection hgb with hgb
      injection hgb with _ h2
      exact absurd h2 (by decide)
  have hne : i ≠ B := by
    rintro rfl
    have := h1.trans hc
    rw [show w1.heap[i]? = _ from hv1] at this
    injection this with this
    injection this with _ h2
    exact absurd h2 (by decide)
  rw [Below.heap_setCell _ _ _ _ hne, h1, hc, hi]

set_option maxRecDepth 100000 in
set_option maxHeartbeats 4000000 in
theorem implYield_any (t : TreeD) (u : Value) (lo hi : Nat) (w : World) (ht : TopOk t) (hk : Kd true w lo hi u t.kids) (hh : hi ≤ w.heap.size) (hb : bulkT t ≤ 1048576) :
    Calls Tryz.prog 7 #[trV t u] w fun e w' => MadeS w (yieldOf t) e w' := by
  have hn : sizeT t ≤ 2097152 := by have := sizeT_le_bulkT t; omega
  have b0 := al1 w (.cells #[.int .i64 t.rule, .string t.tok, u] 29)
  have R0 := Row.made w 29 #[.int .i64 t.rule, .string t.tok, u]
  have HK := Lib.hid (hk.under b0 hh)
  have HSM := Lib.hid (yieldT_small ht hk)
  have hsz : (w.alloc (.cells #[.int .i64 t.rule, .string t.tok, u] 29)).heap.size = w.heap.size + 1 := by simp
  have HSZ := Lib.hid hsz
  have HB0 := Lib.hid b0
  have HT := Lib.hid ht
  obtain ⟨A, c, U, rfl, -⟩ := hk.parts
  obtain ⟨i0, hi0, hz0, hz1, hz2⟩ := info_parts Tryz.infoStr
  clear hk ht hsz b0
  unfold trV
  by_cases hbig : sizeT t ≤ 200
  · have HY : Hid (yieldOf t = yieldT t) := Lib.hid (by unfold yieldOf; rw [if_pos hbig])
    have nb : decide ((sizeT t : Int) > 200) = false := decide_eq_false (by omega)
    refine (callsIn_wide (n := 5)).1 ?_
    refine callsIn_of_wp_marks Tryz.func7 rfl trivial ?_ rfl
    simp only [Tryz.ntmps7, List.size_toArray, List.length_cons, List.length_nil, Nat.reduceAdd, Nat.reduceSub, Array.replicate_succ, Array.replicate_zero, List.push_toArray, List.append_toArray, List.nil_append, List.cons_append]
    gi_wp2_with fail
    generalize w.alloc (.cells #[.int .i64 t.rule, .string t.tok, .slice A t.kids.length c] 29) = w0 at R0 HK HSZ HB0 ⊢
    have z0 := HSZ.out
    refine ⟨trivial, ?_⟩
    refine (callsIn_wide.2 (implSizeOf_any t _ lo hi w0 HT.out HK.out (by omega) hn)).mono ?_
    rintro e w1 ⟨rfl, b1⟩
    have z1 := b1.size
    have B1 := HB0.out.trans (b1.mono (by omega))
    have R1 := R0.below b1 (by omega)
    have c0 := R1.cell 0
    have c1 := R1.cell 1
    have c2 := R1.cell 2
    simp at c0 c1 c2
    have hl1 := R1.lt
    have HK1 := Lib.hid (HK.out.under b1 (by omega))
    have HB1 := Lib.hid B1
    clear R1 R0 b1 B1
    gi_wp2_with (refine ⟨trivial, ?_⟩; gi_at_call 26; refine (toksOf_in Fence.wide (fun _ => trivial) rfl _ t _ _).mono ?_; rintro e w' ⟨rfl, rfl⟩)
    --RANGE
    have bO := (Boxed.new w1 26 (.slice none 0 0)).alloc (.cells #[.int .i64 t.rule, .string t.tok, .slice A t.kids.length c] 29)
    have hB2 := al2 w1 (.cells #[.slice none 0 0] 26) (.cells #[.int .i64 t.rule, .string t.tok, .slice A t.kids.length c] 29)
    have R2 : Row ((w1.alloc (.cells #[.slice none 0 0] 26)).alloc (.cells #[.int .i64 t.rule, .string t.tok, .slice A t.kids.length c] 29)) (w1.heap.size + 1) 29 #[.int .i64 t.rule, .string t.tok, .slice A t.kids.length c] := by
      have := Row.made (w1.alloc (.cells #[.slice none 0 0] 26)) 29 #[.int .i64 t.rule, .string t.tok, .slice A t.kids.length c]
      rw [World.size_alloc] at this
      exact this
    have hK2 := HK1.out.under hB2 (by omega)
    have hyl := yieldT_len t
    have hlen200 : (yieldT t).length ≤ 200 := by omega
    refine wpIn_rangeFunc_ownG rfl (by omega) (gf := 49) (lb := #[.pointer (some ⟨w1.heap.size + 1, 0, none⟩)]) rfl trivial (enters_of Tryz.func49 (by kernel_rfl) rfl)
      (toks_stops Fence.wide rfl (fun _ => trivial) rfl (5 - 1) w1.heap.size (w1.heap.size + 1) t A c lo hi _ (by simp) (by simp; omega) R2 hK2 (by omega) hb)
      (fun h k => h.trans k)
      (fun W l o o' hl h h2 h3 => ⟨belowK_b (w := ((w1.alloc (.cells #[.slice none 0 0] 26)).alloc (.cells #[.int .i64 t.rule, .string t.tok, .slice A t.kids.length c] 29))) (by simp; omega) W l o o' hl h h2 h3, fun i cur fr hi => by
        have hne : i ≠ l := by
          rintro rfl
          rw [h] at hi
          injection hi with hi
          subst hi
          cases h2
        exact (grownBy_putObj' W l o').block i (Array.getElem?_eq_some_iff.1 hi).1 (fun e => hne (by simpa using e))⟩)
      (Below.refl _ _) (fun _ => rfl)
      (fun pre W => (∃ v, Boxed W w1.heap.size 26 v ∧ W.ownsRow w1.heap.size 9 1 v (texts pre).length ((texts pre).map Value.string) ∧ True) ∧ Below w1.heap.size w1 W)
      (fun _ _ _ => False)
      (OwnFrom.and (Own.from (holdsRow_own w1.heap.size w1.heap.size 26 9 1 (fun pre => (texts pre).length) (fun pre => (texts pre).map Value.string) (fun _ _ => True)) _) (ownFrom_below (Nat.le_refl _) (by simp; omega)))
      (fun _ _ _ _ _ hs _ _ => hs)
      ⟨⟨_, bO, World.ownsRow_nil _ _ _ _, trivial⟩, hB2⟩
      (fun x => { tmps := #[.agg #[.int .i64 t.rule, .string t.tok, .slice A t.kids.length c], .pointer (some ⟨w.heap.size, 0, none⟩), .slice none 0 0, .pointer (some ⟨w1.heap.size, 0, none⟩), .string x.1, .agg #[.int .i64 t.rule, .string t.tok, .slice A t.kids.length c], .int .i64 (sizeT t : Int), .bool false, .agg #[.int .i64 t.rule, .string t.tok, .slice A t.kids.length c], .func (.func 49) #[] #[.pointer (some ⟨w1.heap.size + 1, 0, none⟩)], .string x.1, undef, undef, undef, undef, undef, undef], defers := [] }) ?assign ?body ?done ?stop
    case assign =>
      intro l x W K hK
      gi_wp2
      exact hK
    case body =>
      rintro l pre x W ⟨⟨v, hv, hrow, _⟩, hB⟩ hlt
      have hpl : (texts pre).length ≤ 200 := by have : (texts pre).length = pre.length := by simp [texts]
                                                omega
      have hx := x.2
      have hS : Sts W w1.heap.size v (texts pre) := hrow
      obtain ⟨A9, c9, rfl⟩ := hS.shape
      have hc := hv.cell
      have hbs := hB.size
      have hlw := hv.lt
      have HV := Lib.hid hv
      have HS := Lib.hid hS
      have HBW := Lib.hid hB
      clear hv hrow hS hB
      have hfo : Tryz.prog.follows Departure.mixedOrders = true := by kernel_rfl
      gi_wp2
      gi_region_with_o (first
        | (refine ⟨trivial, ?_⟩; gi_at_call 27; refine (CallsIn.inRound l (callsIn_wide.2 (clone_any x.1 _ (by omega)))).mono ?_; rintro e Wc ⟨rfl, bc⟩; have bcW : Below W.heap.size W Wc := (by first | exact bc | exact drC bc); have hcc := (bcW.cell (p := ⟨w1.heap.size, 0, none⟩) HV.out.lt).trans hc; have zc := bcW.size; have hlc : w1.heap.size < Wc.heap.size := Nat.lt_of_lt_of_le HV.out.lt zc; obtain ⟨v3, w3, hrun3, hown3, hgrow3, _, _⟩ := run_append_own_at (P := Tryz.prog) (Wc.alloc (.cells #[.string x.1] 9)) w1.heap.size 26 26 9 i0 (.string ByteArray.empty) 1 16 Tryz.underlying26 hi0 hz0 hz1 hz2 rfl (by decide) (.slice A9 (texts pre).length c9) (texts pre).length ((texts pre).map Value.string) (World.ownsRow.alloc (Sts.below HS.out bcW) _) ⟨Wc.heap.size, 0, none⟩ 1 1 [.string x.1] rfl (cell_one_new _ _ _) (one_str _) (by unfold maxLen; omega) (by omega) (by simp; omega); obtain ⟨g', cap', rfl⟩ := ownsRow_succ hown3; obtain ⟨hv1, hv2, hr2, hk2, hb2⟩ := Boxed.appended (show Boxed Wc w1.heap.size 26 _ from (bcW.block _ HV.out.lt).trans HV.out) (by decide) (Sts.below HS.out bcW) (by omega) (Nat.le_refl _) hown3 hgrow3; have hc1 := hv1.cell; have hf1 := hv1.frozen))
      all_goals gi_wp2
      all_goals exact ⟨(KeepsFrom.of_grownBy (row := none) ⟨bcW.os, bcW.tape, bcW.output, bcW.size, fun i h _ => bcW.block i h⟩ (fun j e => by cases e)).trans (hk2.from _), kt_append bcW hbs (Sts.below HS.out bcW) hgrow3 hv1 hb2, ⟨⟨_, hv2, by simpa [texts] using hr2, trivial⟩, HBW.out.trans ((bcW.mono hbs).trans hb2)⟩⟩
    case done =>
      rintro D ys W hD hS ⟨⟨v, hv, hrow, _⟩, hB⟩ hK
      have hc := hv.cell
      have hS9 : Sts W w1.heap.size v (texts ys) := hrow
      gi_wp2
      refine ⟨by simp, .inl ⟨_, _, rfl, run_takeDeferred hK, ?_⟩⟩
      have hs3 : Sts (W.putObj D (.deferred none)) w1.heap.size v (yieldT t) := by
        rw [← hS]
        exact ownsRow_putObj hS9 _ hK rfl
      obtain ⟨g, h1, h2⟩ := Sts.own hs3 HSM.out
      refine ⟨_, results_tmp rfl _ _ _, ?_⟩
      rw [HY.out]
      refine ⟨_, g, rfl, h1, fun hne => ?_, ?_⟩
      · have := h2 hne; omega
      · exact (HB1.out.trans (hB.mono (by omega))).trans (belowK_b (w := w1) (by omega) W D _ _ (by simp at hD; omega) hK rfl rfl)
    case stop =>
      rintro D c pre W _ _ h _
      exact h.elim
  · have nb : decide ((sizeT t : Int) > 200) = true := decide_eq_true (by omega)
    have HY : Hid (yieldOf t = []) := Lib.hid (by unfold yieldOf; rw [if_neg hbig])
    refine (callsIn_wide (n := 5)).1 ?_
    refine callsIn_of_wp_marks Tryz.func7 rfl trivial ?_ rfl
    simp only [Tryz.ntmps7, List.size_toArray, List.length_cons, List.length_nil, Nat.reduceAdd, Nat.reduceSub, Array.replicate_succ, Array.replicate_zero, List.push_toArray, List.append_toArray, List.nil_append, List.cons_append]
    gi_wp2_with fail
    generalize w.alloc (.cells #[.int .i64 t.rule, .string t.tok, .slice A t.kids.length c] 29) = w0 at R0 HK HSZ HB0 ⊢
    have z0 := HSZ.out
    refine ⟨trivial, ?_⟩
    refine (callsIn_wide.2 (implSizeOf_any t _ lo hi w0 HT.out HK.out (by omega) hn)).mono ?_
    rintro e w1 ⟨rfl, b1⟩
    have B1 := Lib.hid (HB0.out.trans (b1.mono (by omega)))
    clear b1 R0
    gi_wp2
    refine ⟨_, results_tmp rfl _ _ _, ?_⟩
    rw [HY.out]
    exact ⟨_, 0, rfl, ⟨_, _, rfl, Nat.le_refl _, by unfold maxLen; omega, by simp, fun h => by simp at h⟩, fun h => absurd rfl h, B1.out⟩
end Go.Proofs.YtnfmeggnalgcnaaGreatDoor
