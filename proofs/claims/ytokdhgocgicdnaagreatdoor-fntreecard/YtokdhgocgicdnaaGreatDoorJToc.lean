import Derived.Test.YtokdhgocgicdnaaGreatDoorJEar
import Derived.Shelf.Abstract
import Derived.Test.YtokdhgocgicdnaaGreatDoorJSetG
import Derived.Test.YtokdhgocgicdnaaGreatDoorJHeadsS
import Derived.Test.YtokdhgocgicdnaaGreatDoorJTo
/- The walks of joinSets, holds, wholeBody and fixedPoint. -/
namespace Go.Proofs.YtokdhgocgicdnaaGreatDoor
open Go.RowKit

set_option maxHeartbeats 1000000 in
theorem joinSets_any (v : Value) (l : List Nat) (hi : Nat) (w : World) (h : BitsAt w hi v l) :
    Calls Tryz.prog 105 #[v] w fun e w' => e = .returned (.int .u32 ((joinAll l : Nat) : Int)) ∧ w = w' := by
  obtain ⟨A, c, rfl, hlc, hc, hsz, hcell⟩ := h
  unfold maxLen at hc
  have HC := Lib.hid hcell
  have HZ := Lib.hid hsz
  clear hcell hsz
  go_enter Tryz.func105, Tryz.ntmps105
  go_wp2
  go_loop [3, 5, 8] (fun o _ i => ∃ k : Nat, k ≤ l.length ∧ i = .int .i64 k ∧ o = .int .u32 ((joinAll (l.take k) : Nat) : Int)) (fun _ _ i => l.length - (intOf i).toNat)
  case atStart => exact ⟨0, by omega, rfl, rfl⟩
  case round =>
    obtain ⟨k, hk, rfl, rfl⟩ := hrel
    by_cases hlt : k < l.length
    · obtain ⟨b, off, rfl, _, hcc⟩ := HC.out (by omega)
      have hck := hcc k hlt
      clear hcc
      have h1 := joinAll_take_lt HZ.out k
      have h2 := HZ.out _ (List.getElem_mem hlt)
      have hor := or_eq _ _ h1 h2
      rw [← joinAll_take hlt] at hor
      go_wp2
      go_round
      case rel => exact ⟨k + 1, by omega, by go_num, rfl⟩
      case measure => simp [intOf]; omega
    · have hks : k = l.length := by omega
      subst hks
      go_wp2
      go_ret
      exact ⟨rfl, rfl⟩

theorem joinTwo_any (g a b : Nat) (t : TypeId) (w : World) (h : Row w g t #[.int .u32 (a : Int), .int .u32 (b : Int)]) (ha : a < 4194304) (hb : b < 4194304) :
    Calls Tryz.prog 105 #[.slice (some ⟨g, 0, none⟩) 2 2] w fun e w' => e = .returned (.int .u32 ((a ||| b : Nat) : Int)) ∧ w = w' := by
  have := joinSets_any _ [a, b] _ w (BitsAt.two h ha hb)
  rwa [joinAll_two] at this

set_option maxHeartbeats 400000 in
theorem holds_any (s o : Nat) (w : World) (hs : s < 4194304) (ho : o < 4194304) :
    Calls Tryz.prog 91 #[.int .u32 (s : Int), .int .u32 (o : Int)] w fun e w' => e = .returned (.bool (holdsB s o)) ∧ w = w' := by
  have he := holds_eq s o hs ho
  go_enter Tryz.func91, Tryz.ntmps91
  go_wp2
  go_ret
  exact ⟨rfl, rfl⟩

set_option maxHeartbeats 400000 in
theorem wholeBody_any (v : Value) (l : List Nat) (hi : Nat) (w : World) (h : BitsAt w hi v l) :
    Calls Tryz.prog 92 #[v] w fun e w' => e = .returned (.int .u32 ((joinAll l : Nat) : Int)) ∧ w = w' := by
  have HV := Lib.hid h
  obtain ⟨A, c, rfl, -⟩ := h
  go_enter Tryz.func92, Tryz.ntmps92
  go_wp2_with fail
  refine (joinSets_any _ l hi _ HV.out).mono ?_
  rintro e w1 ⟨rfl, rfl⟩
  go_wp2
  go_ret
  exact ⟨rfl, rfl⟩

/-- a function value that makes a set of a set -/
def MakesSet (g : Nat) (lb : Array Value) (F : Nat → Nat) (w : World) : Prop :=
  ∀ (W : World) (k : Nat), k < 4194304 → Below w.heap.size w W → Calls Tryz.prog g (#[.int .u32 (k : Int)] ++ lb) W fun e w' => e = .returned (.int .u32 ((F k : Nat) : Int)) ∧ Below W.heap.size W w'

set_option maxRecDepth 100000 in
set_option maxHeartbeats 1000000 in
theorem fixedPoint_any (g : Nat) (lb : Array Value) (eg : Enters Tryz.prog g) (F : Nat → Nat) (b : Nat) (w : World) (hb : b < 4194304) (hF : ∀ k, k < 4194304 → F k < 4194304) (hp : MakesSet g lb F w) :
    Calls Tryz.prog 111 #[.int .u32 (b : Int), .func (.func g) #[] lb] w fun e w' => ∃ n : Nat, e = .returned (.int .u32 (n : Int)) ∧ FixAt F b n ∧ Below w.heap.size w w' := by
  have HP := Lib.hid hp
  have HF := Lib.hid hF
  unfold Enters at eg
  clear hp hF
  go_enter Tryz.func111, Tryz.ntmps111
  go_wp2
  go_loopw [0, 5] (fun x _ wr => ∃ k : Nat, k < 4194304 ∧ x = .int .u32 (k : Int) ∧ Below w.heap.size w wr ∧ (∀ i, b.testBit i = true → k.testBit i = true) ∧ (∀ P : Nat → Prop, P b → (∀ k, k < 4194304 → P k → P (k ||| F k)) → P k)) (fun x _ _ => 4194304 - (intOf x).toNat)
  case atStart => exact ⟨b, hb, rfl, Below.refl _ _, fun _ h => h, fun P h _ => h⟩
  case round =>
    obtain ⟨k, hk, rfl, hbw, hsub, hind⟩ := hrel
    have HS := Lib.hid hsub
    have HI := Lib.hid hind
    have hsw := hbw.size
    clear hsub hind
    have cS : Calls Tryz.prog g (#[.int .u32 (k : Int)] ++ lb) wr _ := HP.out wr k hk hbw
    have hFk := HF.out k hk
    have hol := or_lt hk hFk
    go_wp2_with (go_at_fn g; refine cS.mono ?_; rintro e W1 ⟨rfl, b1⟩)
    have R1 := Row.made W1 144 #[.int .u32 (k : Int), .int .u32 ((F k : Nat) : Int)]
    have B1 : Below w.heap.size w (W1.alloc (.cells #[.int .u32 (k : Int), .int .u32 ((F k : Nat) : Int)] 144)) := (hbw.trans (b1.mono hsw)).trans ((al1 W1 _).mono (Nat.le_trans hsw b1.size))
    refine (joinTwo_any _ k (F k) _ _ R1 hk hFk).mono ?_
    rintro e w2 ⟨rfl, rfl⟩
    clear R1 cS b1
    by_cases he : k ||| F k = k
    · have HE := Lib.hid he
      have hd : (((k ||| F k : Nat) : Int) == (k : Int)) = true := by rw [he]; simp
      clear he
      go_wp2
      go_ret
      refine ⟨k, rfl, ⟨hk, HS.out, fun i hi => ?_, HI.out⟩, B1⟩
      rw [← HE.out, Nat.testBit_or, hi, Bool.or_true]
    · have hd : (((k ||| F k : Nat) : Int) == (k : Int)) = false := by rw [beq_eq_false_iff_ne]; intro e; exact he (Int.ofNat.inj e)
      have hle : k ≤ k ||| F k := Nat.left_le_or
      go_wp2
      go_roundw
      case rel => exact ⟨k ||| F k, hol, rfl, B1, fun i hi => by rw [Nat.testBit_or, HS.out i hi, Bool.true_or], fun P h0 h1 => h1 k hk (HI.out P h0 h1)⟩
      case measure => simp [intOf]; omega
end Go.Proofs.YtokdhgocgicdnaaGreatDoor

/- The walk of setOf. -/
namespace Go.Proofs.YtokdhgocgicdnaaGreatDoor
open Go.RowKit

theorem symIdx_hit {hs : List ByteArray} {s : ByteArray} {k : Nat} (ht : tokB s = false) (hk : k < hs.length) (he : hs[k] = s) (hall : ∀ j (h : j < hs.length), j < k → hs[j] ≠ s) : symIdx hs s = k := by
  have hf : hs.findIdx (fun t => decide (t = s)) = k := by
    rw [List.findIdx_eq hk]
    exact ⟨by simpa using he, fun j hj => by simpa using hall j (by omega) hj⟩
  unfold symIdx
  rw [ht, if_neg (by decide), hf, if_pos hk]
theorem symIdx_miss {hs : List ByteArray} {s : ByteArray} (ht : tokB s = false) (hall : ∀ j (h : j < hs.length), hs[j] ≠ s) : symIdx hs s = 21 := by
  have hf : ¬ hs.findIdx (fun t => decide (t = s)) < hs.length := by
    intro h
    have := List.findIdx_getElem (w := h)
    exact hall _ h (by simpa using this)
  unfold symIdx
  rw [ht, if_neg (by decide), if_neg hf]
theorem ret_u32 {a b : Int} (h : a = b) : Ending.returned (.int .u32 a) = .returned (.int .u32 b) := by rw [h]
theorem shl_eq (k : Nat) (h : k < 22) : ((2 : Int) ^ k % 4294967296) = ((2 ^ k : Nat) : Int) := by
  have h1 : 2 ^ k < 2 ^ 22 := Nat.pow_lt_pow_right (a := 2) (by omega) h
  have h2 : ((2 : Int) ^ k) = ((2 ^ k : Nat) : Int) := by simp
  rw [h2]
  generalize 2 ^ k = m at h1 ⊢
  omega
theorem symIdx_tok {hs : List ByteArray} {s : ByteArray} (ht : tokB s = true) : symIdx hs s = 20 := if_pos ht

set_option maxRecDepth 100000 in
set_option maxHeartbeats 1000000 in
theorem setOf_any (hs : List ByteArray) (rv : Value) (rl : List RuleN) (A : Option Addr) (c : Nat) (B : Option Addr) (d : Nat) (s : ByteArray) (hi : Nat) (w : World) (h : Strs w 0 hi (.slice A hs.length c) hs) (hr : rv = .slice B rl.length d) (hh : hi ≤ w.heap.size) (hl : hs.length ≤ 20) :
    Calls Tryz.prog 87 #[.agg #[.slice A hs.length c, rv], .string s] w fun e w' => e = .returned (.int .u32 ((setN hs s : Nat) : Int)) ∧ Below w.heap.size w w' := by
  subst hr
  obtain ⟨A', c', e', hlc, hc, hsz, hcell⟩ := h
  injection e' with e1 _ e2
  subst e1 e2
  unfold maxLen at hc
  have HC := Lib.hid hcell
  clear hcell hsz
  have hb := al1 w (.cells #[.slice A hs.length c, .slice B rl.length d] 140)
  have R0 := Row.made w 140 #[.slice A hs.length c, .slice B rl.length d]
  cases ht : tokB s
  · have HT := Lib.hid ht
    clear ht
    go_enter Tryz.func87, Tryz.ntmps87
    go_wp2_with fail
    refine (implIsToken_any _ _).mono ?_
    rintro e w1 ⟨rfl, b1⟩
    rw [HT.out]
    have R1 := R0.below b1 (by simp)
    have c0 := R1.cell 0
    simp at c0
    have hb1 := hb.trans (b1.mono (by simp))
    have hs1 := hb1.size
    clear R0 R1 b1 hb
    go_wp2
    go_loop [5, 6, 12] (fun _ _ i => ∃ k : Nat, k ≤ hs.length ∧ i = .int .i64 k ∧ ∀ j (h : j < hs.length), j < k → hs[j] ≠ s) (fun _ _ i => hs.length - (intOf i).toNat)
    case atStart => exact ⟨0, by omega, rfl, fun j _ hj => by omega⟩
    case round =>
      obtain ⟨k, hk, rfl, hall⟩ := hrel
      have HA := Lib.hid hall
      clear hall
      by_cases hlt : k < hs.length
      · obtain ⟨b, off, rfl, _, hbh, hcc⟩ := HC.out (by omega)
        have hck := (hb1.cell (p := ⟨b, off + k, none⟩) (by show b < _; omega)).trans (hcc k hlt)
        clear hcc
        by_cases he : hs[k] = s
        · have d1 : (hs[k].toList == s.toList) = true := by rw [list_eqH, decide_eq_true he]
          have HX := Lib.hid (symIdx_hit HT.out hlt he HA.out)
          clear he
          go_wp2
          go_ret
          exact ⟨ret_u32 (by rw [shl_eq k (by omega)]; unfold setN; rw [HX.out]), hb1⟩
        · have d1 : (hs[k].toList == s.toList) = false := by rw [list_eqH, decide_eq_false he]
          go_wp2
          go_round
          case rel => exact ⟨k + 1, by omega, by go_num, fun j hj hjk => by
            by_cases e : j = k
            · subst e; exact he
            · exact HA.out j hj (by omega)⟩
          case measure => simp [intOf]; omega
      · have HX : Hid (symIdx hs s = 21) := Lib.hid (symIdx_miss HT.out fun j hj => HA.out j hj (by omega))
        go_wp2
        go_ret
        exact ⟨by unfold setN; rw [HX.out]; rfl, hb1⟩
  · have HT := Lib.hid ht
    have HX := Lib.hid (symIdx_tok (hs := hs) ht)
    clear ht
    go_enter Tryz.func87, Tryz.ntmps87
    go_wp2_with fail
    refine (implIsToken_any _ _).mono ?_
    rintro e w1 ⟨rfl, b1⟩
    rw [HT.out]
    go_wp2
    go_ret
    exact ⟨by unfold setN; rw [HX.out]; rfl, hb.trans (b1.mono (by simp))⟩
end Go.Proofs.YtokdhgocgicdnaaGreatDoor

/- The walk of the sets' told: the heads of a set, in order. -/
namespace Go.Proofs.YtokdhgocgicdnaaGreatDoor
open Go.RowKit

/-- the heads of a list whose bit is in a set, counted from i on -/
def pickB (n : Nat) (hs : List ByteArray) (k : Nat) : List ByteArray := ((hs.take k).zipIdx.filter fun x => n.testBit x.2).map (·.1)
theorem pickB_zero (n : Nat) (hs : List ByteArray) : pickB n hs 0 = [] := rfl
theorem pickB_t {n : Nat} {hs : List ByteArray} {k : Nat} (h : k < hs.length) (hb : n.testBit k = true) : pickB n hs (k + 1) = pickB n hs k ++ [hs[k]] := by
  unfold pickB
  rw [List.take_succ_eq_append_getElem h, List.zipIdx_append, List.filter_append, List.map_append]
  simp [Nat.min_eq_left (Nat.le_of_lt h), hb]
theorem pickB_f {n : Nat} {hs : List ByteArray} {k : Nat} (h : k < hs.length) (hb : n.testBit k = false) : pickB n hs (k + 1) = pickB n hs k := by
  unfold pickB
  rw [List.take_succ_eq_append_getElem h, List.zipIdx_append, List.filter_append, List.map_append]
  simp [Nat.min_eq_left (Nat.le_of_lt h), hb]
theorem pickB_mem {n : Nat} {hs : List ByteArray} {k : Nat} {s : ByteArray} (h : s ∈ pickB n hs k) : s ∈ hs := by
  unfold pickB at h
  obtain ⟨⟨a, i⟩, h1, rfl⟩ := List.mem_map.1 h
  obtain ⟨h2, _⟩ := List.mem_filter.1 h1
  exact List.mem_of_mem_take (List.fst_mem_of_mem_zipIdx h2)
theorem pickB_len (n : Nat) (hs : List ByteArray) (k : Nat) : (pickB n hs k).length ≤ k := by
  unfold pickB
  rw [List.length_map]
  refine Nat.le_trans (List.length_filter_le _ _) ?_
  rw [List.length_zipIdx, List.length_take]
  omega
theorem hold_bit (n k : Nat) : holdsB n (2 ^ k) = n.testBit k := by
  rw [Bool.eq_iff_iff, holdsB_iff]
  constructor
  · intro hh; exact hh k Nat.testBit_two_pow_self
  · intro hh i hi
    rw [Nat.testBit_two_pow, decide_eq_true_eq] at hi
    rw [← hi]; exact hh
theorem pow_lt22 {k : Nat} (h : k < 22) : 2 ^ k < 4194304 := Nat.pow_lt_pow_right (a := 2) (by omega) h

theorem holdsBit_any (n k : Nat) (w : World) (hn : n < 4194304) (hk : k < 22) :
    Calls Tryz.prog 91 #[.int .u32 (n : Int), .int .u32 ((2 : Int) ^ k % 4294967296)] w fun e w' => e = .returned (.bool (n.testBit k)) ∧ w = w' := by
  rw [shl_eq k hk, ← hold_bit]
  exact holds_any n (2 ^ k) w hn (pow_lt22 hk)

end Go.Proofs.YtokdhgocgicdnaaGreatDoor

/- The walks of comeTo, nullable and productive. -/
namespace Go.Proofs.YtokdhgocgicdnaaGreatDoor
open Go.RowKit

theorem Row.made1 (w : World) (o : Obj) (t : TypeId) (cur : Array Value) : Row ((w.alloc o).alloc (.cells cur t)) (w.heap.size + 1) t cur := by simpa using Row.made (w.alloc o) t cur

set_option maxRecDepth 100000 in
set_option maxHeartbeats 2000000 in
theorem comeStep_any (rl : List RuleN) (p hi k : Nat) (hv : Value) (B : Option Addr) (d : Nat) (w : World) (hr : Row w p 140 #[hv, .slice B rl.length d]) (h : RulesN w hi (.slice B rl.length d) rl) (hh : hi ≤ w.heap.size) (hk : k < 4194304) :
    Calls Tryz.prog 112 #[.int .u32 (k : Int), .pointer (some ⟨p, 0, none⟩)] w fun e w' => e = .returned (.int .u32 ((stepCome rl k : Nat) : Int)) ∧ Below w.heap.size w w' := by
  obtain ⟨B', d', e', hlc, hc, hcell⟩ := h
  injection e' with e1 _ e2
  subst e1 e2
  unfold maxLen at hc
  have hlt : ∀ j, gather (fun r => holdsB k (joinAll r.body)) (·.head) (rl.take j) < 4194304 := fun j => gather_lt fun r hr => by
    have hm := List.mem_of_mem_take hr
    obtain ⟨i, hi, rfl⟩ := List.getElem_of_mem hm
    obtain ⟨_, _, _, _, hcc⟩ := hcell (by omega)
    exact (hcc i hi).2.1
  have HC := Lib.hid hcell
  have HL := Lib.hid hlt
  clear hcell hlt
  have c1 := hr.cell 1
  simp at c1
  have hpl := hr.lt
  clear hr
  unfold stepCome
  go_enter Tryz.func112, Tryz.ntmps112
  go_wp2
  go_loopw [4, 6, 10] (fun o _ i wr => ∃ j : Nat, j ≤ rl.length ∧ i = .int .i64 j ∧ o = .int .u32 ((gather (fun r => holdsB k (joinAll r.body)) (·.head) (rl.take j) : Nat) : Int) ∧ Below w.heap.size w wr) (fun _ _ i _ => rl.length - (intOf i).toNat)
  case atStart => exact ⟨0, by omega, rfl, rfl, Below.refl _ _⟩
  case round =>
    obtain ⟨j, hj, rfl, rfl, hbw⟩ := hrel
    have hsw := hbw.size
    by_cases hlt : j < rl.length
    · obtain ⟨b, off, rfl, hbh, hcc⟩ := HC.out (by omega)
      obtain ⟨hn, hhd, d0, d1, u, d2, hB⟩ := hcc j hlt
      have d0' := (hbw.cell (p := ⟨b, off + j * 3, none⟩) (by show b < _; omega)).trans d0
      have d1' := (hbw.cell (p := ⟨b, off + j * 3 + 1, none⟩) (by show b < _; omega)).trans d1
      have d2' := (hbw.cell (p := ⟨b, off + j * 3 + 2, none⟩) (by show b < _; omega)).trans d2
      have hB' := hB.below hbw (by omega)
      clear hcc d0 d1 d2 hB
      have HB := Lib.hid hB'
      obtain ⟨A', c', rfl, -, -, hbz, -⟩ := hB'
      have hjl := joinAll_lt hbz
      have hol := HL.out j
      have ha := al1 wr (.cells #[.int .i64 (rl[j].num : Int), .int .u32 (rl[j].head : Int), .slice A' rl[j].body.length c'] 147)
      have R1 := Row.made wr 147 #[.int .i64 (rl[j].num : Int), .int .u32 (rl[j].head : Int), .slice A' rl[j].body.length c']
      clear hbz
      cases hq : holdsB k (joinAll rl[j].body)
      · have HQ := Lib.hid hq
        have HG := Lib.hid (gather_f (p := fun r => holdsB k (joinAll r.body)) (f := (·.head)) hlt hq)
        clear hq
        go_wp2_with fail
        refine (joinSets_any _ rl[j].body hi _ (HB.out.below ha (by omega))).mono ?_
        rintro e w1 ⟨rfl, rfl⟩
        go_wp2_with fail
        refine (holds_any k _ _ hk hjl).mono ?_
        rintro e w1 ⟨rfl, rfl⟩
        rw [HQ.out]
        go_wp2
        go_roundw
        case rel => exact ⟨j + 1, by omega, by go_num, by rw [HG.out], hbw.trans (ha.mono hsw)⟩
        case measure => simp [intOf]; omega
      · have HQ := Lib.hid hq
        have HG := Lib.hid (gather_t (p := fun r => holdsB k (joinAll r.body)) (f := (·.head)) hlt hq)
        clear hq
        go_wp2_with fail
        refine (joinSets_any _ rl[j].body hi _ (HB.out.below ha (by omega))).mono ?_
        rintro e w1 ⟨rfl, rfl⟩
        go_wp2_with fail
        refine (holds_any k _ _ hk hjl).mono ?_
        rintro e w1 ⟨rfl, rfl⟩
        rw [HQ.out]
        have R2 := Row.made1 wr (.cells #[.int .i64 (rl[j].num : Int), .int .u32 (rl[j].head : Int), .slice A' rl[j].body.length c'] 147) 144 #[.int .u32 ((gather (fun r => holdsB k (joinAll r.body)) (·.head) (rl.take j) : Nat) : Int), .int .u32 (rl[j].head : Int)]
        go_wp2_with fail
        refine (joinTwo_any (wr.heap.size + 1) (gather (fun r => holdsB k (joinAll r.body)) (·.head) (rl.take j)) rl[j].head 144 _ R2 hol hhd).mono ?_
        rintro e w1 ⟨rfl, rfl⟩
        go_wp2
        go_roundw
        case rel => exact ⟨j + 1, by omega, by go_num, by rw [HG.out], (hbw.trans (ha.mono hsw)).trans ((al1 _ _).mono (by simp; omega))⟩
        case measure => simp [intOf]; omega
    · have hks : j = rl.length := by omega
      subst hks
      go_wp2
      go_ret
      exact ⟨ret_u32 (by rw [List.take_length]), hbw⟩

set_option maxRecDepth 100000 in
set_option maxHeartbeats 1000000 in
theorem comeTo_any (hs : List ByteArray) (rl : List RuleN) (v : Value) (n hi : Nat) (w : World) (h : SetsG w hi v hs rl) (hh : hi ≤ w.heap.size) (hn : n < 4194304) (hrl : ∀ r ∈ rl, r.head < 4194304) :
    Calls Tryz.prog 104 #[v, .int .u32 (n : Int)] w fun e w' => ∃ m : Nat, e = .returned (.int .u32 (m : Int)) ∧ FixAt (stepCome rl) n m ∧ Below w.heap.size w w' := by
  have hmf : ∀ (fn : Fn) (first cap : Array Value) (w : World), (Instr.makeFunc fn first cap).run Tryz.prog w = .ok (.func fn first cap) w := fun _ _ _ _ => rfl
  obtain ⟨A, c, B, d, rfl, -, hR⟩ := h.form
  have hb := al1 w (.cells #[.slice A hs.length c, .slice B rl.length d] 140)
  have R0 := Row.made w 140 #[.slice A hs.length c, .slice B rl.length d]
  have HF : Hid (∀ k, k < 4194304 → stepCome rl k < 4194304) := Lib.hid fun k _ => gather_lt hrl
  have HM : Hid (MakesSet 112 #[.pointer (some ⟨w.heap.size, 0, none⟩)] (stepCome rl) (w.alloc (.cells #[.slice A hs.length c, .slice B rl.length d] 140))) := Lib.hid fun W k hk bW =>
    comeStep_any rl w.heap.size hi k _ B d W (R0.below bW (by simp)) ((hR.below hb hh).below bW (by simp; omega)) (by have := bW.size; simp at this; omega) hk
  clear hR h R0
  go_enter Tryz.func104, Tryz.ntmps104
  go_wp2_with fail
  refine (fixedPoint_any _ _ (enters_of Tryz.func112 (by kernel_rfl) rfl) (stepCome rl) n _ hn HF.out HM.out).mono ?_
  rintro e w1 ⟨m, rfl, hfix, b1⟩
  go_wp2
  go_ret
  exact ⟨m, rfl, hfix, hb.trans (b1.mono (by simp))⟩

set_option maxHeartbeats 1000000 in
theorem productive_any (hs : List ByteArray) (rl : List RuleN) (v : Value) (hi : Nat) (w : World) (h : SetsG w hi v hs rl) (hh : hi ≤ w.heap.size) (hrl : ∀ r ∈ rl, r.head < 4194304) :
    Calls Tryz.prog 88 #[v] w fun e w' => ∃ m : Nat, e = .returned (.int .u32 (m : Int)) ∧ FixAt (stepCome rl) (tokBase true) m ∧ Below w.heap.size w w' := by
  have HV := Lib.hid h
  obtain ⟨A, c, B, d, rfl, -, -⟩ := h.form
  have hb := al1 w (.cells #[.slice A hs.length c, .slice B rl.length d] 140)
  clear h
  go_enter Tryz.func88, Tryz.ntmps88
  go_wp2_with fail
  refine (comeTo_any hs rl _ 1048576 hi _ (HV.out.below hb hh) (by simp; omega) (by omega) hrl).mono ?_
  rintro e w1 ⟨m, rfl, hfix, b1⟩
  go_wp2
  go_ret
  exact ⟨m, rfl, hfix, hb.trans (b1.mono (by simp))⟩
end Go.Proofs.YtokdhgocgicdnaaGreatDoor

/- What came in, laid anew, on: toRule, toRuleS, toGram. -/
namespace Go.Proofs.YtokdhgocgicdnaaGreatDoor
open Go.RowKit

end Go.Proofs.YtokdhgocgicdnaaGreatDoor

/- What came in, laid anew, on: toRuleS, toGram. -/
namespace Go.Proofs.YtokdhgocgicdnaaGreatDoor
open Go.RowKit

theorem Tryz.infoRule : (Tryz.prog.info? 45).map (fun i => (i.zero, i.size, i.bytes)) = some (some (.agg #[.string ByteArray.empty, .slice none 0 0]), 2, 40) := by kernel_rfl

/-- k of the rules are laid in block g, their bodies in blocks behind it -/
def BuildR (w : World) (g : Nat) (rs : List RuleD) (k : Nat) : Prop :=
  ∃ (cur : Array Value) (G : Nat → Nat), Row w g 45 cur ∧ cur.size = rs.length * 2 ∧
    (∀ i (h : i < rs.length), i < k → cur[i * 2]? = some (.string rs[i].head) ∧ ∃ u, cur[i * 2 + 1]? = some u ∧ OwnS w (G i) u rs[i].body ∧ g < G i ∧ G i < w.heap.size) ∧
    ∀ i j, i < j → j < k → G i < G j
theorem BuildR.start (w : World) (rs : List RuleD) (z : Array Value) : BuildR (w.alloc (.cells (madeCells z (rs.length * 2)) 45)) w.heap.size rs 0 :=
  ⟨_, fun _ => 0, Row.made w _ _, size_madeCells _ _, fun _ _ h => by omega, fun _ _ _ h => by omega⟩
theorem BuildR.row {w : World} {g k : Nat} {rs : List RuleD} (h : BuildR w g rs k) : ∃ cur, Row w g 45 cur ∧ cur.size = rs.length * 2 := by
  obtain ⟨cur, G, h1, h2, _⟩ := h
  exact ⟨cur, h1, h2⟩
theorem BuildR.step {w w1 : World} {g k gb : Nat} {rs : List RuleD} {u : Value} (h : BuildR w g rs k) (hk : k < rs.length) (hb : Below w.heap.size w w1) (ho : OwnS w1 gb u rs[k].body) (h1 : w.heap.size ≤ gb) (h2 : gb < w1.heap.size) :
    BuildR ((w1.setCell ⟨g, k * 2, none⟩ (.string rs[k].head)).setCell ⟨g, k * 2 + 1, none⟩ u) g rs (k + 1) := by
  obtain ⟨cur, G, hr, hs, hc, hG⟩ := h
  have hgl := hr.lt
  have r1 := ((hr.below hb hgl).put (k * 2) (.string rs[k].head)).put (k * 2 + 1) u
  have hsz : ((w1.setCell ⟨g, k * 2, none⟩ (.string rs[k].head)).setCell ⟨g, k * 2 + 1, none⟩ u).heap.size = w1.heap.size := by simp [World.setCell]
  have hot : ∀ p, p ≠ g → ((w1.setCell ⟨g, k * 2, none⟩ (.string rs[k].head)).setCell ⟨g, k * 2 + 1, none⟩ u).heap[p]? = w1.heap[p]? := fun p hp => by
    rw [Below.heap_setCell _ _ _ _ (by exact hp), Below.heap_setCell _ _ _ _ (by exact hp)]
  refine ⟨_, fun i => if i = k then gb else G i, r1, by simp [hs], fun i hi hik => ?_, fun i j hij hj => ?_⟩
  · by_cases e : i = k
    · subst e
      refine ⟨?_, u, ?_, ?_, ?_, ?_⟩
      · rw [Array.getElem?_setIfInBounds_ne (by omega), Array.getElem?_setIfInBounds_self_of_lt (by omega)]
      · rw [Array.getElem?_setIfInBounds_self_of_lt (by simp; omega)]
      · simp only [if_true]
        exact ho.keep fun _ => hot gb (by omega)
      · simp only [if_true]; omega
      · simp only [if_true]; rw [hsz]; exact h2
    · obtain ⟨a1, v, a2, a3, a4, a5⟩ := hc i hi (by omega)
      refine ⟨?_, v, ?_, ?_, ?_, ?_⟩
      · rw [Array.getElem?_setIfInBounds_ne (by omega), Array.getElem?_setIfInBounds_ne (by omega)]; exact a1
      · rw [Array.getElem?_setIfInBounds_ne (by omega), Array.getElem?_setIfInBounds_ne (by omega)]; exact a2
      · simp only [if_neg e]
        exact a3.keep fun _ => (hot _ (by omega)).trans (hb.block _ a5)
      · simp only [if_neg e]; exact a4
      · simp only [if_neg e]; rw [hsz]; have := hb.size; omega
  · by_cases e : j = k
    · have hi : ¬ i = k := by omega
      simp only [if_neg hi, if_pos e]
      obtain ⟨_, _, _, _, _, a5⟩ := hc i (by omega) (by omega)
      omega
    · have hi : ¬ i = k := by omega
      simp only [if_neg hi, if_neg e]
      exact hG i j hij (by omega)
theorem BuildR.done {w : World} {g lo : Nat} {rs : List RuleD} (h : BuildR w g rs rs.length) (hl : lo ≤ g) (hm : rs.length ≤ maxLen) (hh : ∀ i (h : i < rs.length), rs[i].head.size ≤ maxLen) : OwnR w lo w.heap.size (.slice (some ⟨g, 0, none⟩) rs.length rs.length) rs := by
  obtain ⟨cur, G, hr, hs, hc, hG⟩ := h
  refine ⟨_, _, rfl, Nat.le_refl _, hm, fun _ => ⟨g, cur, G, rfl, hl, hr.lt, hr, fun i hi => ?_, fun i j hi hj _ _ => ?_⟩⟩
  · obtain ⟨a1, v, a2, a3, a4, a5⟩ := hc i hi hi
    exact ⟨hh i hi, a1, v, a2, a3, fun _ => ⟨by omega, a5⟩⟩
  · have := hG i j hi hj; omega

theorem bulk_body {rs : List RuleD} {k : Nat} (h : k < rs.length) : rs[k].body.length ≤ bulkR rs := by
  have h1 := rulesTo_succ rs k h
  have h2 := rulesTo_le rs (k + 1)
  unfold bulkS at h1
  omega
theorem bulk_len (rs : List RuleD) : rs.length ≤ bulkR rs := by unfold bulkR; omega

end Go.Proofs.YtokdhgocgicdnaaGreatDoor
