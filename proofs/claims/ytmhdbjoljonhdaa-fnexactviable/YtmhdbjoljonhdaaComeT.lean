/- The walks of comeTo, nullable and productive. -/
import Derived.Test.YtmhdbjoljonhdaaToldS
namespace Go.Proofs.Ytmhdbjoljonhdaa
open Go.RowKit

theorem Row.made1 (w : World) (o : Obj) (t : TypeId) (cur : Array Value) : Row ((w.alloc o).alloc (.cells cur t)) (w.heap.size + 1) t cur := by simpa using Row.made (w.alloc o) t cur

set_option maxRecDepth 100000 in
set_option maxHeartbeats 2000000 in
theorem comeStep_any (rl : List RuleN) (p hi k : Nat) (hv : Value) (B : Option Addr) (d : Nat) (w : World) (hr : Row w p 68 #[hv, .slice B rl.length d]) (h : RulesN w hi (.slice B rl.length d) rl) (hh : hi ≤ w.heap.size) (hk : k < 4194304) :
    Calls Try.prog 124 #[.int .u32 (k : Int), .pointer (some ⟨p, 0, none⟩)] w fun e w' => e = .returned (.int .u32 ((stepCome rl k : Nat) : Int)) ∧ Below w.heap.size w w' := by
  obtain ⟨B', d', e', hlc, hc, hcell⟩ := h
  injection e' with e1 _ e2
  subst e1 e2
  unfold maxLen at hc
  have hlt : ∀ j, gather (fun r => holdsB k (joinAll r.body)) (·.head) (rl.take j) < 4194304 := fun j => gather_lt fun r hr => by
    have hm := List.mem_of_mem_take hr
    obtain ⟨i, hi, rfl⟩ := List.getElem_of_mem hm
    obtain ⟨_, _, _, _, hcc⟩ := hcell (by omega)
    exact (hcc i hi).2.1
  have HC := Lib.hid hcell
  have HL := Lib.hid hlt
  clear hcell hlt
  have c1 := hr.cell 1
  simp at c1
  have hpl := hr.lt
  clear hr
  unfold stepCome
  go_enter Try.func124, Try.ntmps124
  go_wp2
  go_loopw [4, 6, 10] (fun o _ i wr => ∃ j : Nat, j ≤ rl.length ∧ i = .int .i64 j ∧ o = .int .u32 ((gather (fun r => holdsB k (joinAll r.body)) (·.head) (rl.take j) : Nat) : Int) ∧ Below w.heap.size w wr) (fun _ _ i _ => rl.length - (intOf i).toNat)
  case atStart => exact ⟨0, by omega, rfl, rfl, Below.refl _ _⟩
  case round =>
    obtain ⟨j, hj, rfl, rfl, hbw⟩ := hrel
    have hsw := hbw.size
    by_cases hlt : j < rl.length
    · obtain ⟨b, off, rfl, hbh, hcc⟩ := HC.out (by omega)
      obtain ⟨hn, hhd, d0, d1, u, d2, hB⟩ := hcc j hlt
      have d0' := (hbw.cell (p := ⟨b, off + j * 3, none⟩) (by show b < _; omega)).trans d0
      have d1' := (hbw.cell (p := ⟨b, off + j * 3 + 1, none⟩) (by show b < _; omega)).trans d1
      have d2' := (hbw.cell (p := ⟨b, off + j * 3 + 2, none⟩) (by show b < _; omega)).trans d2
      have hB' := hB.below hbw (by omega)
      clear hcc d0 d1 d2 hB
      have HB := Lib.hid hB'
      obtain ⟨A', c', rfl, -, -, hbz, -⟩ := hB'
      have hjl := joinAll_lt hbz
      have hol := HL.out j
      have ha := al1 wr (.cells #[.int .i64 (rl[j].num : Int), .int .u32 (rl[j].head : Int), .slice A' rl[j].body.length c'] 77)
      have R1 := Row.made wr 77 #[.int .i64 (rl[j].num : Int), .int .u32 (rl[j].head : Int), .slice A' rl[j].body.length c']
      clear hbz
      cases hq : holdsB k (joinAll rl[j].body)
      · have HQ := Lib.hid hq
        have HG := Lib.hid (gather_f (p := fun r => holdsB k (joinAll r.body)) (f := (·.head)) hlt hq)
        clear hq
        go_wp2_with fail
        refine (joinSets_any _ rl[j].body hi _ (HB.out.below ha (by omega))).mono ?_
        rintro e w1 ⟨rfl, rfl⟩
        go_wp2_with fail
        refine (holds_any k _ _ hk hjl).mono ?_
        rintro e w1 ⟨rfl, rfl⟩
        rw [HQ.out]
        go_wp2
        go_roundw
        case rel => exact ⟨j + 1, by omega, by go_num, by rw [HG.out], hbw.trans (ha.mono hsw)⟩
        case measure => simp [intOf]; omega
      · have HQ := Lib.hid hq
        have HG := Lib.hid (gather_t (p := fun r => holdsB k (joinAll r.body)) (f := (·.head)) hlt hq)
        clear hq
        go_wp2_with fail
        refine (joinSets_any _ rl[j].body hi _ (HB.out.below ha (by omega))).mono ?_
        rintro e w1 ⟨rfl, rfl⟩
        go_wp2_with fail
        refine (holds_any k _ _ hk hjl).mono ?_
        rintro e w1 ⟨rfl, rfl⟩
        rw [HQ.out]
        have R2 := Row.made1 wr (.cells #[.int .i64 (rl[j].num : Int), .int .u32 (rl[j].head : Int), .slice A' rl[j].body.length c'] 77) 72 #[.int .u32 ((gather (fun r => holdsB k (joinAll r.body)) (·.head) (rl.take j) : Nat) : Int), .int .u32 (rl[j].head : Int)]
        go_wp2_with fail
        refine (joinTwo_any (wr.heap.size + 1) (gather (fun r => holdsB k (joinAll r.body)) (·.head) (rl.take j)) rl[j].head 72 _ R2 hol hhd).mono ?_
        rintro e w1 ⟨rfl, rfl⟩
        go_wp2
        go_roundw
        case rel => exact ⟨j + 1, by omega, by go_num, by rw [HG.out], (hbw.trans (ha.mono hsw)).trans ((al1 _ _).mono (by simp; omega))⟩
        case measure => simp [intOf]; omega
    · have hks : j = rl.length := by omega
      subst hks
      go_wp2
      go_ret
      exact ⟨ret_u32 (by rw [List.take_length]), hbw⟩

set_option maxRecDepth 100000 in
set_option maxHeartbeats 1000000 in
theorem comeTo_any (hs : List ByteArray) (rl : List RuleN) (v : Value) (n hi : Nat) (w : World) (h : SetsG w hi v hs rl) (hh : hi ≤ w.heap.size) (hn : n < 4194304) (hrl : ∀ r ∈ rl, r.head < 4194304) :
    Calls Try.prog 94 #[v, .int .u32 (n : Int)] w fun e w' => ∃ m : Nat, e = .returned (.int .u32 (m : Int)) ∧ FixAt (stepCome rl) n m ∧ Below w.heap.size w w' := by
  have hmf : ∀ (fn : Fn) (first cap : Array Value) (w : World), (Instr.makeFunc fn first cap).run Try.prog w = .ok (.func fn first cap) w := fun _ _ _ _ => rfl
  obtain ⟨A, c, B, d, rfl, -, hR⟩ := h.form
  have hb := al1 w (.cells #[.slice A hs.length c, .slice B rl.length d] 68)
  have R0 := Row.made w 68 #[.slice A hs.length c, .slice B rl.length d]
  have HF : Hid (∀ k, k < 4194304 → stepCome rl k < 4194304) := Lib.hid fun k _ => gather_lt hrl
  have HM : Hid (MakesSet 124 #[.pointer (some ⟨w.heap.size, 0, none⟩)] (stepCome rl) (w.alloc (.cells #[.slice A hs.length c, .slice B rl.length d] 68))) := Lib.hid fun W k hk bW =>
    comeStep_any rl w.heap.size hi k _ B d W (R0.below bW (by simp)) ((hR.below hb hh).below bW (by simp; omega)) (by have := bW.size; simp at this; omega) hk
  clear hR h R0
  go_enter Try.func94, Try.ntmps94
  go_wp2_with fail
  refine (fixedPoint_any _ _ (enters_of Try.func124 (by kernel_rfl) rfl) (stepCome rl) n _ hn HF.out HM.out).mono ?_
  rintro e w1 ⟨m, rfl, hfix, b1⟩
  go_wp2
  go_ret
  exact ⟨m, rfl, hfix, hb.trans (b1.mono (by simp))⟩

set_option maxHeartbeats 1000000 in
theorem nullable_any (hs : List ByteArray) (rl : List RuleN) (v : Value) (hi : Nat) (w : World) (h : SetsG w hi v hs rl) (hh : hi ≤ w.heap.size) (hrl : ∀ r ∈ rl, r.head < 4194304) :
    Calls Try.prog 54 #[v] w fun e w' => ∃ m : Nat, e = .returned (.int .u32 (m : Int)) ∧ FixAt (stepCome rl) (tokBase false) m ∧ Below w.heap.size w w' := by
  have HV := Lib.hid h
  obtain ⟨A, c, B, d, rfl, -, -⟩ := h.form
  have hb := al1 w (.cells #[.slice A hs.length c, .slice B rl.length d] 68)
  clear h
  go_enter Try.func54, Try.ntmps54
  go_wp2_with fail
  refine (comeTo_any hs rl _ 0 hi _ (HV.out.below hb hh) (by simp; omega) (by omega) hrl).mono ?_
  rintro e w1 ⟨m, rfl, hfix, b1⟩
  go_wp2
  go_ret
  exact ⟨m, rfl, hfix, hb.trans (b1.mono (by simp))⟩
set_option maxHeartbeats 1000000 in
theorem productive_any (hs : List ByteArray) (rl : List RuleN) (v : Value) (hi : Nat) (w : World) (h : SetsG w hi v hs rl) (hh : hi ≤ w.heap.size) (hrl : ∀ r ∈ rl, r.head < 4194304) :
    Calls Try.prog 55 #[v] w fun e w' => ∃ m : Nat, e = .returned (.int .u32 (m : Int)) ∧ FixAt (stepCome rl) (tokBase true) m ∧ Below w.heap.size w w' := by
  have HV := Lib.hid h
  obtain ⟨A, c, B, d, rfl, -, -⟩ := h.form
  have hb := al1 w (.cells #[.slice A hs.length c, .slice B rl.length d] 68)
  clear h
  go_enter Try.func55, Try.ntmps55
  go_wp2_with fail
  refine (comeTo_any hs rl _ 1048576 hi _ (HV.out.below hb hh) (by simp; omega) (by omega) hrl).mono ?_
  rintro e w1 ⟨m, rfl, hfix, b1⟩
  go_wp2
  go_ret
  exact ⟨m, rfl, hfix, hb.trans (b1.mono (by simp))⟩
end Go.Proofs.Ytmhdbjoljonhdaa
