import Derived.Test.YtbaofldcdcllfaaJToldS
import Derived.Test.YtbaofldcdcllfaaJOi
/- The walks of comeTo, nullable and productive. -/
namespace Go.Proofs.Ytbaofldcdcllfaa
open Go.RowKit

theorem Row.made1 (w : World) (o : Obj) (t : TypeId) (cur : Array Value) : Row ((w.alloc o).alloc (.cells cur t)) (w.heap.size + 1) t cur := by simpa using Row.made (w.alloc o) t cur

set_option maxRecDepth 100000 in
set_option maxHeartbeats 2000000 in
theorem comeStep_any (rl : List RuleN) (p hi k : Nat) (hv : Value) (B : Option Addr) (d : Nat) (w : World) (hr : Row w p 156 #[hv, .slice B rl.length d]) (h : RulesN w hi (.slice B rl.length d) rl) (hh : hi ≤ w.heap.size) (hk : k < 4194304) :
    Calls Try.prog 131 #[.int .u32 (k : Int), .pointer (some ⟨p, 0, none⟩)] w fun e w' => e = .returned (.int .u32 ((stepCome rl k : Nat) : Int)) ∧ Below w.heap.size w w' := by
  obtain ⟨B', d', e', hlc, hc, hcell⟩ := h
  injection e' with e1 _ e2
  subst e1 e2
  unfold maxLen at hc
  have hlt : ∀ j, gather (fun r => holdsB k (joinAll r.body)) (·.head) (rl.take j) < 4194304 := fun j => gather_lt fun r hr => by
    have hm := List.mem_of_mem_take hr
    obtain ⟨i, hi, rfl⟩ := List.getElem_of_mem hm
    obtain ⟨_, _, _, _, hcc⟩ := hcell (by omega)
    exact (hcc i hi).2.1
  have HC := Lib.hid hcell
  have HL := Lib.hid hlt
  clear hcell hlt
  have c1 := hr.cell 1
  simp at c1
  have hpl := hr.lt
  clear hr
  unfold stepCome
  go_enter Try.func131, Try.ntmps131
  go_wp2
  go_loopw [4, 6, 10] (fun o _ i wr => ∃ j : Nat, j ≤ rl.length ∧ i = .int .i64 j ∧ o = .int .u32 ((gather (fun r => holdsB k (joinAll r.body)) (·.head) (rl.take j) : Nat) : Int) ∧ Below w.heap.size w wr) (fun _ _ i _ => rl.length - (intOf i).toNat)
  case atStart => exact ⟨0, by omega, rfl, rfl, Below.refl _ _⟩
  case round =>
    obtain ⟨j, hj, rfl, rfl, hbw⟩ := hrel
    have hsw := hbw.size
    by_cases hlt : j < rl.length
    · obtain ⟨b, off, rfl, hbh, hcc⟩ := HC.out (by omega)
      obtain ⟨hn, hhd, d0, d1, u, d2, hB⟩ := hcc j hlt
      have d0' := (hbw.cell (p := ⟨b, off + j * 3, none⟩) (by show b < _; omega)).trans d0
      have d1' := (hbw.cell (p := ⟨b, off + j * 3 + 1, none⟩) (by show b < _; omega)).trans d1
      have d2' := (hbw.cell (p := ⟨b, off + j * 3 + 2, none⟩) (by show b < _; omega)).trans d2
      have hB' := hB.below hbw (by omega)
      clear hcc d0 d1 d2 hB
      have HB := Lib.hid hB'
      obtain ⟨A', c', rfl, -, -, hbz, -⟩ := hB'
      have hjl := joinAll_lt hbz
      have hol := HL.out j
      have ha := al1 wr (.cells #[.int .i64 (rl[j].num : Int), .int .u32 (rl[j].head : Int), .slice A' rl[j].body.length c'] 163)
      have R1 := Row.made wr 163 #[.int .i64 (rl[j].num : Int), .int .u32 (rl[j].head : Int), .slice A' rl[j].body.length c']
      clear hbz
      cases hq : holdsB k (joinAll rl[j].body)
      · have HQ := Lib.hid hq
        have HG := Lib.hid (gather_f (p := fun r => holdsB k (joinAll r.body)) (f := (·.head)) hlt hq)
        clear hq
        go_wp2_with fail
        refine (joinSets_any _ rl[j].body hi _ (HB.out.below ha (by omega))).mono ?_
        rintro e w1 ⟨rfl, rfl⟩
        go_wp2_with fail
        refine (holds_any k _ _ hk hjl).mono ?_
        rintro e w1 ⟨rfl, rfl⟩
        rw [HQ.out]
        go_wp2
        go_roundw
        case rel => exact ⟨j + 1, by omega, by go_num, by rw [HG.out], hbw.trans (ha.mono hsw)⟩
        case measure => simp [intOf]; omega
      · have HQ := Lib.hid hq
        have HG := Lib.hid (gather_t (p := fun r => holdsB k (joinAll r.body)) (f := (·.head)) hlt hq)
        clear hq
        go_wp2_with fail
        refine (joinSets_any _ rl[j].body hi _ (HB.out.below ha (by omega))).mono ?_
        rintro e w1 ⟨rfl, rfl⟩
        go_wp2_with fail
        refine (holds_any k _ _ hk hjl).mono ?_
        rintro e w1 ⟨rfl, rfl⟩
        rw [HQ.out]
        have R2 := Row.made1 wr (.cells #[.int .i64 (rl[j].num : Int), .int .u32 (rl[j].head : Int), .slice A' rl[j].body.length c'] 163) 160 #[.int .u32 ((gather (fun r => holdsB k (joinAll r.body)) (·.head) (rl.take j) : Nat) : Int), .int .u32 (rl[j].head : Int)]
        go_wp2_with fail
        refine (joinTwo_any (wr.heap.size + 1) (gather (fun r => holdsB k (joinAll r.body)) (·.head) (rl.take j)) rl[j].head 160 _ R2 hol hhd).mono ?_
        rintro e w1 ⟨rfl, rfl⟩
        go_wp2
        go_roundw
        case rel => exact ⟨j + 1, by omega, by go_num, by rw [HG.out], (hbw.trans (ha.mono hsw)).trans ((al1 _ _).mono (by simp; omega))⟩
        case measure => simp [intOf]; omega
    · have hks : j = rl.length := by omega
      subst hks
      go_wp2
      go_ret
      exact ⟨ret_u32 (by rw [List.take_length]), hbw⟩

set_option maxRecDepth 100000 in
set_option maxHeartbeats 1000000 in
theorem comeTo_any (hs : List ByteArray) (rl : List RuleN) (v : Value) (n hi : Nat) (w : World) (h : SetsG w hi v hs rl) (hh : hi ≤ w.heap.size) (hn : n < 4194304) (hrl : ∀ r ∈ rl, r.head < 4194304) :
    Calls Try.prog 128 #[v, .int .u32 (n : Int)] w fun e w' => ∃ m : Nat, e = .returned (.int .u32 (m : Int)) ∧ FixAt (stepCome rl) n m ∧ Below w.heap.size w w' := by
  have hmf : ∀ (fn : Fn) (first cap : Array Value) (w : World), (Instr.makeFunc fn first cap).run Try.prog w = .ok (.func fn first cap) w := fun _ _ _ _ => rfl
  obtain ⟨A, c, B, d, rfl, -, hR⟩ := h.form
  have hb := al1 w (.cells #[.slice A hs.length c, .slice B rl.length d] 156)
  have R0 := Row.made w 156 #[.slice A hs.length c, .slice B rl.length d]
  have HF : Hid (∀ k, k < 4194304 → stepCome rl k < 4194304) := Lib.hid fun k _ => gather_lt hrl
  have HM : Hid (MakesSet 131 #[.pointer (some ⟨w.heap.size, 0, none⟩)] (stepCome rl) (w.alloc (.cells #[.slice A hs.length c, .slice B rl.length d] 156))) := Lib.hid fun W k hk bW =>
    comeStep_any rl w.heap.size hi k _ B d W (R0.below bW (by simp)) ((hR.below hb hh).below bW (by simp; omega)) (by have := bW.size; simp at this; omega) hk
  clear hR h R0
  go_enter Try.func128, Try.ntmps128
  go_wp2_with fail
  refine (fixedPoint_any _ _ (enters_of Try.func131 (by kernel_rfl) rfl) (stepCome rl) n _ hn HF.out HM.out).mono ?_
  rintro e w1 ⟨m, rfl, hfix, b1⟩
  go_wp2
  go_ret
  exact ⟨m, rfl, hfix, hb.trans (b1.mono (by simp))⟩

set_option maxHeartbeats 1000000 in
theorem productive_any (hs : List ByteArray) (rl : List RuleN) (v : Value) (hi : Nat) (w : World) (h : SetsG w hi v hs rl) (hh : hi ≤ w.heap.size) (hrl : ∀ r ∈ rl, r.head < 4194304) :
    Calls Try.prog 123 #[v] w fun e w' => ∃ m : Nat, e = .returned (.int .u32 (m : Int)) ∧ FixAt (stepCome rl) (tokBase true) m ∧ Below w.heap.size w w' := by
  have HV := Lib.hid h
  obtain ⟨A, c, B, d, rfl, -, -⟩ := h.form
  have hb := al1 w (.cells #[.slice A hs.length c, .slice B rl.length d] 156)
  clear h
  go_enter Try.func123, Try.ntmps123
  go_wp2_with fail
  refine (comeTo_any hs rl _ 1048576 hi _ (HV.out.below hb hh) (by simp; omega) (by omega) hrl).mono ?_
  rintro e w1 ⟨m, rfl, hfix, b1⟩
  go_wp2
  go_ret
  exact ⟨m, rfl, hfix, hb.trans (b1.mono (by simp))⟩
end Go.Proofs.Ytbaofldcdcllfaa

/- What came in, laid anew, on: toRule, toRuleS, toGram. -/
namespace Go.Proofs.Ytbaofldcdcllfaa
open Go.RowKit

set_option maxHeartbeats 1000000 in
theorem toRule_any (r : RuleD) (u : Value) (lo hi : Nat) (w : World) (h : Strs w lo hi u r.body) (hhi : hi ≤ w.heap.size) (hn : r.body.length ≤ 1048576) :
    Calls Try.prog 66 #[.agg #[.string r.head, u]] w fun e w' => ∃ x g, e = .returned (.agg #[.string r.head, x]) ∧ OwnS w' g x r.body ∧ w.heap.size ≤ g ∧ g < w'.heap.size ∧ Below w.heap.size w w' := by
  go_enter Try.func66, Try.ntmps66
  go_wp2_with fail
  refine (toStringS_any u r.body lo hi _ (h.below (B := w.heap.size) (al3 _ _ _ _) hhi) (by simp; omega) hn).mono ?_
  rintro e w1 ⟨x, rfl, hown, hlt, hb⟩
  have hb0 : Below w.heap.size w w1 := (al3 _ _ _ _).trans (hb.mono (by simp; omega))
  have R1 : Row w1 (w.heap.size + 1) 101 #[.string ⟨#[]⟩, .slice none 0 0] := by
    refine Row.below (Row.alloc ?_ _) hb (by simp)
    simpa using Row.made (w.alloc (.cells #[Value.string r.head, u] 100)) 101 #[.string ⟨#[]⟩, .slice none 0 0]
  have R2 : Row w1 (w.heap.size + 1 + 1) 101 #[.string r.head, .slice none 0 0] := by
    refine Row.below ?_ hb (by simp)
    simpa using Row.made ((w.alloc (.cells #[Value.string r.head, u] 100)).alloc (.cells #[.string ⟨#[]⟩, .slice none 0 0] 101)) 101 #[.string r.head, .slice none 0 0]
  clear hb
  have hg : w.heap.size + 1 + 1 + 1 < w1.heap.size := by simpa using hlt
  have hown' : OwnS w1 (w.heap.size + 1 + 1 + 1) x r.body := by simpa using hown
  clear hown hlt
  have c10 := R1.cell 0
  have c11 := R1.cell 1
  have c20 := R2.cell 0
  have c21 := R2.cell 1
  simp at c10 c11 c20 c21
  have f10 := R1.free 0
  have f11 := R1.free 1
  have f20 := R2.free 0
  have f21 := R2.free 1
  clear R1 R2
  have HO := Lib.hid hown'
  obtain ⟨A, c, rfl, -⟩ := hown'
  go_wp2
  refine bodyPost_ret (v := .agg #[.string r.head, .slice A r.body.length c]) (by simp [results, Try.results66, go_sem, c10, c11]) rfl ⟨_, w.heap.size + 1 + 1 + 1, rfl, ?_, by omega, by simpa [World.setCell] using hg, ?_⟩
  · refine HO.out.keep fun _ => ?_
    rw [Below.heap_setCell _ _ _ _ (by simp; omega), Below.heap_setCell _ _ _ _ (by simp; omega), Below.heap_setCell _ _ _ _ (by simp)]
  · exact ((hb0.setCell (by simp; omega) _).setCell (by simp) _).setCell (by simp) _
end Go.Proofs.Ytbaofldcdcllfaa
