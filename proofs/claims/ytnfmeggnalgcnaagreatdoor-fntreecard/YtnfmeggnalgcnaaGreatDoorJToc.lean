import Derived.Test.YtnfmeggnalgcnaaGreatDoorJToldS
import Derived.Test.YtnfmeggnalgcnaaGreatDoorJTo
/- The walks of comeTo, nullable and productive. -/
namespace Go.Proofs.YtnfmeggnalgcnaaGreatDoor
open Go.RowKit

theorem Row.made1 (w : World) (o : Obj) (t : TypeId) (cur : Array Value) : Row ((w.alloc o).alloc (.cells cur t)) (w.heap.size + 1) t cur := by simpa using Row.made (w.alloc o) t cur

set_option maxRecDepth 100000 in
set_option maxHeartbeats 2000000 in
theorem comeStep_any (rl : List RuleN) (p hi k : Nat) (hv : Value) (B : Option Addr) (d : Nat) (w : World) (hr : Row w p 138 #[hv, .slice B rl.length d]) (h : RulesN w hi (.slice B rl.length d) rl) (hh : hi ≤ w.heap.size) (hk : k < 4194304) :
    Calls Tryz.prog 109 #[.int .u32 (k : Int), .pointer (some ⟨p, 0, none⟩)] w fun e w' => e = .returned (.int .u32 ((stepCome rl k : Nat) : Int)) ∧ Below w.heap.size w w' := by
  obtain ⟨B', d', e', hlc, hc, hcell⟩ := h
  injection e' with e1 _ e2
  subst e1 e2
  unfold maxLen at hc
  have hlt : ∀ j, gather (fun r => holdsB k (joinAll r.body)) (·.head) (rl.take j) < 4194304 := fun j => gather_lt fun r hr => by
    have hm := List.mem_of_mem_take hr
    obtain ⟨i, hi, rfl⟩ := List.getElem_of_mem hm
    obtain ⟨_, _, _, _, hcc⟩ := hcell (by omega)
    exact (hcc i hi).2.1
  have HC := Lib.hid hcell
  have HL := Lib.hid hlt
  clear hcell hlt
  have c1 := hr.cell 1
  simp at c1
  have hpl := hr.lt
  clear hr
  unfold stepCome
  go_enter Tryz.func109, Tryz.ntmps109
  go_wp2
  go_loopw [4, 6, 10] (fun o _ i wr => ∃ j : Nat, j ≤ rl.length ∧ i = .int .i64 j ∧ o = .int .u32 ((gather (fun r => holdsB k (joinAll r.body)) (·.head) (rl.take j) : Nat) : Int) ∧ Below w.heap.size w wr) (fun _ _ i _ => rl.length - (intOf i).toNat)
  case atStart => exact ⟨0, by omega, rfl, rfl, Below.refl _ _⟩
  case round =>
    obtain ⟨j, hj, rfl, rfl, hbw⟩ := hrel
    have hsw := hbw.size
    by_cases hlt : j < rl.length
    · obtain ⟨b, off, rfl, hbh, hcc⟩ := HC.out (by omega)
      obtain ⟨hn, hhd, d0, d1, u, d2, hB⟩ := hcc j hlt
      have d0' := (hbw.cell (p := ⟨b, off + j * 3, none⟩) (by show b < _; omega)).trans d0
      have d1' := (hbw.cell (p := ⟨b, off + j * 3 + 1, none⟩) (by show b < _; omega)).trans d1
      have d2' := (hbw.cell (p := ⟨b, off + j * 3 + 2, none⟩) (by show b < _; omega)).trans d2
      have hB' := hB.below hbw (by omega)
      clear hcc d0 d1 d2 hB
      have HB := Lib.hid hB'
      obtain ⟨A', c', rfl, -, -, hbz, -⟩ := hB'
      have hjl := joinAll_lt hbz
      have hol := HL.out j
      have ha := al1 wr (.cells #[.int .i64 (rl[j].num : Int), .int .u32 (rl[j].head : Int), .slice A' rl[j].body.length c'] 145)
      have R1 := Row.made wr 145 #[.int .i64 (rl[j].num : Int), .int .u32 (rl[j].head : Int), .slice A' rl[j].body.length c']
      clear hbz
      cases hq : holdsB k (joinAll rl[j].body)
      · have HQ := Lib.hid hq
        have HG := Lib.hid (gather_f (p := fun r => holdsB k (joinAll r.body)) (f := (·.head)) hlt hq)
        clear hq
        go_wp2_with fail
        refine (joinSets_any _ rl[j].body hi _ (HB.out.below ha (by omega))).mono ?_
        rintro e w1 ⟨rfl, rfl⟩
        go_wp2_with fail
        refine (holds_any k _ _ hk hjl).mono ?_
        rintro e w1 ⟨rfl, rfl⟩
        rw [HQ.out]
        go_wp2
        go_roundw
        case rel => exact ⟨j + 1, by omega, by go_num, by rw [HG.out], hbw.trans (ha.mono hsw)⟩
        case measure => simp [intOf]; omega
      · have HQ := Lib.hid hq
        have HG := Lib.hid (gather_t (p := fun r => holdsB k (joinAll r.body)) (f := (·.head)) hlt hq)
        clear hq
        go_wp2_with fail
        refine (joinSets_any _ rl[j].body hi _ (HB.out.below ha (by omega))).mono ?_
        rintro e w1 ⟨rfl, rfl⟩
        go_wp2_with fail
        refine (holds_any k _ _ hk hjl).mono ?_
        rintro e w1 ⟨rfl, rfl⟩
        rw [HQ.out]
        have R2 := Row.made1 wr (.cells #[.int .i64 (rl[j].num : Int), .int .u32 (rl[j].head : Int), .slice A' rl[j].body.length c'] 145) 142 #[.int .u32 ((gather (fun r => holdsB k (joinAll r.body)) (·.head) (rl.take j) : Nat) : Int), .int .u32 (rl[j].head : Int)]
        go_wp2_with fail
        refine (joinTwo_any (wr.heap.size + 1) (gather (fun r => holdsB k (joinAll r.body)) (·.head) (rl.take j)) rl[j].head 142 _ R2 hol hhd).mono ?_
        rintro e w1 ⟨rfl, rfl⟩
        go_wp2
        go_roundw
        case rel => exact ⟨j + 1, by omega, by go_num, by rw [HG.out], (hbw.trans (ha.mono hsw)).trans ((al1 _ _).mono (by simp; omega))⟩
        case measure => simp [intOf]; omega
    · have hks : j = rl.length := by omega
      subst hks
      go_wp2
      go_ret
      exact ⟨ret_u32 (by rw [List.take_length]), hbw⟩

set_option maxRecDepth 100000 in
set_option maxHeartbeats 1000000 in
theorem comeTo_any (hs : List ByteArray) (rl : List RuleN) (v : Value) (n hi : Nat) (w : World) (h : SetsG w hi v hs rl) (hh : hi ≤ w.heap.size) (hn : n < 4194304) (hrl : ∀ r ∈ rl, r.head < 4194304) :
    Calls Tryz.prog 101 #[v, .int .u32 (n : Int)] w fun e w' => ∃ m : Nat, e = .returned (.int .u32 (m : Int)) ∧ FixAt (stepCome rl) n m ∧ Below w.heap.size w w' := by
  have hmf : ∀ (fn : Fn) (first cap : Array Value) (w : World), (Instr.makeFunc fn first cap).run Tryz.prog w = .ok (.func fn first cap) w := fun _ _ _ _ => rfl
  obtain ⟨A, c, B, d, rfl, -, hR⟩ := h.form
  have hb := al1 w (.cells #[.slice A hs.length c, .slice B rl.length d] 138)
  have R0 := Row.made w 138 #[.slice A hs.length c, .slice B rl.length d]
  have HF : Hid (∀ k, k < 4194304 → stepCome rl k < 4194304) := Lib.hid fun k _ => gather_lt hrl
  have HM : Hid (MakesSet 109 #[.pointer (some ⟨w.heap.size, 0, none⟩)] (stepCome rl) (w.alloc (.cells #[.slice A hs.length c, .slice B rl.length d] 138))) := Lib.hid fun W k hk bW =>
    comeStep_any rl w.heap.size hi k _ B d W (R0.below bW (by simp)) ((hR.below hb hh).below bW (by simp; omega)) (by have := bW.size; simp at this; omega) hk
  clear hR h R0
  go_enter Tryz.func101, Tryz.ntmps101
  go_wp2_with fail
  refine (fixedPoint_any _ _ (enters_of Tryz.func109 (by kernel_rfl) rfl) (stepCome rl) n _ hn HF.out HM.out).mono ?_
  rintro e w1 ⟨m, rfl, hfix, b1⟩
  go_wp2
  go_ret
  exact ⟨m, rfl, hfix, hb.trans (b1.mono (by simp))⟩

set_option maxHeartbeats 1000000 in
theorem productive_any (hs : List ByteArray) (rl : List RuleN) (v : Value) (hi : Nat) (w : World) (h : SetsG w hi v hs rl) (hh : hi ≤ w.heap.size) (hrl : ∀ r ∈ rl, r.head < 4194304) :
    Calls Tryz.prog 85 #[v] w fun e w' => ∃ m : Nat, e = .returned (.int .u32 (m : Int)) ∧ FixAt (stepCome rl) (tokBase true) m ∧ Below w.heap.size w w' := by
  have HV := Lib.hid h
  obtain ⟨A, c, B, d, rfl, -, -⟩ := h.form
  have hb := al1 w (.cells #[.slice A hs.length c, .slice B rl.length d] 138)
  clear h
  go_enter Tryz.func85, Tryz.ntmps85
  go_wp2_with fail
  refine (comeTo_any hs rl _ 1048576 hi _ (HV.out.below hb hh) (by simp; omega) (by omega) hrl).mono ?_
  rintro e w1 ⟨m, rfl, hfix, b1⟩
  go_wp2
  go_ret
  exact ⟨m, rfl, hfix, hb.trans (b1.mono (by simp))⟩
end Go.Proofs.YtnfmeggnalgcnaaGreatDoor

/- What came in, laid anew, on: toRule, toRuleS, toGram. -/
namespace Go.Proofs.YtnfmeggnalgcnaaGreatDoor
open Go.RowKit

end Go.Proofs.YtnfmeggnalgcnaaGreatDoor

/- What came in, laid anew, on: toRuleS, toGram. -/
namespace Go.Proofs.YtnfmeggnalgcnaaGreatDoor
open Go.RowKit

theorem Tryz.infoRule : (Tryz.prog.info? 45).map (fun i => (i.zero, i.size, i.bytes)) = some (some (.agg #[.string ByteArray.empty, .slice none 0 0]), 2, 40) := by kernel_rfl

/-- k of the rules are laid in block g, their bodies in blocks behind it -/
def BuildR (w : World) (g : Nat) (rs : List RuleD) (k : Nat) : Prop :=
  ∃ (cur : Array Value) (G : Nat → Nat), Row w g 45 cur ∧ cur.size = rs.length * 2 ∧
    (∀ i (h : i < rs.length), i < k → cur[i * 2]? = some (.string rs[i].head) ∧ ∃ u, cur[i * 2 + 1]? = some u ∧ OwnS w (G i) u rs[i].body ∧ g < G i ∧ G i < w.heap.size) ∧
    ∀ i j, i < j → j < k → G i < G j
theorem BuildR.start (w : World) (rs : List RuleD) (z : Array Value) : BuildR (w.alloc (.cells (madeCells z (rs.length * 2)) 45)) w.heap.size rs 0 :=
  ⟨_, fun _ => 0, Row.made w _ _, size_madeCells _ _, fun _ _ h => by omega, fun _ _ _ h => by omega⟩
theorem BuildR.row {w : World} {g k : Nat} {rs : List RuleD} (h : BuildR w g rs k) : ∃ cur, Row w g 45 cur ∧ cur.size = rs.length * 2 := by
  obtain ⟨cur, G, h1, h2, _⟩ := h
  exact ⟨cur, h1, h2⟩
theorem BuildR.step {w w1 : World} {g k gb : Nat} {rs : List RuleD} {u : Value} (h : BuildR w g rs k) (hk : k < rs.length) (hb : Below w.heap.size w w1) (ho : OwnS w1 gb u rs[k].body) (h1 : w.heap.size ≤ gb) (h2 : gb < w1.heap.size) :
    BuildR ((w1.setCell ⟨g, k * 2, none⟩ (.string rs[k].head)).setCell ⟨g, k * 2 + 1, none⟩ u) g rs (k + 1) := by
  obtain ⟨cur, G, hr, hs, hc, hG⟩ := h
  have hgl := hr.lt
  have r1 := ((hr.below hb hgl).put (k * 2) (.string rs[k].head)).put (k * 2 + 1) u
  have hsz : ((w1.setCell ⟨g, k * 2, none⟩ (.string rs[k].head)).setCell ⟨g, k * 2 + 1, none⟩ u).heap.size = w1.heap.size := by simp [World.setCell]
  have hot : ∀ p, p ≠ g → ((w1.setCell ⟨g, k * 2, none⟩ (.string rs[k].head)).setCell ⟨g, k * 2 + 1, none⟩ u).heap[p]? = w1.heap[p]? := fun p hp => by
    rw [Below.heap_setCell _ _ _ _ (by exact hp), Below.heap_setCell _ _ _ _ (by exact hp)]
  refine ⟨_, fun i => if i = k then gb else G i, r1, by simp [hs], fun i hi hik => ?_, fun i j hij hj => ?_⟩
  · by_cases e : i = k
    · subst e
      refine ⟨?_, u, ?_, ?_, ?_, ?_⟩
      · rw [Array.getElem?_setIfInBounds_ne (by omega), Array.getElem?_setIfInBounds_self_of_lt (by omega)]
      · rw [Array.getElem?_setIfInBounds_self_of_lt (by simp; omega)]
      · simp only [if_true]
        exact ho.keep fun _ => hot gb (by omega)
      · simp only [if_true]; omega
      · simp only [if_true]; rw [hsz]; exact h2
    · obtain ⟨a1, v, a2, a3, a4, a5⟩ := hc i hi (by omega)
      refine ⟨?_, v, ?_, ?_, ?_, ?_⟩
      · rw [Array.getElem?_setIfInBounds_ne (by omega), Array.getElem?_setIfInBounds_ne (by omega)]; exact a1
      · rw [Array.getElem?_setIfInBounds_ne (by omega), Array.getElem?_setIfInBounds_ne (by omega)]; exact a2
      · simp only [if_neg e]
        exact a3.keep fun _ => (hot _ (by omega)).trans (hb.block _ a5)
      · simp only [if_neg e]; exact a4
      · simp only [if_neg e]; rw [hsz]; have := hb.size; omega
  · by_cases e : j = k
    · have hi : ¬ i = k := by omega
      simp only [if_neg hi, if_pos e]
      obtain ⟨_, _, _, _, _, a5⟩ := hc i (by omega) (by omega)
      omega
    · have hi : ¬ i = k := by omega
      simp only [if_neg hi, if_neg e]
      exact hG i j hij (by omega)
theorem BuildR.done {w : World} {g lo : Nat} {rs : List RuleD} (h : BuildR w g rs rs.length) (hl : lo ≤ g) (hm : rs.length ≤ maxLen) (hh : ∀ i (h : i < rs.length), rs[i].head.size ≤ maxLen) : OwnR w lo w.heap.size (.slice (some ⟨g, 0, none⟩) rs.length rs.length) rs := by
  obtain ⟨cur, G, hr, hs, hc, hG⟩ := h
  refine ⟨_, _, rfl, Nat.le_refl _, hm, fun _ => ⟨g, cur, G, rfl, hl, hr.lt, hr, fun i hi => ?_, fun i j hi hj _ _ => ?_⟩⟩
  · obtain ⟨a1, v, a2, a3, a4, a5⟩ := hc i hi hi
    exact ⟨hh i hi, a1, v, a2, a3, fun _ => ⟨by omega, a5⟩⟩
  · have := hG i j hi hj; omega

theorem bulk_body {rs : List RuleD} {k : Nat} (h : k < rs.length) : rs[k].body.length ≤ bulkR rs := by
  have h1 := rulesTo_succ rs k h
  have h2 := rulesTo_le rs (k + 1)
  unfold bulkS at h1
  omega
theorem bulk_len (rs : List RuleD) : rs.length ≤ bulkR rs := by unfold bulkR; omega

end Go.Proofs.YtnfmeggnalgcnaaGreatDoor
