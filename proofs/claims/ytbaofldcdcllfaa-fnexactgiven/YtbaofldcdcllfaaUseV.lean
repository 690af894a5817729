/- The walks of fruitful's question and useful's, of fruitful and of useful. -/
import Derived.Test.YtbaofldcdcllfaaUseW
namespace Go.Proofs.Ytbaofldcdcllfaa
open Go.RowKit

def notProd (m : Nat) (r : RuleN) : Bool := !holdsB m (joinAll r.body)
def notReached (m : Nat) (r : RuleN) : Bool := !holdsB m r.head

set_option maxRecDepth 100000 in
set_option maxHeartbeats 1000000 in
theorem useful1_any (u : Value) (r : RuleN) (hi m q : Nat) (w : World) (h : BitsAt w hi u r.body) (hh : hi ≤ w.heap.size) (hq : Row w q 160 #[.int .u32 (m : Int)]) (hm : m < 4194304) :
    Calls Try.prog 124 #[.agg #[.int .i64 (r.num : Int), .int .u32 (r.head : Int), u], .pointer (some ⟨q, 0, none⟩)] w fun e w' => e = .returned (.bool (notProd m r)) ∧ Below w.heap.size w w' := by
  have HV := Lib.hid h
  obtain ⟨A, c, rfl, -, -, hz, -⟩ := h
  have hjl := joinAll_lt hz
  clear hz
  have hb := al1 w (.cells #[.int .i64 (r.num : Int), .int .u32 (r.head : Int), .slice A r.body.length c] 163)
  have R1 := Row.made w 163 #[.int .i64 (r.num : Int), .int .u32 (r.head : Int), .slice A r.body.length c]
  have hsz : (w.alloc (.cells #[.int .i64 (r.num : Int), .int .u32 (r.head : Int), .slice A r.body.length c] 163)).heap.size = w.heap.size + 1 := by simp
  go_enter Try.func124, Try.ntmps124
  go_wp2
  generalize w.alloc (.cells #[.int .i64 (r.num : Int), .int .u32 (r.head : Int), .slice A r.body.length c] 163) = wA at *
  have cq := (hq.below hb hq.lt).cell 0
  have r2 := R1.cell 2
  simp at cq r2
  have hlq := hq.lt
  have hlA := R1.lt
  have HSZ := Lib.hid hsz
  have HB0 : Hid (BitsAt wA.drew hi (.slice A r.body.length c) r.body) := Lib.hid (HV.out.below hb.drew hh)
  clear hsz R1 hq
  go_region_held3 (fun w' => w'.cell? ⟨q, 0, none⟩ = some (.int .u32 (m : Int)) ∧ w'.cell? ⟨w.heap.size, 2, none⟩ = some (.slice A r.body.length c))
    (first | go_keep | (refine ⟨?_, ?_⟩ <;> assumption))
    (first
      | (go_at_call 125; refine (wholeBody_any _ r.body hi wA.drew HB0.out).mono ?_; rintro e w6 ⟨rfl, rfl⟩)
      | (go_at_call 118; refine (holds_any m (joinAll r.body) _ hm hjl).mono ?_; rintro e w7 ⟨rfl, rfl⟩))
  go_wp2
  go_ret
  exact ⟨rfl, hb.drew⟩

set_option maxRecDepth 100000 in
set_option maxHeartbeats 1000000 in
theorem useful2_any (u : Value) (r : RuleN) (hi m q : Nat) (w : World) (h : BitsAt w hi u r.body) (hq : Row w q 160 #[.int .u32 (m : Int)]) (hm : m < 4194304) (hr : r.head < 4194304) :
    Calls Try.prog 117 #[.agg #[.int .i64 (r.num : Int), .int .u32 (r.head : Int), u], .pointer (some ⟨q, 0, none⟩)] w fun e w' => e = .returned (.bool (notReached m r)) ∧ Below w.heap.size w w' := by
  obtain ⟨A, c, rfl, -⟩ := h
  have hb := al1 w (.cells #[.int .i64 (r.num : Int), .int .u32 (r.head : Int), .slice A r.body.length c] 163)
  have cq := (hq.below hb hq.lt).cell 0
  simp at cq
  have hlq := hq.lt
  clear hq
  go_enter Try.func117, Try.ntmps117
  go_wp2_with fail
  refine (holds_any m r.head _ hm hr).mono ?_
  rintro e w7 ⟨rfl, rfl⟩
  go_wp2
  go_ret
  exact ⟨rfl, hb⟩

theorem keepN_sub {p : RuleN → Bool} {rl : List RuleN} {r : RuleN} (h : r ∈ keepN p rl) : r ∈ rl := (List.mem_filter.1 h).1
theorem keepN_len' (p : RuleN → Bool) (rl : List RuleN) : (keepN p rl).length ≤ rl.length := List.length_filter_le _ _
/-- what useful leaves of a grammar of sets -/
def UseAt (rl rl' : List RuleN) : Prop := ∃ m1 m2 : Nat, FixAt (stepCome rl) (tokBase true) m1 ∧ FixAt (stepAfter (keepN (notProd m1) rl) 1 joinAll) 0 m2 ∧ rl' = keepN (notReached (1 ||| m2)) (keepN (notProd m1) rl)

set_option maxRecDepth 100000 in
set_option maxHeartbeats 2000000 in
theorem fruitful_any (hs : List ByteArray) (rl : List RuleN) (v : Value) (hi : Nat) (w : World) (h : SetsG w hi v hs rl) (hh : hi ≤ w.heap.size) (hl20 : rl.length ≤ 20) (hrl : ∀ r ∈ rl, r.head < 4194304) :
    Calls Try.prog 114 #[v] w fun e w' => ∃ x m1, e = .returned x ∧ SetsX w' w.heap.size hi x hs (keepN (notProd m1) rl) ∧ FixAt (stepCome rl) (tokBase true) m1 ∧ Below w.heap.size w w' := by
  have hmf : ∀ (fn : Fn) (first cap : Array Value) (w : World), (Instr.makeFunc fn first cap).run Try.prog w = .ok (.func fn first cap) w := fun _ _ _ _ => rfl
  have HV := Lib.hid h
  have HRL := Lib.hid hrl
  obtain ⟨A, c, B, d, rfl, -, -⟩ := h.form
  have hb := al2 w (.cells #[.slice A hs.length c, .slice B rl.length d] 156) (.cells #[.slice none 0 0, .slice none 0 0] 156)
  have R0 := (Row.made w 156 #[.slice A hs.length c, .slice B rl.length d]).alloc (.cells #[.slice none 0 0, .slice none 0 0] 156)
  have R1 := Row.made1 w (.cells #[.slice A hs.length c, .slice B rl.length d] 156) 156 #[.slice none 0 0, .slice none 0 0]
  clear h hrl
  go_enter Try.func114, Try.ntmps114
  go_wp2_with fail
  refine (productive_any hs rl _ hi _ (HV.out.below hb hh) (by simp; omega) HRL.out).mono ?_
  rintro e w1 ⟨m1, rfl, hfix1, b1⟩
  have hb1 := hb.trans (b1.mono (by simp; omega))
  have z1 : w.heap.size + 2 ≤ w1.heap.size := by have := b1.size; simpa using this
  have RR0 := (R0.below b1 (by simp; omega)).alloc (.cells #[.int .u32 (m1 : Int)] 160)
  have RR1 := (R1.below b1 (by simp)).alloc (.cells #[.int .u32 (m1 : Int)] 160)
  have RQ := Row.made w1 160 #[.int .u32 (m1 : Int)]
  have hm1 := hfix1.1
  have a1 := al1 w1 (.cells #[.int .u32 (m1 : Int)] 160)
  have hb2 := hb1.trans (a1.mono hb1.size)
  have d0 := RR0.cell 0
  have d1 := RR0.cell 1
  simp at d0 d1
  have hl0 := RR0.lt
  have hsz : (w1.alloc (.cells #[.int .u32 (m1 : Int)] 160)).heap.size = w1.heap.size + 1 := by simp
  have HT1 : Hid (TestsRule 124 #[.pointer (some ⟨w1.heap.size, 0, none⟩)] (notProd m1) (w1.alloc (.cells #[.int .u32 (m1 : Int)] 160))) := Lib.hid fun W u r hi hB hh _ bW => useful1_any u r hi m1 w1.heap.size W hB hh (RQ.below bW (by omega)) hm1
  clear R0 R1 b1 hb RQ
  have HSZ := Lib.hid hsz
  clear hsz
  go_wp2_with fail
  refine (without_any hs rl _ hi hi _ _ (enters_of Try.func124 (by kernel_rfl) rfl) (notProd m1) _ ((HV.out.below hb2 hh).i (by rw [HSZ.out]; omega)) (by rw [HSZ.out]; omega) (by rw [HSZ.out]; omega) hl20 HT1.out).mono ?_
  rintro e w7 ⟨x, rfl, SX7, b7⟩
  have hb7 := hb2.trans (b7.mono (by rw [HSZ.out]; omega))
  have z7 : w1.heap.size + 1 ≤ w7.heap.size := by have := b7.size; rw [HSZ.out] at this; exact this
  have R71 := RR1.below b7 RR1.lt
  clear b7 RR0 RR1 d0 d1 a1 hl0
  obtain ⟨A7, c7, B7, d7, e7, -, -⟩ := SX7.i
  subst e7
  have i0 := R71.cell 0
  have i1 := R71.cell 1
  have k0 := R71.free 0
  have k1 := R71.free 1
  simp at i0 i1
  have h71 := R71.lt
  have RA : Row (w7.setCell ⟨w.heap.size + 1, 0, none⟩ (.slice A7 hs.length c7)) (w.heap.size + 1) 156 #[.slice A7 hs.length c7, .slice none 0 0] := by simpa using R71.put 0 (.slice A7 hs.length c7)
  have SY := (SX7.away (p := ⟨w.heap.size + 1, 0, none⟩) R71 (by show hi ≤ w.heap.size + 1; omega) (.slice A7 hs.length c7)).away (p := ⟨w.heap.size + 1, 1, none⟩) RA (by show hi ≤ w.heap.size + 1; omega) (.slice B7 (keepN (notProd m1) rl).length d7)
  have BB := (hb7.setCell (p := ⟨w.heap.size + 1, 0, none⟩) (by show w.heap.size ≤ w.heap.size + 1; omega) (.slice A7 hs.length c7)).setCell (p := ⟨w.heap.size + 1, 1, none⟩) (by show w.heap.size ≤ w.heap.size + 1; omega) (.slice B7 (keepN (notProd m1) rl).length d7)
  have HFIN := Lib.hid (And.intro (SY.lower (base' := w.heap.size) (by rw [HSZ.out]; omega)) BB)
  clear SX7 SY BB RA R71
  go_wp2
  exact bodyPost_ret (v := .agg #[.slice A7 hs.length c7, .slice B7 (keepN (notProd m1) rl).length d7]) (by simp [results, Try.results114, go_sem, i0, i1]) rfl ⟨_, m1, rfl, HFIN.out.1, hfix1, HFIN.out.2⟩

set_option maxRecDepth 100000 in
set_option maxHeartbeats 2000000 in
theorem useful_any (hs : List ByteArray) (rl : List RuleN) (v : Value) (hi : Nat) (w : World) (h : SetsG w hi v hs rl) (hh : hi ≤ w.heap.size) (hl20 : rl.length ≤ 20) (hrl : ∀ r ∈ rl, r.head < 4194304) (htk : ∀ r ∈ rl, joinAll r.body < 4194304) :
    Calls Try.prog 101 #[v] w fun e w' => ∃ x rl', e = .returned x ∧ SetsG w' w'.heap.size x hs rl' ∧ UseAt rl rl' ∧ Below w.heap.size w w' := by
  have hmf : ∀ (fn : Fn) (first cap : Array Value) (w : World), (Instr.makeFunc fn first cap).run Try.prog w = .ok (.func fn first cap) w := fun _ _ _ _ => rfl
  have HV := Lib.hid h
  have HTK := Lib.hid htk
  have HRL := Lib.hid hrl
  obtain ⟨A, c, B, d, rfl, -, -⟩ := h.form
  have hb := al2 w (.cells #[.slice A hs.length c, .slice B rl.length d] 156) (.cells #[.slice none 0 0, .slice none 0 0] 156)
  have R0 := (Row.made w 156 #[.slice A hs.length c, .slice B rl.length d]).alloc (.cells #[.slice none 0 0, .slice none 0 0] 156)
  have R1 := Row.made1 w (.cells #[.slice A hs.length c, .slice B rl.length d] 156) 156 #[.slice none 0 0, .slice none 0 0]
  clear h htk hrl
  have zz : ((w.alloc (.cells #[.slice A hs.length c, .slice B rl.length d] 156)).alloc (.cells #[.slice none 0 0, .slice none 0 0] 156)).heap.size = w.heap.size + 2 := by simp
  have HZZ := Lib.hid zz
  clear zz
  go_enter Try.func101, Try.ntmps101
  go_wp2_with fail
  refine (fruitful_any hs rl _ hi _ (HV.out.below hb hh) (by rw [HZZ.out]; omega) hl20 HRL.out).mono ?_
  rintro e w3 ⟨x, m1, rfl, SX, hfix1, b3⟩
  have hb3 := hb.trans (b3.mono (by rw [HZZ.out]; omega))
  have z3 : w.heap.size + 2 ≤ w3.heap.size := by have := b3.size; rw [HZZ.out] at this; exact this
  have R30 := R0.below b3 R0.lt
  have R31 := R1.below b3 R1.lt
  clear b3 R0 R1
  obtain ⟨A3, c3, B3, d3, e3, -, -⟩ := SX.i
  subst e3
  have e0 := R30.cell 0
  have e1 := R30.cell 1
  have f0 := R30.free 0
  have f1 := R30.free 1
  simp at e0 e1
  have R40 : Row ((w3.setCell ⟨w.heap.size, 0, none⟩ (.slice A3 hs.length c3)).setCell ⟨w.heap.size, 1, none⟩ (.slice B3 (keepN (notProd m1) rl).length d3)) w.heap.size 156 #[.slice A3 hs.length c3, .slice B3 (keepN (notProd m1) rl).length d3] := by
    simpa using (R30.put 0 (.slice A3 hs.length c3)).put 1 (.slice B3 (keepN (notProd m1) rl).length d3)
  have SY := (SX.away (p := ⟨w.heap.size, 0, none⟩) R30 hh (.slice A3 hs.length c3)).away (p := ⟨w.heap.size, 1, none⟩) (R30.put 0 (.slice A3 hs.length c3)) hh (.slice B3 (keepN (notProd m1) rl).length d3)
  have R41 := (R31.away (p := ⟨w.heap.size, 0, none⟩) (by show w.heap.size + 1 ≠ w.heap.size; omega) (.slice A3 hs.length c3)).away (p := ⟨w.heap.size, 1, none⟩) (by show w.heap.size + 1 ≠ w.heap.size; omega) (.slice B3 (keepN (notProd m1) rl).length d3)
  have hb4 := (hb3.setCell (p := ⟨w.heap.size, 0, none⟩) (Nat.le_refl _) (.slice A3 hs.length c3)).setCell (p := ⟨w.heap.size, 1, none⟩) (Nat.le_refl _) (.slice B3 (keepN (notProd m1) rl).length d3)
  have hsz4 : ((w3.setCell ⟨w.heap.size, 0, none⟩ (.slice A3 hs.length c3)).setCell ⟨w.heap.size, 1, none⟩ (.slice B3 (keepN (notProd m1) rl).length d3)).heap.size = w3.heap.size := by simp [World.setCell]
  have c40 := R40.cell 0
  have c41 := R40.cell 1
  simp at c40 c41
  have h30 := R30.lt
  have h31 := R31.lt
  have HSZ4 := Lib.hid hsz4
  have HSY := Lib.hid SY
  have HR40 := Lib.hid R40
  have HR41 := Lib.hid R41
  have HB4 := Lib.hid hb4
  have HTK1 : Hid (∀ r ∈ keepN (notProd m1) rl, joinAll r.body < 4194304) := Lib.hid fun r hr => HTK.out r (keepN_sub hr)
  have HKL := Lib.hid (keepN_len' (notProd m1) rl)
  clear SX SY R40 R41 R30 R31 hsz4 hb4
  go_wp2_with fail
  refine (reachable_any hs (keepN (notProd m1) rl) _ _ _ (HSY.out.i.g (Nat.le_refl _) (by rw [HSZ4.out]; omega)) (Nat.le_refl _) HTK1.out).mono ?_
  rintro e w5 ⟨m2, rfl, hfix2, b5⟩
  have hm2 : (1 ||| m2) < 4194304 := or_lt (by omega) hfix2.1
  have z5 := b5.size
  have a5 := al1 w5 (.cells #[.int .u32 ((1 ||| m2 : Nat) : Int)] 160)
  have b6 := b5.trans (a5.mono z5)
  rw [HSZ4.out] at z5
  have hsz6 : (w5.alloc (.cells #[.int .u32 ((1 ||| m2 : Nat) : Int)] 160)).heap.size = w5.heap.size + 1 := by simp
  have SX6 := HSY.out.below b6 (by rw [HSZ4.out]; omega)
  have R60 := HR40.out.below b6 (by rw [HSZ4.out]; omega)
  have R61 := HR41.out.below b6 (by rw [HSZ4.out]; omega)
  have RQ6 := Row.made w5 160 #[.int .u32 ((1 ||| m2 : Nat) : Int)]
  have hb6 := HB4.out.trans (b6.mono (by rw [HSZ4.out]; omega))
  have HT2 : Hid (TestsRule 117 #[.pointer (some ⟨w5.heap.size, 0, none⟩)] (notReached (1 ||| m2)) (w5.alloc (.cells #[.int .u32 ((1 ||| m2 : Nat) : Int)] 160))) := Lib.hid fun W u r hi hB _ hd bW => useful2_any u r hi (1 ||| m2) w5.heap.size W hB (RQ6.below bW (by omega)) hm2 hd
  have g0 := R60.cell 0
  have g1 := R60.cell 1
  simp at g0 g1
  have h60 := R60.lt
  have h61 := R61.lt
  have HSZ6 := Lib.hid hsz6
  clear hsz6 RQ6 b6 a5 b5 c40 c41 e0 e1 f0 f1
  go_wp2_with fail
  refine (without_any hs (keepN (notProd m1) rl) _ _ hi _ _ (enters_of Try.func117 (by kernel_rfl) rfl) (notReached (1 ||| m2)) _ SX6.i (Nat.le_refl _) (by rw [HSZ6.out]; omega) (by have := HKL.out; omega) HT2.out).mono ?_
  rintro e w7 ⟨x7, rfl, SX7, b7⟩
  have z7 := b7.size
  rw [HSZ6.out] at z7
  have R71 := R61.below b7 h61
  have hb7 := hb6.trans (b7.mono (by rw [HSZ6.out]; omega))
  obtain ⟨A7, c7, B7, d7, e7, -, -⟩ := SX7.i
  subst e7
  have i0 := R71.cell 0
  have i1 := R71.cell 1
  have k0 := R71.free 0
  have k1 := R71.free 1
  simp at i0 i1
  have h71 := R71.lt
  have RA : Row (w7.setCell ⟨w.heap.size + 1, 0, none⟩ (.slice A7 hs.length c7)) (w.heap.size + 1) 156 #[.slice A7 hs.length c7, .slice none 0 0] := by simpa using R71.put 0 (.slice A7 hs.length c7)
  have SY := (SX7.away (p := ⟨w.heap.size + 1, 0, none⟩) R71 (by show hi ≤ w.heap.size + 1; omega) (.slice A7 hs.length c7)).away (p := ⟨w.heap.size + 1, 1, none⟩) RA (by show hi ≤ w.heap.size + 1; omega) (.slice B7 (keepN (notReached (1 ||| m2)) (keepN (notProd m1) rl)).length d7)
  have BB := (hb7.setCell (p := ⟨w.heap.size + 1, 0, none⟩) (by show w.heap.size ≤ w.heap.size + 1; omega) (.slice A7 hs.length c7)).setCell (p := ⟨w.heap.size + 1, 1, none⟩) (by show w.heap.size ≤ w.heap.size + 1; omega) (.slice B7 (keepN (notReached (1 ||| m2)) (keepN (notProd m1) rl)).length d7)
  have HFIN := Lib.hid (And.intro (SY.i.g (Nat.le_refl _) (by have := BB.size; omega)) BB)
  clear SX7 SY BB RA R71 b7 SX6 R60 R61 hb6 g0 g1
  go_wp2
  exact bodyPost_ret (v := .agg #[.slice A7 hs.length c7, .slice B7 (keepN (notReached (1 ||| m2)) (keepN (notProd m1) rl)).length d7]) (by simp [results, Try.results101, go_sem, i0, i1]) rfl ⟨_, _, rfl, HFIN.out.1, ⟨m1, m2, hfix1, hfix2, rfl⟩, HFIN.out.2⟩
end Go.Proofs.Ytbaofldcdcllfaa
