import Derived.Test.YtbaofldcdcllfaaJTob
import Derived.Test.YtbaofldcdcllfaaAft
import Derived.Deep.RegionHeld3
import Derived.Laws.EntriesVeiled
/- The walks of after and reachable. -/
namespace Go.Proofs.Ytbaofldcdcllfaa
open Go.RowKit

/-- a function value that takes a set of a body -/
def TakesSet (g : Nat) (lb : Array Value) (take : List Nat → Nat) (w : World) : Prop :=
  ∀ (W : World) (v : Value) (l : List Nat) (hi : Nat), BitsAt W hi v l → hi ≤ W.heap.size → Below w.heap.size w W → Calls Try.prog g (#[v] ++ lb) W fun e w' => e = .returned (.int .u32 ((take l : Nat) : Int)) ∧ Below W.heap.size W w'
theorem TakesSet.later {g : Nat} {lb : Array Value} {take : List Nat → Nat} {w W : World} (h : TakesSet g lb take w) (hb : Below w.heap.size w W) : TakesSet g lb take W :=
  fun W' v l hi hB hh hb' => h W' v l hi hB hh (hb.trans (hb'.mono hb.size))

set_option maxRecDepth 100000 in
set_option maxHeartbeats 4000000 in
theorem afterStep_any (rl : List RuleN) (p q t hi hd k g : Nat) (lb : Array Value) (eg : Enters Try.prog g) (take : List Nat → Nat) (hv : Value) (B : Option Addr) (d : Nat) (w : World) (hr : Row w p 156 #[hv, .slice B rl.length d]) (hq : Row w q 160 #[.int .u32 (hd : Int)]) (ht : Row w t 188 #[.func (.func g) #[] lb])
    (h : RulesN w hi (.slice B rl.length d) rl) (hh : hi ≤ w.heap.size) (hk : k < 4194304) (hhd : hd < 4194304) (htk : ∀ r ∈ rl, take r.body < 4194304) (hp : TakesSet g lb take w) :
    Calls Try.prog 130 #[.int .u32 (k : Int), .pointer (some ⟨p, 0, none⟩), .pointer (some ⟨q, 0, none⟩), .pointer (some ⟨t, 0, none⟩)] w fun e w' => e = .returned (.int .u32 ((stepAfter rl hd take k : Nat) : Int)) ∧ Below w.heap.size w w' := by
  unfold Enters at eg
  obtain ⟨B', d', e', hlc, hc, hcell⟩ := h
  injection e' with e1 _ e2
  subst e1 e2
  unfold maxLen at hc
  have HL : Hid (∀ j, gather (fun r => holdsB (hd ||| k) r.head) (fun r => take r.body) (rl.take j) < 4194304) := Lib.hid fun j => gather_lt fun r hr => htk r (List.mem_of_mem_take hr)
  have HTK := Lib.hid htk
  have HC := Lib.hid hcell
  have HP := Lib.hid hp
  clear hcell hp htk
  have c1 := hr.cell 1
  simp at c1
  have hql := hq.lt
  have htl := ht.lt
  have HRq := Lib.hid hq
  have HRt := Lib.hid ht
  clear hr hq ht
  have hor := or_lt hhd hk
  unfold stepAfter
  go_enter Try.func130, Try.ntmps130
  go_wp2
  go_loopw [6, 8, 12] (fun o _ i wr => ∃ j : Nat, j ≤ rl.length ∧ i = .int .i64 j ∧ o = .int .u32 ((gather (fun r => holdsB (hd ||| k) r.head) (fun r => take r.body) (rl.take j) : Nat) : Int) ∧ Below w.heap.size w wr) (fun _ _ i _ => rl.length - (intOf i).toNat)
  case atStart => exact ⟨0, by omega, rfl, rfl, Below.refl _ _⟩
  case round =>
    obtain ⟨j, hj, rfl, rfl, hbw⟩ := hrel
    have hsw := hbw.size
    by_cases hlt : j < rl.length
    · obtain ⟨b, off, rfl, hbh, hcc⟩ := HC.out (by omega)
      obtain ⟨hn, hhh, d0, d1, u, d2, hB⟩ := hcc j hlt
      have d0' := (hbw.cell (p := ⟨b, off + j * 3, none⟩) (by show b < _; omega)).trans d0
      have d1' := (hbw.cell (p := ⟨b, off + j * 3 + 1, none⟩) (by show b < _; omega)).trans d1
      have d2' := (hbw.cell (p := ⟨b, off + j * 3 + 2, none⟩) (by show b < _; omega)).trans d2
      have hB' := hB.below hbw (by omega)
      clear hcc d0 d1 d2 hB
      have HB := Lib.hid hB'
      obtain ⟨A', c', rfl, -, -, hbz, -⟩ := hB'
      have hol := HL.out j
      have htj := HTK.out _ (List.getElem_mem hlt)
      have ha := al1 wr (.cells #[.int .i64 (rl[j].num : Int), .int .u32 (rl[j].head : Int), .slice A' rl[j].body.length c'] 163)
      have R1 := Row.made wr 163 #[.int .i64 (rl[j].num : Int), .int .u32 (rl[j].head : Int), .slice A' rl[j].body.length c']
      have hsz : (wr.alloc (.cells #[.int .i64 (rl[j].num : Int), .int .u32 (rl[j].head : Int), .slice A' rl[j].body.length c'] 163)).heap.size = wr.heap.size + 1 := by simp
      clear hbz
      go_wp2
      generalize wr.alloc (.cells #[.int .i64 (rl[j].num : Int), .int .u32 (rl[j].head : Int), .slice A' rl[j].body.length c'] 163) = wA at *
      have bA := hbw.trans (ha.mono hsw)
      have cq := (HRq.out.below bA hql).cell 0
      have r1 := R1.cell 1
      have r2 := R1.cell 2
      have ct := (HRt.out.below bA htl).cell 0
      simp at cq r1 r2 ct
      have hlA := R1.lt
      have HSZ := Lib.hid hsz
      have hB2 := al1 wA (.cells #[.int .u32 (hd : Int), .int .u32 (k : Int)] 160)
      have R2 := Row.made wA 160 #[.int .u32 (hd : Int), .int .u32 (k : Int)]
      have R2d : Row (wA.alloc (.cells #[.int .u32 (hd : Int), .int .u32 (k : Int)] 160)).drew wA.heap.size 160 #[.int .u32 (hd : Int), .int .u32 (k : Int)] := R2
      have HR2 := Lib.hid R2d
      have r2B := (hB2.cell (p := ⟨wr.heap.size, 2, none⟩) (by show wr.heap.size < _; omega)).trans r2
      have ctB := (hB2.cell (p := ⟨t, 0, none⟩) (by show t < _; have := bA.size; omega)).trans ct
      have r2C : (wA.alloc (.cells #[.int .u32 (hd : Int), .int .u32 (k : Int)] 160)).drew.cell? ⟨wr.heap.size, 2, none⟩ = _ := r2B
      have ctC : (wA.alloc (.cells #[.int .u32 (hd : Int), .int .u32 (k : Int)] 160)).drew.cell? ⟨t, 0, none⟩ = _ := ctB
      have bB : Below w.heap.size w (wA.alloc (.cells #[.int .u32 (hd : Int), .int .u32 (k : Int)] 160)).drew := (bA.trans (hB2.mono bA.size)).drew
      have HBB : Hid (BitsAt (wA.alloc (.cells #[.int .u32 (hd : Int), .int .u32 (k : Int)] 160)).drew hi (.slice A' rl[j].body.length c') rl[j].body) := Lib.hid ((HB.out.below ha (by omega)).below hB2.drew (by omega))
      have hql' : q < wA.heap.size := by have := bA.size; omega
      clear hsz R1 R2 R2d r2B ctB hB2
      cases hx : holdsB (hd ||| k) rl[j].head
      · have HX := Lib.hid hx
        have HG := Lib.hid (gather_f (p := fun r => holdsB (hd ||| k) r.head) (f := fun r => take r.body) hlt hx)
        clear hx
        go_region_held3 (fun w' => w'.cell? ⟨q, 0, none⟩ = some (.int .u32 (hd : Int)) ∧ w'.cell? ⟨wr.heap.size, 1, none⟩ = some (.int .u32 (rl[j].head : Int)))
          (first | go_keep | (refine ⟨?_, ?_⟩ <;> assumption))
          (first
            | (go_at_call 126; refine (joinTwo_any wA.heap.size hd k 160 _ HR2.out hhd hk).mono ?_; rintro e w6 ⟨rfl, rfl⟩)
            | (go_at_call 118; refine (holds_any (hd ||| k) rl[j].head _ hor hhh).mono ?_; rintro e w7 ⟨rfl, rfl⟩; rw [HX.out]))
        go_wp2
        go_roundw
        case rel => exact ⟨j + 1, by omega, by go_num, by rw [HG.out], bB⟩
        case measure => simp [intOf]; omega
      · have HX := Lib.hid hx
        have HG := Lib.hid (gather_t (p := fun r => holdsB (hd ||| k) r.head) (f := fun r => take r.body) hlt hx)
        clear hx
        go_region_held3 (fun w' => w'.cell? ⟨q, 0, none⟩ = some (.int .u32 (hd : Int)) ∧ w'.cell? ⟨wr.heap.size, 1, none⟩ = some (.int .u32 (rl[j].head : Int)))
          (first | go_keep | (refine ⟨?_, ?_⟩ <;> assumption))
          (first
            | (go_at_call 126; refine (joinTwo_any wA.heap.size hd k 160 _ HR2.out hhd hk).mono ?_; rintro e w6 ⟨rfl, rfl⟩)
            | (go_at_call 118; refine (holds_any (hd ||| k) rl[j].head _ hor hhh).mono ?_; rintro e w7 ⟨rfl, rfl⟩; rw [HX.out]))
        clear HR2
        generalize (wA.alloc (.cells #[.int .u32 (hd : Int), .int .u32 (k : Int)] 160)).drew = wB at *
        have cT : Calls Try.prog g (#[.slice A' rl[j].body.length c'] ++ lb) wB _ := HP.out wB _ rl[j].body hi HBB.out (by have := bB.size; omega) bB
        go_wp2_with (go_at_fn g; refine cT.mono ?_; rintro e w8 ⟨rfl, b8⟩)
        have R9 := Row.made w8 160 #[.int .u32 ((gather (fun r => holdsB (hd ||| k) r.head) (fun r => take r.body) (rl.take j) : Nat) : Int), .int .u32 ((take rl[j].body : Nat) : Int)]
        refine (joinTwo_any w8.heap.size (gather (fun r => holdsB (hd ||| k) r.head) (fun r => take r.body) (rl.take j)) (take rl[j].body) 160 _ R9 hol htj).mono ?_
        rintro e w9 ⟨rfl, rfl⟩
        have b8' := bB.trans (b8.mono bB.size)
        clear cT b8
        go_wp2
        go_roundw
        case rel => exact ⟨j + 1, by omega, by go_num, by rw [HG.out], b8'.trans ((al1 _ _).mono b8'.size)⟩
        case measure => simp [intOf]; omega
    · have hks : j = rl.length := by omega
      subst hks
      go_wp2
      go_ret
      exact ⟨ret_u32 (by rw [List.take_length]), hbw⟩
end Go.Proofs.Ytbaofldcdcllfaa

/- The walks of after, reachable and takeLeft. -/
namespace Go.Proofs.Ytbaofldcdcllfaa
open Go.RowKit

theorem Row.made2 (w : World) (o o' : Obj) (t : TypeId) (cur : Array Value) : Row (((w.alloc o).alloc o').alloc (.cells cur t)) (w.heap.size + 2) t cur := by simpa using Row.made ((w.alloc o).alloc o') t cur

set_option maxRecDepth 100000 in
set_option maxHeartbeats 1000000 in
theorem after_any (hs : List ByteArray) (rl : List RuleN) (v : Value) (hd hi g : Nat) (lb : Array Value) (eg : Enters Try.prog g) (take : List Nat → Nat) (w : World) (h : SetsG w hi v hs rl) (hh : hi ≤ w.heap.size) (hhd : hd < 4194304) (htk : ∀ r ∈ rl, take r.body < 4194304) (hp : TakesSet g lb take w) :
    Calls Try.prog 127 #[v, .int .u32 (hd : Int), .func (.func g) #[] lb] w fun e w' => ∃ m : Nat, e = .returned (.int .u32 (m : Int)) ∧ FixAt (stepAfter rl hd take) 0 m ∧ Below w.heap.size w w' := by
  have hmf : ∀ (fn : Fn) (first cap : Array Value) (w : World), (Instr.makeFunc fn first cap).run Try.prog w = .ok (.func fn first cap) w := fun _ _ _ _ => rfl
  obtain ⟨A, c, B, d, rfl, -, hR⟩ := h.form
  have hb := al3 w (.cells #[.slice A hs.length c, .slice B rl.length d] 156) (.cells #[.int .u32 (hd : Int)] 160) (.cells #[.func (.func g) #[] lb] 188)
  have R0 := ((Row.made w 156 #[.slice A hs.length c, .slice B rl.length d]).alloc (.cells #[.int .u32 (hd : Int)] 160)).alloc (.cells #[.func (.func g) #[] lb] 188)
  have R1 := (Row.made1 w (.cells #[.slice A hs.length c, .slice B rl.length d] 156) 160 #[.int .u32 (hd : Int)]).alloc (.cells #[.func (.func g) #[] lb] 188)
  have R2 := Row.made2 w (.cells #[.slice A hs.length c, .slice B rl.length d] 156) (.cells #[.int .u32 (hd : Int)] 160) 188 #[.func (.func g) #[] lb]
  have hsz : (((w.alloc (.cells #[.slice A hs.length c, .slice B rl.length d] 156)).alloc (.cells #[.int .u32 (hd : Int)] 160)).alloc (.cells #[.func (.func g) #[] lb] 188)).heap.size = w.heap.size + 3 := by simp
  have HF : Hid (∀ k, k < 4194304 → stepAfter rl hd take k < 4194304) := Lib.hid fun k _ => gather_lt htk
  have HM : Hid (MakesSet 130 #[.pointer (some ⟨w.heap.size, 0, none⟩), .pointer (some ⟨w.heap.size + 1, 0, none⟩), .pointer (some ⟨w.heap.size + 2, 0, none⟩)] (stepAfter rl hd take) (((w.alloc (.cells #[.slice A hs.length c, .slice B rl.length d] 156)).alloc (.cells #[.int .u32 (hd : Int)] 160)).alloc (.cells #[.func (.func g) #[] lb] 188))) := Lib.hid fun W k hk bW =>
    afterStep_any rl w.heap.size (w.heap.size + 1) (w.heap.size + 2) hi hd k g lb eg take _ B d W (R0.below bW (by omega)) (R1.below bW (by omega)) (R2.below bW (by omega)) ((hR.below hb hh).below bW (by omega)) (by have := bW.size; omega) hk hhd htk (hp.later (hb.trans (bW.mono (by omega))))
  clear hR h R0 R1 R2 hp
  go_enter Try.func127, Try.ntmps127
  go_wp2_with fail
  refine (fixedPoint_any _ _ (enters_of Try.func130 (by kernel_rfl) rfl) (stepAfter rl hd take) 0 _ (by omega) HF.out HM.out).mono ?_
  rintro e w1 ⟨m, rfl, hfix, b1⟩
  go_wp2
  go_ret
  exact ⟨m, rfl, hfix, hb.trans (b1.mono (by omega))⟩

theorem takes_whole (w : World) : TakesSet 125 #[] joinAll w := fun W v l hi hB _ _ =>
  (wholeBody_any v l hi W hB).mono fun _ _ ⟨he, hw⟩ => ⟨he, by subst hw; exact Below.refl _ _⟩

set_option maxRecDepth 100000 in
set_option maxHeartbeats 1000000 in
theorem reachable_any (hs : List ByteArray) (rl : List RuleN) (v : Value) (hi : Nat) (w : World) (h : SetsG w hi v hs rl) (hh : hi ≤ w.heap.size) (htk : ∀ r ∈ rl, joinAll r.body < 4194304) :
    Calls Try.prog 115 #[v] w fun e w' => ∃ m : Nat, e = .returned (.int .u32 ((1 ||| m : Nat) : Int)) ∧ FixAt (stepAfter rl 1 joinAll) 0 m ∧ Below w.heap.size w w' := by
  have HV := Lib.hid h
  have HTK := Lib.hid htk
  obtain ⟨A, c, B, d, rfl, -, -⟩ := h.form
  have hb := al1 w (.cells #[.slice A hs.length c, .slice B rl.length d] 156)
  clear h htk
  go_enter Try.func115, Try.ntmps115
  go_wp2_with fail
  refine (after_any hs rl _ 1 hi 125 #[] (enters_of Try.func125 (by kernel_rfl) rfl) joinAll _ (HV.out.below hb hh) (by simp; omega) (by omega) HTK.out (takes_whole _)).mono ?_
  rintro e w1 ⟨m, rfl, hfix, b1⟩
  have R2 := Row.made w1 160 #[.int .u32 (((1 : Nat)) : Int), .int .u32 (m : Int)]
  have hb1 := hb.trans (b1.mono (by simp))
  have hm := hfix.1
  go_wp2_with fail
  refine (joinTwo_any w1.heap.size 1 m 160 _ R2 (by omega) hm).mono ?_
  rintro e w2 ⟨rfl, rfl⟩
  go_wp2
  go_ret
  exact ⟨m, rfl, hfix, hb1.trans ((al1 _ _).mono hb1.size)⟩

end Go.Proofs.Ytbaofldcdcllfaa
