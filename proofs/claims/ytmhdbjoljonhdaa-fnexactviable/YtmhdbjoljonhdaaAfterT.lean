/- The walks of after and reachable. -/
import Derived.Test.YtmhdbjoljonhdaaComeT
import Derived.Test.YtmhdbjoljonhdaaAft
import Derived.Deep.RegionHeld3
namespace Go.Proofs.Ytmhdbjoljonhdaa
open Go.RowKit

/-- a function value that takes a set of a body -/
def TakesSet (g : Nat) (lb : Array Value) (take : List Nat → Nat) (w : World) : Prop :=
  ∀ (W : World) (v : Value) (l : List Nat) (hi : Nat), BitsAt W hi v l → hi ≤ W.heap.size → Below w.heap.size w W → Calls Try.prog g (#[v] ++ lb) W fun e w' => e = .returned (.int .u32 ((take l : Nat) : Int)) ∧ Below W.heap.size W w'
theorem TakesSet.later {g : Nat} {lb : Array Value} {take : List Nat → Nat} {w W : World} (h : TakesSet g lb take w) (hb : Below w.heap.size w W) : TakesSet g lb take W :=
  fun W' v l hi hB hh hb' => h W' v l hi hB hh (hb.trans (hb'.mono hb.size))

set_option maxRecDepth 100000 in
set_option maxHeartbeats 4000000 in
theorem afterStep_any (rl : List RuleN) (p q t hi hd k g : Nat) (lb : Array Value) (eg : Enters Try.prog g) (take : List Nat → Nat) (hv : Value) (B : Option Addr) (d : Nat) (w : World) (hr : Row w p 68 #[hv, .slice B rl.length d]) (hq : Row w q 72 #[.int .u32 (hd : Int)]) (ht : Row w t 81 #[.func (.func g) #[] lb])
    (h : RulesN w hi (.slice B rl.length d) rl) (hh : hi ≤ w.heap.size) (hk : k < 4194304) (hhd : hd < 4194304) (htk : ∀ r ∈ rl, take r.body < 4194304) (hp : TakesSet g lb take w) :
    Calls Try.prog 101 #[.int .u32 (k : Int), .pointer (some ⟨p, 0, none⟩), .pointer (some ⟨q, 0, none⟩), .pointer (some ⟨t, 0, none⟩)] w fun e w' => e = .returned (.int .u32 ((stepAfter rl hd take k : Nat) : Int)) ∧ Below w.heap.size w w' := by
  unfold Enters at eg
  obtain ⟨B', d', e', hlc, hc, hcell⟩ := h
  injection e' with e1 _ e2
  subst e1 e2
  unfold maxLen at hc
  have HL : Hid (∀ j, gather (fun r => holdsB (hd ||| k) r.head) (fun r => take r.body) (rl.take j) < 4194304) := Lib.hid fun j => gather_lt fun r hr => htk r (List.mem_of_mem_take hr)
  have HTK := Lib.hid htk
  have HC := Lib.hid hcell
  have HP := Lib.hid hp
  clear hcell hp htk
  have c1 := hr.cell 1
  simp at c1
  have hql := hq.lt
  have htl := ht.lt
  have HRq := Lib.hid hq
  have HRt := Lib.hid ht
  clear hr hq ht
  have hor := or_lt hhd hk
  unfold stepAfter
  go_enter Try.func101, Try.ntmps101
  go_wp2
  go_loopw [6, 8, 12] (fun o _ i wr => ∃ j : Nat, j ≤ rl.length ∧ i = .int .i64 j ∧ o = .int .u32 ((gather (fun r => holdsB (hd ||| k) r.head) (fun r => take r.body) (rl.take j) : Nat) : Int) ∧ Below w.heap.size w wr) (fun _ _ i _ => rl.length - (intOf i).toNat)
  case atStart => exact ⟨0, by omega, rfl, rfl, Below.refl _ _⟩
  case round =>
    obtain ⟨j, hj, rfl, rfl, hbw⟩ := hrel
    have hsw := hbw.size
    by_cases hlt : j < rl.length
    · obtain ⟨b, off, rfl, hbh, hcc⟩ := HC.out (by omega)
      obtain ⟨hn, hhh, d0, d1, u, d2, hB⟩ := hcc j hlt
      have d0' := (hbw.cell (p := ⟨b, off + j * 3, none⟩) (by show b < _; omega)).trans d0
      have d1' := (hbw.cell (p := ⟨b, off + j * 3 + 1, none⟩) (by show b < _; omega)).trans d1
      have d2' := (hbw.cell (p := ⟨b, off + j * 3 + 2, none⟩) (by show b < _; omega)).trans d2
      have hB' := hB.below hbw (by omega)
      clear hcc d0 d1 d2 hB
      have HB := Lib.hid hB'
      obtain ⟨A', c', rfl, -, -, hbz, -⟩ := hB'
      have hol := HL.out j
      have htj := HTK.out _ (List.getElem_mem hlt)
      have ha := al1 wr (.cells #[.int .i64 (rl[j].num : Int), .int .u32 (rl[j].head : Int), .slice A' rl[j].body.length c'] 77)
      have R1 := Row.made wr 77 #[.int .i64 (rl[j].num : Int), .int .u32 (rl[j].head : Int), .slice A' rl[j].body.length c']
      have hsz : (wr.alloc (.cells #[.int .i64 (rl[j].num : Int), .int .u32 (rl[j].head : Int), .slice A' rl[j].body.length c'] 77)).heap.size = wr.heap.size + 1 := by simp
      clear hbz
      go_wp2
      generalize wr.alloc (.cells #[.int .i64 (rl[j].num : Int), .int .u32 (rl[j].head : Int), .slice A' rl[j].body.length c'] 77) = wA at *
      have bA := hbw.trans (ha.mono hsw)
      have cq := (HRq.out.below bA hql).cell 0
      have r1 := R1.cell 1
      have r2 := R1.cell 2
      have ct := (HRt.out.below bA htl).cell 0
      simp at cq r1 r2 ct
      have hlA := R1.lt
      have HSZ := Lib.hid hsz
      have hB2 := al1 wA (.cells #[.int .u32 (hd : Int), .int .u32 (k : Int)] 72)
      have R2 := Row.made wA 72 #[.int .u32 (hd : Int), .int .u32 (k : Int)]
      have R2d : Row (wA.alloc (.cells #[.int .u32 (hd : Int), .int .u32 (k : Int)] 72)).drew wA.heap.size 72 #[.int .u32 (hd : Int), .int .u32 (k : Int)] := R2
      have HR2 := Lib.hid R2d
      have r2B := (hB2.cell (p := ⟨wr.heap.size, 2, none⟩) (by show wr.heap.size < _; omega)).trans r2
      have ctB := (hB2.cell (p := ⟨t, 0, none⟩) (by show t < _; have := bA.size; omega)).trans ct
      have r2C : (wA.alloc (.cells #[.int .u32 (hd : Int), .int .u32 (k : Int)] 72)).drew.cell? ⟨wr.heap.size, 2, none⟩ = _ := r2B
      have ctC : (wA.alloc (.cells #[.int .u32 (hd : Int), .int .u32 (k : Int)] 72)).drew.cell? ⟨t, 0, none⟩ = _ := ctB
      have bB : Below w.heap.size w (wA.alloc (.cells #[.int .u32 (hd : Int), .int .u32 (k : Int)] 72)).drew := (bA.trans (hB2.mono bA.size)).drew
      have HBB : Hid (BitsAt (wA.alloc (.cells #[.int .u32 (hd : Int), .int .u32 (k : Int)] 72)).drew hi (.slice A' rl[j].body.length c') rl[j].body) := Lib.hid ((HB.out.below ha (by omega)).below hB2.drew (by omega))
      have hql' : q < wA.heap.size := by have := bA.size; omega
      clear hsz R1 R2 R2d r2B ctB hB2
      cases hx : holdsB (hd ||| k) rl[j].head
      · have HX := Lib.hid hx
        have HG := Lib.hid (gather_f (p := fun r => holdsB (hd ||| k) r.head) (f := fun r => take r.body) hlt hx)
        clear hx
        go_region_held3 (fun w' => w'.cell? ⟨q, 0, none⟩ = some (.int .u32 (hd : Int)) ∧ w'.cell? ⟨wr.heap.size, 1, none⟩ = some (.int .u32 (rl[j].head : Int)))
          (first | go_keep | (refine ⟨?_, ?_⟩ <;> assumption))
          (first
            | (go_at_call 95; refine (joinTwo_any wA.heap.size hd k 72 _ HR2.out hhd hk).mono ?_; rintro e w6 ⟨rfl, rfl⟩)
            | (go_at_call 69; refine (holds_any (hd ||| k) rl[j].head _ hor hhh).mono ?_; rintro e w7 ⟨rfl, rfl⟩; rw [HX.out]))
        go_wp2
        go_roundw
        case rel => exact ⟨j + 1, by omega, by go_num, by rw [HG.out], bB⟩
        case measure => simp [intOf]; omega
      · have HX := Lib.hid hx
        have HG := Lib.hid (gather_t (p := fun r => holdsB (hd ||| k) r.head) (f := fun r => take r.body) hlt hx)
        clear hx
        go_region_held3 (fun w' => w'.cell? ⟨q, 0, none⟩ = some (.int .u32 (hd : Int)) ∧ w'.cell? ⟨wr.heap.size, 1, none⟩ = some (.int .u32 (rl[j].head : Int)))
          (first | go_keep | (refine ⟨?_, ?_⟩ <;> assumption))
          (first
            | (go_at_call 95; refine (joinTwo_any wA.heap.size hd k 72 _ HR2.out hhd hk).mono ?_; rintro e w6 ⟨rfl, rfl⟩)
            | (go_at_call 69; refine (holds_any (hd ||| k) rl[j].head _ hor hhh).mono ?_; rintro e w7 ⟨rfl, rfl⟩; rw [HX.out]))
        clear HR2
        generalize (wA.alloc (.cells #[.int .u32 (hd : Int), .int .u32 (k : Int)] 72)).drew = wB at *
        have cT : Calls Try.prog g (#[.slice A' rl[j].body.length c'] ++ lb) wB _ := HP.out wB _ rl[j].body hi HBB.out (by have := bB.size; omega) bB
        go_wp2_with (go_at_fn g; refine cT.mono ?_; rintro e w8 ⟨rfl, b8⟩)
        have R9 := Row.made w8 72 #[.int .u32 ((gather (fun r => holdsB (hd ||| k) r.head) (fun r => take r.body) (rl.take j) : Nat) : Int), .int .u32 ((take rl[j].body : Nat) : Int)]
        refine (joinTwo_any w8.heap.size (gather (fun r => holdsB (hd ||| k) r.head) (fun r => take r.body) (rl.take j)) (take rl[j].body) 72 _ R9 hol htj).mono ?_
        rintro e w9 ⟨rfl, rfl⟩
        have b8' := bB.trans (b8.mono bB.size)
        clear cT b8
        go_wp2
        go_roundw
        case rel => exact ⟨j + 1, by omega, by go_num, by rw [HG.out], b8'.trans ((al1 _ _).mono b8'.size)⟩
        case measure => simp [intOf]; omega
    · have hks : j = rl.length := by omega
      subst hks
      go_wp2
      go_ret
      exact ⟨ret_u32 (by rw [List.take_length]), hbw⟩
end Go.Proofs.Ytmhdbjoljonhdaa
