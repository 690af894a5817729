import Derived.Test.YtcgmnpfeiiomgaaJComeT
import Derived.Test.YtcgmnpfeiiomgaaJAft
import Derived.Deep.RegionHeld3
import Derived.Laws.EntriesVeiled
/- The walks of after and reachable. -/
namespace Go.Proofs.Ytcgmnpfeiiomgaa
open Go.RowKit

/-- a function value that takes a set of a body -/
def TakesSet (g : Nat) (lb : Array Value) (take : List Nat → Nat) (w : World) : Prop :=
  ∀ (W : World) (v : Value) (l : List Nat) (hi : Nat), BitsAt W hi v l → hi ≤ W.heap.size → Below w.heap.size w W → Calls Try.prog g (#[v] ++ lb) W fun e w' => e = .returned (.int .u32 ((take l : Nat) : Int)) ∧ Below W.heap.size W w'
theorem TakesSet.later {g : Nat} {lb : Array Value} {take : List Nat → Nat} {w W : World} (h : TakesSet g lb take w) (hb : Below w.heap.size w W) : TakesSet g lb take W :=
  fun W' v l hi hB hh hb' => h W' v l hi hB hh (hb.trans (hb'.mono hb.size))

set_option maxRecDepth 100000 in
set_option maxHeartbeats 4000000 in
theorem afterStep_any (rl : List RuleN) (p q t hi hd k g : Nat) (lb : Array Value) (eg : Enters Try.prog g) (take : List Nat → Nat) (hv : Value) (B : Option Addr) (d : Nat) (w : World) (hr : Row w p 112 #[hv, .slice B rl.length d]) (hq : Row w q 116 #[.int .u32 (hd : Int)]) (ht : Row w t 124 #[.func (.func g) #[] lb])
    (h : RulesN w hi (.slice B rl.length d) rl) (hh : hi ≤ w.heap.size) (hk : k < 4194304) (hhd : hd < 4194304) (htk : ∀ r ∈ rl, take r.body < 4194304) (hp : TakesSet g lb take w) :
    Calls Try.prog 153 #[.int .u32 (k : Int), .pointer (some ⟨p, 0, none⟩), .pointer (some ⟨q, 0, none⟩), .pointer (some ⟨t, 0, none⟩)] w fun e w' => e = .returned (.int .u32 ((stepAfter rl hd take k : Nat) : Int)) ∧ Below w.heap.size w w' := by
  unfold Enters at eg
  obtain ⟨B', d', e', hlc, hc, hcell⟩ := h
  injection e' with e1 _ e2
  subst e1 e2
  unfold maxLen at hc
  have HL : Hid (∀ j, gather (fun r => holdsB (hd ||| k) r.head) (fun r => take r.body) (rl.take j) < 4194304) := Lib.hid fun j => gather_lt fun r hr => htk r (List.mem_of_mem_take hr)
  have HTK := Lib.hid htk
  have HC := Lib.hid hcell
  have HP := Lib.hid hp
  clear hcell hp htk
  have c1 := hr.cell 1
  simp at c1
  have hql := hq.lt
  have htl := ht.lt
  have HRq := Lib.hid hq
  have HRt := Lib.hid ht
  clear hr hq ht
  have hor := or_lt hhd hk
  unfold stepAfter
  go_enter Try.func153, Try.ntmps153
  go_wp2
  go_loopw [6, 8, 12] (fun o _ i wr => ∃ j : Nat, j ≤ rl.length ∧ i = .int .i64 j ∧ o = .int .u32 ((gather (fun r => holdsB (hd ||| k) r.head) (fun r => take r.body) (rl.take j) : Nat) : Int) ∧ Below w.heap.size w wr) (fun _ _ i _ => rl.length - (intOf i).toNat)
  case atStart => exact ⟨0, by omega, rfl, rfl, Below.refl _ _⟩
  case round =>
    obtain ⟨j, hj, rfl, rfl, hbw⟩ := hrel
    have hsw := hbw.size
    by_cases hlt : j < rl.length
    · obtain ⟨b, off, rfl, hbh, hcc⟩ := HC.out (by omega)
      obtain ⟨hn, hhh, d0, d1, u, d2, hB⟩ := hcc j hlt
      have d0' := (hbw.cell (p := ⟨b, off + j * 3, none⟩) (by show b < _; omega)).trans d0
      have d1' := (hbw.cell (p := ⟨b, off + j * 3 + 1, none⟩) (by show b < _; omega)).trans d1
      have d2' := (hbw.cell (p := ⟨b, off + j * 3 + 2, none⟩) (by show b < _; omega)).trans d2
      have hB' := hB.below hbw (by omega)
      clear hcc d0 d1 d2 hB
      have HB := Lib.hid hB'
      obtain ⟨A', c', rfl, -, -, hbz, -⟩ := hB'
      have hol := HL.out j
      have htj := HTK.out _ (List.getElem_mem hlt)
      have ha := al1 wr (.cells #[.int .i64 (rl[j].num : Int), .int .u32 (rl[j].head : Int), .slice A' rl[j].body.length c'] 121)
      have R1 := Row.made wr 121 #[.int .i64 (rl[j].num : Int), .int .u32 (rl[j].head : Int), .slice A' rl[j].body.length c']
      have hsz : (wr.alloc (.cells #[.int .i64 (rl[j].num : Int), .int .u32 (rl[j].head : Int), .slice A' rl[j].body.length c'] 121)).heap.size = wr.heap.size + 1 := by simp
      clear hbz
      go_wp2
      generalize wr.alloc (.cells #[.int .i64 (rl[j].num : Int), .int .u32 (rl[j].head : Int), .slice A' rl[j].body.length c'] 121) = wA at *
      have bA := hbw.trans (ha.mono hsw)
      have cq := (HRq.out.below bA hql).cell 0
      have r1 := R1.cell 1
      have r2 := R1.cell 2
      have ct := (HRt.out.below bA htl).cell 0
      simp at cq r1 r2 ct
      have hlA := R1.lt
      have HSZ := Lib.hid hsz
      have hB2 := al1 wA (.cells #[.int .u32 (hd : Int), .int .u32 (k : Int)] 116)
      have R2 := Row.made wA 116 #[.int .u32 (hd : Int), .int .u32 (k : Int)]
      have R2d : Row (wA.alloc (.cells #[.int .u32 (hd : Int), .int .u32 (k : Int)] 116)).drew wA.heap.size 116 #[.int .u32 (hd : Int), .int .u32 (k : Int)] := R2
      have HR2 := Lib.hid R2d
      have r2B := (hB2.cell (p := ⟨wr.heap.size, 2, none⟩) (by show wr.heap.size < _; omega)).trans r2
      have ctB := (hB2.cell (p := ⟨t, 0, none⟩) (by show t < _; have := bA.size; omega)).trans ct
      have r2C : (wA.alloc (.cells #[.int .u32 (hd : Int), .int .u32 (k : Int)] 116)).drew.cell? ⟨wr.heap.size, 2, none⟩ = _ := r2B
      have ctC : (wA.alloc (.cells #[.int .u32 (hd : Int), .int .u32 (k : Int)] 116)).drew.cell? ⟨t, 0, none⟩ = _ := ctB
      have bB : Below w.heap.size w (wA.alloc (.cells #[.int .u32 (hd : Int), .int .u32 (k : Int)] 116)).drew := (bA.trans (hB2.mono bA.size)).drew
      have HBB : Hid (BitsAt (wA.alloc (.cells #[.int .u32 (hd : Int), .int .u32 (k : Int)] 116)).drew hi (.slice A' rl[j].body.length c') rl[j].body) := Lib.hid ((HB.out.below ha (by omega)).below hB2.drew (by omega))
      have hql' : q < wA.heap.size := by have := bA.size; omega
      clear hsz R1 R2 R2d r2B ctB hB2
      cases hx : holdsB (hd ||| k) rl[j].head
      · have HX := Lib.hid hx
        have HG := Lib.hid (gather_f (p := fun r => holdsB (hd ||| k) r.head) (f := fun r => take r.body) hlt hx)
        clear hx
        go_region_held3 (fun w' => w'.cell? ⟨q, 0, none⟩ = some (.int .u32 (hd : Int)) ∧ w'.cell? ⟨wr.heap.size, 1, none⟩ = some (.int .u32 (rl[j].head : Int)))
          (first | go_keep | (refine ⟨?_, ?_⟩ <;> assumption))
          (first
            | (go_at_call 147; refine (joinTwo_any wA.heap.size hd k 116 _ HR2.out hhd hk).mono ?_; rintro e w6 ⟨rfl, rfl⟩)
            | (go_at_call 107; refine (holds_any (hd ||| k) rl[j].head _ hor hhh).mono ?_; rintro e w7 ⟨rfl, rfl⟩; rw [HX.out]))
        go_wp2
        go_roundw
        case rel => exact ⟨j + 1, by omega, by go_num, by rw [HG.out], bB⟩
        case measure => simp [intOf]; omega
      · have HX := Lib.hid hx
        have HG := Lib.hid (gather_t (p := fun r => holdsB (hd ||| k) r.head) (f := fun r => take r.body) hlt hx)
        clear hx
        go_region_held3 (fun w' => w'.cell? ⟨q, 0, none⟩ = some (.int .u32 (hd : Int)) ∧ w'.cell? ⟨wr.heap.size, 1, none⟩ = some (.int .u32 (rl[j].head : Int)))
          (first | go_keep | (refine ⟨?_, ?_⟩ <;> assumption))
          (first
            | (go_at_call 147; refine (joinTwo_any wA.heap.size hd k 116 _ HR2.out hhd hk).mono ?_; rintro e w6 ⟨rfl, rfl⟩)
            | (go_at_call 107; refine (holds_any (hd ||| k) rl[j].head _ hor hhh).mono ?_; rintro e w7 ⟨rfl, rfl⟩; rw [HX.out]))
        clear HR2
        generalize (wA.alloc (.cells #[.int .u32 (hd : Int), .int .u32 (k : Int)] 116)).drew = wB at *
        have cT : Calls Try.prog g (#[.slice A' rl[j].body.length c'] ++ lb) wB _ := HP.out wB _ rl[j].body hi HBB.out (by have := bB.size; omega) bB
        go_wp2_with (go_at_fn g; refine cT.mono ?_; rintro e w8 ⟨rfl, b8⟩)
        have R9 := Row.made w8 116 #[.int .u32 ((gather (fun r => holdsB (hd ||| k) r.head) (fun r => take r.body) (rl.take j) : Nat) : Int), .int .u32 ((take rl[j].body : Nat) : Int)]
        refine (joinTwo_any w8.heap.size (gather (fun r => holdsB (hd ||| k) r.head) (fun r => take r.body) (rl.take j)) (take rl[j].body) 116 _ R9 hol htj).mono ?_
        rintro e w9 ⟨rfl, rfl⟩
        have b8' := bB.trans (b8.mono bB.size)
        clear cT b8
        go_wp2
        go_roundw
        case rel => exact ⟨j + 1, by omega, by go_num, by rw [HG.out], b8'.trans ((al1 _ _).mono b8'.size)⟩
        case measure => simp [intOf]; omega
    · have hks : j = rl.length := by omega
      subst hks
      go_wp2
      go_ret
      exact ⟨ret_u32 (by rw [List.take_length]), hbw⟩
end Go.Proofs.Ytcgmnpfeiiomgaa

/- The walks of after, reachable and takeLeft. -/
namespace Go.Proofs.Ytcgmnpfeiiomgaa
open Go.RowKit

theorem Row.made2 (w : World) (o o' : Obj) (t : TypeId) (cur : Array Value) : Row (((w.alloc o).alloc o').alloc (.cells cur t)) (w.heap.size + 2) t cur := by simpa using Row.made ((w.alloc o).alloc o') t cur

set_option maxRecDepth 100000 in
set_option maxHeartbeats 1000000 in
theorem after_any (hs : List ByteArray) (rl : List RuleN) (v : Value) (hd hi g : Nat) (lb : Array Value) (eg : Enters Try.prog g) (take : List Nat → Nat) (w : World) (h : SetsG w hi v hs rl) (hh : hi ≤ w.heap.size) (hhd : hd < 4194304) (htk : ∀ r ∈ rl, take r.body < 4194304) (hp : TakesSet g lb take w) :
    Calls Try.prog 99 #[v, .int .u32 (hd : Int), .func (.func g) #[] lb] w fun e w' => ∃ m : Nat, e = .returned (.int .u32 (m : Int)) ∧ FixAt (stepAfter rl hd take) 0 m ∧ Below w.heap.size w w' := by
  have hmf : ∀ (fn : Fn) (first cap : Array Value) (w : World), (Instr.makeFunc fn first cap).run Try.prog w = .ok (.func fn first cap) w := fun _ _ _ _ => rfl
  obtain ⟨A, c, B, d, rfl, -, hR⟩ := h.form
  have hb := al3 w (.cells #[.slice A hs.length c, .slice B rl.length d] 112) (.cells #[.int .u32 (hd : Int)] 116) (.cells #[.func (.func g) #[] lb] 124)
  have R0 := ((Row.made w 112 #[.slice A hs.length c, .slice B rl.length d]).alloc (.cells #[.int .u32 (hd : Int)] 116)).alloc (.cells #[.func (.func g) #[] lb] 124)
  have R1 := (Row.made1 w (.cells #[.slice A hs.length c, .slice B rl.length d] 112) 116 #[.int .u32 (hd : Int)]).alloc (.cells #[.func (.func g) #[] lb] 124)
  have R2 := Row.made2 w (.cells #[.slice A hs.length c, .slice B rl.length d] 112) (.cells #[.int .u32 (hd : Int)] 116) 124 #[.func (.func g) #[] lb]
  have hsz : (((w.alloc (.cells #[.slice A hs.length c, .slice B rl.length d] 112)).alloc (.cells #[.int .u32 (hd : Int)] 116)).alloc (.cells #[.func (.func g) #[] lb] 124)).heap.size = w.heap.size + 3 := by simp
  have HF : Hid (∀ k, k < 4194304 → stepAfter rl hd take k < 4194304) := Lib.hid fun k _ => gather_lt htk
  have HM : Hid (MakesSet 153 #[.pointer (some ⟨w.heap.size, 0, none⟩), .pointer (some ⟨w.heap.size + 1, 0, none⟩), .pointer (some ⟨w.heap.size + 2, 0, none⟩)] (stepAfter rl hd take) (((w.alloc (.cells #[.slice A hs.length c, .slice B rl.length d] 112)).alloc (.cells #[.int .u32 (hd : Int)] 116)).alloc (.cells #[.func (.func g) #[] lb] 124))) := Lib.hid fun W k hk bW =>
    afterStep_any rl w.heap.size (w.heap.size + 1) (w.heap.size + 2) hi hd k g lb eg take _ B d W (R0.below bW (by omega)) (R1.below bW (by omega)) (R2.below bW (by omega)) ((hR.below hb hh).below bW (by omega)) (by have := bW.size; omega) hk hhd htk (hp.later (hb.trans (bW.mono (by omega))))
  clear hR h R0 R1 R2 hp
  go_enter Try.func99, Try.ntmps99
  go_wp2_with fail
  refine (fixedPoint_any _ _ (enters_of Try.func153 (by kernel_rfl) rfl) (stepAfter rl hd take) 0 _ (by omega) HF.out HM.out).mono ?_
  rintro e w1 ⟨m, rfl, hfix, b1⟩
  go_wp2
  go_ret
  exact ⟨m, rfl, hfix, hb.trans (b1.mono (by omega))⟩

theorem takes_whole (w : World) : TakesSet 148 #[] joinAll w := fun W v l hi hB _ _ =>
  (wholeBody_any v l hi W hB).mono fun _ _ ⟨he, hw⟩ => ⟨he, by subst hw; exact Below.refl _ _⟩

set_option maxRecDepth 100000 in
set_option maxHeartbeats 1000000 in
theorem reachable_any (hs : List ByteArray) (rl : List RuleN) (v : Value) (hi : Nat) (w : World) (h : SetsG w hi v hs rl) (hh : hi ≤ w.heap.size) (htk : ∀ r ∈ rl, joinAll r.body < 4194304) :
    Calls Try.prog 97 #[v] w fun e w' => ∃ m : Nat, e = .returned (.int .u32 ((1 ||| m : Nat) : Int)) ∧ FixAt (stepAfter rl 1 joinAll) 0 m ∧ Below w.heap.size w w' := by
  have HV := Lib.hid h
  have HTK := Lib.hid htk
  obtain ⟨A, c, B, d, rfl, -, -⟩ := h.form
  have hb := al1 w (.cells #[.slice A hs.length c, .slice B rl.length d] 112)
  clear h htk
  go_enter Try.func97, Try.ntmps97
  go_wp2_with fail
  refine (after_any hs rl _ 1 hi 148 #[] (enters_of Try.func148 (by kernel_rfl) rfl) joinAll _ (HV.out.below hb hh) (by simp; omega) (by omega) HTK.out (takes_whole _)).mono ?_
  rintro e w1 ⟨m, rfl, hfix, b1⟩
  have R2 := Row.made w1 116 #[.int .u32 (((1 : Nat)) : Int), .int .u32 (m : Int)]
  have hb1 := hb.trans (b1.mono (by simp))
  have hm := hfix.1
  go_wp2_with fail
  refine (joinTwo_any w1.heap.size 1 m 116 _ R2 (by omega) hm).mono ?_
  rintro e w2 ⟨rfl, rfl⟩
  go_wp2
  go_ret
  exact ⟨m, rfl, hfix, hb1.trans ((al1 _ _).mono hb1.size)⟩

set_option maxRecDepth 100000 in
set_option maxHeartbeats 1000000 in
theorem takeLeftStep_any (v : Value) (l : List Nat) (hi null q : Nat) (w : World) (h : BitsAt w hi v l) (hh : hi ≤ w.heap.size) (hq : Row w q 116 #[.int .u32 (null : Int)]) (hn : null < 4194304) :
    Calls Try.prog 154 #[v, .pointer (some ⟨q, 0, none⟩)] w fun e w' => e = .returned (.int .u32 ((leftN null l : Nat) : Int)) ∧ Below w.heap.size w w' := by
  obtain ⟨A, c, rfl, hlc, hc, hsz, hcell⟩ := h
  unfold maxLen at hc
  have HC := Lib.hid hcell
  have HZ := Lib.hid hsz
  have HQ := Lib.hid hq
  have hql := hq.lt
  clear hcell hsz hq
  go_enter Try.func154, Try.ntmps154
  go_wp2
  go_loopw [4, 6, 9] (fun o _ i wr => ∃ k : Nat, k ≤ l.length ∧ i = .int .i64 k ∧ o = .int .u32 ((leftN null (l.take k) : Nat) : Int) ∧ Below w.heap.size w wr) (fun _ _ i _ => l.length - (intOf i).toNat)
  case atStart => exact ⟨0, by omega, rfl, rfl, Below.refl _ _⟩
  case round =>
    obtain ⟨k, hk, rfl, rfl, hbw⟩ := hrel
    have hsw := hbw.size
    by_cases hlt : k < l.length
    · obtain ⟨b, off, rfl, hbh, hcc⟩ := HC.out (by omega)
      have hck := (hbw.cell (p := ⟨b, off + k, none⟩) (by show b < _; omega)).trans (hcc k hlt)
      have cq := (HQ.out.below hbw hql).cell 0
      simp at cq
      clear hcc
      have h1 := leftN_lt (null := null) HZ.out k
      have h2 := HZ.out _ (List.getElem_mem hlt)
      have HS := Lib.hid (leftN_succ (null := null) hlt)
      have R2 := Row.made wr 116 #[.int .u32 ((leftN null (l.take k) : Nat) : Int), .int .u32 ((l[k] : Nat) : Int)]
      cases hx : holdsB null (leftN null (l.take k))
      · have HX := Lib.hid hx
        clear hx
        go_wp2_with fail
        refine (holds_any null (leftN null (l.take k)) _ hn h1).mono ?_
        rintro e w1 ⟨rfl, rfl⟩
        rw [HX.out]
        go_wp2
        go_roundw
        case rel => exact ⟨k + 1, by omega, by go_num, by rw [HS.out, HX.out]; rfl, hbw⟩
        case measure => simp [intOf]; omega
      · have HX := Lib.hid hx
        clear hx
        go_wp2_with fail
        refine (holds_any null (leftN null (l.take k)) _ hn h1).mono ?_
        rintro e w1 ⟨rfl, rfl⟩
        rw [HX.out]
        go_wp2_with fail
        refine (joinTwo_any wr.heap.size (leftN null (l.take k)) l[k] 116 _ R2 h1 h2).mono ?_
        rintro e w1 ⟨rfl, rfl⟩
        go_wp2
        go_roundw
        case rel => exact ⟨k + 1, by omega, by go_num, by rw [HS.out, HX.out]; rfl, hbw.trans ((al1 _ _).mono hsw)⟩
        case measure => simp [intOf]; omega
    · have hks : k = l.length := by omega
      subst hks
      go_wp2
      go_ret
      exact ⟨ret_u32 (by rw [List.take_length]), hbw⟩
set_option maxHeartbeats 400000 in
theorem takeLeft_any (null : Nat) (w : World) (hn : null < 4194304) :
    Calls Try.prog 101 #[.int .u32 (null : Int)] w fun e w' => ∃ lb, e = .returned (.func (.func 154) #[] lb) ∧ TakesSet 154 lb (leftN null) w' ∧ Below w.heap.size w w' := by
  have hmf : ∀ (fn : Fn) (first cap : Array Value) (w : World), (Instr.makeFunc fn first cap).run Try.prog w = .ok (.func fn first cap) w := fun _ _ _ _ => rfl
  go_enter Try.func101, Try.ntmps101
  go_wp2
  go_ret
  exact ⟨_, rfl, fun W v l hi hB hh bW => takeLeftStep_any v l hi null w.heap.size W hB hh ((Row.made w 116 #[.int .u32 (null : Int)]).below bW (by simp)) hn, al1 _ _⟩
end Go.Proofs.Ytcgmnpfeiiomgaa

/- The program's Reachable. -/
namespace Go.Proofs.Ytcgmnpfeiiomgaa
open Go.RowKit

theorem headsTo_first {rs : List RuleD} (h : 0 < rs.length) {k : Nat} (hk : 1 ≤ k) (hl : k ≤ rs.length) : (headsTo rs k)[0]? = some rs[0].head := by
  induction k with
  | zero => omega
  | succ k ih =>
    rw [headsTo_succ (by omega)]
    rcases Nat.eq_zero_or_pos k with h0 | h0
    · subst h0
      rfl
    · have := ih h0 (by omega)
      unfold addSym
      split
      · exact this
      · rw [List.getElem?_append_left]
        · exact this
        · rcases Nat.eq_zero_or_pos (headsTo rs k).length with h1 | h1
          · rw [List.getElem?_eq_none (by omega)] at this; cases this
          · exact h1
theorem Rt.start_idx {rs : List RuleD} (R : Rt rs) : symIdx (hsOf rs) (rs[0]'R.one).head = 0 := by
  have h := headsTo_first R.one (k := rs.length) R.one (Nat.le_refl _)
  change (hsOf rs)[0]? = _ at h
  have hl : 0 < (hsOf rs).length := by
    rcases Nat.eq_zero_or_pos (hsOf rs).length with h1 | h1
    · rw [List.getElem?_eq_none (by omega)] at h; cases h
    · exact h1
  rw [List.getElem?_eq_getElem hl] at h
  injection h with h
  rw [← h]
  exact R.idx_at hl
/-- the start of a grammar -/
def startOf (rs : List RuleD) : ByteArray := (ruleAt rs 0).head
theorem Rt.start {rs : List RuleD} (R : Rt rs) : startOf rs = (rs[0]'R.one).head := by unfold startOf; rw [ruleAt_eq R.one]
theorem Rt.start_set {rs : List RuleD} (R : Rt rs) : setN (hsOf rs) (startOf rs) = 1 := by unfold setN; rw [R.start, R.start_idx]
/-- the start, or what is come to from it -/
def Rch (rs : List RuleD) (ix : List Nat) (s : ByteArray) : Prop := s = startOf rs ∨ Aft rs ix tkAll (startOf rs) s
theorem reach_bit {rs : List RuleD} (R : Rt rs) {ix : List Nat} (hix : ∀ i ∈ ix, i < rs.length) {m : Nat} (hf : FixAt (stepAfter (rnl rs ix) 1 joinAll) 0 m) {s : ByteArray} (hs : s ∈ hsOf rs) : (1 ||| m).testBit (symIdx (hsOf rs) s) = true ↔ Rch rs ix s := by
  rw [← R.start_set] at hf
  rw [Nat.testBit_or, Bool.or_eq_true, aft_bit R hix (takes_all rs) _ hf hs]
  have h1 : Nat.testBit 1 (symIdx (hsOf rs) s) = true ↔ s = startOf rs := by
    rw [← R.start_set, setN_bit]
    exact ⟨fun e => (R.idx_inj hs e).symm, fun e => by rw [e]⟩
  rw [h1]; rfl
open Classical in
noncomputable def reachOf (rs : List RuleD) : List ByteArray := (headsOf rs).filter fun s => decide (Rch rs (List.range rs.length) s)
theorem reachOf_len (rs : List RuleD) : (reachOf rs).length ≤ 1000 := Nat.le_trans (List.length_filter_le _ _) (headsOf_len rs)
theorem reach_list {rs : List RuleD} {m : Nat} (h : FixAt (stepAfter (rlOf rs) 1 joinAll) 0 m) : pickB (1 ||| m) (headsOf rs) (headsOf rs).length = reachOf rs := by
  unfold reachOf
  cases hq : gramB rs
  · rw [headsOf_f hq]; rfl
  · have R := Rt.of hq
    have e : headsOf rs = hsOf rs := headsOf_t hq
    rw [rlOf_t hq] at h
    rw [e]
    apply pickB_filter
    intro i hi
    have h1 := reach_bit R (fun i hi => List.mem_range.1 hi) h (List.getElem_mem hi)
    rw [R.idx_at hi] at h1
    rw [Bool.eq_iff_iff, h1]
    simp

set_option maxRecDepth 100000 in
set_option maxHeartbeats 4000000 in
theorem implReachable_any (rs : List RuleD) (v : Value) (lo hi : Nat) (w : World) (h : Rules w lo hi v rs) (hh : hi ≤ w.heap.size) :
    Calls Try.prog 32 #[.agg #[v]] w (MadeS w (reachOf rs)) := by
  have HV := Lib.hid h
  obtain ⟨A, c, rfl, -⟩ := h
  have hb := al1 w (.cells #[.slice A rs.length c] 25)
  go_enter Try.func32, Try.ntmps32
  go_wp2_with fail
  refine (setsOf_any rs _ lo hi _ (HV.out.below hb hh) (by simp; omega)).mono ?_
  rintro e w1 ⟨x, rfl, SG, b1⟩
  have hb1 := hb.trans (b1.mono (by simp))
  have hs1 := hb1.size
  have HSG := Lib.hid SG
  obtain ⟨Ah, ch, Bv, dv, rfl, -, -⟩ := SG.form
  have R1 := Row.made w1 112 #[.slice Ah (headsOf rs).length ch, .slice Bv (rlOf rs).length dv]
  have hb2 := al1 w1 (.cells #[.slice Ah (headsOf rs).length ch, .slice Bv (rlOf rs).length dv] 112)
  have hsz : (w1.alloc (.cells #[.slice Ah (headsOf rs).length ch, .slice Bv (rlOf rs).length dv] 112)).heap.size = w1.heap.size + 1 := by simp
  clear SG b1 hb
  go_wp2
  generalize w1.alloc (.cells #[.slice Ah (headsOf rs).length ch, .slice Bv (rlOf rs).length dv] 112) = wA at *
  have c0 := R1.cell 0
  have c1 := R1.cell 1
  simp at c0 c1
  have hlA := R1.lt
  have hbA := hb1.trans (hb2.mono hs1)
  have HSZ := Lib.hid hsz
  have SGd0 := HSG.out.below hb2 (Nat.le_refl _)
  have SGd : SetsG wA.drew w1.heap.size (.agg #[.slice Ah (headsOf rs).length ch, .slice Bv (rlOf rs).length dv]) (headsOf rs) (rlOf rs) := SGd0
  clear SGd0 R1 hb2 hb1 hsz
  have HZD : Hid (wA.drew.heap.size = wA.heap.size) := Lib.hid rfl
  have HF := Lib.hid (headsOf_few rs)
  have HRL := Lib.hid (fun r hr => joinAll_lt (rlOf_body rs r hr))
  go_region_held3 (fun w' => w'.cell? ⟨w1.heap.size, 0, none⟩ = some (.slice Ah (headsOf rs).length ch) ∧ w'.cell? ⟨w1.heap.size, 1, none⟩ = some (.slice Bv (rlOf rs).length dv))
    (first | go_keep | (refine ⟨?_, ?_⟩ <;> (rw [b6.cell (by show w1.heap.size < _; rw [HZD.out]; omega)]; assumption)) | (refine ⟨?_, ?_⟩ <;> (rw [b7.cell (by show w1.heap.size < _; omega), b6.cell (by show w1.heap.size < _; rw [HZD.out]; omega)]; assumption)))
    (first
      | (go_at_call 97; refine (reachable_any (headsOf rs) (rlOf rs) _ w1.heap.size wA.drew SGd (by rw [HZD.out]; omega) HRL.out).mono ?_; rintro e w6 ⟨m, rfl, hfix, b6⟩; have z6 : wA.heap.size ≤ w6.heap.size := b6.size; have hm := or_lt (show 1 < 4194304 by omega) hfix.1)
      | (go_at_call 94; refine (toldSet_any (headsOf rs) (rlOf rs) _ (1 ||| m) w1.heap.size _ (SGd.below b6 (by rw [HZD.out]; omega)) (by omega) HF.out hm).mono ?_; rintro e w7 ⟨u, g, rfl, o7, g7, b7⟩))
  have hl := reach_list hfix
  rw [hl] at o7 g7
  have B7 : Below w.heap.size w w7 := (hbA.trans ((show Below wA.heap.size wA w6 from ⟨b6.os, b6.tape, b6.output, b6.size, b6.block⟩).mono hbA.size)).trans (b7.mono (by omega))
  clear b6 b7 SGd
  go_wp2
  go_ret
  exact ⟨u, g, rfl, o7, fun hn => by have := g7 hn; omega, B7⟩
end Go.Proofs.Ytcgmnpfeiiomgaa
