/- The walks of after, reachable and takeLeft. -/
import Derived.Test.YtmhdbjoljonhdaaAfterT
import Derived.Laws.EntriesVeiled
namespace Go.Proofs.Ytmhdbjoljonhdaa
open Go.RowKit

theorem Row.made2 (w : World) (o o' : Obj) (t : TypeId) (cur : Array Value) : Row (((w.alloc o).alloc o').alloc (.cells cur t)) (w.heap.size + 2) t cur := by simpa using Row.made ((w.alloc o).alloc o') t cur

set_option maxRecDepth 100000 in
set_option maxHeartbeats 1000000 in
theorem after_any (hs : List ByteArray) (rl : List RuleN) (v : Value) (hd hi g : Nat) (lb : Array Value) (eg : Enters Try.prog g) (take : List Nat → Nat) (w : World) (h : SetsG w hi v hs rl) (hh : hi ≤ w.heap.size) (hhd : hd < 4194304) (htk : ∀ r ∈ rl, take r.body < 4194304) (hp : TakesSet g lb take w) :
    Calls Try.prog 59 #[v, .int .u32 (hd : Int), .func (.func g) #[] lb] w fun e w' => ∃ m : Nat, e = .returned (.int .u32 (m : Int)) ∧ FixAt (stepAfter rl hd take) 0 m ∧ Below w.heap.size w w' := by
  have hmf : ∀ (fn : Fn) (first cap : Array Value) (w : World), (Instr.makeFunc fn first cap).run Try.prog w = .ok (.func fn first cap) w := fun _ _ _ _ => rfl
  obtain ⟨A, c, B, d, rfl, -, hR⟩ := h.form
  have hb := al3 w (.cells #[.slice A hs.length c, .slice B rl.length d] 68) (.cells #[.int .u32 (hd : Int)] 72) (.cells #[.func (.func g) #[] lb] 81)
  have R0 := ((Row.made w 68 #[.slice A hs.length c, .slice B rl.length d]).alloc (.cells #[.int .u32 (hd : Int)] 72)).alloc (.cells #[.func (.func g) #[] lb] 81)
  have R1 := (Row.made1 w (.cells #[.slice A hs.length c, .slice B rl.length d] 68) 72 #[.int .u32 (hd : Int)]).alloc (.cells #[.func (.func g) #[] lb] 81)
  have R2 := Row.made2 w (.cells #[.slice A hs.length c, .slice B rl.length d] 68) (.cells #[.int .u32 (hd : Int)] 72) 81 #[.func (.func g) #[] lb]
  have hsz : (((w.alloc (.cells #[.slice A hs.length c, .slice B rl.length d] 68)).alloc (.cells #[.int .u32 (hd : Int)] 72)).alloc (.cells #[.func (.func g) #[] lb] 81)).heap.size = w.heap.size + 3 := by simp
  have HF : Hid (∀ k, k < 4194304 → stepAfter rl hd take k < 4194304) := Lib.hid fun k _ => gather_lt htk
  have HM : Hid (MakesSet 101 #[.pointer (some ⟨w.heap.size, 0, none⟩), .pointer (some ⟨w.heap.size + 1, 0, none⟩), .pointer (some ⟨w.heap.size + 2, 0, none⟩)] (stepAfter rl hd take) (((w.alloc (.cells #[.slice A hs.length c, .slice B rl.length d] 68)).alloc (.cells #[.int .u32 (hd : Int)] 72)).alloc (.cells #[.func (.func g) #[] lb] 81))) := Lib.hid fun W k hk bW =>
    afterStep_any rl w.heap.size (w.heap.size + 1) (w.heap.size + 2) hi hd k g lb eg take _ B d W (R0.below bW (by omega)) (R1.below bW (by omega)) (R2.below bW (by omega)) ((hR.below hb hh).below bW (by omega)) (by have := bW.size; omega) hk hhd htk (hp.later (hb.trans (bW.mono (by omega))))
  clear hR h R0 R1 R2 hp
  go_enter Try.func59, Try.ntmps59
  go_wp2_with fail
  refine (fixedPoint_any _ _ (enters_of Try.func101 (by kernel_rfl) rfl) (stepAfter rl hd take) 0 _ (by omega) HF.out HM.out).mono ?_
  rintro e w1 ⟨m, rfl, hfix, b1⟩
  go_wp2
  go_ret
  exact ⟨m, rfl, hfix, hb.trans (b1.mono (by omega))⟩

theorem takes_whole (w : World) : TakesSet 96 #[] joinAll w := fun W v l hi hB _ _ =>
  (wholeBody_any v l hi W hB).mono fun _ _ ⟨he, hw⟩ => ⟨he, by subst hw; exact Below.refl _ _⟩

set_option maxRecDepth 100000 in
set_option maxHeartbeats 1000000 in
theorem reachable_any (hs : List ByteArray) (rl : List RuleN) (v : Value) (hi : Nat) (w : World) (h : SetsG w hi v hs rl) (hh : hi ≤ w.heap.size) (htk : ∀ r ∈ rl, joinAll r.body < 4194304) :
    Calls Try.prog 56 #[v] w fun e w' => ∃ m : Nat, e = .returned (.int .u32 ((1 ||| m : Nat) : Int)) ∧ FixAt (stepAfter rl 1 joinAll) 0 m ∧ Below w.heap.size w w' := by
  have HV := Lib.hid h
  have HTK := Lib.hid htk
  obtain ⟨A, c, B, d, rfl, -, -⟩ := h.form
  have hb := al1 w (.cells #[.slice A hs.length c, .slice B rl.length d] 68)
  clear h htk
  go_enter Try.func56, Try.ntmps56
  go_wp2_with fail
  refine (after_any hs rl _ 1 hi 96 #[] (enters_of Try.func96 (by kernel_rfl) rfl) joinAll _ (HV.out.below hb hh) (by simp; omega) (by omega) HTK.out (takes_whole _)).mono ?_
  rintro e w1 ⟨m, rfl, hfix, b1⟩
  have R2 := Row.made w1 72 #[.int .u32 (((1 : Nat)) : Int), .int .u32 (m : Int)]
  have hb1 := hb.trans (b1.mono (by simp))
  have hm := hfix.1
  go_wp2_with fail
  refine (joinTwo_any w1.heap.size 1 m 72 _ R2 (by omega) hm).mono ?_
  rintro e w2 ⟨rfl, rfl⟩
  go_wp2
  go_ret
  exact ⟨m, rfl, hfix, hb1.trans ((al1 _ _).mono hb1.size)⟩

set_option maxRecDepth 100000 in
set_option maxHeartbeats 1000000 in
theorem takeLeftStep_any (v : Value) (l : List Nat) (hi null q : Nat) (w : World) (h : BitsAt w hi v l) (hh : hi ≤ w.heap.size) (hq : Row w q 72 #[.int .u32 (null : Int)]) (hn : null < 4194304) :
    Calls Try.prog 103 #[v, .pointer (some ⟨q, 0, none⟩)] w fun e w' => e = .returned (.int .u32 ((leftN null l : Nat) : Int)) ∧ Below w.heap.size w w' := by
  obtain ⟨A, c, rfl, hlc, hc, hsz, hcell⟩ := h
  unfold maxLen at hc
  have HC := Lib.hid hcell
  have HZ := Lib.hid hsz
  have HQ := Lib.hid hq
  have hql := hq.lt
  clear hcell hsz hq
  go_enter Try.func103, Try.ntmps103
  go_wp2
  go_loopw [4, 6, 9] (fun o _ i wr => ∃ k : Nat, k ≤ l.length ∧ i = .int .i64 k ∧ o = .int .u32 ((leftN null (l.take k) : Nat) : Int) ∧ Below w.heap.size w wr) (fun _ _ i _ => l.length - (intOf i).toNat)
  case atStart => exact ⟨0, by omega, rfl, rfl, Below.refl _ _⟩
  case round =>
    obtain ⟨k, hk, rfl, rfl, hbw⟩ := hrel
    have hsw := hbw.size
    by_cases hlt : k < l.length
    · obtain ⟨b, off, rfl, hbh, hcc⟩ := HC.out (by omega)
      have hck := (hbw.cell (p := ⟨b, off + k, none⟩) (by show b < _; omega)).trans (hcc k hlt)
      have cq := (HQ.out.below hbw hql).cell 0
      simp at cq
      clear hcc
      have h1 := leftN_lt (null := null) HZ.out k
      have h2 := HZ.out _ (List.getElem_mem hlt)
      have HS := Lib.hid (leftN_succ (null := null) hlt)
      have R2 := Row.made wr 72 #[.int .u32 ((leftN null (l.take k) : Nat) : Int), .int .u32 ((l[k] : Nat) : Int)]
      cases hx : holdsB null (leftN null (l.take k))
      · have HX := Lib.hid hx
        clear hx
        go_wp2_with fail
        refine (holds_any null (leftN null (l.take k)) _ hn h1).mono ?_
        rintro e w1 ⟨rfl, rfl⟩
        rw [HX.out]
        go_wp2
        go_roundw
        case rel => exact ⟨k + 1, by omega, by go_num, by rw [HS.out, HX.out]; rfl, hbw⟩
        case measure => simp [intOf]; omega
      · have HX := Lib.hid hx
        clear hx
        go_wp2_with fail
        refine (holds_any null (leftN null (l.take k)) _ hn h1).mono ?_
        rintro e w1 ⟨rfl, rfl⟩
        rw [HX.out]
        go_wp2_with fail
        refine (joinTwo_any wr.heap.size (leftN null (l.take k)) l[k] 72 _ R2 h1 h2).mono ?_
        rintro e w1 ⟨rfl, rfl⟩
        go_wp2
        go_roundw
        case rel => exact ⟨k + 1, by omega, by go_num, by rw [HS.out, HX.out]; rfl, hbw.trans ((al1 _ _).mono hsw)⟩
        case measure => simp [intOf]; omega
    · have hks : k = l.length := by omega
      subst hks
      go_wp2
      go_ret
      exact ⟨ret_u32 (by rw [List.take_length]), hbw⟩
set_option maxHeartbeats 400000 in
theorem takeLeft_any (null : Nat) (w : World) (hn : null < 4194304) :
    Calls Try.prog 61 #[.int .u32 (null : Int)] w fun e w' => ∃ lb, e = .returned (.func (.func 103) #[] lb) ∧ TakesSet 103 lb (leftN null) w' ∧ Below w.heap.size w w' := by
  have hmf : ∀ (fn : Fn) (first cap : Array Value) (w : World), (Instr.makeFunc fn first cap).run Try.prog w = .ok (.func fn first cap) w := fun _ _ _ _ => rfl
  go_enter Try.func61, Try.ntmps61
  go_wp2
  go_ret
  exact ⟨_, rfl, fun W v l hi hB hh bW => takeLeftStep_any v l hi null w.heap.size W hB hh ((Row.made w 72 #[.int .u32 (null : Int)]).below bW (by simp)) hn, al1 _ _⟩
end Go.Proofs.Ytmhdbjoljonhdaa
