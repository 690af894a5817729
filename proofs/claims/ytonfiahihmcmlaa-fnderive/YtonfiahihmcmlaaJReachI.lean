import Derived.Test.YtonfiahihmcmlaaJAfterT
import Derived.Laws.EntriesVeiled
import Derived.Test.YtonfiahihmcmlaaJNullI
/- The walks of after, reachable and takeLeft. -/
namespace Go.Proofs.Ytonfiahihmcmlaa
open Go.RowKit

theorem Row.made2 (w : World) (o o' : Obj) (t : TypeId) (cur : Array Value) : Row (((w.alloc o).alloc o').alloc (.cells cur t)) (w.heap.size + 2) t cur := by simpa using Row.made ((w.alloc o).alloc o') t cur

set_option maxRecDepth 100000 in
set_option maxHeartbeats 1000000 in
theorem after_any (hs : List ByteArray) (rl : List RuleN) (v : Value) (hd hi g : Nat) (lb : Array Value) (eg : Enters Try.prog g) (take : List Nat → Nat) (w : World) (h : SetsG w hi v hs rl) (hh : hi ≤ w.heap.size) (hhd : hd < 4194304) (htk : ∀ r ∈ rl, take r.body < 4194304) (hp : TakesSet g lb take w) :
    Calls Try.prog 188 #[v, .int .u32 (hd : Int), .func (.func g) #[] lb] w fun e w' => ∃ m : Nat, e = .returned (.int .u32 (m : Int)) ∧ FixAt (stepAfter rl hd take) 0 m ∧ Below w.heap.size w w' := by
  have hmf : ∀ (fn : Fn) (first cap : Array Value) (w : World), (Instr.makeFunc fn first cap).run Try.prog w = .ok (.func fn first cap) w := fun _ _ _ _ => rfl
  obtain ⟨A, c, B, d, rfl, -, hR⟩ := h.form
  have hb := al3 w (.cells #[.slice A hs.length c, .slice B rl.length d] 187) (.cells #[.int .u32 (hd : Int)] 191) (.cells #[.func (.func g) #[] lb] 233)
  have R0 := ((Row.made w 187 #[.slice A hs.length c, .slice B rl.length d]).alloc (.cells #[.int .u32 (hd : Int)] 191)).alloc (.cells #[.func (.func g) #[] lb] 233)
  have R1 := (Row.made1 w (.cells #[.slice A hs.length c, .slice B rl.length d] 187) 191 #[.int .u32 (hd : Int)]).alloc (.cells #[.func (.func g) #[] lb] 233)
  have R2 := Row.made2 w (.cells #[.slice A hs.length c, .slice B rl.length d] 187) (.cells #[.int .u32 (hd : Int)] 191) 233 #[.func (.func g) #[] lb]
  have hsz : (((w.alloc (.cells #[.slice A hs.length c, .slice B rl.length d] 187)).alloc (.cells #[.int .u32 (hd : Int)] 191)).alloc (.cells #[.func (.func g) #[] lb] 233)).heap.size = w.heap.size + 3 := by simp
  have HF : Hid (∀ k, k < 4194304 → stepAfter rl hd take k < 4194304) := Lib.hid fun k _ => gather_lt htk
  have HM : Hid (MakesSet 189 #[.pointer (some ⟨w.heap.size, 0, none⟩), .pointer (some ⟨w.heap.size + 1, 0, none⟩), .pointer (some ⟨w.heap.size + 2, 0, none⟩)] (stepAfter rl hd take) (((w.alloc (.cells #[.slice A hs.length c, .slice B rl.length d] 187)).alloc (.cells #[.int .u32 (hd : Int)] 191)).alloc (.cells #[.func (.func g) #[] lb] 233))) := Lib.hid fun W k hk bW =>
    afterStep_any rl w.heap.size (w.heap.size + 1) (w.heap.size + 2) hi hd k g lb eg take _ B d W (R0.below bW (by omega)) (R1.below bW (by omega)) (R2.below bW (by omega)) ((hR.below hb hh).below bW (by omega)) (by have := bW.size; omega) hk hhd htk (hp.later (hb.trans (bW.mono (by omega))))
  clear hR h R0 R1 R2 hp
  go_enter Try.func188, Try.ntmps188
  go_wp2_with fail
  refine (fixedPoint_any _ _ (enters_of Try.func189 (by kernel_rfl) rfl) (stepAfter rl hd take) 0 _ (by omega) HF.out HM.out).mono ?_
  rintro e w1 ⟨m, rfl, hfix, b1⟩
  go_wp2
  go_ret
  exact ⟨m, rfl, hfix, hb.trans (b1.mono (by omega))⟩

theorem takes_whole (w : World) : TakesSet 165 #[] joinAll w := fun W v l hi hB _ _ =>
  (wholeBody_any v l hi W hB).mono fun _ _ ⟨he, hw⟩ => ⟨he, by subst hw; exact Below.refl _ _⟩

set_option maxRecDepth 100000 in
set_option maxHeartbeats 1000000 in
theorem reachable_any (hs : List ByteArray) (rl : List RuleN) (v : Value) (hi : Nat) (w : World) (h : SetsG w hi v hs rl) (hh : hi ≤ w.heap.size) (htk : ∀ r ∈ rl, joinAll r.body < 4194304) :
    Calls Try.prog 181 #[v] w fun e w' => ∃ m : Nat, e = .returned (.int .u32 ((1 ||| m : Nat) : Int)) ∧ FixAt (stepAfter rl 1 joinAll) 0 m ∧ Below w.heap.size w w' := by
  have HV := Lib.hid h
  have HTK := Lib.hid htk
  obtain ⟨A, c, B, d, rfl, -, -⟩ := h.form
  have hb := al1 w (.cells #[.slice A hs.length c, .slice B rl.length d] 187)
  clear h htk
  go_enter Try.func181, Try.ntmps181
  go_wp2_with fail
  refine (after_any hs rl _ 1 hi 165 #[] (enters_of Try.func165 (by kernel_rfl) rfl) joinAll _ (HV.out.below hb hh) (by simp; omega) (by omega) HTK.out (takes_whole _)).mono ?_
  rintro e w1 ⟨m, rfl, hfix, b1⟩
  have R2 := Row.made w1 191 #[.int .u32 (((1 : Nat)) : Int), .int .u32 (m : Int)]
  have hb1 := hb.trans (b1.mono (by simp))
  have hm := hfix.1
  go_wp2_with fail
  refine (joinTwo_any w1.heap.size 1 m 191 _ R2 (by omega) hm).mono ?_
  rintro e w2 ⟨rfl, rfl⟩
  go_wp2
  go_ret
  exact ⟨m, rfl, hfix, hb1.trans ((al1 _ _).mono hb1.size)⟩

end Go.Proofs.Ytonfiahihmcmlaa

/- The program's Reachable. -/
namespace Go.Proofs.Ytonfiahihmcmlaa
open Go.RowKit

theorem headsTo_first {rs : List RuleD} (h : 0 < rs.length) {k : Nat} (hk : 1 ≤ k) (hl : k ≤ rs.length) : (headsTo rs k)[0]? = some rs[0].head := by
  induction k with
  | zero => omega
  | succ k ih =>
    rw [headsTo_succ (by omega)]
    rcases Nat.eq_zero_or_pos k with h0 | h0
    · subst h0
      rfl
    · have := ih h0 (by omega)
      unfold addSym
      split
      · exact this
      · rw [List.getElem?_append_left]
        · exact this
        · rcases Nat.eq_zero_or_pos (headsTo rs k).length with h1 | h1
          · rw [List.getElem?_eq_none (by omega)] at this; cases this
          · exact h1
theorem Rt.start_idx {rs : List RuleD} (R : Rt rs) : symIdx (hsOf rs) (rs[0]'R.one).head = 0 := by
  have h := headsTo_first R.one (k := rs.length) R.one (Nat.le_refl _)
  change (hsOf rs)[0]? = _ at h
  have hl : 0 < (hsOf rs).length := by
    rcases Nat.eq_zero_or_pos (hsOf rs).length with h1 | h1
    · rw [List.getElem?_eq_none (by omega)] at h; cases h
    · exact h1
  rw [List.getElem?_eq_getElem hl] at h
  injection h with h
  rw [← h]
  exact R.idx_at hl
/-- the start of a grammar -/
def startOf (rs : List RuleD) : ByteArray := (ruleAt rs 0).head
theorem Rt.start {rs : List RuleD} (R : Rt rs) : startOf rs = (rs[0]'R.one).head := by unfold startOf; rw [ruleAt_eq R.one]
theorem Rt.start_set {rs : List RuleD} (R : Rt rs) : setN (hsOf rs) (startOf rs) = 1 := by unfold setN; rw [R.start, R.start_idx]
/-- the start, or what is come to from it -/
def Rch (rs : List RuleD) (ix : List Nat) (s : ByteArray) : Prop := s = startOf rs ∨ Aft rs ix tkAll (startOf rs) s
theorem reach_bit {rs : List RuleD} (R : Rt rs) {ix : List Nat} (hix : ∀ i ∈ ix, i < rs.length) {m : Nat} (hf : FixAt (stepAfter (rnl rs ix) 1 joinAll) 0 m) {s : ByteArray} (hs : s ∈ hsOf rs) : (1 ||| m).testBit (symIdx (hsOf rs) s) = true ↔ Rch rs ix s := by
  rw [← R.start_set] at hf
  rw [Nat.testBit_or, Bool.or_eq_true, aft_bit R hix (takes_all rs) _ hf hs]
  have h1 : Nat.testBit 1 (symIdx (hsOf rs) s) = true ↔ s = startOf rs := by
    rw [← R.start_set, setN_bit]
    exact ⟨fun e => (R.idx_inj hs e).symm, fun e => by rw [e]⟩
  rw [h1]; rfl
open Classical in
noncomputable def reachOf (rs : List RuleD) : List ByteArray := (headsOf rs).filter fun s => decide (Rch rs (List.range rs.length) s)
theorem reachOf_len (rs : List RuleD) : (reachOf rs).length ≤ 1000 := Nat.le_trans (List.length_filter_le _ _) (headsOf_len rs)
theorem reach_list {rs : List RuleD} {m : Nat} (h : FixAt (stepAfter (rlOf rs) 1 joinAll) 0 m) : pickB (1 ||| m) (headsOf rs) (headsOf rs).length = reachOf rs := by
  unfold reachOf
  cases hq : gramB rs
  · rw [headsOf_f hq]; rfl
  · have R := Rt.of hq
    have e : headsOf rs = hsOf rs := headsOf_t hq
    rw [rlOf_t hq] at h
    rw [e]
    apply pickB_filter
    intro i hi
    have h1 := reach_bit R (fun i hi => List.mem_range.1 hi) h (List.getElem_mem hi)
    rw [R.idx_at hi] at h1
    rw [Bool.eq_iff_iff, h1]
    simp

end Go.Proofs.Ytonfiahihmcmlaa
