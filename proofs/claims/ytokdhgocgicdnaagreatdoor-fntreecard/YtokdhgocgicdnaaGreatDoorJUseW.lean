import Derived.Test.YtokdhgocgicdnaaGreatDoorJNullI
import Derived.Test.YtokdhgocgicdnaaGreatDoorJAfterU
/- The program's Reachable. -/
namespace Go.Proofs.YtokdhgocgicdnaaGreatDoor
open Go.RowKit

theorem headsTo_first {rs : List RuleD} (h : 0 < rs.length) {k : Nat} (hk : 1 ≤ k) (hl : k ≤ rs.length) : (headsTo rs k)[0]? = some rs[0].head := by
  induction k with
  | zero => omega
  | succ k ih =>
    rw [headsTo_succ (by omega)]
    rcases Nat.eq_zero_or_pos k with h0 | h0
    · subst h0
      rfl
    · have := ih h0 (by omega)
      unfold addSym
      split
      · exact this
      · rw [List.getElem?_append_left]
        · exact this
        · rcases Nat.eq_zero_or_pos (headsTo rs k).length with h1 | h1
          · rw [List.getElem?_eq_none (by omega)] at this; cases this
          · exact h1
theorem Rt.start_idx {rs : List RuleD} (R : Rt rs) : symIdx (hsOf rs) (rs[0]'R.one).head = 0 := by
  have h := headsTo_first R.one (k := rs.length) R.one (Nat.le_refl _)
  change (hsOf rs)[0]? = _ at h
  have hl : 0 < (hsOf rs).length := by
    rcases Nat.eq_zero_or_pos (hsOf rs).length with h1 | h1
    · rw [List.getElem?_eq_none (by omega)] at h; cases h
    · exact h1
  rw [List.getElem?_eq_getElem hl] at h
  injection h with h
  rw [← h]
  exact R.idx_at hl
/-- the start of a grammar -/
def startOf (rs : List RuleD) : ByteArray := (ruleAt rs 0).head
theorem Rt.start {rs : List RuleD} (R : Rt rs) : startOf rs = (rs[0]'R.one).head := by unfold startOf; rw [ruleAt_eq R.one]
theorem Rt.start_set {rs : List RuleD} (R : Rt rs) : setN (hsOf rs) (startOf rs) = 1 := by unfold setN; rw [R.start, R.start_idx]
/-- the start, or what is come to from it -/
def Rch (rs : List RuleD) (ix : List Nat) (s : ByteArray) : Prop := s = startOf rs ∨ Aft rs ix tkAll (startOf rs) s
theorem reach_bit {rs : List RuleD} (R : Rt rs) {ix : List Nat} (hix : ∀ i ∈ ix, i < rs.length) {m : Nat} (hf : FixAt (stepAfter (rnl rs ix) 1 joinAll) 0 m) {s : ByteArray} (hs : s ∈ hsOf rs) : (1 ||| m).testBit (symIdx (hsOf rs) s) = true ↔ Rch rs ix s := by
  rw [← R.start_set] at hf
  rw [Nat.testBit_or, Bool.or_eq_true, aft_bit R hix (takes_all rs) _ hf hs]
  have h1 : Nat.testBit 1 (symIdx (hsOf rs) s) = true ↔ s = startOf rs := by
    rw [← R.start_set, setN_bit]
    exact ⟨fun e => (R.idx_inj hs e).symm, fun e => by rw [e]⟩
  rw [h1]; rfl
open Classical in
noncomputable def reachOf (rs : List RuleD) : List ByteArray := (headsOf rs).filter fun s => decide (Rch rs (List.range rs.length) s)
theorem reachOf_len (rs : List RuleD) : (reachOf rs).length ≤ 1000 := Nat.le_trans (List.length_filter_le _ _) (headsOf_len rs)
theorem reach_list {rs : List RuleD} {m : Nat} (h : FixAt (stepAfter (rlOf rs) 1 joinAll) 0 m) : pickB (1 ||| m) (headsOf rs) (headsOf rs).length = reachOf rs := by
  unfold reachOf
  cases hq : gramB rs
  · rw [headsOf_f hq]; rfl
  · have R := Rt.of hq
    have e : headsOf rs = hsOf rs := headsOf_t hq
    rw [rlOf_t hq] at h
    rw [e]
    apply pickB_filter
    intro i hi
    have h1 := reach_bit R (fun i hi => List.mem_range.1 hi) h (List.getElem_mem hi)
    rw [R.idx_at hi] at h1
    rw [Bool.eq_iff_iff, h1]
    simp

end Go.Proofs.YtokdhgocgicdnaaGreatDoor

/- The walks of without and useful. -/
namespace Go.Proofs.YtokdhgocgicdnaaGreatDoor
open Go.RowKit

/-- a function value that asks something of a rule -/
def TestsRule (g : Nat) (lb : Array Value) (p : RuleN → Bool) (w : World) : Prop :=
  ∀ (W : World) (u : Value) (r : RuleN) (hi : Nat), BitsAt W hi u r.body → hi ≤ W.heap.size → r.head < 4194304 → Below w.heap.size w W → Calls Tryz.prog g (#[.agg #[.int .i64 (r.num : Int), .int .u32 (r.head : Int), u]] ++ lb) W fun e w' => e = .returned (.bool (p r)) ∧ Below W.heap.size W w'
theorem TestsRule.later {g : Nat} {lb : Array Value} {p : RuleN → Bool} {w W : World} (h : TestsRule g lb p w) (hb : Below w.heap.size w W) : TestsRule g lb p W :=
  fun W' u r hi hB hh hd hb' => h W' u r hi hB hh hd (hb.trans (hb'.mono hb.size))
def keepN (p : RuleN → Bool) (rl : List RuleN) : List RuleN := rl.filter fun r => !p r
theorem keepN_t {p : RuleN → Bool} {rl : List RuleN} {j : Nat} (h : j < rl.length) (hp : p rl[j] = true) : keepN p (rl.take (j + 1)) = keepN p (rl.take j) := by
  unfold keepN; rw [List.take_succ_eq_append_getElem h, List.filter_append]; simp [hp]
theorem keepN_f {p : RuleN → Bool} {rl : List RuleN} {j : Nat} (h : j < rl.length) (hp : p rl[j] = false) : keepN p (rl.take (j + 1)) = keepN p (rl.take j) ++ [rl[j]] := by
  unfold keepN; rw [List.take_succ_eq_append_getElem h, List.filter_append]; simp [hp]
theorem keepN_len (p : RuleN → Bool) (rl : List RuleN) (j : Nat) : (keepN p (rl.take j)).length ≤ rl.length := by
  unfold keepN
  refine Nat.le_trans (List.length_filter_le _ _) ?_
  rw [List.length_take]; omega

/-- rules of sets whose bodies stand ahead of bb, or in blocks of sets -/
def RulesX (w : World) (hi bb : Nat) (v : Value) (rl : List RuleN) : Prop :=
  ∃ A c, v = .slice A rl.length c ∧ rl.length ≤ c ∧ c ≤ maxLen ∧
    (0 < rl.length → ∃ b off, A = some ⟨b, off, none⟩ ∧ b < hi ∧ ∀ i (h : i < rl.length), rl[i].num ≤ 1000 ∧ rl[i].head < 4194304 ∧
      w.cell? ⟨b, off + i * 3, none⟩ = some (.int .i64 (rl[i].num : Nat)) ∧ w.cell? ⟨b, off + i * 3 + 1, none⟩ = some (.int .u32 (rl[i].head : Nat)) ∧
      ∃ u, w.cell? ⟨b, off + i * 3 + 2, none⟩ = some u ∧ BitsX w bb u rl[i].body)
theorem RulesN.x {w : World} {hi bb : Nat} {v : Value} {rl : List RuleN} (h : RulesN w hi v rl) (h1 : hi ≤ bb) (h2 : bb ≤ w.heap.size) : RulesX w hi bb v rl := by
  obtain ⟨A, c, a1, a2, a3, a5⟩ := h
  refine ⟨A, c, a1, a2, a3, fun hp => ?_⟩
  obtain ⟨b, off, e, hl, hc⟩ := a5 hp
  refine ⟨b, off, e, hl, fun i hi => ?_⟩
  obtain ⟨x1, x2, x3, x4, u, x5, x6⟩ := hc i hi
  exact ⟨x1, x2, x3, x4, u, x5, x6.x h1 h2⟩
theorem RulesX.n {w : World} {hi bb : Nat} {v : Value} {rl : List RuleN} (h : RulesX w hi bb v rl) (h1 : hi ≤ w.heap.size) : RulesN w w.heap.size v rl := by
  obtain ⟨A, c, a1, a2, a3, a5⟩ := h
  refine ⟨A, c, a1, a2, a3, fun hp => ?_⟩
  obtain ⟨b, off, e, hl, hc⟩ := a5 hp
  refine ⟨b, off, e, by omega, fun i hi => ?_⟩
  obtain ⟨x1, x2, x3, x4, u, x5, x6⟩ := hc i hi
  exact ⟨x1, x2, x3, x4, u, x5, x6.at⟩
theorem GrowN.rx {w : World} {base bb : Nat} {v : Value} {xs : List (RuleN × Value)} (h : GrowN w base bb v xs) : RulesX w w.heap.size bb v (xs.map (·.1)) := by
  obtain ⟨a, b⟩ := h
  rcases a.2 with ⟨rfl, h0⟩ | ⟨g, cap, cur, rfl, hb, hh, hc, hm, hs, ht⟩
  · obtain rfl : xs = [] := List.eq_nil_of_length_eq_zero h0
    exact ⟨none, 0, rfl, Nat.le_refl _, by unfold maxLen; omega, fun h => by simp at h⟩
  · have hr : Row w g 147 cur := hh
    refine ⟨_, cap, by rw [List.length_map], by rw [List.length_map]; exact hc, hm, fun hp => ⟨g, 0, rfl, hr.lt, fun i hi => ?_⟩⟩
    rw [List.length_map] at hi
    obtain ⟨b1, b2, b3⟩ := b xs[i] (List.getElem_mem hi)
    obtain ⟨f1, f2, f3⟩ := flatN_at xs i hi
    have cell : ∀ j, j < xs.length * 3 → w.cell? ⟨g, 0 + j, none⟩ = (flatN xs)[j]? := fun j hj => by
      rw [Nat.zero_add, hr.cell, ← ht, List.getElem?_take_of_lt hj, Array.getElem?_toList]
    simp only [List.getElem_map]
    refine ⟨b1, b2, (cell (i * 3) (by omega)).trans f1, ?_, xs[i].2, ?_, b3⟩
    · rw [Nat.add_assoc]; exact (cell (i * 3 + 1) (by omega)).trans f2
    · rw [Nat.add_assoc]; exact (cell (i * 3 + 2) (by omega)).trans f3
/-- a grammar of sets, as a call takes it -/
def SetsI (w : World) (hi bb : Nat) (v : Value) (hs : List ByteArray) (rl : List RuleN) : Prop :=
  ∃ A c B d, v = .agg #[.slice A hs.length c, .slice B rl.length d] ∧ Strs w 0 bb (.slice A hs.length c) hs ∧ RulesX w hi bb (.slice B rl.length d) rl
theorem SetsG.i {w : World} {hi : Nat} {v : Value} {hs : List ByteArray} {rl : List RuleN} (h : SetsG w hi v hs rl) (hh : hi ≤ w.heap.size) : SetsI w hi hi v hs rl := by
  obtain ⟨A, c, B, d, e, h1, h2⟩ := h.form
  exact ⟨A, c, B, d, e, h1, h2.x (Nat.le_refl _) hh⟩
/-- a grammar of sets that a call has made of another one -/
def SetsX (w : World) (base bb : Nat) (v : Value) (hs : List ByteArray) (rl : List RuleN) : Prop :=
  ∃ A c v' xs, v = .agg #[.slice A hs.length c, v'] ∧ Strs w 0 bb (.slice A hs.length c) hs ∧ GrowN w base bb v' xs ∧ xs.map (·.1) = rl
theorem SetsX.i {w : World} {base bb : Nat} {v : Value} {hs : List ByteArray} {rl : List RuleN} (h : SetsX w base bb v hs rl) : SetsI w w.heap.size bb v hs rl := by
  obtain ⟨A, c, v', xs, e, h1, h2, rfl⟩ := h
  have h3 := h2.rx
  obtain ⟨B, d, e', r⟩ := h2.rx
  subst e'
  exact ⟨A, c, B, d, e, h1, h3⟩
theorem SetsI.g {w : World} {hi bb : Nat} {v : Value} {hs : List ByteArray} {rl : List RuleN} (h : SetsI w hi bb v hs rl) (h1 : hi ≤ w.heap.size) (h2 : bb ≤ w.heap.size) : SetsG w w.heap.size v hs rl := by
  obtain ⟨A, c, B, d, e, h3, h4⟩ := h
  exact ⟨_, _, e, h3.more (Nat.le_refl _) h2, h4.n h1⟩
theorem SetsX.lower {w : World} {base base' bb : Nat} {v : Value} {hs : List ByteArray} {rl : List RuleN} (h : SetsX w base bb v hs rl) (hb : base' ≤ base) : SetsX w base' bb v hs rl := by
  obtain ⟨A, c, v', xs, e, h1, ⟨⟨h4, h5⟩, h6⟩, h3⟩ := h
  refine ⟨A, c, v', xs, e, h1, ⟨⟨h4, ?_⟩, h6⟩, h3⟩
  rcases h5 with h5 | ⟨g, cap, cur, a1, a2, r⟩
  · exact .inl h5
  · exact .inr ⟨g, cap, cur, a1, by omega, r⟩
theorem SetsX.below {w w' : World} {base bb : Nat} {v : Value} {hs : List ByteArray} {rl : List RuleN} (h : SetsX w base bb v hs rl) (k : Below w.heap.size w w') (hb : bb ≤ w.heap.size) : SetsX w' base bb v hs rl := by
  obtain ⟨A, c, v', xs, e, h1, h2, h3⟩ := h
  exact ⟨A, c, v', xs, e, h1.below k hb, h2.below k, h3⟩
theorem SetsX.away {w : World} {base bb : Nat} {v : Value} {hs : List ByteArray} {rl : List RuleN} (h : SetsX w base bb v hs rl) {p : Addr} {cur : Array Value} (hr : Row w p.block 140 cur) (hp : bb ≤ p.block) (u : Value) : SetsX (w.setCell p u) base bb v hs rl := by
  obtain ⟨A, c, v', xs, e, h1, h2, h3⟩ := h
  exact ⟨A, c, v', xs, e, h1.keep fun k _ hk => Below.heap_setCell _ _ _ _ (by omega), h2.away hr (by decide) (by decide) hp u, h3⟩

set_option maxRecDepth 100000 in
set_option maxHeartbeats 4000000 in
theorem without_any (hs : List ByteArray) (rl : List RuleN) (v : Value) (hi bb g : Nat) (lb : Array Value) (eg : Enters Tryz.prog g) (p : RuleN → Bool) (w : World) (h : SetsI w hi bb v hs rl) (hh : hi ≤ w.heap.size) (hbb : bb ≤ w.heap.size) (hl20 : rl.length ≤ 20) (hp : TestsRule g lb p w) :
    Calls Tryz.prog 89 #[v, .func (.func g) #[] lb] w fun e w' => ∃ x, e = .returned x ∧ SetsX w' w.heap.size bb x hs (keepN p rl) ∧ Below w.heap.size w w' := by
  unfold Enters at eg
  obtain ⟨j0, hj0, hy0, hy1, hy2⟩ := info_parts Tryz.infoRuleSets
  obtain ⟨A, c, B, d, rfl, hS, hR⟩ := h
  have hb := al2 w (.cells #[.slice A hs.length c, .slice B rl.length d] 140) (.cells #[.slice none 0 0, .slice none 0 0] 140)
  have R1 := Row.made1 w (.cells #[.slice A hs.length c, .slice B rl.length d] 140) 140 #[.slice none 0 0, .slice none 0 0]
  obtain ⟨B', d', e', hlc, hc, hcell⟩ := hR
  injection e' with e1 _ e2
  subst e1 e2
  unfold maxLen at hc
  have hsz : ((w.alloc (.cells #[.slice A hs.length c, .slice B rl.length d] 140)).alloc (.cells #[.slice none 0 0, .slice none 0 0] 140)).heap.size = w.heap.size + 2 := by simp
  have HB2 := Lib.hid hb
  have HR1 := Lib.hid R1
  have HSZ := Lib.hid hsz
  have HS := Lib.hid hS
  have HC := Lib.hid hcell
  have HP := Lib.hid hp
  clear hcell hp hS R1 hb hsz
  go_enter Tryz.func89, Tryz.ntmps89
  go_wp2
  go_loopw [7, 14] (fun _ i wr => ∃ (j : Nat) (xs : List (RuleN × Value)) (v : Value), j ≤ rl.length ∧ i = .int .i64 (j : Int) ∧ xs.map (·.1) = keepN p (rl.take j) ∧ Row wr (w.heap.size + 2) 140 #[.slice A hs.length c, v] ∧ GrowN wr (w.heap.size + 2) bb v xs ∧ Below (w.heap.size + 2) ((w.alloc (.cells #[.slice A hs.length c, .slice B rl.length d] 140)).alloc (.cells #[.slice none 0 0, .slice none 0 0] 140)) wr) (fun _ i _ => rl.length - (intOf i).toNat)
  case atStart => exact ⟨0, [], .slice none 0 0, by omega, rfl, rfl, Row.made2 _ _ _ _ _, GrowN.nil _ _ _, by have := al1 ((w.alloc (.cells #[.slice A hs.length c, .slice B rl.length d] 140)).alloc (.cells #[.slice none 0 0, .slice none 0 0] 140)) (.cells #[.slice A hs.length c, .slice none 0 0] 140); rw [HSZ.out] at this; exact this⟩
  case round =>
    obtain ⟨j, xs, vr, hj, rfl, hxs, hrow, hgr, hbw⟩ := hrel
    rename World => wo
    have hsw := hbw.size
    rw [HSZ.out] at hsw
    have hxl : xs.length ≤ 20 := by have := congrArg List.length hxs; rw [List.length_map] at this; have := keepN_len p rl j; omega
    have HXS := Lib.hid hxs
    have HROW := Lib.hid hrow
    have HGR := Lib.hid hgr
    have hrl := hrow.lt
    have hbA := HB2.out.trans (hbw.mono (by omega))
    obtain ⟨Bv, dv, rfl⟩ : ∃ B d, vr = .slice B xs.length d := by
      rcases hgr.1.2 with ⟨rfl, h0⟩ | ⟨g, cap, cur, rfl, _⟩
      · exact ⟨none, 0, by rw [h0]⟩
      · exact ⟨_, _, rfl⟩
    have s0 := hrow.cell 0
    have s1 := hrow.cell 1
    simp at s0 s1
    clear hxs hrow hgr
    by_cases hlt : j < rl.length
    · obtain ⟨b, off, rfl, hbh, hcc⟩ := HC.out (by omega)
      obtain ⟨hn, hhh, d0, d1, u, d2, hB⟩ := hcc j hlt
      have d0' := (hbA.cell (p := ⟨b, off + j * 3, none⟩) (by show b < _; omega)).trans d0
      have d1' := (hbA.cell (p := ⟨b, off + j * 3 + 1, none⟩) (by show b < _; omega)).trans d1
      have d2' := (hbA.cell (p := ⟨b, off + j * 3 + 2, none⟩) (by show b < _; omega)).trans d2
      have hB' := hB.move hbA.size fun b hb _ => hbA.block b hb
      clear hcc d0 d1 d2 hB
      have HB := Lib.hid hB'
      obtain ⟨A', c', rfl, -⟩ := hB'
      have ha := al1 wo (.cells #[.int .i64 (rl[j].num : Int), .int .u32 (rl[j].head : Int), .slice A' rl[j].body.length c'] 147)
      have R2 := Row.made wo 147 #[.int .i64 (rl[j].num : Int), .int .u32 (rl[j].head : Int), .slice A' rl[j].body.length c']
      have hb2 := hbA.trans (ha.mono hbA.size)
      have hbw2 := hbw.trans (ha.mono hsw)
      have cT := HP.out _ _ rl[j] _ (HB.out.at.below ha (Nat.le_refl _)) (by simp) hhh hb2
      have HA := Lib.hid ha
      have HBW2 := Lib.hid hbw2
      cases hx : p rl[j]
      · have HX := Lib.hid hx
        have HK := Lib.hid (keepN_f hlt hx)
        rw [hx] at cT
        clear hx
        have HR2 := Lib.hid R2
        clear R2
        go_wp2_with (first
          | (go_at_fn g; refine cT.mono ?_; rintro e w8 ⟨rfl, b8⟩; have b8' := HA.out.trans (b8.mono (by simp)); have rS := HROW.out.below b8' hrl; have s8 := rS.cell 1; have r8 := HR2.out.below b8 (by simp); have t0 := r8.cell 0; have t1 := r8.cell 1; have t2 := r8.cell 2; simp at s8 t0 t1 t2; have hl8 := rS.lt; have hl9 := r8.lt; have G8 := Lib.hid (HGR.out.below b8'); have HRS := Lib.hid rS; have HNW := Lib.hid (three_new w8 (.int .i64 (rl[j].num : Int)) (.int .u32 (rl[j].head : Int)) (.slice A' rl[j].body.length c')); clear rS r8)
          | (at_builtin; refine wpList_append_own _ rfl _ _ 138 rfl (w.heap.size + 2) 147 j0 _ 3 40 Tryz.underlying138 hj0 hy0 hy1 hy2 rfl (by decide) (.slice Bv xs.length dv) xs.length (flatN xs) rfl (World.ownsRow.alloc G8.out.1 _) ⟨w8.heap.size, 0, none⟩ 1 1 [.int .i64 (rl[j].num : Int), .int .u32 (rl[j].head : Int), .slice A' rl[j].body.length c'] rfl rfl HNW.out (three_one _ _ _ _ _) (by unfold maxLen; omega) (by omega) (by simp; omega) ?_))
        intro v' w5 hown5 hg5 _
        have A4 := al1 w8 (.cells #[.int .i64 (rl[j].num : Int), .int .u32 (rl[j].head : Int), .slice A' rl[j].body.length c'] 147)
        have G4 := G8.out.below A4
        have G5 := G4.snoc (r := rl[j]) (u := .slice A' rl[j].body.length c') hown5 hg5 hn hhh ((HB.out.move b8'.size fun b hb _ => b8'.block b hb).move A4.size fun b hb _ => A4.block b hb) (by omega)
        have rS5 := Tx.row_grown (HRS.out.alloc _) G4.1 (by decide) hg5
        have B5 := Tx.below_grown ((hbw.trans (b8'.mono hsw)).trans (A4.mono (by omega))) G4.1 hg5 (by simp; omega) (Nat.le_refl _)
        obtain ⟨gv, cv, rfl, -⟩ := hown5.form (by omega)
        have c5 := rS5.cell 1
        have f5 := rS5.free 1
        simp at c5
        have G6 := G5.away (p := ⟨w.heap.size + 2, 1, none⟩) rS5 (by decide) (by decide) (by show bb ≤ w.heap.size + 2; omega) (.slice (some ⟨gv, 0, none⟩) (xs.length + 1) cv)
        have rS6 : Row (w5.setCell ⟨w.heap.size + 2, 1, none⟩ (.slice (some ⟨gv, 0, none⟩) (xs.length + 1) cv)) (w.heap.size + 2) 140 #[.slice A hs.length c, .slice (some ⟨gv, 0, none⟩) (xs.length + 1) cv] := by simpa using rS5.put 1 (.slice (some ⟨gv, 0, none⟩) (xs.length + 1) cv)
        have B6 := B5.setCell (p := ⟨w.heap.size + 2, 1, none⟩) (by show w.heap.size + 2 ≤ w.heap.size + 2; omega) (.slice (some ⟨gv, 0, none⟩) (xs.length + 1) cv)
        have H6 := Lib.hid (And.intro rS6 (And.intro G6 B6))
        clear rS5 B5 G5 G4 A4 hown5 hg5 rS6 B6 G6 cT b8
        go_wp2
        go_roundw
        case rel => exact ⟨j + 1, _, _, by omega, by go_num, by rw [List.map_append, HXS.out, HK.out]; rfl, H6.out.1, H6.out.2.1, H6.out.2.2⟩
        case measure => simp [intOf]; omega
      · have HX := Lib.hid hx
        have HK := Lib.hid (keepN_t hlt hx)
        rw [hx] at cT
        clear hx
        go_wp2_with (go_at_fn g; refine cT.mono ?_; rintro e w8 ⟨rfl, b8⟩)
        have b8' := HA.out.trans (b8.mono (by simp))
        have G8 := HGR.out.below b8'
        have R8 := HROW.out.below b8' hrl
        have B8 := hbw.trans (b8'.mono hsw)
        have H8 := Lib.hid (And.intro R8 (And.intro G8 B8))
        clear cT b8 G8 R8 B8
        go_roundw
        case rel => exact ⟨j + 1, xs, _, by omega, by go_num, by rw [HXS.out, HK.out], H8.out.1, H8.out.2.1, H8.out.2.2⟩
        case measure => simp [intOf]; omega
    · have hje : j = rl.length := by omega
      have hlt' : w.heap.size + 1 < wo.heap.size := by omega
      have R1 := HR1.out.below hbw (by omega)
      have c0 := R1.cell 0
      have c1 := R1.cell 1
      have f0 := R1.free 0
      have f1 := R1.free 1
      simp at c0 c1
      have HX : Hid (xs.map (·.1) = keepN p rl) := Lib.hid (by rw [HXS.out, hje, List.take_length])
      have RA : Row (wo.setCell ⟨w.heap.size + 1, 0, none⟩ (.slice A hs.length c)) (w.heap.size + 1) 140 #[.slice A hs.length c, .slice none 0 0] := by simpa using R1.put 0 (.slice A hs.length c)
      have SX : SetsX wo (w.heap.size + 2) bb (.agg #[.slice A hs.length c, .slice Bv xs.length dv]) hs (keepN p rl) := ⟨_, _, _, xs, rfl, HS.out.below hbA hbb, HGR.out, HX.out⟩
      have SY := (SX.away (p := ⟨w.heap.size + 1, 0, none⟩) R1 (by show bb ≤ w.heap.size + 1; omega) (.slice A hs.length c)).away (p := ⟨w.heap.size + 1, 1, none⟩) RA (by show bb ≤ w.heap.size + 1; omega) (.slice Bv xs.length dv)
      have BB := (hbA.setCell (p := ⟨w.heap.size + 1, 0, none⟩) (by show w.heap.size ≤ w.heap.size + 1; omega) (.slice A hs.length c)).setCell (p := ⟨w.heap.size + 1, 1, none⟩) (by show w.heap.size ≤ w.heap.size + 1; omega) (.slice Bv xs.length dv)
      have HFIN := Lib.hid (And.intro (SY.lower (base' := w.heap.size) (by omega)) BB)
      clear SX SY BB RA R1 hbw
      go_wp2
      exact bodyPost_ret (v := .agg #[.slice A hs.length c, .slice Bv xs.length dv]) (by simp [results, Tryz.results89, go_sem, c0, c1]) rfl ⟨_, rfl, HFIN.out.1, HFIN.out.2⟩
end Go.Proofs.YtokdhgocgicdnaaGreatDoor
