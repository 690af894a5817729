import Derived.Test.YtcgmnpfeiiomgaaJWpast
import Derived.Test.YtcgmnpfeiiomgaaJInts
import Derived.Test.YtcgmnpfeiiomgaaJMarkc
/- The program's Useful. -/
namespace Go.Proofs.Ytcgmnpfeiiomgaa
open Go.RowKit

/-- all of a rule's body may come to tokens alone -/
def Good (rs : List RuleD) (i : Nat) : Prop := ∀ s ∈ (ruleAt rs i).body, tokB s = true ∨ Com true rs s
open Classical in
noncomputable def goodIx (rs : List RuleD) : List Nat := (List.range rs.length).filter fun i => decide (Good rs i)
open Classical in
noncomputable def useIx (rs : List RuleD) : List Nat := (goodIx rs).filter fun i => decide (Rch rs (goodIx rs) (ruleAt rs i).head)
noncomputable def useOf (rs : List RuleD) : List Nat := if gramB rs = true then useIx rs else []
theorem useOf_t {rs : List RuleD} (h : gramB rs = true) : useOf rs = useIx rs := if_pos h
theorem useOf_f {rs : List RuleD} (h : gramB rs = false) : useOf rs = [] := if_neg (by rw [h]; decide)
theorem goodIx_lt {rs : List RuleD} : ∀ i ∈ goodIx rs, i < rs.length := fun _ hi => List.mem_range.1 (List.mem_filter.1 hi).1
theorem useIx_lt {rs : List RuleD} : ∀ i ∈ useIx rs, i < rs.length := fun _ hi => goodIx_lt _ (List.mem_filter.1 hi).1
theorem useIx_len {rs : List RuleD} : (useIx rs).length ≤ rs.length := by
  refine Nat.le_trans (List.length_filter_le _ _) ?_
  refine Nat.le_trans (List.length_filter_le _ _) ?_
  rw [List.length_range]; exact Nat.le_refl _
theorem keepN_rnl {rs : List RuleD} {ix : List Nat} {p : RuleN → Bool} {q : Nat → Bool} (h : ∀ i ∈ ix, p (rn rs i) = !q i) : keepN p (rnl rs ix) = rnl rs (ix.filter q) := by
  unfold keepN rnl
  rw [List.filter_map]
  congr 1
  apply List.filter_congr
  intro i hi
  simp [h i hi]
open Classical in
theorem use_at {rs : List RuleD} {rl' : List RuleN} (h : UseAt (rlOf rs) rl') : rl' = rnl rs (useOf rs) := by
  obtain ⟨m1, m2, h1, h2, rfl⟩ := h
  cases hq : gramB rs
  · rw [rlOf_f hq, useOf_f hq]; rfl
  · have R := Rt.of hq
    rw [rlOf_t hq] at h1 h2 ⊢
    rw [useOf_t hq]
    have e1 : keepN (notProd m1) (rnl rs (List.range rs.length)) = rnl rs (goodIx rs) := by
      apply keepN_rnl
      intro i hi
      rw [List.mem_range] at hi
      unfold notProd
      congr 1
      rw [Bool.eq_iff_iff, decide_eq_true_eq]
      unfold rn
      rw [body_holds]
      unfold Good
      constructor
      · intro h s hs
        have := (com_bits R true h1 s).1 (h s hs)
        simpa using this
      · intro h s hs
        apply (com_bits R true h1 s).2
        simpa using h s hs
    rw [e1] at h2 ⊢
    apply keepN_rnl
    intro i hi
    have hil := goodIx_lt i hi
    unfold notReached
    congr 1
    rw [Bool.eq_iff_iff, decide_eq_true_eq]
    unfold rn
    rw [ruleAt_eq hil]
    simp only
    rw [hold_set]
    exact reach_bit R goodIx_lt h2 (hs_all hil)
theorem rlOf_few (rs : List RuleD) : (rlOf rs).length ≤ 20 := by
  cases hq : gramB rs
  · rw [rlOf_f hq]; simp
  · rw [rlOf_t hq, rnl_len, List.length_range]; exact (Rt.of hq).few
noncomputable def usefulOf (rs : List RuleD) : List Int := (useOf rs).map fun (i : Nat) => (i : Int)
theorem useOf_few (rs : List RuleD) : (useOf rs).length ≤ 20 := by
  cases hq : gramB rs
  · rw [useOf_f hq]; simp
  · rw [useOf_t hq]; exact Nat.le_trans useIx_len (Rt.of hq).few
theorem usefulOf_len (rs : List RuleD) : (usefulOf rs).length ≤ 1000 := by
  have := useOf_few rs
  unfold usefulOf; rw [List.length_map]; omega

theorem field_rules (A B : Option Addr) (n c m d : Nat) (w : World) : (Instr.field 112 (.agg #[.slice A n c, .slice B m d]) 1).run Try.prog w = .ok (.slice B m d) w := by kernel_rfl
set_option maxRecDepth 100000 in
set_option maxHeartbeats 4000000 in
theorem implUseful_any (rs : List RuleD) (v : Value) (lo hi : Nat) (w : World) (h : Rules w lo hi v rs) (hh : hi ≤ w.heap.size) :
    Calls Try.prog 33 #[.agg #[v]] w (MadeI w (usefulOf rs)) := by
  obtain ⟨j0, hj0, hy0, hy1, hy2⟩ := info_parts Try.infoI64
  have HV := Lib.hid h
  obtain ⟨A, c, rfl, -⟩ := h
  have hb := al1 w (.cells #[.slice A rs.length c] 25)
  go_enter Try.func33, Try.ntmps33
  go_wp2_with fail
  refine (setsOf_any rs _ lo hi _ (HV.out.below hb hh) (by simp; omega)).mono ?_
  rintro e w1 ⟨x, rfl, SG, b1⟩
  have hb1 := hb.trans (b1.mono (by simp))
  have hs1 := hb1.size
  clear b1 hb
  go_wp2_with fail
  refine (useful_any (headsOf rs) (rlOf rs) _ _ _ SG (Nat.le_refl _) (rlOf_few rs) (rlOf_head rs) (fun r hr => joinAll_lt (rlOf_body rs r hr))).mono ?_
  rintro e w2 ⟨x2, rl', rfl, SG2, hu, b2⟩
  obtain rfl := use_at hu
  have hb2 := hb1.trans (b2.mono hs1)
  have hs2 := hb2.size
  have hl20 := useOf_few rs
  obtain ⟨A2, c2, B2, d2, rfl, -, hR⟩ := SG2.form
  obtain ⟨B', d', e', hlc, hc, hcell⟩ := hR
  injection e' with e1 _ e2
  subst e1 e2
  unfold maxLen at hc
  have hlen := rnl_len rs (useOf rs)
  have HC := Lib.hid hcell
  clear hcell SG SG2 b2 hu hb1
  have hfd := field_rules A2 B2 (headsOf rs).length c2 (useOf rs).length d2
  rw [hlen] at hlc ⊢
  have HL := Lib.hid hlen
  clear hlen
  go_wp2
  go_loopw [3, 5, 11] (fun x _ i wr => ∃ (j : Nat), j ≤ (useOf rs).length ∧ i = .int .i64 (j : Int) ∧ Its wr w2.heap.size x (((useOf rs).take j).map fun (i : Nat) => (i : Int)) ∧ Below w2.heap.size w2 wr) (fun _ _ i _ => (useOf rs).length - (intOf i).toNat)
  case atStart => exact ⟨0, by omega, rfl, Its.nil _ _, Below.refl _ _⟩
  case round =>
    obtain ⟨j, hj, rfl, hit, hbw⟩ := hrel
    have hsw := hbw.size
    by_cases hlt : j < (useOf rs).length
    · obtain ⟨b, off, rfl, hbh, hcc⟩ := HC.out (by rw [HL.out]; omega)
      obtain ⟨hn, hhh, d0, d1, u, d2, hB⟩ := hcc j (by rw [HL.out]; exact hlt)
      have d0' := (hbw.cell (p := ⟨b, off + j * 3, none⟩) (by show b < _; omega)).trans d0
      have d1' := (hbw.cell (p := ⟨b, off + j * 3 + 1, none⟩) (by show b < _; omega)).trans d1
      have d2' := (hbw.cell (p := ⟨b, off + j * 3 + 2, none⟩) (by show b < _; omega)).trans d2
      obtain ⟨A', c', rfl, -⟩ := hB
      have hnum : (rnl rs (useOf rs))[j]'(by rw [HL.out]; exact hlt) = rn rs (useOf rs)[j] := by simp [rnl]
      rw [hnum] at d0' d1' d2' hn
      have hnum2 : (rn rs (useOf rs)[j]).num = (useOf rs)[j] := rfl
      rw [hnum2] at d0' hn
      have HNX : Hid (((useOf rs).take (j + 1)).map (fun (i : Nat) => (i : Int)) = ((useOf rs).take j).map (fun (i : Nat) => (i : Int)) ++ [((useOf rs)[j] : Int)]) := Lib.hid (by rw [List.take_succ_eq_append_getElem hlt, List.map_append]; rfl)
      have hlj : (((useOf rs).take j).map (fun (i : Nat) => (i : Int))).length = j := by rw [List.length_map, List.length_take]; omega
      have HLJ := Lib.hid hlj
      have HIT := Lib.hid hit
      obtain ⟨Bz, dz, rfl⟩ := hit.form
      rw [hlj]
      have HO : Hid (wr.ownsRow w2.heap.size 2 1 (.slice Bz j dz) j ((((useOf rs).take j).map (fun (i : Nat) => (i : Int))).map (Value.int .i64))) := Lib.hid (by have := HIT.out; unfold Its at this; rwa [hlj] at this)
      clear hcc d0 d1 d2 hit hlj hnum hnum2 hhh HIT
      generalize (useOf rs)[j] = num at *
      go_wp2_with (at_builtin; refine wpList_append_own _ rfl _ _ 39 rfl w2.heap.size 2 j0 _ 1 8 Try.underlying39 hj0 hy0 hy1 hy2 rfl (by decide) _ _ _ rfl (World.ownsRow.alloc (World.ownsRow.alloc HO.out _) _) ⟨wr.heap.size + 1, 0, none⟩ 1 1 [.int .i64 (num : Int)] rfl rfl (by simpa using cell_one_new (wr.alloc _) _ _) (one_i64 _) (by unfold maxLen; omega) (by omega) (by simp; omega) ?_)
      intro v1 w3 hown1 hg1 _
      have s1 : Its w3 w2.heap.size v1 (((useOf rs).take (j + 1)).map fun (i : Nat) => (i : Int)) := by
        rw [HNX.out]
        refine Its.one _ ?_
        rw [HLJ.out]
        simpa using hown1
      have B1 : Below w2.heap.size w2 w3 := Tx.below_grown (hbw.trans ((al2 wr _ _).mono hbw.size)) (World.ownsRow.alloc (World.ownsRow.alloc HO.out _) _) hg1 (by simp; omega) (by omega)
      clear hown1 hg1 hbw
      go_wp2
      go_roundw
      case rel => exact ⟨j + 1, by omega, by go_num, s1, B1⟩
      case measure => simp [intOf]; omega
    · have hje : j = (useOf rs).length := by omega
      subst hje
      rw [List.take_length] at hit
      obtain ⟨g, ho, hg⟩ := hit.own
      clear hit
      go_wp2
      go_ret
      exact ⟨_, g, rfl, ho, fun hn => by have := hg hn; omega, hb2.trans (hbw.mono hs2)⟩
end Go.Proofs.Ytcgmnpfeiiomgaa

/- The walk of newSearch. -/
namespace Go.Proofs.Ytcgmnpfeiiomgaa
open Go.RowKit Go.Maps Go.Conc

/-- the rules that come to tokens -/
noncomputable def frs (rs : List RuleD) : List RuleD := (goodIx rs).map (ruleAt rs)
theorem frs_len (rs : List RuleD) : (frs rs).length ≤ rs.length := by
  unfold frs
  rw [List.length_map]
  refine Nat.le_trans (List.length_filter_le _ _) ?_
  rw [List.length_range]; exact Nat.le_refl _
theorem frs_mem {rs : List RuleD} {r : RuleD} : r ∈ frs rs ↔ r ∈ rs ∧ GoodR rs r := by
  unfold frs goodIx
  rw [List.mem_map]
  constructor
  · rintro ⟨i, hi, rfl⟩
    obtain ⟨h1, h2⟩ := List.mem_filter.1 hi
    rw [List.mem_range] at h1
    have h2 : Good rs i := by simpa using h2
    refine ⟨by rw [ruleAt_eq h1]; exact List.getElem_mem h1, h2⟩
  · rintro ⟨hr, hg⟩
    obtain ⟨i, hi, rfl⟩ := List.getElem_of_mem hr
    refine ⟨i, List.mem_filter.2 ⟨List.mem_range.2 hi, ?_⟩, ruleAt_eq hi⟩
    have : Good rs i := by unfold Good; rw [ruleAt_eq hi]; exact hg
    simpa using this
theorem frs_fits {rs : List RuleD} {t : List ByteArray} (hg : gramB rs = true) (ht : textB t = true) : Fits (frs rs) t := by
  have R := Rt.of hg
  obtain ⟨t1, t2⟩ := (textB_iff t).1 ht
  have hl := frs_len rs
  have mem : ∀ i (h : i < (frs rs).length), ∃ j, ∃ hj : j < rs.length, (frs rs)[i] = rs[j] := fun i h => by
    obtain ⟨j, hj, e⟩ := List.getElem_of_mem (frs_mem.1 (List.getElem_mem h)).1
    exact ⟨j, hj, e.symm⟩
  refine ⟨by have := R.few; omega, fun i h => ?_, fun i h => ?_, fun i h => ?_, t1, t2⟩
  · obtain ⟨j, hj, e⟩ := mem i h
    rw [e]; exact R.len j hj
  · obtain ⟨j, hj, e⟩ := mem i h
    rw [e]; exact R.head j hj
  · obtain ⟨j, hj, e⟩ := mem i h
    rw [e]; exact R.body j hj
open Classical in
theorem fruit_at {rs : List RuleD} (hg : gramB rs = true) {m1 : Nat} (h1 : FixAt (stepCome (rlOf rs)) (tokBase true) m1) : keepN (notProd m1) (rlOf rs) = rnl rs (goodIx rs) := by
  have R := Rt.of hg
  rw [rlOf_t hg] at h1 ⊢
  apply keepN_rnl
  intro i hi
  unfold notProd
  congr 1
  rw [Bool.eq_iff_iff, decide_eq_true_eq]
  unfold rn
  rw [body_holds]
  unfold Good
  constructor
  · intro h s hs
    have := (com_bits R true h1 s).1 (h s hs)
    simpa using this
  · intro h s hs
    apply (com_bits R true h1 s).2
    simpa using h s hs

/-- rules that a list takes over, their bodies where they were -/
def flatY (xs : List (RuleD × Value)) : List Value := xs.flatMap fun x => [.string x.1.head, x.2]
theorem flatY_snoc (xs : List (RuleD × Value)) (x : RuleD × Value) : flatY (xs ++ [x]) = flatY xs ++ [.string x.1.head, x.2] := by simp [flatY]
theorem flatY_at (xs : List (RuleD × Value)) (i : Nat) (h : i < xs.length) : (flatY xs)[i * 2]? = some (.string xs[i].1.head) ∧ (flatY xs)[i * 2 + 1]? = some xs[i].2 := by
  induction xs generalizing i with
  | nil => simp at h
  | cons x l ih =>
    cases i with
    | zero => exact ⟨rfl, rfl⟩
    | succ i =>
      have := ih i (by simpa using h)
      have e : flatY (x :: l) = .string x.1.head :: x.2 :: flatY l := rfl
      rw [e]
      rw [show (i + 1) * 2 = i * 2 + 1 + 1 by omega]
      simpa using this
def GrowB (w : World) (base bb : Nat) (v : Value) (xs : List (RuleD × Value)) : Prop :=
  w.ownsRow base 47 2 v xs.length (flatY xs) ∧ ∀ x ∈ xs, x.1.head.size ≤ maxLen ∧ Strs w 0 bb x.2 x.1.body
section
variable {w w' : World} {base bb : Nat} {v v' : Value} {xs : List (RuleD × Value)}
theorem GrowB.nil (w : World) (base bb : Nat) : GrowB w base bb (.slice none 0 0) [] := ⟨World.ownsRow_nil _ _ _ _, by simp⟩
theorem GrowB.form (h : GrowB w base bb v xs) : ∃ A c, v = .slice A xs.length c := by
  rcases h.1.2 with ⟨rfl, h0⟩ | ⟨g, cap, cur, rfl, _⟩
  · exact ⟨none, 0, by rw [h0]⟩
  · exact ⟨_, _, rfl⟩
theorem GrowB.below (h : GrowB w base bb v xs) (k : Below w.heap.size w w') (hb : bb ≤ w.heap.size) : GrowB w' base bb v xs := by
  obtain ⟨a, b⟩ := h
  refine ⟨⟨a.1, ?_⟩, fun x hx => ⟨(b x hx).1, (b x hx).2.below k hb⟩⟩
  rcases a.2 with a2 | ⟨g, cap, cur, rfl, hb, hh, r⟩
  · exact .inl a2
  · exact .inr ⟨g, cap, cur, rfl, hb, (k.block g (Array.getElem?_eq_some_iff.1 hh).1).trans hh, r⟩
theorem GrowB.snoc {r : RuleD} {u : Value} (h : GrowB w base bb v xs) (ho : w'.ownsRow base 47 2 v' (xs.length + 1) (flatY xs ++ [.string r.head, u])) (hg : w.grownBy w' v.ownBlock) (hbb : bb ≤ base) (hw : bb ≤ w.heap.size) (hh : r.head.size ≤ maxLen) (hu : Strs w 0 bb u r.body) : GrowB w' base bb v' (xs ++ [(r, u)]) := by
  obtain ⟨a, b⟩ := h
  have keep : Keeps 0 bb w w' := fun k _ hk => hg.block k (by omega) fun e => by
    rcases a.2 with ⟨rfl, _⟩ | ⟨g', cap, c', rfl, hb', _⟩
    · simp [Value.ownBlock] at e
    · have : k = g' := by simpa [Value.ownBlock] using e
      omega
  refine ⟨by rw [flatY_snoc, List.length_append]; exact ho, fun x hx => ?_⟩
  rcases List.mem_append.1 hx with hx | hx
  · exact ⟨(b x hx).1, (b x hx).2.keep keep⟩
  · rw [List.mem_singleton] at hx
    subst hx
    exact ⟨hh, hu.keep keep⟩
theorem GrowB.away (h : GrowB w base bb v xs) {p : Addr} (h1 : bb ≤ p.block) (h2 : p.block < base) (u : Value) : GrowB (w.setCell p u) base bb v xs := by
  obtain ⟨a, b⟩ := h
  refine ⟨⟨a.1, ?_⟩, fun x hx => ⟨(b x hx).1, (b x hx).2.keep fun k _ hk => Below.heap_setCell _ _ _ _ (by omega)⟩⟩
  rcases a.2 with a2 | ⟨g, cap, cur, rfl, hb, hh, r⟩
  · exact .inl a2
  · exact .inr ⟨g, cap, cur, rfl, hb, (Below.heap_setCell _ _ _ _ (by omega)).trans hh, r⟩
theorem GrowB.lt (h : GrowB w base bb v xs) {g : Nat} (hg : v.ownBlock = some g) : g < w.heap.size := by
  rcases h.1.2 with ⟨rfl, _⟩ | ⟨g', cap, cur, rfl, _, hh, _⟩
  · simp [Value.ownBlock] at hg
  · have : g' = g := by simpa [Value.ownBlock] using hg
    subst this
    exact (Array.getElem?_eq_some_iff.1 hh).1
theorem GrowB.rules (h : GrowB w base bb v xs) {hi : Nat} (hb : bb ≤ hi) (hv : ∀ g, v.ownBlock = some g → g < hi) : Rules w 0 hi v (xs.map (·.1)) := by
  obtain ⟨a, b⟩ := h
  rcases a.2 with ⟨rfl, h0⟩ | ⟨g, cap, cur, rfl, hbg, hh, hc, hm, hs, ht⟩
  · obtain rfl : xs = [] := List.eq_nil_of_length_eq_zero h0
    exact ⟨none, 0, rfl, Nat.le_refl _, by unfold maxLen; omega, fun h => by simp at h⟩
  · have hr : Row w g 47 cur := hh
    refine ⟨_, cap, by rw [List.length_map], by rw [List.length_map]; exact hc, hm, fun hp => ⟨g, 0, rfl, Nat.zero_le _, hv g rfl, fun i hi => ?_⟩⟩
    rw [List.length_map] at hi
    obtain ⟨b1, b2⟩ := b xs[i] (List.getElem_mem hi)
    obtain ⟨f1, f2⟩ := flatY_at xs i hi
    have cell : ∀ j, j < xs.length * 2 → w.cell? ⟨g, 0 + j, none⟩ = (flatY xs)[j]? := fun j hj => by
      rw [Nat.zero_add, hr.cell, ← ht, List.getElem?_take_of_lt hj, Array.getElem?_toList]
    simp only [List.getElem_map]
    refine ⟨b1, (cell (i * 2) (by omega)).trans f1, xs[i].2, ?_, b2.more (Nat.le_refl _) hb⟩
    rw [Nat.add_assoc]; exact (cell (i * 2 + 1) (by omega)).trans f2
end
theorem bytesLook : ∃ i, Try.prog.info? 142 = some i ∧ i.bytes = 32 := by
  have h : (Try.prog.info? 142).map (·.bytes) = some 32 := by kernel_rfl
  obtain ⟨i, hi, hb⟩ := Option.map_eq_some_iff.1 h
  exact ⟨i, hi, hb⟩
theorem mkQueue (n : Nat) (hn : n ≤ 100000) (w : World) : (Instr.makeChan 134 (.int .i64 (n : Int))).run Try.prog w = .ok (.chan (some w.heap.size)) (w.alloc (.chan n #[] false 0 0 false)) := by
  obtain ⟨i, hi, hb⟩ := bytesLook
  exact run_makeChan (P := Try.prog) (w := w) Try.underlying134 hi .i64 n (by omega) (by rw [hb]; omega)
theorem two_one4 (s : ByteArray) (A : Option Addr) (n c : Nat) : ∀ u ∈ [Value.string s, .slice A n c], u.oneCell' = true := by
  intro u hu
  simp only [List.mem_cons, List.not_mem_nil, or_false] at hu
  rcases hu with rfl | rfl <;> rfl
theorem two_row {w : World} {g : Nat} {ty : TypeId} {a b : Value} (r : Row w g ty #[a, b]) : ∀ j u, [a, b][j]? = some u → w.cell? ((⟨g, 0, none⟩ : Addr).add j) = some u :=
  World.news_of_block (cs := #[a, b]) (t := ty) (fr := (0, 0)) r
end Go.Proofs.Ytcgmnpfeiiomgaa
