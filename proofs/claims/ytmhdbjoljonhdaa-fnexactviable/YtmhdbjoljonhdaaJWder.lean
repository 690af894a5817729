import Derived.Test.YtmhdbjoljonhdaaWnew1
import Derived.Test.YtmhdbjoljonhdaaUseI
import Derived.StillTailTactics
import Derived.Deep.QuietTactic
import Derived.BigQuiet
/- The walk of newSearch. -/
namespace Go.Proofs.Ytmhdbjoljonhdaa
open Go.RowKit Go.Maps Go.Conc

/-- the rules that come to tokens -/
noncomputable def frs (rs : List RuleD) : List RuleD := (goodIx rs).map (ruleAt rs)
theorem frs_len (rs : List RuleD) : (frs rs).length ≤ rs.length := by
  unfold frs
  rw [List.length_map]
  refine Nat.le_trans (List.length_filter_le _ _) ?_
  rw [List.length_range]; exact Nat.le_refl _
theorem frs_mem {rs : List RuleD} {r : RuleD} : r ∈ frs rs ↔ r ∈ rs ∧ GoodR rs r := by
  unfold frs goodIx
  rw [List.mem_map]
  constructor
  · rintro ⟨i, hi, rfl⟩
    obtain ⟨h1, h2⟩ := List.mem_filter.1 hi
    rw [List.mem_range] at h1
    have h2 : Good rs i := by simpa using h2
    refine ⟨by rw [ruleAt_eq h1]; exact List.getElem_mem h1, h2⟩
  · rintro ⟨hr, hg⟩
    obtain ⟨i, hi, rfl⟩ := List.getElem_of_mem hr
    refine ⟨i, List.mem_filter.2 ⟨List.mem_range.2 hi, ?_⟩, ruleAt_eq hi⟩
    have : Good rs i := by unfold Good; rw [ruleAt_eq hi]; exact hg
    simpa using this
theorem frs_fits {rs : List RuleD} {t : List ByteArray} (hg : gramB rs = true) (ht : textB t = true) : Fits (frs rs) t := by
  have R := Rt.of hg
  obtain ⟨t1, t2⟩ := (textB_iff t).1 ht
  have hl := frs_len rs
  have mem : ∀ i (h : i < (frs rs).length), ∃ j, ∃ hj : j < rs.length, (frs rs)[i] = rs[j] := fun i h => by
    obtain ⟨j, hj, e⟩ := List.getElem_of_mem (frs_mem.1 (List.getElem_mem h)).1
    exact ⟨j, hj, e.symm⟩
  refine ⟨by have := R.few; omega, fun i h => ?_, fun i h => ?_, fun i h => ?_, t1, t2⟩
  · obtain ⟨j, hj, e⟩ := mem i h
    rw [e]; exact R.len j hj
  · obtain ⟨j, hj, e⟩ := mem i h
    rw [e]; exact R.head j hj
  · obtain ⟨j, hj, e⟩ := mem i h
    rw [e]; exact R.body j hj
open Classical in
theorem fruit_at {rs : List RuleD} (hg : gramB rs = true) {m1 : Nat} (h1 : FixAt (stepCome (rlOf rs)) (tokBase true) m1) : keepN (notProd m1) (rlOf rs) = rnl rs (goodIx rs) := by
  have R := Rt.of hg
  rw [rlOf_t hg] at h1 ⊢
  apply keepN_rnl
  intro i hi
  unfold notProd
  congr 1
  rw [Bool.eq_iff_iff, decide_eq_true_eq]
  unfold rn
  rw [body_holds]
  unfold Good
  constructor
  · intro h s hs
    have := (com_bits R true h1 s).1 (h s hs)
    simpa using this
  · intro h s hs
    apply (com_bits R true h1 s).2
    simpa using h s hs

/-- rules that a list takes over, their bodies where they were -/
def flatY (xs : List (RuleD × Value)) : List Value := xs.flatMap fun x => [.string x.1.head, x.2]
theorem flatY_snoc (xs : List (RuleD × Value)) (x : RuleD × Value) : flatY (xs ++ [x]) = flatY xs ++ [.string x.1.head, x.2] := by simp [flatY]
theorem flatY_at (xs : List (RuleD × Value)) (i : Nat) (h : i < xs.length) : (flatY xs)[i * 2]? = some (.string xs[i].1.head) ∧ (flatY xs)[i * 2 + 1]? = some xs[i].2 := by
  induction xs generalizing i with
  | nil => simp at h
  | cons x l ih =>
    cases i with
    | zero => exact ⟨rfl, rfl⟩
    | succ i =>
      have := ih i (by simpa using h)
      have e : flatY (x :: l) = .string x.1.head :: x.2 :: flatY l := rfl
      rw [e]
      rw [show (i + 1) * 2 = i * 2 + 1 + 1 by omega]
      simpa using this
def GrowB (w : World) (base bb : Nat) (v : Value) (xs : List (RuleD × Value)) : Prop :=
  w.ownsRow base 39 2 v xs.length (flatY xs) ∧ ∀ x ∈ xs, x.1.head.size ≤ maxLen ∧ Strs w 0 bb x.2 x.1.body
section
variable {w w' : World} {base bb : Nat} {v v' : Value} {xs : List (RuleD × Value)}
theorem GrowB.nil (w : World) (base bb : Nat) : GrowB w base bb (.slice none 0 0) [] := ⟨World.ownsRow_nil _ _ _ _, by simp⟩
theorem GrowB.form (h : GrowB w base bb v xs) : ∃ A c, v = .slice A xs.length c := by
  rcases h.1.2 with ⟨rfl, h0⟩ | ⟨g, cap, cur, rfl, _⟩
  · exact ⟨none, 0, by rw [h0]⟩
  · exact ⟨_, _, rfl⟩
theorem GrowB.below (h : GrowB w base bb v xs) (k : Below w.heap.size w w') (hb : bb ≤ w.heap.size) : GrowB w' base bb v xs := by
  obtain ⟨a, b⟩ := h
  refine ⟨⟨a.1, ?_⟩, fun x hx => ⟨(b x hx).1, (b x hx).2.below k hb⟩⟩
  rcases a.2 with a2 | ⟨g, cap, cur, rfl, hb, hh, r⟩
  · exact .inl a2
  · exact .inr ⟨g, cap, cur, rfl, hb, (k.block g (Array.getElem?_eq_some_iff.1 hh).1).trans hh, r⟩
theorem GrowB.snoc {r : RuleD} {u : Value} (h : GrowB w base bb v xs) (ho : w'.ownsRow base 39 2 v' (xs.length + 1) (flatY xs ++ [.string r.head, u])) (hg : w.grownBy w' v.ownBlock) (hbb : bb ≤ base) (hw : bb ≤ w.heap.size) (hh : r.head.size ≤ maxLen) (hu : Strs w 0 bb u r.body) : GrowB w' base bb v' (xs ++ [(r, u)]) := by
  obtain ⟨a, b⟩ := h
  have keep : Keeps 0 bb w w' := fun k _ hk => hg.block k (by omega) fun e => by
    rcases a.2 with ⟨rfl, _⟩ | ⟨g', cap, c', rfl, hb', _⟩
    · simp [Value.ownBlock] at e
    · have : k = g' := by simpa [Value.ownBlock] using e
      omega
  refine ⟨by rw [flatY_snoc, List.length_append]; exact ho, fun x hx => ?_⟩
  rcases List.mem_append.1 hx with hx | hx
  · exact ⟨(b x hx).1, (b x hx).2.keep keep⟩
  · rw [List.mem_singleton] at hx
    subst hx
    exact ⟨hh, hu.keep keep⟩
theorem GrowB.away (h : GrowB w base bb v xs) {p : Addr} (h1 : bb ≤ p.block) (h2 : p.block < base) (u : Value) : GrowB (w.setCell p u) base bb v xs := by
  obtain ⟨a, b⟩ := h
  refine ⟨⟨a.1, ?_⟩, fun x hx => ⟨(b x hx).1, (b x hx).2.keep fun k _ hk => Below.heap_setCell _ _ _ _ (by omega)⟩⟩
  rcases a.2 with a2 | ⟨g, cap, cur, rfl, hb, hh, r⟩
  · exact .inl a2
  · exact .inr ⟨g, cap, cur, rfl, hb, (Below.heap_setCell _ _ _ _ (by omega)).trans hh, r⟩
theorem GrowB.lt (h : GrowB w base bb v xs) {g : Nat} (hg : v.ownBlock = some g) : g < w.heap.size := by
  rcases h.1.2 with ⟨rfl, _⟩ | ⟨g', cap, cur, rfl, _, hh, _⟩
  · simp [Value.ownBlock] at hg
  · have : g' = g := by simpa [Value.ownBlock] using hg
    subst this
    exact (Array.getElem?_eq_some_iff.1 hh).1
theorem GrowB.rules (h : GrowB w base bb v xs) {hi : Nat} (hb : bb ≤ hi) (hv : ∀ g, v.ownBlock = some g → g < hi) : Rules w 0 hi v (xs.map (·.1)) := by
  obtain ⟨a, b⟩ := h
  rcases a.2 with ⟨rfl, h0⟩ | ⟨g, cap, cur, rfl, hbg, hh, hc, hm, hs, ht⟩
  · obtain rfl : xs = [] := List.eq_nil_of_length_eq_zero h0
    exact ⟨none, 0, rfl, Nat.le_refl _, by unfold maxLen; omega, fun h => by simp at h⟩
  · have hr : Row w g 39 cur := hh
    refine ⟨_, cap, by rw [List.length_map], by rw [List.length_map]; exact hc, hm, fun hp => ⟨g, 0, rfl, Nat.zero_le _, hv g rfl, fun i hi => ?_⟩⟩
    rw [List.length_map] at hi
    obtain ⟨b1, b2⟩ := b xs[i] (List.getElem_mem hi)
    obtain ⟨f1, f2⟩ := flatY_at xs i hi
    have cell : ∀ j, j < xs.length * 2 → w.cell? ⟨g, 0 + j, none⟩ = (flatY xs)[j]? := fun j hj => by
      rw [Nat.zero_add, hr.cell, ← ht, List.getElem?_take_of_lt hj, Array.getElem?_toList]
    simp only [List.getElem_map]
    refine ⟨b1, (cell (i * 2) (by omega)).trans f1, xs[i].2, ?_, b2.more (Nat.le_refl _) hb⟩
    rw [Nat.add_assoc]; exact (cell (i * 2 + 1) (by omega)).trans f2
end
theorem bytesLook : ∃ i, Try.prog.info? 101 = some i ∧ i.bytes = 32 := by
  have h : (Try.prog.info? 101).map (·.bytes) = some 32 := by kernel_rfl
  obtain ⟨i, hi, hb⟩ := Option.map_eq_some_iff.1 h
  exact ⟨i, hi, hb⟩
theorem mkQueue (n : Nat) (hn : n ≤ 100000) (w : World) : (Instr.makeChan 93 (.int .i64 (n : Int))).run Try.prog w = .ok (.chan (some w.heap.size)) (w.alloc (.chan n #[] false 0 0 false)) := by
  obtain ⟨i, hi, hb⟩ := bytesLook
  exact run_makeChan (P := Try.prog) (w := w) Try.underlying93 hi .i64 n (by omega) (by rw [hb]; omega)
theorem two_one4 (s : ByteArray) (A : Option Addr) (n c : Nat) : ∀ u ∈ [Value.string s, .slice A n c], u.oneCell' = true := by
  intro u hu
  simp only [List.mem_cons, List.not_mem_nil, or_false] at hu
  rcases hu with rfl | rfl <;> rfl
theorem two_row {w : World} {g : Nat} {ty : TypeId} {a b : Value} (r : Row w g ty #[a, b]) : ∀ j u, [a, b][j]? = some u → w.cell? ((⟨g, 0, none⟩ : Addr).add j) = some u :=
  World.news_of_block (cs := #[a, b]) (t := ty) (fr := (0, 0)) r
end Go.Proofs.Ytmhdbjoljonhdaa

/- The walk of newSearch, whole. -/
namespace Go.Proofs.Ytmhdbjoljonhdaa
open Go.RowKit Go.Maps Go.Conc

theorem mostLooks_int (rs : List RuleD) (v : Value) (p : Nat) (z : Int) (hz : z = (p : Int)) (lo hi : Nat) (w : World) (h : Rules w lo hi v rs) (hh : hi ≤ w.heap.size) (hp : p ≤ 13) (h20 : rs.length ≤ 20) (hb5 : ∀ i (h : i < rs.length), rs[i].body.length ≤ 5) :
    Calls Try.prog 111 #[v, .int .i64 z] w fun e w' => e = .returned (.int .i64 ((mostTo rs p rs.length : Nat) : Int)) ∧ Below w.heap.size w w' := by
  subst hz
  exact mostLooks_any rs v p lo hi w h hh hp h20 hb5
/-- a search that has just been made -/
def NewS (w : World) (rs : List RuleD) (t : List ByteArray) (e : Ending) (w' : World) : Prop := ∃ E : Env, e = .returned (E.v (frs rs).length t.length) ∧ Sea w' E (frs rs) t [] St.none ∧ w.heap.size ≤ E.base ∧ Below w.heap.size w w'
/-- the maps and the queue are new -/
theorem Sea.made {w w7 w9 : World} {rs : List RuleD} {t : List ByteArray} (F : Fits rs t) {A : Option Addr} {c : Nat} {B : Option Addr} {d : Nat} (hr : Rules w9 0 w.heap.size (.slice A rs.length c) rs) (ht : Strs w9 0 w.heap.size (.slice B t.length d) t)
    (h7 : Below (((w.alloc (.map #[] 0)).alloc (.map #[] 0)).alloc (.map #[] 0)).heap.size (((w.alloc (.map #[] 0)).alloc (.map #[] 0)).alloc (.map #[] 0)) w7) (h9 : ∀ k, w.heap.size ≤ k → w9.heap[k]? = (w7.alloc (.chan (mostTo rs (t.length + 1) rs.length) #[] false 0 0 false)).heap[k]?) :
    Sea w9 ⟨A, c, B, d, w.heap.size, w.heap.size, w.heap.size, w.heap.size + 1, w.heap.size + 2, w7.heap.size, mostTo rs (t.length + 1) rs.length⟩ rs t [] St.none := by
  have z7 : w.heap.size + 3 ≤ w7.heap.size := by have := h7.size; simpa using this
  have hs3 : (((w.alloc (.map #[] 0)).alloc (.map #[] 0)).alloc (.map #[] 0)).heap.size = w.heap.size + 3 := by simp
  have get : ∀ k, w.heap.size ≤ k → k < w.heap.size + 3 → w9.heap[k]? = (((w.alloc (.map #[] 0)).alloc (.map #[] 0)).alloc (.map #[] 0)).heap[k]? := fun k h1 h2 => by
    rw [h9 k h1, Below.heap_alloc _ _ _ (by omega), h7.block k (by rw [hs3]; omega)]
  have m1 : MapAt (((w.alloc (.map #[] 0)).alloc (.map #[] 0)).alloc (.map #[] 0)) 101 boolE w.heap.size 0 (fun _ => none) := ((MapAt.made w _ _).keep (Below.heap_alloc _ _ _ (by simp))).keep (Below.heap_alloc _ _ _ (by simp; omega))
  have m2 : MapAt (((w.alloc (.map #[] 0)).alloc (.map #[] 0)).alloc (.map #[] 0)) 99 boolE (w.heap.size + 1) 0 (fun _ => none) := by
    have := (MapAt.made (w.alloc (.map #[] 0)) 99 boolE).keep (Below.heap_alloc _ (.map #[] 0) _ (by simp))
    simpa using this
  have m3 : MapAt (((w.alloc (.map #[] 0)).alloc (.map #[] 0)).alloc (.map #[] 0)) 107 rawE (w.heap.size + 2) 0 (fun _ => none) := by
    have := MapAt.made ((w.alloc (.map #[] 0)).alloc (.map #[] 0)) 107 rawE
    simpa using this
  refine ⟨F, Inv.none, hr, ht, Nat.le_refl _, ?_, ?_, ?_, ⟨0, 0, ?_⟩, rfl, by simp, by simp [St.none], List.Pairwise.nil, List.Pairwise.nil, ⟨Nat.le_refl _, by simp, by simp, by show w.heap.size ≤ w7.heap.size; omega⟩, ⟨by simp, by simp, by simp⟩⟩
  · exact (m1.keep (get _ (Nat.le_refl _) (by omega))).like fun l => memF_nil l
  · exact (m2.keep (get _ (by omega) (by omega))).like fun l => memF_nil l
  · exact m3.keep (get _ (by omega) (by omega))
  · show w9.heap[w7.heap.size]? = _
    rw [h9 w7.heap.size (by omega)]
    exact heap_alloc_new _ _

set_option maxRecDepth 100000 in
set_option maxHeartbeats 8000000 in
theorem newSearch_any (rs : List RuleD) (t : List ByteArray) (v tv : Value) (lo hi lo2 hi2 : Nat) (w : World) (h : Rules w lo hi v rs) (hh : hi ≤ w.heap.size) (h2 : Strs w lo2 hi2 tv t) (hh2 : hi2 ≤ w.heap.size) (hg : gramB rs = true) (ht : textB t = true) :
    Calls Try.prog 79 #[.agg #[v], tv] w (NewS w rs t) := by
  obtain ⟨j0, hj0, hy0, hy1, hy2⟩ := info_parts Try.infoRule
  have hmm := @run_makeMap Try.prog
  have F := frs_fits hg ht
  have h12 := F.short
  have hflen := frs_len rs
  have hf20 := F.few
  have R := Rt.of hg
  have hr20 := R.few
  have HF := Lib.hid F
  have HV := Lib.hid (h.more (Nat.zero_le lo) (Nat.le_refl hi))
  have HW := Lib.hid (h2.more (Nat.zero_le lo2) (Nat.le_refl hi2))
  have HG := Lib.hid hg
  obtain ⟨A, c, rfl, hlc, hc, -⟩ := h
  obtain ⟨B, d, rfl, hld, hd, -, -⟩ := h2
  unfold maxLen at hc hd
  have hb := al2 w (.cells #[.slice A rs.length c] 25) (.cells #[.slice none 0 0, .slice none 0 0, .map none, .map none, .map none, .chan none] 95)
  have R0 := (Row.made w 25 #[.slice A rs.length c]).alloc (.cells #[.slice none 0 0, .slice none 0 0, .map none, .map none, .map none, .chan none] 95)
  have R1 := Row.made1 w (.cells #[.slice A rs.length c] 25) 95 #[.slice none 0 0, .slice none 0 0, .map none, .map none, .map none, .chan none]
  have hsz : ((w.alloc (.cells #[.slice A rs.length c] 25)).alloc (.cells #[.slice none 0 0, .slice none 0 0, .map none, .map none, .map none, .chan none] 95)).heap.size = w.heap.size + 2 := by simp
  have HSZ := Lib.hid hsz
  clear F hg ht R hsz
  unfold NewS
  go_enter Try.func79, Try.ntmps79
  go_wp2_with fail
  refine (setsOf_any rs _ 0 hi _ (HV.out.below hb hh) (by rw [HSZ.out]; omega)).mono ?_
  rintro _ w1 ⟨x, rfl, SG, b1⟩
  have hb1 := hb.trans (b1.mono (by rw [HSZ.out]; omega))
  have z1 := b1.size
  rw [HSZ.out] at z1
  have R01 := R0.below b1 R0.lt
  have R11 := R1.below b1 R1.lt
  clear b1 hb R0 R1
  go_wp2_with fail
  refine (fruitful_any (headsOf rs) (rlOf rs) _ _ _ SG (Nat.le_refl _) (rlOf_few rs) (rlOf_head rs)).mono ?_
  rintro _ w2 ⟨x2, m1, rfl, SX, hfix, b2⟩
  have hb2 := hb1.trans (b2.mono hb1.size)
  have z2 := b2.size
  have R02 := R01.below b2 R01.lt
  have R12 := R11.below b2 R11.lt
  have SG2 := SX.i.g (Nat.le_refl _) (by omega)
  rw [fruit_at HG.out hfix] at SG2
  obtain ⟨A2, c2, B2, d2, rfl, -, hR⟩ := SG2.form
  obtain ⟨B', d', e', hlc2, hc2, hcell⟩ := hR
  injection e' with e1 _ e2
  subst e1 e2
  unfold maxLen at hc2
  have hlen := rnl_len rs (goodIx rs)
  have hgl : (goodIx rs).length = (frs rs).length := by unfold frs; rw [List.length_map]
  have HC := Lib.hid hcell
  have HB2 := Lib.hid hb2
  have HR02 := Lib.hid R02
  have HR12 := Lib.hid R12
  have HGL := Lib.hid hgl
  clear hcell SG SG2 SX b2 hb1 hfix R01 R11 hb2 R02 R12
  have hfd := field_rules A2 B2 (headsOf rs).length c2 (goodIx rs).length d2
  rw [hlen] at hlc2 ⊢
  have HL := Lib.hid hlen
  have hg20 : (goodIx rs).length ≤ 20 := by omega
  clear hlen hgl
  go_wp2
  go_loopw [5, 7, 13] (fun x _ i wr => ∃ (j : Nat) (xs : List (RuleD × Value)), j ≤ (goodIx rs).length ∧ i = .int .i64 (j : Int) ∧ GrowB wr w2.heap.size hi x xs ∧ xs.map (·.1) = ((goodIx rs).take j).map (ruleAt rs) ∧ Below w2.heap.size w2 wr) (fun _ _ i _ => (goodIx rs).length - (intOf i).toNat)
  case atStart => exact ⟨0, [], by omega, rfl, GrowB.nil _ _ _, rfl, Below.refl _ _⟩
  case round =>
    obtain ⟨j, xs, hj, rfl, hgr, hxs, hbw⟩ := hrel
    rename World => wr
    have hsw := hbw.size
    have HGR := Lib.hid hgr
    obtain ⟨Ax, cx, rfl⟩ := hgr.form
    have hxl : xs.length = j := by have := congrArg List.length hxs; rw [List.length_map, List.length_map, List.length_take] at this; omega
    have HXS := Lib.hid hxs
    have HXL := Lib.hid hxl
    have hx20 : xs.length ≤ 20 := by omega
    have r0 := HR02.out.below hbw (by have := HR02.out.lt; omega)
    have q0 := r0.cell 0
    simp at q0
    have l0 := r0.lt
    clear hgr hxs
    by_cases hlt : j < (goodIx rs).length
    · obtain ⟨b, off, rfl, hbh, hcc⟩ := HC.out (by rw [HL.out]; omega)
      obtain ⟨hn, hhh, d0, d1, u, d2', hB⟩ := hcc j (by rw [HL.out]; exact hlt)
      have d0' := (hbw.cell (p := ⟨b, off + j * 3, none⟩) (by show b < _; omega)).trans d0
      have d1' := (hbw.cell (p := ⟨b, off + j * 3 + 1, none⟩) (by show b < _; omega)).trans d1
      have d2'' := (hbw.cell (p := ⟨b, off + j * 3 + 2, none⟩) (by show b < _; omega)).trans d2'
      obtain ⟨A', c', rfl, -⟩ := hB
      have hnum : (rnl rs (goodIx rs))[j]'(by rw [HL.out]; exact hlt) = rn rs (goodIx rs)[j] := by simp [rnl]
      rw [hnum] at d0' d1' d2'' hn
      have hnum2 : (rn rs (goodIx rs)[j]).num = (goodIx rs)[j] := rfl
      rw [hnum2] at d0' hn
      have hil := goodIx_lt _ (List.getElem_mem hlt)
      have HNX : Hid (((goodIx rs).take (j + 1)).map (ruleAt rs) = ((goodIx rs).take j).map (ruleAt rs) ++ [rs[(goodIx rs)[j]]]) := Lib.hid (by rw [List.take_succ_eq_append_getElem hlt, List.map_append, ← ruleAt_eq hil]; rfl)
      have hbA := HB2.out.trans (hbw.mono HB2.out.size)
      obtain ⟨br, offr, rfl, hbrh, _, _, hhs, k0, Br, dr, k1, hst⟩ := (HV.out.below hbA (by omega)).at hil
      have hbrw : br < wr.heap.size := by omega
      have hbwr : b < wr.heap.size := by omega
      have HST := Lib.hid hst
      have HO : Hid (wr.ownsRow w2.heap.size 39 2 (.slice Ax xs.length cx) xs.length (flatY xs)) := Lib.hid HGR.out.1
      generalize (rn rs (goodIx rs)[j]).body.length = bl at d2''
      generalize (rn rs (goodIx rs)[j]).head = rh at d1'
      clear hcc d0 d1 d2' hnum hnum2 hhh hst hbA hxl
      have R3 := Row.made1 wr (.cells #[.int .i64 ((goodIx rs)[j] : Int), .int .u32 (rh : Int), .slice A' bl c'] 77) 39 #[.string rs[(goodIx rs)[j]].head, .slice Br rs[(goodIx rs)[j]].body.length dr]
      have HR3 := Lib.hid R3
      clear R3
      go_wp2_with (at_builtin; refine wpList_append_own _ rfl _ _ 23 rfl w2.heap.size 39 j0 _ 2 40 Try.underlying23 hj0 hy0 hy1 hy2 rfl (by decide) _ _ _ rfl (World.ownsRow.alloc (World.ownsRow.alloc HO.out _) _) ⟨wr.heap.size + 1, 0, none⟩ 1 1 [.string rs[(goodIx rs)[j]].head, .slice Br rs[(goodIx rs)[j]].body.length dr] rfl rfl (two_row HR3.out) (two_one4 _ _ _ _) (by unfold maxLen; omega) (by omega) (by simp; omega) ?_)
      intro v1 w3 hown1 hg1 _
      have A3 := al2 wr (.cells #[.int .i64 ((goodIx rs)[j] : Int), .int .u32 (rh : Int), .slice A' bl c'] 77) (.cells #[.string rs[(goodIx rs)[j]].head, .slice Br rs[(goodIx rs)[j]].body.length dr] 39)
      have G3 := (HGR.out.below A3 (by omega)).snoc (r := rs[(goodIx rs)[j]]) hown1 hg1 (by omega) (by simp; omega) hhs (HST.out.below A3 (by omega))
      have B3 : Below w2.heap.size w2 w3 := Tx.below_grown (hbw.trans ((al2 wr _ _).mono hbw.size)) (World.ownsRow.alloc (World.ownsRow.alloc HO.out _) _) hg1 (by simp; omega) (by omega)
      have HG3 := Lib.hid G3
      have HB3 := Lib.hid B3
      clear hown1 hg1 A3 G3 B3 hbw
      go_wp2
      go_roundw
      case rel => exact ⟨j + 1, _, by omega, by go_num, HG3.out, by rw [List.map_append, HXS.out, HNX.out]; rfl, HB3.out⟩
      case measure => simp [intOf]; omega
    · have hje : j = (goodIx rs).length := by omega
      have hfr : xs.map (·.1) = frs rs := by rw [HXS.out, hje, List.take_length]; rfl
      have hlx : xs.length = (frs rs).length := by rw [← hfr, List.length_map]
      have hrl := HGR.out.rules (hi := wr.heap.size) (by omega) (fun g hg => HGR.out.lt hg)
      rw [hfr] at hrl
      rw [hlx]
      rw [hlx] at hrl
      have HRL := Lib.hid hrl
      have HFR := Lib.hid hfr
      have HLX := Lib.hid hlx
      have hbA := HB2.out.trans (hbw.mono HB2.out.size)
      have hW := (HW.out.below hbA (by omega)).more (Nat.le_refl _) (hi' := wr.heap.size) (by omega)
      have HWR := Lib.hid hW
      have r1 := HR12.out.below hbw (by have := HR12.out.lt; omega)
      have HR1 := Lib.hid r1
      have HBA := Lib.hid hbA
      have hmq := mostTo_le HF.out (frs rs).length (Nat.le_refl _)
      have hm3 := al3 wr (.map #[] 0) (.map #[] 0) (.map #[] 0)
      have HM3 := Lib.hid hm3
      have hs3 : (((wr.alloc (.map #[] 0)).alloc (.map #[] 0)).alloc (.map #[] 0)).heap.size = wr.heap.size + 3 := by simp
      have HS3 := Lib.hid hs3
      clear hfr hrl hlx hbA hW r1 hm3 hs3 hje hxl
      go_wp2_with fail
      refine (mostLooks_int (frs rs) _ (t.length + 1) _ (by omega) 0 wr.heap.size _ (HRL.out.below HM3.out (Nat.le_refl _)) (by rw [HS3.out]; omega) (by omega) hf20 HF.out.len).mono ?_
      rintro _ w7 ⟨rfl, b7⟩
      have hmk := mkQueue (mostTo (frs rs) (t.length + 1) (frs rs).length) (by omega) w7
      have B7 := HM3.out.trans (b7.mono (by rw [HS3.out]; omega))
      have r7 := (HR1.out.below B7 HR1.out.lt).alloc (.chan (mostTo (frs rs) (t.length + 1) (frs rs).length) #[] false 0 0 false)
      have l7 := r7.lt
      have f0 := r7.free 0
      have f1 := r7.free 1
      have f2 := r7.free 2
      have f3 := r7.free 3
      have f4 := r7.free 4
      have f5 := r7.free 5
      obtain ⟨p0, p1, p2, p3, p4, p5⟩ := r7.six
      have HB7 := Lib.hid b7
      have HBB7 := Lib.hid B7
      have HR7 := Lib.hid r7
      have z7 := b7.size
      rw [HS3.out] at z7
      clear b7 B7 r7
      go_wp2
      have hdst : ∀ k, w.heap.size + 2 ≤ k → (((((((w7.alloc (.chan (mostTo (frs rs) (t.length + 1) (frs rs).length) #[] false 0 0 false)).setCell ⟨w.heap.size + 1, 0, none⟩ (.slice Ax (frs rs).length cx)).setCell ⟨w.heap.size + 1, 1, none⟩ (.slice B t.length d)).setCell ⟨w.heap.size + 1, 2, none⟩ (.map (some wr.heap.size))).setCell ⟨w.heap.size + 1, 3, none⟩ (.map (some (wr.heap.size + 1)))).setCell ⟨w.heap.size + 1, 4, none⟩ (.map (some (wr.heap.size + 1 + 1)))).setCell ⟨w.heap.size + 1, 5, none⟩ (.chan (some w7.heap.size))).heap[k]? = (w7.alloc (.chan (mostTo (frs rs) (t.length + 1) (frs rs).length) #[] false 0 0 false)).heap[k]? := fun k hk => by
        rw [Below.heap_setCell _ _ _ _ (by show k ≠ w.heap.size + 1; omega), Below.heap_setCell _ _ _ _ (by show k ≠ w.heap.size + 1; omega), Below.heap_setCell _ _ _ _ (by show k ≠ w.heap.size + 1; omega), Below.heap_setCell _ _ _ _ (by show k ≠ w.heap.size + 1; omega), Below.heap_setCell _ _ _ _ (by show k ≠ w.heap.size + 1; omega), Below.heap_setCell _ _ _ _ (by show k ≠ w.heap.size + 1; omega)]
      have B8 := HBB7.out.trans ((al1 w7 (.chan (mostTo (frs rs) (t.length + 1) (frs rs).length) #[] false 0 0 false)).mono (by omega))
      have G8 := ((((((HGR.out.below B8 (by omega)).away (p := ⟨w.heap.size + 1, 0, none⟩) (by show hi ≤ w.heap.size + 1; omega) (by show w.heap.size + 1 < w2.heap.size; omega) (.slice Ax (frs rs).length cx)).away (p := ⟨w.heap.size + 1, 1, none⟩) (by show hi ≤ w.heap.size + 1; omega) (by show w.heap.size + 1 < w2.heap.size; omega) (.slice B t.length d)).away (p := ⟨w.heap.size + 1, 2, none⟩) (by show hi ≤ w.heap.size + 1; omega) (by show w.heap.size + 1 < w2.heap.size; omega) (.map (some wr.heap.size))).away (p := ⟨w.heap.size + 1, 3, none⟩) (by show hi ≤ w.heap.size + 1; omega) (by show w.heap.size + 1 < w2.heap.size; omega) (.map (some (wr.heap.size + 1)))).away (p := ⟨w.heap.size + 1, 4, none⟩) (by show hi ≤ w.heap.size + 1; omega) (by show w.heap.size + 1 < w2.heap.size; omega) (.map (some (wr.heap.size + 1 + 1)))).away (p := ⟨w.heap.size + 1, 5, none⟩) (by show hi ≤ w.heap.size + 1; omega) (by show w.heap.size + 1 < w2.heap.size; omega) (.chan (some w7.heap.size))
      have hrl8 := G8.rules (hi := wr.heap.size) (by omega) (fun g hg => HGR.out.lt hg)
      rw [HFR.out, HLX.out] at hrl8
      have BF := ((((((HBA.out.trans (B8.mono (by omega))).setCell (p := ⟨w.heap.size + 1, 0, none⟩) (by show w.heap.size ≤ w.heap.size + 1; omega) (.slice Ax (frs rs).length cx)).setCell (p := ⟨w.heap.size + 1, 1, none⟩) (by show w.heap.size ≤ w.heap.size + 1; omega) (.slice B t.length d)).setCell (p := ⟨w.heap.size + 1, 2, none⟩) (by show w.heap.size ≤ w.heap.size + 1; omega) (.map (some wr.heap.size))).setCell (p := ⟨w.heap.size + 1, 3, none⟩) (by show w.heap.size ≤ w.heap.size + 1; omega) (.map (some (wr.heap.size + 1)))).setCell (p := ⟨w.heap.size + 1, 4, none⟩) (by show w.heap.size ≤ w.heap.size + 1; omega) (.map (some (wr.heap.size + 1 + 1)))).setCell (p := ⟨w.heap.size + 1, 5, none⟩) (by show w.heap.size ≤ w.heap.size + 1; omega) (.chan (some w7.heap.size))
      have hW8 := (HW.out.below BF hh2).more (Nat.le_refl _) (hi' := wr.heap.size) (by omega)
      have HFIN := Lib.hid (And.intro (Sea.made HF.out hrl8 hW8 HB7.out (fun k hk => hdst k (by omega))) BF)
      exact bodyPost_ret (v := .agg #[.slice Ax (frs rs).length cx, .slice B t.length d, .map (some wr.heap.size), .map (some (wr.heap.size + 1)), .map (some (wr.heap.size + 1 + 1)), .chan (some w7.heap.size)]) (by simp [results, Try.results79, go_sem, p0, p1, p2, p3, p4, p5]) rfl ⟨_, rfl, HFIN.out.1, by show w.heap.size ≤ wr.heap.size; omega, HFIN.out.2⟩
end Go.Proofs.Ytmhdbjoljonhdaa

/- What a search that has come to its end tells. No program stands in this text. -/
namespace Go.Proofs.Ytmhdbjoljonhdaa
open Go.RowKit Go.Maps Go.Conc

section
variable {rs : List RuleD} {t : List ByteArray}
/-- what is known while looks are followed -/
structure On (rs : List RuleD) (t : List ByteArray) (S0 S : St) : Prop where
  inv : Inv rs t S
  done : Done rs t S S.rc
  more : ∀ l ∈ S0.known, l ∈ S.known
theorem followS_more (S : St) (l : Look) : ∀ x ∈ S.known, x ∈ (followS rs t S l).known := by
  intro x hx
  unfold followS
  split
  · unfold findS
    split
    · exact hx
    · exact putAll_mem.2 (.inl hx)
  · split
    · unfold waitS askS
      exact putAll_mem.2 (.inl (putAll_mem.2 (.inl hx)))
    · split
      · exact putS_mem.2 (.inl hx)
      · exact hx
theorem On.step {S0 S : St} (O : On rs t S0 S) (hh : ∀ i (h : i < rs.length), headB rs[i].head = true) (hlt : S.rc < S.known.length) : On rs t S0 (followS rs t (takeS S) S.known[S.rc]) := by
  have I := O.inv.take hlt
  have hm : S.known[S.rc] ∈ (takeS S).known := List.getElem_mem hlt
  refine ⟨I.follow hh hm (Nat.lt_succ_of_le O.inv.nw) (Nat.lt_succ_of_le O.inv.fl), ?_, fun l hl => followS_more _ _ l (O.more l hl)⟩
  rw [followS_rc]
  exact O.done.taken.follow I hlt
theorem Runs.on {S0 S : St} (h : Runs rs t S0 S) (hh : ∀ i (h : i < rs.length), headB rs[i].head = true) (I : Inv rs t S0) (D : Done rs t S0 S0.rc) : On rs t S0 S := by
  induction h with
  | refl => exact ⟨I, D, fun _ h => h⟩
  | step _ hlt ih => exact ih.step hh hlt
theorem Runs.from {S0 S : St} (h : Runs rs t S0 S) (hh : ∀ i (h : i < rs.length), headB rs[i].head = true) (I : Inv rs t S0) (D : Done rs t S0 S0.rc) {st : ByteArray} (F : FromS rs t st S0) : FromS rs t st S := by
  induction h with
  | refl => exact F
  | step h hlt ih =>
    have O := Runs.on h hh I D
    exact FromS.follow (S := takeS _) ⟨ih.ctx⟩ (O.inv.take hlt) (List.getElem_mem hlt)
/-- all was followed that was asked for -/
structure Fin4 (rs : List RuleD) (t : List ByteArray) (S0 S : St) : Prop where
  inv : Inv rs t S
  closed : Closed rs t (· ∈ S.known) (fun h i k => (h, i, k) ∈ S.found)
  more : ∀ l ∈ S0.known, l ∈ S.known
theorem Runs.fin {S0 S : St} (h : Runs rs t S0 S) (hh : ∀ i (h : i < rs.length), headB rs[i].head = true) (I : Inv rs t S0) (D : Done rs t S0 S0.rc) (he : S.rc = S.known.length) : Fin4 rs t S0 S := by
  have O := Runs.on h hh I D
  have d := O.done
  rw [he] at d
  exact ⟨O.inv, d.closed, O.more⟩
/-- what was asked for at a place is found, just if it is come to -/
theorem Fin4.found {S0 S : St} (F : Fin4 rs t S0 S) (hh : ∀ i (h : i < rs.length), headB rs[i].head = true) (ht : ∀ s ∈ t, tokB s = true) {h : ByteArray} (hb : headB h = true) {i : Nat} (ha : ∀ l ∈ asks rs h i, l ∈ S0.known) (k : Nat) : (h, i, k) ∈ S.found ↔ Der (· ∈ rs) t [h] i k := by
  constructor
  · exact fun hm => (F.inv.found h i k hm).2.2
  · exact fun d => F.closed.all hh ht hb (fun r hr e => F.more _ (ha _ (asks_mem.2 ⟨r, hr, e, rfl⟩))) d
/-- where looks end, beginnings end -/
theorem Fin4.ends {S0 S : St} (F : Fin4 rs t S0 S) (hh : ∀ i (h : i < rs.length), headB rs[i].head = true) (ht : ∀ s ∈ t, tokB s = true) {st : ByteArray} (ha : ∀ l ∈ asks rs st 0, l ∈ S0.known) (G : FromS rs t st S) (m : Nat) : (∃ l ∈ S.known, l.at' = m) ↔ Beg (· ∈ rs) t m st 0 := by
  constructor
  · rintro ⟨l, hl, rfl⟩
    exact G.beg F.inv hl
  · intro b
    obtain ⟨l, h1, h2⟩ := F.closed.beg hh ht b (fun r hr e => F.more _ (ha _ (asks_mem.2 ⟨r, hr, e, rfl⟩)))
    exact ⟨l, h1, h2⟩
theorem Done.asked (S : St) (h : ByteArray) (i : Nat) (D : Done rs t S 0) : Done rs t (askS rs S h i) 0 := D.putAll (Nat.zero_le _) _
theorem ctx_start (st : ByteArray) : Ctx rs t st st 0 := fun _ b => b
end
/-- what is come to by fruitful rules is come to by all -/
theorem der_frs {rs : List RuleD} {t : List ByteArray} (ht : ∀ s ∈ t, tokB s = true) {l : List ByteArray} {i k : Nat} : Der (· ∈ frs rs) t l i k ↔ Der (· ∈ rs) t l i k := by
  constructor
  · exact fun d => d.mono fun r hr => (frs_mem.1 hr).1
  · exact fun d => (d.good ht).mono fun r hr => frs_mem.2 hr
/-- a search from the start on that has come to its end -/
def Started (rs : List RuleD) (t : List ByteArray) (S : St) : Prop := Fin4 (frs rs) t (askS (frs rs) St.none (ruleAt rs 0).head 0) S ∧ FromS (frs rs) t (ruleAt rs 0).head S
theorem Started.of {rs : List RuleD} {t : List ByteArray} (F : Fits (frs rs) t) {S : St} (h : Runs (frs rs) t (askS (frs rs) St.none (ruleAt rs 0).head 0) S) (he : S.rc = S.known.length) : Started rs t S := by
  have I : Inv (frs rs) t (askS (frs rs) St.none (ruleAt rs 0).head 0) := Inv.none.ask (Nat.zero_le _)
  have D : Done (frs rs) t (askS (frs rs) St.none (ruleAt rs 0).head 0) (askS (frs rs) St.none (ruleAt rs 0).head 0).rc := by
    unfold askS
    rw [(putAll_rest _ _).1]
    exact Done.none.asked St.none _ _
  exact ⟨h.fin F.head I D he, h.from F.head I D (FromS.none.ask (ctx_start _))⟩
theorem asks_in {rs : List RuleD} {h : ByteArray} {T : St} : ∀ l ∈ asks rs h 0, l ∈ (askS rs T h 0).known := fun _ hl => putAll_mem.2 (.inr hl)
section
variable {rs : List RuleD} {t : List ByteArray} {S : St} (F : Fits (frs rs) t) (h : Started rs t S) (hb : headB (ruleAt rs 0).head = true)
include F h
include hb
theorem Started.found (k : Nat) : ((ruleAt rs 0).head, 0, k) ∈ S.found ↔ Der (· ∈ rs) t [(ruleAt rs 0).head] 0 k :=
  (h.1.found F.head F.tok hb asks_in k).trans (der_frs F.tok)
omit hb in
theorem Started.ends (m : Nat) : (∃ l ∈ S.known, l.at' = m) ↔ Beg (· ∈ frs rs) t m (ruleAt rs 0).head 0 := h.1.ends F.head F.tok asks_in h.2 m
end
end Go.Proofs.Ytmhdbjoljonhdaa

/- The walks of searchStart and Derives. -/
namespace Go.Proofs.Ytmhdbjoljonhdaa
open Go.RowKit Go.Maps Go.Conc

/-- what searchStart hands back -/
def StartS (w : World) (rs : List RuleD) (t : List ByteArray) (e : Ending) (w' : World) : Prop :=
  ∃ (E : Env) (M : List WtM) (S : St), e = .returned (.tuple #[E.v (frs rs).length t.length, .bool true]) ∧ Sea w' E (frs rs) t M S ∧ Started rs t S ∧ w.heap.size ≤ E.base ∧ Below w.heap.size w w'
theorem below_six {B : Nat} {w0 w : World} {g : Nat} (h : Below B w0 w) (hg : B ≤ g) (a b c d e f : Value) : Below B w0 ((((((w.setCell ⟨g, 0, none⟩ a).setCell ⟨g, 1, none⟩ b).setCell ⟨g, 2, none⟩ c).setCell ⟨g, 3, none⟩ d).setCell ⟨g, 4, none⟩ e).setCell ⟨g, 5, none⟩ f) :=
  (((((h.setCell (p := ⟨g, 0, none⟩) hg a).setCell (p := ⟨g, 1, none⟩) hg b).setCell (p := ⟨g, 2, none⟩) hg c).setCell (p := ⟨g, 3, none⟩) hg d).setCell (p := ⟨g, 4, none⟩) hg e).setCell (p := ⟨g, 5, none⟩) hg f
/-- a block without texts has turned, and nothing else: lists of texts, rules and a search don't see it -/
theorem Strs.but {w w' : World} {lo hi : Nat} {v : Value} {ss : List ByteArray} (h : Strs w lo hi v ss) {g : Nat} {ty : TypeId} {cur : Array Value} (r : Row w g ty cur) (hc : ∀ (i : Nat) (s : ByteArray), cur[i]? ≠ some (Value.string s)) (hk : ∀ k, k ≠ g → w'.heap[k]? = w.heap[k]?) : Strs w' lo hi v ss := by
  obtain ⟨A, c, h1, h2, h3, h4, h5⟩ := h
  refine ⟨A, c, h1, h2, h3, h4, fun hp => ?_⟩
  obtain ⟨b, off, e, hl, hh, hcc⟩ := h5 hp
  have hne : b ≠ g := by
    rintro rfl
    have := hcc 0 hp
    rw [r.cell] at this
    exact hc _ _ this
  exact ⟨b, off, e, hl, hh, fun i hi => (World.cell?_of_block (w := w) (hk b hne)).trans (hcc i hi)⟩
theorem Rules.but {w w' : World} {lo hi : Nat} {v : Value} {rs : List RuleD} (h : Rules w lo hi v rs) {g : Nat} {ty : TypeId} {cur : Array Value} (r : Row w g ty cur) (hc : ∀ (i : Nat) (s : ByteArray), cur[i]? ≠ some (Value.string s)) (hk : ∀ k, k ≠ g → w'.heap[k]? = w.heap[k]?) : Rules w' lo hi v rs := by
  obtain ⟨A, c, h1, h2, h3, h5⟩ := h
  refine ⟨A, c, h1, h2, h3, fun hp => ?_⟩
  obtain ⟨b, off, e, hl, hh, hcc⟩ := h5 hp
  have hne : b ≠ g := by
    rintro rfl
    have := (hcc 0 hp).2.1
    rw [r.cell] at this
    exact hc _ _ this
  refine ⟨b, off, e, hl, hh, fun i hi => ?_⟩
  obtain ⟨a1, a2, u, a3, a4⟩ := hcc i hi
  exact ⟨a1, (World.cell?_of_block (w := w) (hk b hne)).trans a2, u, (World.cell?_of_block (w := w) (hk b hne)).trans a3, a4.but r hc hk⟩
theorem Sea.but {w w' : World} {E : Env} {rs : List RuleD} {t : List ByteArray} {M : List WtM} {S : St} (s : Sea w E rs t M S) {g : Nat} {ty : TypeId} {cur : Array Value} (r : Row w g ty cur) (hc : ∀ (i : Nat) (s : ByteArray), cur[i]? ≠ some (Value.string s)) (hk : ∀ k, k ≠ g → w'.heap[k]? = w.heap[k]?) (hT : ¬ E.T M g) : Sea w' E rs t M S := by
  have h : ∀ k, E.T M k → w'.heap[k]? = w.heap[k]? := fun k ht => hk k fun e => hT (by rw [← e]; exact ht)
  obtain ⟨a, b, hq⟩ := s.queue
  exact ⟨s.fits, s.inv, s.rules.but r hc hk, s.text.but r hc hk, s.hib, s.known.keep (h _ (.inl rfl)), s.found.keep (h _ (.inr (.inl rfl))), s.wait.keep (h _ (.inr (.inr (.inl rfl)))),
    ⟨a, b, (h _ (.inr (.inr (.inr (.inl rfl))))).trans hq⟩, s.room, fun e he => ⟨WtM.row_keep (s.rows e he).1 (h _ (.inr (.inr (.inr (.inr ⟨e, he, rfl⟩))))), (s.rows e he).2⟩, s.all, s.keys, s.blks, s.low, s.apart⟩
theorem heap_six {w : World} {g k : Nat} (a b c d e f : Value) (hk : k ≠ g) : ((((((w.setCell ⟨g, 0, none⟩ a).setCell ⟨g, 1, none⟩ b).setCell ⟨g, 2, none⟩ c).setCell ⟨g, 3, none⟩ d).setCell ⟨g, 4, none⟩ e).setCell ⟨g, 5, none⟩ f).heap[k]? = w.heap[k]? := by
  rw [Below.heap_setCell _ _ _ _ hk, Below.heap_setCell _ _ _ _ hk, Below.heap_setCell _ _ _ _ hk, Below.heap_setCell _ _ _ _ hk, Below.heap_setCell _ _ _ _ hk, Below.heap_setCell _ _ _ _ hk]
theorem Row.one4 {w : World} {g : Nat} {ty : TypeId} {a : Value} (r : Row w g ty #[a]) : w.cell? ⟨g, 0, none⟩ = some a := r.cell 0

set_option maxRecDepth 100000 in
set_option maxHeartbeats 4000000 in
theorem searchStart_no (rs : List RuleD) (t : List ByteArray) (v tv : Value) (lo hi lo2 hi2 : Nat) (w : World) (h : Rules w lo hi v rs) (hh : hi ≤ w.heap.size) (h2 : Strs w lo2 hi2 tv t) (hh2 : hi2 ≤ w.heap.size) (hno : (gramB rs && textB t) = false) :
    Calls Try.prog 74 #[.agg #[v], tv] w fun e w' => e = .returned (.tuple #[.agg #[.slice none 0 0, .slice none 0 0, .map none, .map none, .map none, .chan none], .bool false]) ∧ Below w.heap.size w w' := by
  have HV := Lib.hid h
  have HW := Lib.hid h2
  obtain ⟨A, c, rfl, -⟩ := h
  obtain ⟨B, d, rfl, -⟩ := h2
  have hb := al2 w (.cells #[.slice A rs.length c] 25) (.cells #[.slice none 0 0, .slice none 0 0, .map none, .map none, .map none, .chan none] 95)
  have R1 := Row.made1 w (.cells #[.slice A rs.length c] 25) 95 #[.slice none 0 0, .slice none 0 0, .map none, .map none, .map none, .chan none]
  have hsz : ((w.alloc (.cells #[.slice A rs.length c] 25)).alloc (.cells #[.slice none 0 0, .slice none 0 0, .map none, .map none, .map none, .chan none] 95)).heap.size = w.heap.size + 2 := by simp
  have HSZ := Lib.hid hsz
  have HR1 := Lib.hid R1
  have HB := Lib.hid hb
  clear hsz R1 hb
  cases hq : gramB rs
  · have HQ := Lib.hid hq
    clear hq hno
    go_enter Try.func74, Try.ntmps74
    go_wp2_with fail
    refine (implGramRight_any rs _ lo hi _ (HV.out.below HB.out hh) (by rw [HSZ.out]; omega)).mono ?_
    rintro _ w1 ⟨rfl, b1⟩
    rw [HQ.out]
    have r1 := HR1.out.below b1 HR1.out.lt
    obtain ⟨p0, p1, p2, p3, p4, p5⟩ := r1.six
    have f0 := r1.free 0
    have f1 := r1.free 1
    have f2 := r1.free 2
    have f3 := r1.free 3
    have f4 := r1.free 4
    have f5 := r1.free 5
    have l1 := r1.lt
    have HB1 := Lib.hid (HB.out.trans (b1.mono (by rw [HSZ.out]; omega)))
    clear b1 r1
    go_wp2
    exact bodyPost_ret (v := .tuple #[.agg #[.slice none 0 0, .slice none 0 0, .map none, .map none, .map none, .chan none], .bool false]) (by simp [results, Try.results74, go_sem, p0, p1, p2, p3, p4, p5]) rfl ⟨rfl, below_six HB1.out (by omega) _ _ _ _ _ _⟩
  · have ht : textB t = false := by rw [hq] at hno; simpa using hno
    have HQ := Lib.hid hq
    have HT := Lib.hid ht
    clear hq hno ht
    go_enter Try.func74, Try.ntmps74
    go_wp2_with fail
    refine (implGramRight_any rs _ lo hi _ (HV.out.below HB.out hh) (by rw [HSZ.out]; omega)).mono ?_
    rintro _ w1 ⟨rfl, b1⟩
    rw [HQ.out]
    have hb1 := HB.out.trans (b1.mono (by rw [HSZ.out]; omega))
    have r1 := HR1.out.below b1 HR1.out.lt
    have HR11 := Lib.hid r1
    have z1 := b1.size
    rw [HSZ.out] at z1
    have HB1 := Lib.hid hb1
    clear b1 r1 hb1
    go_wp2_with fail
    refine (textRight_any t _ lo2 hi2 _ (HW.out.below HB1.out hh2) (by omega)).mono ?_
    rintro _ w2 ⟨rfl, b2⟩
    rw [HT.out]
    have r1 := HR11.out.below b2 HR11.out.lt
    obtain ⟨p0, p1, p2, p3, p4, p5⟩ := r1.six
    have f0 := r1.free 0
    have f1 := r1.free 1
    have f2 := r1.free 2
    have f3 := r1.free 3
    have f4 := r1.free 4
    have f5 := r1.free 5
    have l1 := r1.lt
    have HB2 := Lib.hid (HB1.out.trans (b2.mono (by omega)))
    clear b2 r1
    go_wp2
    exact bodyPost_ret (v := .tuple #[.agg #[.slice none 0 0, .slice none 0 0, .map none, .map none, .map none, .chan none], .bool false]) (by simp [results, Try.results74, go_sem, p0, p1, p2, p3, p4, p5]) rfl ⟨rfl, below_six HB2.out (by omega) _ _ _ _ _ _⟩

set_option maxRecDepth 100000 in
set_option maxHeartbeats 4000000 in
theorem searchStart_yes (rs : List RuleD) (t : List ByteArray) (v tv : Value) (lo hi lo2 hi2 : Nat) (w : World) (h : Rules w lo hi v rs) (hh : hi ≤ w.heap.size) (h2 : Strs w lo2 hi2 tv t) (hh2 : hi2 ≤ w.heap.size) (hg : gramB rs = true) (ht : textB t = true) :
    Calls Try.prog 74 #[.agg #[v], tv] w (StartS w rs t) := by
  have HV := Lib.hid h
  have HW := Lib.hid h2
  have hpos := (Rt.of hg).one
  obtain ⟨A, c, rfl, -⟩ := h
  obtain ⟨B, d, rfl, -⟩ := h2
  obtain ⟨b, off, rfl, hbh, hlc, hcm, hsm, k0, -⟩ := HV.out.at (j := 0) (by omega)
  simp only [Nat.zero_mul, Nat.add_zero] at k0
  unfold maxLen at hcm
  have hr0 := ruleAt_eq (rs := rs) (i := 0) (by omega)
  rw [← hr0] at k0
  have HFT := Lib.hid (frs_fits hg ht)
  have hb := al2 w (.cells #[.slice (some ⟨b, off, none⟩) rs.length c] 25) (.cells #[.slice none 0 0, .slice none 0 0, .map none, .map none, .map none, .chan none] 95)
  have R0 := (Row.made w 25 #[.slice (some ⟨b, off, none⟩) rs.length c]).alloc (.cells #[.slice none 0 0, .slice none 0 0, .map none, .map none, .map none, .chan none] 95)
  have R1 := Row.made1 w (.cells #[.slice (some ⟨b, off, none⟩) rs.length c] 25) 95 #[.slice none 0 0, .slice none 0 0, .map none, .map none, .map none, .chan none]
  have hsz : ((w.alloc (.cells #[.slice (some ⟨b, off, none⟩) rs.length c] 25)).alloc (.cells #[.slice none 0 0, .slice none 0 0, .map none, .map none, .map none, .chan none] 95)).heap.size = w.heap.size + 2 := by simp
  have HSZ := Lib.hid hsz
  have HR1 := Lib.hid R1
  have HR0 := Lib.hid R0
  have HB := Lib.hid hb
  have HQ := Lib.hid hg
  have HT := Lib.hid ht
  have HK0 := Lib.hid k0
  clear hsz R1 R0 hb hg ht hr0 k0 hsm
  unfold StartS
  go_enter Try.func74, Try.ntmps74
  go_wp2_with fail
  refine (implGramRight_any rs _ lo hi _ (HV.out.below HB.out hh) (by rw [HSZ.out]; omega)).mono ?_
  rintro _ w1 ⟨rfl, b1⟩
  rw [HQ.out]
  have hb1 := HB.out.trans (b1.mono (by rw [HSZ.out]; omega))
  have r0 := HR0.out.below b1 HR0.out.lt
  have r1 := HR1.out.below b1 HR1.out.lt
  have HR01 := Lib.hid r0
  have HR11 := Lib.hid r1
  have z1 := b1.size
  rw [HSZ.out] at z1
  have HB1 := Lib.hid hb1
  clear b1 r0 r1 hb1
  go_wp2_with fail
  refine (textRight_any t _ lo2 hi2 _ (HW.out.below HB1.out hh2) (by omega)).mono ?_
  rintro _ w2 ⟨rfl, b2⟩
  rw [HT.out]
  have r0 := HR01.out.below b2 HR01.out.lt
  have r1 := HR11.out.below b2 HR11.out.lt
  have q0 := r0.one4
  have l0 := r0.lt
  have z2 := b2.size
  have HB2 := Lib.hid (HB1.out.trans (b2.mono (by omega)))
  have HR02 := Lib.hid r0
  have HR12 := Lib.hid r1
  clear b2 r0 r1
  go_wp2_with fail
  refine (newSearch_any rs t _ _ lo hi lo2 hi2 _ (HV.out.below HB2.out hh) (by omega) (HW.out.below HB2.out hh2) (by omega) HQ.out HT.out).mono ?_
  rintro _ w3 ⟨E, rfl, s3, hE3, b3⟩
  have hb3 := HB2.out.trans (b3.mono (by omega))
  have hbA := al1 w3 (.cells #[.slice E.A (frs rs).length E.c, .slice E.B t.length E.d, .map (some E.bk), .map (some E.bf), .map (some E.bw), .chan (some E.bq)] 95)
  have hb4 := hb3.trans (hbA.mono hb3.size)
  have s4 := s3.below hbA
  have r0 := (HR02.out.below b3 HR02.out.lt).alloc (.cells #[.slice E.A (frs rs).length E.c, .slice E.B t.length E.d, .map (some E.bk), .map (some E.bf), .map (some E.bw), .chan (some E.bq)] 95)
  have r1 := (HR12.out.below b3 HR12.out.lt).alloc (.cells #[.slice E.A (frs rs).length E.c, .slice E.B t.length E.d, .map (some E.bk), .map (some E.bf), .map (some E.bw), .chan (some E.bq)] 95)
  have rA := Row.made w3 95 #[.slice E.A (frs rs).length E.c, .slice E.B t.length E.d, .map (some E.bk), .map (some E.bf), .map (some E.bw), .chan (some E.bq)]
  have k4 := (hb4.cell (p := ⟨b, off, none⟩) (by show b < _; omega)).trans HK0.out
  have z3 := b3.size
  have hz4 := hbA.size
  have hb3l := s3.base_lt
  have hnT3 : ∀ q, q < E.base ∨ w3.heap.size ≤ q → ¬ E.T [] q := fun q hq ht => by
    have h1 := s3.T_low ht
    have h2 := s3.T_lt ht
    omega
  have HS4 := Lib.hid s4
  have HNT := Lib.hid hnT3
  have HB4 := Lib.hid hb4
  have HR04 := Lib.hid r0
  have HR14 := Lib.hid r1
  have HRA := Lib.hid rA
  have hzA : (w3.alloc (.cells #[.slice E.A (frs rs).length E.c, .slice E.B t.length E.d, .map (some E.bk), .map (some E.bf), .map (some E.bw), .chan (some E.bq)] 95)).heap.size = w3.heap.size + 1 := by simp
  have HZA := Lib.hid hzA
  have q0' := r0.one4
  obtain ⟨a0, a1, a2, a3, a4, a5⟩ := rA.six
  have l0' := r0.lt
  have lA := rA.lt
  have hb4' : b < (w3.alloc (.cells #[.slice E.A (frs rs).length E.c, .slice E.B t.length E.d, .map (some E.bk), .map (some E.bf), .map (some E.bw), .chan (some E.bq)] 95)).heap.size := by rw [hzA]; omega
  clear b3 hb3 hbA hb4 s3 s4 hnT3 r0 r1 rA hzA q0
  unfold Env.v
  have hpos0 : 0 < rs.length := by omega
  go_wp2
  generalize w3.alloc (.cells #[.slice E.A (frs rs).length E.c, .slice E.B t.length E.d, .map (some E.bk), .map (some E.bf), .map (some E.bw), .chan (some E.bq)] 95) = wA at *
  go_still_tail 7, (by kernel_rfl)
  go_wp2_with fail
  refine (ask_any E (frs rs) t [] St.none (ruleAt rs 0).head 0 _ (HS4.out.below (Below.refl _ _).drew) (Nat.zero_le _)).mono ?_
  rintro _ w5 ⟨rfl, s5, t5⟩
  have T5 : Turn (E.T []) _ w5 := (Turn.of_below (Below.refl _ _).drew).trans t5 fun _ h => .inl h
  have r1 := T5.row HR14.out (HNT.out _ (.inl (by omega)))
  have rA := T5.row HRA.out (HNT.out _ (.inr (Nat.le_refl _)))
  obtain ⟨c0, c1, c2, c3, c4, c5⟩ := rA.six
  have lA5 := rA.lt
  have HR15 := Lib.hid r1
  have HRA5 := Lib.hid rA
  have HS5 := Lib.hid s5
  have HT5 := Lib.hid T5
  have hz5 := T5.size
  rw [HZA.out] at hz5
  clear s5 t5 T5 r1 rA a0 a1 a2 a3 a4 a5 k4 q0'
  go_wp2_with fail
  refine (run_any E (frs rs) t [] _ _ HS5.out).mono ?_
  rintro _ w6 ⟨rfl, S6, hruns, hrc, M6, s6, t6, hT6⟩
  have r1 := t6.row HR15.out (HNT.out _ (.inl (by omega)))
  have rA := t6.row HRA5.out (HNT.out _ (.inr (Nat.le_refl _)))
  obtain ⟨e0, e1, e2, e3, e4, e5⟩ := rA.six
  obtain ⟨p0, p1, p2, p3, p4, p5⟩ := r1.six
  have f0 := r1.free 0
  have f1 := r1.free 1
  have f2 := r1.free 2
  have f3 := r1.free 3
  have f4 := r1.free 4
  have f5 := r1.free 5
  have l1 := r1.lt
  have lA6 := rA.lt
  have hST := Started.of HFT.out hruns hrc
  have hlow : ∀ k, E.T ([] : List WtM) k → w.heap.size ≤ k := fun k hk => by have := HS4.out.T_low hk; omega
  have BF := (HB4.out.trans ((HT5.out.below hlow (by rw [HZA.out]; omega)))).trans (t6.below hlow (by omega))
  have hnT : ¬ E.T M6 (w.heap.size + 1) := fun ht => by
    rcases hT6 _ ht with h1 | h1
    · exact HNT.out _ (.inl (by omega)) h1
    · omega
  have hno : ∀ (i : Nat) (s : ByteArray), (#[Value.slice none 0 0, .slice none 0 0, .map none, .map none, .map none, .chan none] : Array Value)[i]? ≠ some (Value.string s) := fun i s => by rcases i with _ | _ | _ | _ | _ | _ | i <;> simp
  have HSF : Hid (∀ a b c d e f, Sea ((((((w6.setCell ⟨w.heap.size + 1, 0, none⟩ a).setCell ⟨w.heap.size + 1, 1, none⟩ b).setCell ⟨w.heap.size + 1, 2, none⟩ c).setCell ⟨w.heap.size + 1, 3, none⟩ d).setCell ⟨w.heap.size + 1, 4, none⟩ e).setCell ⟨w.heap.size + 1, 5, none⟩ f) E (frs rs) t M6 S6) := Lib.hid fun a b c d e f => s6.but r1 hno (fun k hk => heap_six a b c d e f hk) hnT
  have HFIN := Lib.hid (And.intro hST BF)
  clear s6 t6 hT6 hruns hrc rA r1 hST BF hnT hno c0 c1 c2 c3 c4 c5
  go_wp2
  exact bodyPost_ret (v := .tuple #[E.v (frs rs).length t.length, .bool true]) (by simp [results, Try.results74, go_sem, p0, p1, p2, p3, p4, p5, Env.v]) rfl ⟨E, M6, S6, rfl, HSF.out _ _ _ _ _ _, HFIN.out.1, by omega, below_six HFIN.out.2 (by omega) _ _ _ _ _ _⟩
end Go.Proofs.Ytmhdbjoljonhdaa

/- The program's Derives. -/
namespace Go.Proofs.Ytmhdbjoljonhdaa
open Go.RowKit Go.Maps Go.Conc

/-- does the start come to the text? -/
def DerP (rs : List RuleD) (t : List ByteArray) : Prop := Der (· ∈ rs) t [(ruleAt rs 0).head] 0 t.length
open Classical in
noncomputable def derB (rs : List RuleD) (t : List ByteArray) : Bool := gramB rs && textB t && decide (DerP rs t)
theorem derB_no {rs : List RuleD} {t : List ByteArray} (h : (gramB rs && textB t) = false) : derB rs t = false := by unfold derB; rw [h]; rfl
theorem derB_yes {rs : List RuleD} {t : List ByteArray} (h1 : gramB rs = true) (h2 : textB t = true) (h : DerP rs t) : derB rs t = true := by unfold derB; rw [h1, h2]; simp [h]
theorem derB_not {rs : List RuleD} {t : List ByteArray} (h : ¬ DerP rs t) : derB rs t = false := by unfold derB; simp [h]

set_option maxRecDepth 100000 in
set_option maxHeartbeats 4000000 in
theorem implDerives_any (rs : List RuleD) (t : List ByteArray) (v tv : Value) (lo hi lo2 hi2 : Nat) (w : World) (h : Rules w lo hi v rs) (hh : hi ≤ w.heap.size) (h2 : Strs w lo2 hi2 tv t) (hh2 : hi2 ≤ w.heap.size) :
    Calls Try.prog 31 #[.agg #[v], tv] w fun e w' => e = .returned (.bool (derB rs t)) ∧ Below w.heap.size w w' := by
  have HV := Lib.hid h
  have HW := Lib.hid h2
  obtain ⟨A, c, rfl, -⟩ := h
  obtain ⟨B, d, rfl, -⟩ := h2
  have hb := al1 w (.cells #[.slice A rs.length c] 25)
  have R0 := Row.made w 25 #[.slice A rs.length c]
  have HB := Lib.hid hb
  have HR0 := Lib.hid R0
  have hsz : (w.alloc (.cells #[.slice A rs.length c] 25)).heap.size = w.heap.size + 1 := by simp
  have HSZ := Lib.hid hsz
  clear hb R0 hsz
  cases hq : (gramB rs && textB t)
  · have HQ := Lib.hid hq
    have HD := Lib.hid (derB_no hq)
    clear hq
    go_enter Try.func31, Try.ntmps31
    go_wp2_with fail
    refine (searchStart_no rs t _ _ lo hi lo2 hi2 _ (HV.out.below HB.out hh) (by rw [HSZ.out]; omega) (HW.out.below HB.out hh2) (by rw [HSZ.out]; omega) HQ.out).mono ?_
    rintro _ w1 ⟨rfl, b1⟩
    have B1 := (HB.out.trans (b1.mono (by rw [HSZ.out]; omega)))
    have B2 := B1.trans ((al1 w1 (.cells #[.slice none 0 0, .slice none 0 0, .map none, .map none, .map none, .chan none] 95)).mono B1.size)
    have HB2 := Lib.hid B2
    clear b1 B1 B2
    go_wp2
    go_quiet (fail)
    go_wp2
    go_ret
    exact ⟨ret_bool HD.out.symm, below_drewN HB2.out _⟩
  · have hg : gramB rs = true := by revert hq; cases gramB rs <;> simp
    have ht : textB t = true := by revert hq; cases textB t <;> simp
    have hpos := (Rt.of hg).one
    have h12 := ((textB_iff t).1 ht).1
    obtain ⟨b, off, rfl, hbh, hlc, hcm, hsm, k0, -⟩ := HV.out.at (j := 0) (by omega)
    simp only [Nat.zero_mul, Nat.add_zero] at k0
    unfold maxLen at hcm
    have hr0 := ruleAt_eq (rs := rs) (i := 0) (by omega)
    rw [← hr0] at k0
    have hhd : headB (ruleAt rs 0).head = true := by rw [hr0]; exact (Rt.of hg).head 0 (by omega)
    have HFT := Lib.hid (frs_fits hg ht)
    have HG := Lib.hid hg
    have HT := Lib.hid ht
    have HK0 := Lib.hid k0
    have HHD := Lib.hid hhd
    clear hq hg ht k0 hr0 hsm hhd
    go_enter Try.func31, Try.ntmps31
    go_wp2_with fail
    refine (searchStart_yes rs t _ _ lo hi lo2 hi2 _ (HV.out.below HB.out hh) (by rw [HSZ.out]; omega) (HW.out.below HB.out hh2) (by rw [HSZ.out]; omega) HG.out HT.out).mono ?_
    rintro _ w1 ⟨E, M, S, rfl, s1, hst, hE, b1⟩
    have B1 := (HB.out.trans (b1.mono (by rw [HSZ.out]; omega)))
    have hA := al1 w1 (.cells #[.slice E.A (frs rs).length E.c, .slice E.B t.length E.d, .map (some E.bk), .map (some E.bf), .map (some E.bw), .chan (some E.bq)] 95)
    have B2 := B1.trans (hA.mono B1.size)
    have HB2 := Lib.hid B2
    have s2 := s1.below hA
    have r0 := (HR0.out.below b1 HR0.out.lt).alloc (.cells #[.slice E.A (frs rs).length E.c, .slice E.B t.length E.d, .map (some E.bk), .map (some E.bf), .map (some E.bw), .chan (some E.bq)] 95)
    have rA := Row.made w1 95 #[.slice E.A (frs rs).length E.c, .slice E.B t.length E.d, .map (some E.bk), .map (some E.bf), .map (some E.bw), .chan (some E.bq)]
    have k2 := (B2.cell (p := ⟨b, off, none⟩) (by show b < _; omega)).trans HK0.out
    have q0 := r0.one4
    obtain ⟨a0, a1, a2, a3, a4, a5⟩ := rA.six
    have l0 := r0.lt
    have lA := rA.lt
    have hz1 := B1.size
    have hbl : b < (w1.alloc (.cells #[.slice E.A (frs rs).length E.c, .slice E.B t.length E.d, .map (some E.bk), .map (some E.bf), .map (some E.bw), .chan (some E.bq)] 95)).heap.size := by have := B2.size; omega
    have hpk := keyPiece (h := (ruleAt rs 0).head) (i := 0) (k := t.length) (by have := headB_size HHD.out; unfold maxLen; omega) (by omega) (by omega)
    have hisf := s2.isFound (h := (ruleAt rs 0).head) (i := 0) (k := t.length) (headB_size HHD.out) (by omega) (by omega)
    have hfd := hst.found HFT.out HHD.out t.length
    have hpos0 : 0 < rs.length := by omega
    by_cases hder : DerP rs t
    · have hlk : ∀ n, (Instr.lookup 91 (.map (some E.bf)) (.agg #[.string (ruleAt rs 0).head, .int .i64 0, .int .i64 (t.length : Int)]) false).run Try.prog ((w1.alloc (.cells #[.slice E.A (frs rs).length E.c, .slice E.B t.length E.d, .map (some E.bk), .map (some E.bf), .map (some E.bw), .chan (some E.bq)] 95)).drewN n) = .ok (.bool true) ((w1.alloc (.cells #[.slice E.A (frs rs).length E.c, .slice E.B t.length E.d, .map (some E.bk), .map (some E.bf), .map (some E.bw), .chan (some E.bq)] 95)).drewN n) := fun n => set_in (s2.found.keep rfl) kPiece Try.underlying91 hpk (hisf.2 (hfd.2 hder))
      have HD := Lib.hid (derB_yes HG.out HT.out hder)
      clear hder hfd hisf hpk s1 s2 hst b1 B1 B2 hA r0 rA
      unfold Env.v
      go_wp2
      generalize w1.alloc (.cells #[.slice E.A (frs rs).length E.c, .slice E.B t.length E.d, .map (some E.bk), .map (some E.bf), .map (some E.bw), .chan (some E.bq)] 95) = wA at *
      go_quiet (fail)
      go_wp2
      go_ret
      exact ⟨ret_bool HD.out.symm, below_drewN HB2.out _⟩
    · have hlk : ∀ n, (Instr.lookup 91 (.map (some E.bf)) (.agg #[.string (ruleAt rs 0).head, .int .i64 0, .int .i64 (t.length : Int)]) false).run Try.prog ((w1.alloc (.cells #[.slice E.A (frs rs).length E.c, .slice E.B t.length E.d, .map (some E.bk), .map (some E.bf), .map (some E.bw), .chan (some E.bq)] 95)).drewN n) = .ok (.bool false) ((w1.alloc (.cells #[.slice E.A (frs rs).length E.c, .slice E.B t.length E.d, .map (some E.bk), .map (some E.bf), .map (some E.bw), .chan (some E.bq)] 95)).drewN n) := fun n => set_out (s2.found.keep rfl) kPiece Try.underlying91 hpk (fun hm => hder (hfd.1 (hisf.1 hm)))
      have HD := Lib.hid (derB_not hder)
      clear hder hfd hisf hpk s1 s2 hst b1 B1 B2 hA r0 rA
      unfold Env.v
      go_wp2
      generalize w1.alloc (.cells #[.slice E.A (frs rs).length E.c, .slice E.B t.length E.d, .map (some E.bk), .map (some E.bf), .map (some E.bw), .chan (some E.bq)] 95) = wA at *
      go_quiet (fail)
      go_wp2
      go_ret
      exact ⟨ret_bool HD.out.symm, below_drewN HB2.out _⟩
end Go.Proofs.Ytmhdbjoljonhdaa
