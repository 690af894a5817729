import Derived.Test.YtonfiahihmcmlaaJMarkb
import Derived.Test.YtonfiahihmcmlaaJUseI
/- The walk of newSearch. -/
namespace Go.Proofs.Ytonfiahihmcmlaa
open Go.RowKit Go.Maps Go.Conc

/-- the rules that come to tokens -/
noncomputable def frs (rs : List RuleD) : List RuleD := (goodIx rs).map (ruleAt rs)
theorem frs_len (rs : List RuleD) : (frs rs).length ≤ rs.length := by
  unfold frs
  rw [List.length_map]
  refine Nat.le_trans (List.length_filter_le _ _) ?_
  rw [List.length_range]; exact Nat.le_refl _
theorem frs_mem {rs : List RuleD} {r : RuleD} : r ∈ frs rs ↔ r ∈ rs ∧ GoodR rs r := by
  unfold frs goodIx
  rw [List.mem_map]
  constructor
  · rintro ⟨i, hi, rfl⟩
    obtain ⟨h1, h2⟩ := List.mem_filter.1 hi
    rw [List.mem_range] at h1
    have h2 : Good rs i := by simpa using h2
    refine ⟨by rw [ruleAt_eq h1]; exact List.getElem_mem h1, h2⟩
  · rintro ⟨hr, hg⟩
    obtain ⟨i, hi, rfl⟩ := List.getElem_of_mem hr
    refine ⟨i, List.mem_filter.2 ⟨List.mem_range.2 hi, ?_⟩, ruleAt_eq hi⟩
    have : Good rs i := by unfold Good; rw [ruleAt_eq hi]; exact hg
    simpa using this
theorem frs_fits {rs : List RuleD} {t : List ByteArray} (hg : gramB rs = true) (ht : textB t = true) : Fits (frs rs) t := by
  have R := Rt.of hg
  obtain ⟨t1, t2⟩ := (textB_iff t).1 ht
  have hl := frs_len rs
  have mem : ∀ i (h : i < (frs rs).length), ∃ j, ∃ hj : j < rs.length, (frs rs)[i] = rs[j] := fun i h => by
    obtain ⟨j, hj, e⟩ := List.getElem_of_mem (frs_mem.1 (List.getElem_mem h)).1
    exact ⟨j, hj, e.symm⟩
  refine ⟨by have := R.few; omega, fun i h => ?_, fun i h => ?_, fun i h => ?_, t1, t2⟩
  · obtain ⟨j, hj, e⟩ := mem i h
    rw [e]; exact R.len j hj
  · obtain ⟨j, hj, e⟩ := mem i h
    rw [e]; exact R.head j hj
  · obtain ⟨j, hj, e⟩ := mem i h
    rw [e]; exact R.body j hj
open Classical in
theorem fruit_at {rs : List RuleD} (hg : gramB rs = true) {m1 : Nat} (h1 : FixAt (stepCome (rlOf rs)) (tokBase true) m1) : keepN (notProd m1) (rlOf rs) = rnl rs (goodIx rs) := by
  have R := Rt.of hg
  rw [rlOf_t hg] at h1 ⊢
  apply keepN_rnl
  intro i hi
  unfold notProd
  congr 1
  rw [Bool.eq_iff_iff, decide_eq_true_eq]
  unfold rn
  rw [body_holds]
  unfold Good
  constructor
  · intro h s hs
    have := (com_bits R true h1 s).1 (h s hs)
    simpa using this
  · intro h s hs
    apply (com_bits R true h1 s).2
    simpa using h s hs

/-- rules that a list takes over, their bodies where they were -/
def flatY (xs : List (RuleD × Value)) : List Value := xs.flatMap fun x => [.string x.1.head, x.2]
theorem flatY_snoc (xs : List (RuleD × Value)) (x : RuleD × Value) : flatY (xs ++ [x]) = flatY xs ++ [.string x.1.head, x.2] := by simp [flatY]
theorem flatY_at (xs : List (RuleD × Value)) (i : Nat) (h : i < xs.length) : (flatY xs)[i * 2]? = some (.string xs[i].1.head) ∧ (flatY xs)[i * 2 + 1]? = some xs[i].2 := by
  induction xs generalizing i with
  | nil => simp at h
  | cons x l ih =>
    cases i with
    | zero => exact ⟨rfl, rfl⟩
    | succ i =>
      have := ih i (by simpa using h)
      have e : flatY (x :: l) = .string x.1.head :: x.2 :: flatY l := rfl
      rw [e]
      rw [show (i + 1) * 2 = i * 2 + 1 + 1 by omega]
      simpa using this
def GrowB (w : World) (base bb : Nat) (v : Value) (xs : List (RuleD × Value)) : Prop :=
  w.ownsRow base 49 2 v xs.length (flatY xs) ∧ ∀ x ∈ xs, x.1.head.size ≤ maxLen ∧ Strs w 0 bb x.2 x.1.body
section
variable {w w' : World} {base bb : Nat} {v v' : Value} {xs : List (RuleD × Value)}
theorem GrowB.nil (w : World) (base bb : Nat) : GrowB w base bb (.slice none 0 0) [] := ⟨World.ownsRow_nil _ _ _ _, by simp⟩
theorem GrowB.form (h : GrowB w base bb v xs) : ∃ A c, v = .slice A xs.length c := by
  rcases h.1.2 with ⟨rfl, h0⟩ | ⟨g, cap, cur, rfl, _⟩
  · exact ⟨none, 0, by rw [h0]⟩
  · exact ⟨_, _, rfl⟩
theorem GrowB.below (h : GrowB w base bb v xs) (k : Below w.heap.size w w') (hb : bb ≤ w.heap.size) : GrowB w' base bb v xs := by
  obtain ⟨a, b⟩ := h
  refine ⟨⟨a.1, ?_⟩, fun x hx => ⟨(b x hx).1, (b x hx).2.below k hb⟩⟩
  rcases a.2 with a2 | ⟨g, cap, cur, rfl, hb, hh, r⟩
  · exact .inl a2
  · exact .inr ⟨g, cap, cur, rfl, hb, (k.block g (Array.getElem?_eq_some_iff.1 hh).1).trans hh, r⟩
theorem GrowB.snoc {r : RuleD} {u : Value} (h : GrowB w base bb v xs) (ho : w'.ownsRow base 49 2 v' (xs.length + 1) (flatY xs ++ [.string r.head, u])) (hg : w.grownBy w' v.ownBlock) (hbb : bb ≤ base) (hw : bb ≤ w.heap.size) (hh : r.head.size ≤ maxLen) (hu : Strs w 0 bb u r.body) : GrowB w' base bb v' (xs ++ [(r, u)]) := by
  obtain ⟨a, b⟩ := h
  have keep : Keeps 0 bb w w' := fun k _ hk => hg.block k (by omega) fun e => by
    rcases a.2 with ⟨rfl, _⟩ | ⟨g', cap, c', rfl, hb', _⟩
    · simp [Value.ownBlock] at e
    · have : k = g' := by simpa [Value.ownBlock] using e
      omega
  refine ⟨by rw [flatY_snoc, List.length_append]; exact ho, fun x hx => ?_⟩
  rcases List.mem_append.1 hx with hx | hx
  · exact ⟨(b x hx).1, (b x hx).2.keep keep⟩
  · rw [List.mem_singleton] at hx
    subst hx
    exact ⟨hh, hu.keep keep⟩
theorem GrowB.away (h : GrowB w base bb v xs) {p : Addr} (h1 : bb ≤ p.block) (h2 : p.block < base) (u : Value) : GrowB (w.setCell p u) base bb v xs := by
  obtain ⟨a, b⟩ := h
  refine ⟨⟨a.1, ?_⟩, fun x hx => ⟨(b x hx).1, (b x hx).2.keep fun k _ hk => Below.heap_setCell _ _ _ _ (by omega)⟩⟩
  rcases a.2 with a2 | ⟨g, cap, cur, rfl, hb, hh, r⟩
  · exact .inl a2
  · exact .inr ⟨g, cap, cur, rfl, hb, (Below.heap_setCell _ _ _ _ (by omega)).trans hh, r⟩
theorem GrowB.lt (h : GrowB w base bb v xs) {g : Nat} (hg : v.ownBlock = some g) : g < w.heap.size := by
  rcases h.1.2 with ⟨rfl, _⟩ | ⟨g', cap, cur, rfl, _, hh, _⟩
  · simp [Value.ownBlock] at hg
  · have : g' = g := by simpa [Value.ownBlock] using hg
    subst this
    exact (Array.getElem?_eq_some_iff.1 hh).1
theorem GrowB.rules (h : GrowB w base bb v xs) {hi : Nat} (hb : bb ≤ hi) (hv : ∀ g, v.ownBlock = some g → g < hi) : Rules w 0 hi v (xs.map (·.1)) := by
  obtain ⟨a, b⟩ := h
  rcases a.2 with ⟨rfl, h0⟩ | ⟨g, cap, cur, rfl, hbg, hh, hc, hm, hs, ht⟩
  · obtain rfl : xs = [] := List.eq_nil_of_length_eq_zero h0
    exact ⟨none, 0, rfl, Nat.le_refl _, by unfold maxLen; omega, fun h => by simp at h⟩
  · have hr : Row w g 49 cur := hh
    refine ⟨_, cap, by rw [List.length_map], by rw [List.length_map]; exact hc, hm, fun hp => ⟨g, 0, rfl, Nat.zero_le _, hv g rfl, fun i hi => ?_⟩⟩
    rw [List.length_map] at hi
    obtain ⟨b1, b2⟩ := b xs[i] (List.getElem_mem hi)
    obtain ⟨f1, f2⟩ := flatY_at xs i hi
    have cell : ∀ j, j < xs.length * 2 → w.cell? ⟨g, 0 + j, none⟩ = (flatY xs)[j]? := fun j hj => by
      rw [Nat.zero_add, hr.cell, ← ht, List.getElem?_take_of_lt hj, Array.getElem?_toList]
    simp only [List.getElem_map]
    refine ⟨b1, (cell (i * 2) (by omega)).trans f1, xs[i].2, ?_, b2.more (Nat.le_refl _) hb⟩
    rw [Nat.add_assoc]; exact (cell (i * 2 + 1) (by omega)).trans f2
end
theorem bytesLook : ∃ i, Try.prog.info? 123 = some i ∧ i.bytes = 32 := by
  have h : (Try.prog.info? 123).map (·.bytes) = some 32 := by kernel_rfl
  obtain ⟨i, hi, hb⟩ := Option.map_eq_some_iff.1 h
  exact ⟨i, hi, hb⟩
theorem mkQueue (n : Nat) (hn : n ≤ 100000) (w : World) : (Instr.makeChan 115 (.int .i64 (n : Int))).run Try.prog w = .ok (.chan (some w.heap.size)) (w.alloc (.chan n #[] false 0 0 false)) := by
  obtain ⟨i, hi, hb⟩ := bytesLook
  exact run_makeChan (P := Try.prog) (w := w) Try.underlying115 hi .i64 n (by omega) (by rw [hb]; omega)
theorem two_one4 (s : ByteArray) (A : Option Addr) (n c : Nat) : ∀ u ∈ [Value.string s, .slice A n c], u.oneCell' = true := by
  intro u hu
  simp only [List.mem_cons, List.not_mem_nil, or_false] at hu
  rcases hu with rfl | rfl <;> rfl
theorem two_row {w : World} {g : Nat} {ty : TypeId} {a b : Value} (r : Row w g ty #[a, b]) : ∀ j u, [a, b][j]? = some u → w.cell? ((⟨g, 0, none⟩ : Addr).add j) = some u :=
  World.news_of_block (cs := #[a, b]) (t := ty) (fr := (0, 0)) r
end Go.Proofs.Ytonfiahihmcmlaa

/- The walk of newSearch, whole. -/
namespace Go.Proofs.Ytonfiahihmcmlaa
open Go.RowKit Go.Maps Go.Conc

theorem mostLooks_int (rs : List RuleD) (v : Value) (p : Nat) (z : Int) (hz : z = (p : Int)) (lo hi : Nat) (w : World) (h : Rules w lo hi v rs) (hh : hi ≤ w.heap.size) (hp : p ≤ 13) (h20 : rs.length ≤ 20) (hb5 : ∀ i (h : i < rs.length), rs[i].body.length ≤ 5) :
    Calls Try.prog 133 #[v, .int .i64 z] w fun e w' => e = .returned (.int .i64 ((mostTo rs p rs.length : Nat) : Int)) ∧ Below w.heap.size w w' := by
  subst hz
  exact mostLooks_any rs v p lo hi w h hh hp h20 hb5
/-- a search that has just been made -/
def NewS (w : World) (rs : List RuleD) (t : List ByteArray) (e : Ending) (w' : World) : Prop := ∃ E : Env, e = .returned (E.v (frs rs).length t.length) ∧ Sea w' E (frs rs) t [] St.none ∧ w.heap.size ≤ E.base ∧ Below w.heap.size w w'
/-- the maps and the queue are new -/
theorem Sea.made {w w7 w9 : World} {rs : List RuleD} {t : List ByteArray} (F : Fits rs t) {A : Option Addr} {c : Nat} {B : Option Addr} {d : Nat} (hr : Rules w9 0 w.heap.size (.slice A rs.length c) rs) (ht : Strs w9 0 w.heap.size (.slice B t.length d) t)
    (h7 : Below (((w.alloc (.map #[] 0)).alloc (.map #[] 0)).alloc (.map #[] 0)).heap.size (((w.alloc (.map #[] 0)).alloc (.map #[] 0)).alloc (.map #[] 0)) w7) (h9 : ∀ k, w.heap.size ≤ k → w9.heap[k]? = (w7.alloc (.chan (mostTo rs (t.length + 1) rs.length) #[] false 0 0 false)).heap[k]?) :
    Sea w9 ⟨A, c, B, d, w.heap.size, w.heap.size, w.heap.size, w.heap.size + 1, w.heap.size + 2, w7.heap.size, mostTo rs (t.length + 1) rs.length⟩ rs t [] St.none := by
  have z7 : w.heap.size + 3 ≤ w7.heap.size := by have := h7.size; simpa using this
  have hs3 : (((w.alloc (.map #[] 0)).alloc (.map #[] 0)).alloc (.map #[] 0)).heap.size = w.heap.size + 3 := by simp
  have get : ∀ k, w.heap.size ≤ k → k < w.heap.size + 3 → w9.heap[k]? = (((w.alloc (.map #[] 0)).alloc (.map #[] 0)).alloc (.map #[] 0)).heap[k]? := fun k h1 h2 => by
    rw [h9 k h1, Below.heap_alloc _ _ _ (by omega), h7.block k (by rw [hs3]; omega)]
  have m1 : MapAt (((w.alloc (.map #[] 0)).alloc (.map #[] 0)).alloc (.map #[] 0)) 123 boolE w.heap.size 0 (fun _ => none) := ((MapAt.made w _ _).keep (Below.heap_alloc _ _ _ (by simp))).keep (Below.heap_alloc _ _ _ (by simp; omega))
  have m2 : MapAt (((w.alloc (.map #[] 0)).alloc (.map #[] 0)).alloc (.map #[] 0)) 121 boolE (w.heap.size + 1) 0 (fun _ => none) := by
    have := (MapAt.made (w.alloc (.map #[] 0)) 121 boolE).keep (Below.heap_alloc _ (.map #[] 0) _ (by simp))
    simpa using this
  have m3 : MapAt (((w.alloc (.map #[] 0)).alloc (.map #[] 0)).alloc (.map #[] 0)) 128 rawE (w.heap.size + 2) 0 (fun _ => none) := by
    have := MapAt.made ((w.alloc (.map #[] 0)).alloc (.map #[] 0)) 128 rawE
    simpa using this
  refine ⟨F, Inv.none, hr, ht, Nat.le_refl _, ?_, ?_, ?_, ⟨0, 0, ?_⟩, rfl, by simp, by simp [St.none], List.Pairwise.nil, List.Pairwise.nil, ⟨Nat.le_refl _, by simp, by simp, by show w.heap.size ≤ w7.heap.size; omega⟩, ⟨by simp, by simp, by simp⟩⟩
  · exact (m1.keep (get _ (Nat.le_refl _) (by omega))).like fun l => memF_nil l
  · exact (m2.keep (get _ (by omega) (by omega))).like fun l => memF_nil l
  · exact m3.keep (get _ (by omega) (by omega))
  · show w9.heap[w7.heap.size]? = _
    rw [h9 w7.heap.size (by omega)]
    exact heap_alloc_new _ _

set_option maxRecDepth 100000 in
set_option maxHeartbeats 8000000 in
theorem newSearch_any (rs : List RuleD) (t : List ByteArray) (v tv : Value) (lo hi lo2 hi2 : Nat) (w : World) (h : Rules w lo hi v rs) (hh : hi ≤ w.heap.size) (h2 : Strs w lo2 hi2 tv t) (hh2 : hi2 ≤ w.heap.size) (hg : gramB rs = true) (ht : textB t = true) :
    Calls Try.prog 91 #[.agg #[v], tv] w (NewS w rs t) := by
  obtain ⟨j0, hj0, hy0, hy1, hy2⟩ := info_parts Try.infoRule
  have hmm := @run_makeMap Try.prog
  have F := frs_fits hg ht
  have h12 := F.short
  have hflen := frs_len rs
  have hf20 := F.few
  have R := Rt.of hg
  have hr20 := R.few
  have HF := Lib.hid F
  have HV := Lib.hid (h.more (Nat.zero_le lo) (Nat.le_refl hi))
  have HW := Lib.hid (h2.more (Nat.zero_le lo2) (Nat.le_refl hi2))
  have HG := Lib.hid hg
  obtain ⟨A, c, rfl, hlc, hc, -⟩ := h
  obtain ⟨B, d, rfl, hld, hd, -, -⟩ := h2
  unfold maxLen at hc hd
  have hb := al2 w (.cells #[.slice A rs.length c] 25) (.cells #[.slice none 0 0, .slice none 0 0, .map none, .map none, .map none, .chan none] 117)
  have R0 := (Row.made w 25 #[.slice A rs.length c]).alloc (.cells #[.slice none 0 0, .slice none 0 0, .map none, .map none, .map none, .chan none] 117)
  have R1 := Row.made1 w (.cells #[.slice A rs.length c] 25) 117 #[.slice none 0 0, .slice none 0 0, .map none, .map none, .map none, .chan none]
  have hsz : ((w.alloc (.cells #[.slice A rs.length c] 25)).alloc (.cells #[.slice none 0 0, .slice none 0 0, .map none, .map none, .map none, .chan none] 117)).heap.size = w.heap.size + 2 := by simp
  have HSZ := Lib.hid hsz
  clear F hg ht R hsz
  unfold NewS
  go_enter Try.func91, Try.ntmps91
  go_wp2_with fail
  refine (setsOf_any rs _ 0 hi _ (HV.out.below hb hh) (by rw [HSZ.out]; omega)).mono ?_
  rintro _ w1 ⟨x, rfl, SG, b1⟩
  have hb1 := hb.trans (b1.mono (by rw [HSZ.out]; omega))
  have z1 := b1.size
  rw [HSZ.out] at z1
  have R01 := R0.below b1 R0.lt
  have R11 := R1.below b1 R1.lt
  clear b1 hb R0 R1
  go_wp2_with fail
  refine (fruitful_any (headsOf rs) (rlOf rs) _ _ _ SG (Nat.le_refl _) (rlOf_few rs) (rlOf_head rs)).mono ?_
  rintro _ w2 ⟨x2, m1, rfl, SX, hfix, b2⟩
  have hb2 := hb1.trans (b2.mono hb1.size)
  have z2 := b2.size
  have R02 := R01.below b2 R01.lt
  have R12 := R11.below b2 R11.lt
  have SG2 := SX.i.g (Nat.le_refl _) (by omega)
  rw [fruit_at HG.out hfix] at SG2
  obtain ⟨A2, c2, B2, d2, rfl, -, hR⟩ := SG2.form
  obtain ⟨B', d', e', hlc2, hc2, hcell⟩ := hR
  injection e' with e1 _ e2
  subst e1 e2
  unfold maxLen at hc2
  have hlen := rnl_len rs (goodIx rs)
  have hgl : (goodIx rs).length = (frs rs).length := by unfold frs; rw [List.length_map]
  have HC := Lib.hid hcell
  have HB2 := Lib.hid hb2
  have HR02 := Lib.hid R02
  have HR12 := Lib.hid R12
  have HGL := Lib.hid hgl
  clear hcell SG SG2 SX b2 hb1 hfix R01 R11 hb2 R02 R12
  have hfd := field_rules A2 B2 (headsOf rs).length c2 (goodIx rs).length d2
  rw [hlen] at hlc2 ⊢
  have HL := Lib.hid hlen
  have hg20 : (goodIx rs).length ≤ 20 := by omega
  clear hlen hgl
  go_wp2
  go_loopw [5, 7, 13] (fun x _ i wr => ∃ (j : Nat) (xs : List (RuleD × Value)), j ≤ (goodIx rs).length ∧ i = .int .i64 (j : Int) ∧ GrowB wr w2.heap.size hi x xs ∧ xs.map (·.1) = ((goodIx rs).take j).map (ruleAt rs) ∧ Below w2.heap.size w2 wr) (fun _ _ i _ => (goodIx rs).length - (intOf i).toNat)
  case atStart => exact ⟨0, [], by omega, rfl, GrowB.nil _ _ _, rfl, Below.refl _ _⟩
  case round =>
    obtain ⟨j, xs, hj, rfl, hgr, hxs, hbw⟩ := hrel
    rename World => wr
    have hsw := hbw.size
    have HGR := Lib.hid hgr
    obtain ⟨Ax, cx, rfl⟩ := hgr.form
    have hxl : xs.length = j := by have := congrArg List.length hxs; rw [List.length_map, List.length_map, List.length_take] at this; omega
    have HXS := Lib.hid hxs
    have HXL := Lib.hid hxl
    have hx20 : xs.length ≤ 20 := by omega
    have r0 := HR02.out.below hbw (by have := HR02.out.lt; omega)
    have q0 := r0.cell 0
    simp at q0
    have l0 := r0.lt
    clear hgr hxs
    by_cases hlt : j < (goodIx rs).length
    · obtain ⟨b, off, rfl, hbh, hcc⟩ := HC.out (by rw [HL.out]; omega)
      obtain ⟨hn, hhh, d0, d1, u, d2', hB⟩ := hcc j (by rw [HL.out]; exact hlt)
      have d0' := (hbw.cell (p := ⟨b, off + j * 3, none⟩) (by show b < _; omega)).trans d0
      have d1' := (hbw.cell (p := ⟨b, off + j * 3 + 1, none⟩) (by show b < _; omega)).trans d1
      have d2'' := (hbw.cell (p := ⟨b, off + j * 3 + 2, none⟩) (by show b < _; omega)).trans d2'
      obtain ⟨A', c', rfl, -⟩ := hB
      have hnum : (rnl rs (goodIx rs))[j]'(by rw [HL.out]; exact hlt) = rn rs (goodIx rs)[j] := by simp [rnl]
      rw [hnum] at d0' d1' d2'' hn
      have hnum2 : (rn rs (goodIx rs)[j]).num = (goodIx rs)[j] := rfl
      rw [hnum2] at d0' hn
      have hil := goodIx_lt _ (List.getElem_mem hlt)
      have HNX : Hid (((goodIx rs).take (j + 1)).map (ruleAt rs) = ((goodIx rs).take j).map (ruleAt rs) ++ [rs[(goodIx rs)[j]]]) := Lib.hid (by rw [List.take_succ_eq_append_getElem hlt, List.map_append, ← ruleAt_eq hil]; rfl)
      have hbA := HB2.out.trans (hbw.mono HB2.out.size)
      obtain ⟨br, offr, rfl, hbrh, _, _, hhs, k0, Br, dr, k1, hst⟩ := (HV.out.below hbA (by omega)).at hil
      have hbrw : br < wr.heap.size := by omega
      have hbwr : b < wr.heap.size := by omega
      have HST := Lib.hid hst
      have HO : Hid (wr.ownsRow w2.heap.size 49 2 (.slice Ax xs.length cx) xs.length (flatY xs)) := Lib.hid HGR.out.1
      generalize (rn rs (goodIx rs)[j]).body.length = bl at d2''
      generalize (rn rs (goodIx rs)[j]).head = rh at d1'
      clear hcc d0 d1 d2' hnum hnum2 hhh hst hbA hxl
      have R3 := Row.made1 wr (.cells #[.int .i64 ((goodIx rs)[j] : Int), .int .u32 (rh : Int), .slice A' bl c'] 194) 49 #[.string rs[(goodIx rs)[j]].head, .slice Br rs[(goodIx rs)[j]].body.length dr]
      have HR3 := Lib.hid R3
      clear R3
      go_wp2_with (at_builtin; refine wpList_append_own _ rfl _ _ 23 rfl w2.heap.size 49 j0 _ 2 40 Try.underlying23 hj0 hy0 hy1 hy2 rfl (by decide) _ _ _ rfl (World.ownsRow.alloc (World.ownsRow.alloc HO.out _) _) ⟨wr.heap.size + 1, 0, none⟩ 1 1 [.string rs[(goodIx rs)[j]].head, .slice Br rs[(goodIx rs)[j]].body.length dr] rfl rfl (two_row HR3.out) (two_one4 _ _ _ _) (by unfold maxLen; omega) (by omega) (by simp; omega) ?_)
      intro v1 w3 hown1 hg1 _
      have A3 := al2 wr (.cells #[.int .i64 ((goodIx rs)[j] : Int), .int .u32 (rh : Int), .slice A' bl c'] 194) (.cells #[.string rs[(goodIx rs)[j]].head, .slice Br rs[(goodIx rs)[j]].body.length dr] 49)
      have G3 := (HGR.out.below A3 (by omega)).snoc (r := rs[(goodIx rs)[j]]) hown1 hg1 (by omega) (by simp; omega) hhs (HST.out.below A3 (by omega))
      have B3 : Below w2.heap.size w2 w3 := Tx.below_grown (hbw.trans ((al2 wr _ _).mono hbw.size)) (World.ownsRow.alloc (World.ownsRow.alloc HO.out _) _) hg1 (by simp; omega) (by omega)
      have HG3 := Lib.hid G3
      have HB3 := Lib.hid B3
      clear hown1 hg1 A3 G3 B3 hbw
      go_wp2
      go_roundw
      case rel => exact ⟨j + 1, _, by omega, by go_num, HG3.out, by rw [List.map_append, HXS.out, HNX.out]; rfl, HB3.out⟩
      case measure => simp [intOf]; omega
    · have hje : j = (goodIx rs).length := by omega
      have hfr : xs.map (·.1) = frs rs := by rw [HXS.out, hje, List.take_length]; rfl
      have hlx : xs.length = (frs rs).length := by rw [← hfr, List.length_map]
      have hrl := HGR.out.rules (hi := wr.heap.size) (by omega) (fun g hg => HGR.out.lt hg)
      rw [hfr] at hrl
      rw [hlx]
      rw [hlx] at hrl
      have HRL := Lib.hid hrl
      have HFR := Lib.hid hfr
      have HLX := Lib.hid hlx
      have hbA := HB2.out.trans (hbw.mono HB2.out.size)
      have hW := (HW.out.below hbA (by omega)).more (Nat.le_refl _) (hi' := wr.heap.size) (by omega)
      have HWR := Lib.hid hW
      have r1 := HR12.out.below hbw (by have := HR12.out.lt; omega)
      have HR1 := Lib.hid r1
      have HBA := Lib.hid hbA
      have hmq := mostTo_le HF.out (frs rs).length (Nat.le_refl _)
      have hm3 := al3 wr (.map #[] 0) (.map #[] 0) (.map #[] 0)
      have HM3 := Lib.hid hm3
      have hs3 : (((wr.alloc (.map #[] 0)).alloc (.map #[] 0)).alloc (.map #[] 0)).heap.size = wr.heap.size + 3 := by simp
      have HS3 := Lib.hid hs3
      clear hfr hrl hlx hbA hW r1 hm3 hs3 hje hxl
      go_wp2_with fail
      refine (mostLooks_int (frs rs) _ (t.length + 1) _ (by omega) 0 wr.heap.size _ (HRL.out.below HM3.out (Nat.le_refl _)) (by rw [HS3.out]; omega) (by omega) hf20 HF.out.len).mono ?_
      rintro _ w7 ⟨rfl, b7⟩
      have hmk := mkQueue (mostTo (frs rs) (t.length + 1) (frs rs).length) (by omega) w7
      have B7 := HM3.out.trans (b7.mono (by rw [HS3.out]; omega))
      have r7 := (HR1.out.below B7 HR1.out.lt).alloc (.chan (mostTo (frs rs) (t.length + 1) (frs rs).length) #[] false 0 0 false)
      have l7 := r7.lt
      have f0 := r7.free 0
      have f1 := r7.free 1
      have f2 := r7.free 2
      have f3 := r7.free 3
      have f4 := r7.free 4
      have f5 := r7.free 5
      obtain ⟨p0, p1, p2, p3, p4, p5⟩ := r7.six
      have HB7 := Lib.hid b7
      have HBB7 := Lib.hid B7
      have HR7 := Lib.hid r7
      have z7 := b7.size
      rw [HS3.out] at z7
      clear b7 B7 r7
      go_wp2
      have hdst : ∀ k, w.heap.size + 2 ≤ k → (((((((w7.alloc (.chan (mostTo (frs rs) (t.length + 1) (frs rs).length) #[] false 0 0 false)).setCell ⟨w.heap.size + 1, 0, none⟩ (.slice Ax (frs rs).length cx)).setCell ⟨w.heap.size + 1, 1, none⟩ (.slice B t.length d)).setCell ⟨w.heap.size + 1, 2, none⟩ (.map (some wr.heap.size))).setCell ⟨w.heap.size + 1, 3, none⟩ (.map (some (wr.heap.size + 1)))).setCell ⟨w.heap.size + 1, 4, none⟩ (.map (some (wr.heap.size + 1 + 1)))).setCell ⟨w.heap.size + 1, 5, none⟩ (.chan (some w7.heap.size))).heap[k]? = (w7.alloc (.chan (mostTo (frs rs) (t.length + 1) (frs rs).length) #[] false 0 0 false)).heap[k]? := fun k hk => by
        rw [Below.heap_setCell _ _ _ _ (by show k ≠ w.heap.size + 1; omega), Below.heap_setCell _ _ _ _ (by show k ≠ w.heap.size + 1; omega), Below.heap_setCell _ _ _ _ (by show k ≠ w.heap.size + 1; omega), Below.heap_setCell _ _ _ _ (by show k ≠ w.heap.size + 1; omega), Below.heap_setCell _ _ _ _ (by show k ≠ w.heap.size + 1; omega), Below.heap_setCell _ _ _ _ (by show k ≠ w.heap.size + 1; omega)]
      have B8 := HBB7.out.trans ((al1 w7 (.chan (mostTo (frs rs) (t.length + 1) (frs rs).length) #[] false 0 0 false)).mono (by omega))
      have G8 := ((((((HGR.out.below B8 (by omega)).away (p := ⟨w.heap.size + 1, 0, none⟩) (by show hi ≤ w.heap.size + 1; omega) (by show w.heap.size + 1 < w2.heap.size; omega) (.slice Ax (frs rs).length cx)).away (p := ⟨w.heap.size + 1, 1, none⟩) (by show hi ≤ w.heap.size + 1; omega) (by show w.heap.size + 1 < w2.heap.size; omega) (.slice B t.length d)).away (p := ⟨w.heap.size + 1, 2, none⟩) (by show hi ≤ w.heap.size + 1; omega) (by show w.heap.size + 1 < w2.heap.size; omega) (.map (some wr.heap.size))).away (p := ⟨w.heap.size + 1, 3, none⟩) (by show hi ≤ w.heap.size + 1; omega) (by show w.heap.size + 1 < w2.heap.size; omega) (.map (some (wr.heap.size + 1)))).away (p := ⟨w.heap.size + 1, 4, none⟩) (by show hi ≤ w.heap.size + 1; omega) (by show w.heap.size + 1 < w2.heap.size; omega) (.map (some (wr.heap.size + 1 + 1)))).away (p := ⟨w.heap.size + 1, 5, none⟩) (by show hi ≤ w.heap.size + 1; omega) (by show w.heap.size + 1 < w2.heap.size; omega) (.chan (some w7.heap.size))
      have hrl8 := G8.rules (hi := wr.heap.size) (by omega) (fun g hg => HGR.out.lt hg)
      rw [HFR.out, HLX.out] at hrl8
      have BF := ((((((HBA.out.trans (B8.mono (by omega))).setCell (p := ⟨w.heap.size + 1, 0, none⟩) (by show w.heap.size ≤ w.heap.size + 1; omega) (.slice Ax (frs rs).length cx)).setCell (p := ⟨w.heap.size + 1, 1, none⟩) (by show w.heap.size ≤ w.heap.size + 1; omega) (.slice B t.length d)).setCell (p := ⟨w.heap.size + 1, 2, none⟩) (by show w.heap.size ≤ w.heap.size + 1; omega) (.map (some wr.heap.size))).setCell (p := ⟨w.heap.size + 1, 3, none⟩) (by show w.heap.size ≤ w.heap.size + 1; omega) (.map (some (wr.heap.size + 1)))).setCell (p := ⟨w.heap.size + 1, 4, none⟩) (by show w.heap.size ≤ w.heap.size + 1; omega) (.map (some (wr.heap.size + 1 + 1)))).setCell (p := ⟨w.heap.size + 1, 5, none⟩) (by show w.heap.size ≤ w.heap.size + 1; omega) (.chan (some w7.heap.size))
      have hW8 := (HW.out.below BF hh2).more (Nat.le_refl _) (hi' := wr.heap.size) (by omega)
      have HFIN := Lib.hid (And.intro (Sea.made HF.out hrl8 hW8 HB7.out (fun k hk => hdst k (by omega))) BF)
      exact bodyPost_ret (v := .agg #[.slice Ax (frs rs).length cx, .slice B t.length d, .map (some wr.heap.size), .map (some (wr.heap.size + 1)), .map (some (wr.heap.size + 1 + 1)), .chan (some w7.heap.size)]) (by simp [results, Try.results91, go_sem, p0, p1, p2, p3, p4, p5]) rfl ⟨_, rfl, HFIN.out.1, by show w.heap.size ≤ wr.heap.size; omega, HFIN.out.2⟩
end Go.Proofs.Ytonfiahihmcmlaa
