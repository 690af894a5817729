import Derived.Test.YtonfiahihmcmlaaJEq
import Derived.Deep.AppendLies
import Derived.Test.YtonfiahihmcmlaaJWask
/- Lists of whole numbers: what they read as, the call's own ones, and what a law asks of them: eqInt64S, markInt64S, heldInt64S. -/
namespace Go.Proofs.Ytonfiahihmcmlaa
open Go.RowKit

/-- a list of whole numbers, in blocks from lo on ahead of hi -/
def IntsAt (w : World) (lo hi : Nat) (v : Value) (l : List Int) : Prop :=
  ∃ A c, v = .slice A l.length c ∧ l.length ≤ c ∧ c ≤ maxLen ∧
    (0 < l.length → ∃ b off, A = some ⟨b, off, none⟩ ∧ lo ≤ b ∧ b < hi ∧ ∀ i (h : i < l.length), w.cell? ⟨b, off + i, none⟩ = some (.int .i64 l[i]))
theorem IntsAt.keep {w w' : World} {lo hi : Nat} {v : Value} {l : List Int} (h : IntsAt w lo hi v l) (k : Keeps lo hi w w') : IntsAt w' lo hi v l := by
  obtain ⟨A, c, h1, h2, h3, h5⟩ := h
  refine ⟨A, c, h1, h2, h3, fun hp => ?_⟩
  obtain ⟨b, off, e, hl, hh, hc⟩ := h5 hp
  exact ⟨b, off, e, hl, hh, fun i hi => (k.cell (p := ⟨b, off + i, none⟩) hl hh).trans (hc i hi)⟩
theorem IntsAt.below {w w' : World} {lo hi : Nat} {v : Value} {l : List Int} (h : IntsAt w lo hi v l) {B : Nat} (b : Below B w w') (hB : hi ≤ B) : IntsAt w' lo hi v l := h.keep (Keeps.below b hB)
theorem IntsAt.more {w : World} {lo hi lo' hi' : Nat} {v : Value} {l : List Int} (h : IntsAt w lo hi v l) (h1 : lo' ≤ lo) (h2 : hi ≤ hi') : IntsAt w lo' hi' v l := by
  obtain ⟨A, c, a1, a2, a3, a5⟩ := h
  refine ⟨A, c, a1, a2, a3, fun hp => ?_⟩
  obtain ⟨b, off, e, hl, hh, hc⟩ := a5 hp
  exact ⟨b, off, e, by omega, by omega, hc⟩
/-- the whole numbers of a list stand in a block of its own -/
def OwnI (w : World) (g : Nat) (v : Value) (l : List Int) : Prop :=
  ∃ A c, v = .slice A l.length c ∧ l.length ≤ c ∧ c ≤ maxLen ∧
    (0 < l.length → ∃ off cur, A = some ⟨g, off, none⟩ ∧ Row w g 2 cur ∧ ∀ i (h : i < l.length), cur[off + i]? = some (.int .i64 l[i]))
theorem OwnI.keep {w w' : World} {g : Nat} {v : Value} {l : List Int} (h : OwnI w g v l) (e : l ≠ [] → w'.heap[g]? = w.heap[g]?) : OwnI w' g v l := by
  obtain ⟨A, c, h1, h2, h3, h5⟩ := h
  refine ⟨A, c, h1, h2, h3, fun hp => ?_⟩
  obtain ⟨off, cur, ha, hr, hc⟩ := h5 hp
  exact ⟨off, cur, ha, hr.same (e (by intro h0; subst h0; simp at hp)), hc⟩
theorem OwnI.strs {w : World} {g lo hi : Nat} {v : Value} {l : List Int} (h : OwnI w g v l) (hg : l ≠ [] → lo ≤ g ∧ g < hi) : IntsAt w lo hi v l := by
  obtain ⟨A, c, h1, h2, h3, h5⟩ := h
  refine ⟨A, c, h1, h2, h3, fun hp => ?_⟩
  obtain ⟨off, cur, ha, hr, hc⟩ := h5 hp
  obtain ⟨g1, g2⟩ := hg (by intro h0; subst h0; simp at hp)
  exact ⟨g, off, ha, g1, g2, fun i hi => by rw [hr.cell]; exact hc i hi⟩
theorem OwnI.nil (w : World) (g : Nat) : OwnI w g (.slice none 0 0) [] := ⟨none, 0, rfl, Nat.le_refl _, by unfold maxLen; omega, fun h => by simp at h⟩
theorem OwnI.pick {w : World} {g : Nat} {v : Value} {l : List Int} (h : OwnI w g v l) : ∃ g', OwnI w g' v l ∧ (l ≠ [] → g' = g) ∧ (l = [] → w.heap.size ≤ g') := by
  by_cases e : l = []
  · subst e
    obtain ⟨A, c, h1, h2, h3, h5⟩ := h
    exact ⟨w.heap.size, ⟨A, c, h1, h2, h3, fun hp => by simp at hp⟩, fun hn => absurd rfl hn, fun _ => Nat.le_refl _⟩
  · exact ⟨g, h, fun _ => rfl, fun h0 => absurd h0 e⟩
/-- a call hands back such a list, in memory of its own -/
def MadeI (w : World) (l : List Int) (e : Ending) (w' : World) : Prop := ∃ u g, e = .returned u ∧ OwnI w' g u l ∧ (l ≠ [] → w.heap.size ≤ g ∧ g < w'.heap.size) ∧ Below w.heap.size w w'
/-- whole numbers in a row of the call's own -/
def Its (w : World) (base : Nat) (v : Value) (l : List Int) : Prop := w.ownsRow base 2 1 v l.length (l.map (Value.int .i64))
theorem Its.nil (w : World) (base : Nat) : Its w base (.slice none 0 0) [] := World.ownsRow_nil _ _ _ _
theorem Its.lit0 (w : World) {base : Nat} (hb : base ≤ w.heap.size) : Its (w.alloc (.cells #[] 2)) base (.slice (some ⟨w.heap.size, 0, none⟩) 0 0) [] := World.ownsRow_lit w #[] 0 hb (by unfold maxLen; omega) rfl
theorem Its.one {w : World} {base : Nat} {v : Value} {l : List Int} (x : Int) (h : w.ownsRow base 2 1 v (l.length + 1) (l.map (Value.int .i64) ++ [.int .i64 x])) : Its w base v (l ++ [x]) := by
  unfold Its
  rw [List.length_append, List.map_append]
  exact h
theorem Its.form {w : World} {base : Nat} {v : Value} {l : List Int} (h : Its w base v l) : ∃ B d, v = .slice B l.length d := by
  rcases h.2 with ⟨rfl, h0⟩ | ⟨g, cap, cur, rfl, _⟩
  · exact ⟨none, 0, by rw [h0]⟩
  · exact ⟨_, _, rfl⟩
theorem Its.below {w w' : World} {base : Nat} {v : Value} {l : List Int} (h : Its w base v l) (k : Below w.heap.size w w') : Its w' base v l := by
  refine ⟨h.1, ?_⟩
  rcases h.2 with a | ⟨g, cap, cur, rfl, hb, hh, r⟩
  · exact .inl a
  · have hr : Row w g 2 cur := hh
    exact .inr ⟨g, cap, cur, rfl, hb, (k.block g hr.lt).trans hh, r⟩
theorem Its.own {w : World} {base : Nat} {v : Value} {l : List Int} (h : Its w base v l) : ∃ g, OwnI w g v l ∧ (l ≠ [] → base ≤ g ∧ g < w.heap.size) := by
  rcases h.2 with ⟨rfl, h0⟩ | ⟨g, cap, cur, rfl, hb, hh, hc, hm, hs, ht⟩
  · obtain rfl : l = [] := List.eq_nil_of_length_eq_zero h0
    exact ⟨0, OwnI.nil w 0, fun hn => absurd rfl hn⟩
  · have hr : Row w g 2 cur := hh
    refine ⟨g, ⟨_, cap, rfl, hc, hm, fun _ => ⟨0, cur, rfl, hr, fun i hi => ?_⟩⟩, fun _ => ⟨hb, hr.lt⟩⟩
    have h1 : (cur.toList.take (l.length * 1))[i]? = some (.int .i64 l[i]) := by rw [ht, List.getElem?_map, List.getElem?_eq_getElem hi]; rfl
    rw [List.getElem?_take_of_lt (by omega)] at h1
    rw [Nat.zero_add, ← Array.getElem?_toList]
    exact h1
theorem Its.ints {w : World} {base : Nat} {v : Value} {l : List Int} (h : Its w base v l) : IntsAt w base w.heap.size v l := by
  obtain ⟨g, ho, hg⟩ := h.own
  exact ho.strs hg
theorem one_i64 (x : Int) : ∀ u ∈ [Value.int .i64 x], u.oneCell' = true := by
  intro u hu
  rw [List.mem_singleton] at hu; subst hu; rfl
theorem Try.infoI64 : (Try.prog.info? 2).map (fun i => (i.zero, i.size, i.bytes)) = some (some (.int .i64 0), 1, 8) := by kernel_rfl

def eqIs (a b : List Int) : Bool := decide (a = b)
theorem eqIs_t {a b : List Int} (h : a = b) : eqIs a b = true := decide_eq_true h
theorem eqIs_f {a b : List Int} (h : a ≠ b) : eqIs a b = false := decide_eq_false h

/-- n numbers from k on -/
def marksI (k n : Nat) : List Int := (List.range n).map fun i => ((k + i : Nat) : Int)
theorem marksI_len (k n : Nat) : (marksI k n).length = n := by simp [marksI]
theorem marksI_at {k n i : Nat} (h : i < (marksI k n).length) : (marksI k n)[i] = ((k + i : Nat) : Int) := by simp [marksI]

theorem midI_pick {w w' : World} {lo hi g : Nat} {ss : List Int} (h1 : ss ≠ [] → lo ≤ g ∧ g < hi) (h2 : ss = [] → w.heap.size ≤ g) (m : Mid g (g + 1) w w') : Mid lo hi w w' :=
  ⟨m.os, m.tape, m.output, m.size, fun k hk hkk => m.block k hk (by
    by_cases e : ss = []
    · have := h2 e; omega
    · have := h1 e; omega)⟩
end Go.Proofs.Ytonfiahihmcmlaa

/- The program's Useful. -/
namespace Go.Proofs.Ytonfiahihmcmlaa
open Go.RowKit

/-- all of a rule's body may come to tokens alone -/
def Good (rs : List RuleD) (i : Nat) : Prop := ∀ s ∈ (ruleAt rs i).body, tokB s = true ∨ Com true rs s
open Classical in
noncomputable def goodIx (rs : List RuleD) : List Nat := (List.range rs.length).filter fun i => decide (Good rs i)
open Classical in
noncomputable def useIx (rs : List RuleD) : List Nat := (goodIx rs).filter fun i => decide (Rch rs (goodIx rs) (ruleAt rs i).head)
noncomputable def useOf (rs : List RuleD) : List Nat := if gramB rs = true then useIx rs else []
theorem useOf_t {rs : List RuleD} (h : gramB rs = true) : useOf rs = useIx rs := if_pos h
theorem useOf_f {rs : List RuleD} (h : gramB rs = false) : useOf rs = [] := if_neg (by rw [h]; decide)
theorem goodIx_lt {rs : List RuleD} : ∀ i ∈ goodIx rs, i < rs.length := fun _ hi => List.mem_range.1 (List.mem_filter.1 hi).1
theorem useIx_lt {rs : List RuleD} : ∀ i ∈ useIx rs, i < rs.length := fun _ hi => goodIx_lt _ (List.mem_filter.1 hi).1
theorem useIx_len {rs : List RuleD} : (useIx rs).length ≤ rs.length := by
  refine Nat.le_trans (List.length_filter_le _ _) ?_
  refine Nat.le_trans (List.length_filter_le _ _) ?_
  rw [List.length_range]; exact Nat.le_refl _
theorem keepN_rnl {rs : List RuleD} {ix : List Nat} {p : RuleN → Bool} {q : Nat → Bool} (h : ∀ i ∈ ix, p (rn rs i) = !q i) : keepN p (rnl rs ix) = rnl rs (ix.filter q) := by
  unfold keepN rnl
  rw [List.filter_map]
  congr 1
  apply List.filter_congr
  intro i hi
  simp [h i hi]
open Classical in
theorem use_at {rs : List RuleD} {rl' : List RuleN} (h : UseAt (rlOf rs) rl') : rl' = rnl rs (useOf rs) := by
  obtain ⟨m1, m2, h1, h2, rfl⟩ := h
  cases hq : gramB rs
  · rw [rlOf_f hq, useOf_f hq]; rfl
  · have R := Rt.of hq
    rw [rlOf_t hq] at h1 h2 ⊢
    rw [useOf_t hq]
    have e1 : keepN (notProd m1) (rnl rs (List.range rs.length)) = rnl rs (goodIx rs) := by
      apply keepN_rnl
      intro i hi
      rw [List.mem_range] at hi
      unfold notProd
      congr 1
      rw [Bool.eq_iff_iff, decide_eq_true_eq]
      unfold rn
      rw [body_holds]
      unfold Good
      constructor
      · intro h s hs
        have := (com_bits R true h1 s).1 (h s hs)
        simpa using this
      · intro h s hs
        apply (com_bits R true h1 s).2
        simpa using h s hs
    rw [e1] at h2 ⊢
    apply keepN_rnl
    intro i hi
    have hil := goodIx_lt i hi
    unfold notReached
    congr 1
    rw [Bool.eq_iff_iff, decide_eq_true_eq]
    unfold rn
    rw [ruleAt_eq hil]
    simp only
    rw [hold_set]
    exact reach_bit R goodIx_lt h2 (hs_all hil)
theorem rlOf_few (rs : List RuleD) : (rlOf rs).length ≤ 20 := by
  cases hq : gramB rs
  · rw [rlOf_f hq]; simp
  · rw [rlOf_t hq, rnl_len, List.length_range]; exact (Rt.of hq).few
noncomputable def usefulOf (rs : List RuleD) : List Int := (useOf rs).map fun (i : Nat) => (i : Int)
theorem useOf_few (rs : List RuleD) : (useOf rs).length ≤ 20 := by
  cases hq : gramB rs
  · rw [useOf_f hq]; simp
  · rw [useOf_t hq]; exact Nat.le_trans useIx_len (Rt.of hq).few
theorem usefulOf_len (rs : List RuleD) : (usefulOf rs).length ≤ 1000 := by
  have := useOf_few rs
  unfold usefulOf; rw [List.length_map]; omega

theorem field_rules (A B : Option Addr) (n c m d : Nat) (w : World) : (Instr.field 187 (.agg #[.slice A n c, .slice B m d]) 1).run Try.prog w = .ok (.slice B m d) w := by kernel_rfl
set_option maxRecDepth 100000 in
set_option maxHeartbeats 4000000 in
theorem implUseful_any (rs : List RuleD) (v : Value) (lo hi : Nat) (w : World) (h : Rules w lo hi v rs) (hh : hi ≤ w.heap.size) :
    Calls Try.prog 153 #[.agg #[v]] w (MadeI w (usefulOf rs)) := by
  obtain ⟨j0, hj0, hy0, hy1, hy2⟩ := info_parts Try.infoI64
  have HV := Lib.hid h
  obtain ⟨A, c, rfl, -⟩ := h
  have hb := al1 w (.cells #[.slice A rs.length c] 25)
  go_enter Try.func153, Try.ntmps153
  go_wp2_with fail
  refine (setsOf_any rs _ lo hi _ (HV.out.below hb hh) (by simp; omega)).mono ?_
  rintro e w1 ⟨x, rfl, SG, b1⟩
  have hb1 := hb.trans (b1.mono (by simp))
  have hs1 := hb1.size
  clear b1 hb
  go_wp2_with fail
  refine (useful_any (headsOf rs) (rlOf rs) _ _ _ SG (Nat.le_refl _) (rlOf_few rs) (rlOf_head rs) (fun r hr => joinAll_lt (rlOf_body rs r hr))).mono ?_
  rintro e w2 ⟨x2, rl', rfl, SG2, hu, b2⟩
  obtain rfl := use_at hu
  have hb2 := hb1.trans (b2.mono hs1)
  have hs2 := hb2.size
  have hl20 := useOf_few rs
  obtain ⟨A2, c2, B2, d2, rfl, -, hR⟩ := SG2.form
  obtain ⟨B', d', e', hlc, hc, hcell⟩ := hR
  injection e' with e1 _ e2
  subst e1 e2
  unfold maxLen at hc
  have hlen := rnl_len rs (useOf rs)
  have HC := Lib.hid hcell
  clear hcell SG SG2 b2 hu hb1
  have hfd := field_rules A2 B2 (headsOf rs).length c2 (useOf rs).length d2
  rw [hlen] at hlc ⊢
  have HL := Lib.hid hlen
  clear hlen
  go_wp2
  go_loopw [3, 5, 11] (fun x _ i wr => ∃ (j : Nat), j ≤ (useOf rs).length ∧ i = .int .i64 (j : Int) ∧ Its wr w2.heap.size x (((useOf rs).take j).map fun (i : Nat) => (i : Int)) ∧ Below w2.heap.size w2 wr) (fun _ _ i _ => (useOf rs).length - (intOf i).toNat)
  case atStart => exact ⟨0, by omega, rfl, Its.nil _ _, Below.refl _ _⟩
  case round =>
    obtain ⟨j, hj, rfl, hit, hbw⟩ := hrel
    have hsw := hbw.size
    by_cases hlt : j < (useOf rs).length
    · obtain ⟨b, off, rfl, hbh, hcc⟩ := HC.out (by rw [HL.out]; omega)
      obtain ⟨hn, hhh, d0, d1, u, d2, hB⟩ := hcc j (by rw [HL.out]; exact hlt)
      have d0' := (hbw.cell (p := ⟨b, off + j * 3, none⟩) (by show b < _; omega)).trans d0
      have d1' := (hbw.cell (p := ⟨b, off + j * 3 + 1, none⟩) (by show b < _; omega)).trans d1
      have d2' := (hbw.cell (p := ⟨b, off + j * 3 + 2, none⟩) (by show b < _; omega)).trans d2
      obtain ⟨A', c', rfl, -⟩ := hB
      have hnum : (rnl rs (useOf rs))[j]'(by rw [HL.out]; exact hlt) = rn rs (useOf rs)[j] := by simp [rnl]
      rw [hnum] at d0' d1' d2' hn
      have hnum2 : (rn rs (useOf rs)[j]).num = (useOf rs)[j] := rfl
      rw [hnum2] at d0' hn
      have HNX : Hid (((useOf rs).take (j + 1)).map (fun (i : Nat) => (i : Int)) = ((useOf rs).take j).map (fun (i : Nat) => (i : Int)) ++ [((useOf rs)[j] : Int)]) := Lib.hid (by rw [List.take_succ_eq_append_getElem hlt, List.map_append]; rfl)
      have hlj : (((useOf rs).take j).map (fun (i : Nat) => (i : Int))).length = j := by rw [List.length_map, List.length_take]; omega
      have HLJ := Lib.hid hlj
      have HIT := Lib.hid hit
      obtain ⟨Bz, dz, rfl⟩ := hit.form
      rw [hlj]
      have HO : Hid (wr.ownsRow w2.heap.size 2 1 (.slice Bz j dz) j ((((useOf rs).take j).map (fun (i : Nat) => (i : Int))).map (Value.int .i64))) := Lib.hid (by have := HIT.out; unfold Its at this; rwa [hlj] at this)
      clear hcc d0 d1 d2 hit hlj hnum hnum2 hhh HIT
      generalize (useOf rs)[j] = num at *
      go_wp2_with (at_builtin; refine wpList_append_own _ rfl _ _ 45 rfl w2.heap.size 2 j0 _ 1 8 Try.underlying45 hj0 hy0 hy1 hy2 rfl (by decide) _ _ _ rfl (World.ownsRow.alloc (World.ownsRow.alloc HO.out _) _) ⟨wr.heap.size + 1, 0, none⟩ 1 1 [.int .i64 (num : Int)] rfl rfl (by simpa using cell_one_new (wr.alloc _) _ _) (one_i64 _) (by unfold maxLen; omega) (by omega) (by simp; omega) ?_)
      intro v1 w3 hown1 hg1 _
      have s1 : Its w3 w2.heap.size v1 (((useOf rs).take (j + 1)).map fun (i : Nat) => (i : Int)) := by
        rw [HNX.out]
        refine Its.one _ ?_
        rw [HLJ.out]
        simpa using hown1
      have B1 : Below w2.heap.size w2 w3 := Tx.below_grown (hbw.trans ((al2 wr _ _).mono hbw.size)) (World.ownsRow.alloc (World.ownsRow.alloc HO.out _) _) hg1 (by simp; omega) (by omega)
      clear hown1 hg1 hbw
      go_wp2
      go_roundw
      case rel => exact ⟨j + 1, by omega, by go_num, s1, B1⟩
      case measure => simp [intOf]; omega
    · have hje : j = (useOf rs).length := by omega
      subst hje
      rw [List.take_length] at hit
      obtain ⟨g, ho, hg⟩ := hit.own
      clear hit
      go_wp2
      go_ret
      exact ⟨_, g, rfl, ho, fun hn => by have := hg hn; omega, hb2.trans (hbw.mono hs2)⟩
end Go.Proofs.Ytonfiahihmcmlaa
