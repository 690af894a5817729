import Derived.Test.YtcgmnpfeiiomgaaJAlone
import Derived.Test.YtcgmnpfeiiomgaaJWnew2
import Derived.Test.YtcgmnpfeiiomgaaJReachI
import Derived.Test.YtcgmnpfeiiomgaaJInts
import Derived.Test.YtcgmnpfeiiomgaaJOwns
import Derived.Deep.RegionHeld3
import Derived.Test.YtcgmnpfeiiomgaaJWrun
import Derived.Test.YtcgmnpfeiiomgaaJCutI
/- The program's Cycle. -/
namespace Go.Proofs.Ytcgmnpfeiiomgaa
open Go.RowKit

theorem Below.nxt2 {w0 wk w' : World} (h : Below w0.heap.size w0 wk) (b : Below wk.heap.size wk w') : Below w0.heap.size w0 w' := h.trans (b.mono h.size)
theorem ret_strC {a b : ByteArray} (h : a = b) : Ending.returned (.string a) = .returned (.string b) := by rw [h]
/-- a head that comes to itself alone by useful rules -/
def Cyc (rs : List RuleD) (s : ByteArray) : Prop := Aft rs (useIx rs) (tkAlone (Com false rs)) s s
open Classical in
noncomputable def cycOf (rs : List RuleD) : ByteArray := if gramB rs = true then ((hsOf rs).find? fun s => decide (Cyc rs s)).getD ByteArray.empty else ByteArray.empty
theorem cyc_f {rs : List RuleD} (h : gramB rs = false) : cycOf rs = ByteArray.empty := if_neg (by rw [h]; decide)
open Classical in
theorem cyc_none {rs : List RuleD} (h : ∀ q (hq : q < (hsOf rs).length), ¬ Cyc rs (hsOf rs)[q]) : cycOf rs = ByteArray.empty := by
  unfold cycOf
  split
  · rw [List.find?_eq_none.2]
    · rfl
    · intro s hs
      obtain ⟨q, hq, rfl⟩ := List.getElem_of_mem hs
      simpa using h q hq
  · rfl
open Classical in
theorem cyc_hit {rs : List RuleD} (hg : gramB rs = true) {j : Nat} (hj : j < (hsOf rs).length) (h : ∀ q (hq : q < (hsOf rs).length), q < j → ¬ Cyc rs (hsOf rs)[q]) (hc : Cyc rs (hsOf rs)[j]) : cycOf rs = (hsOf rs)[j] := by
  unfold cycOf
  rw [if_pos hg]
  have e : (hsOf rs).find? (fun s => decide (Cyc rs s)) = some (hsOf rs)[j] := by
    rw [List.find?_eq_some_iff_append]
    refine ⟨by simpa using hc, (hsOf rs).take j, (hsOf rs).drop (j + 1), ?_, ?_⟩
    · rw [← List.drop_eq_getElem_cons hj, List.take_append_drop]
    · intro s hs
      rw [List.mem_take_iff_getElem] at hs
      obtain ⟨m, hm, rfl⟩ := hs
      simpa using h m (by omega) (by omega)
  rw [e]; rfl
theorem cyc_bit {rs : List RuleD} (R : Rt rs) {m1 m2 j : Nat} (h1 : FixAt (stepCome (rnl rs (List.range rs.length))) (tokBase false) m1) (hj : j < (hsOf rs).length) (h2 : FixAt (stepAfter (rnl rs (useIx rs)) (2 ^ j) (fun l => aloneN m1 l l.length)) 0 m2) : m2.testBit j = true ↔ Cyc rs (hsOf rs)[j] := by
  have htk : Takes rs (fun l => aloneN m1 l l.length) (tkAlone (Com false rs)) := takes_alone rs fun i hi s hs => by
    have := com_bits R false h1 s
    simpa using this
  have e : setN (hsOf rs) (hsOf rs)[j] = 2 ^ j := by unfold setN; rw [R.idx_at hj]
  rw [← e] at h2
  have h3 := aft_bit R useIx_lt htk (hsOf rs)[j] h2 (List.getElem_mem hj)
  rw [R.idx_at hj] at h3
  exact h3
theorem afterBit_any (hs : List ByteArray) (rl : List RuleN) (v : Value) (k hi g : Nat) (lb : Array Value) (eg : Enters Try.prog g) (take : List Nat → Nat) (w : World) (h : SetsG w hi v hs rl) (hh : hi ≤ w.heap.size) (hk : k < 22) (htk : ∀ r ∈ rl, take r.body < 4194304) (hp : TakesSet g lb take w) :
    Calls Try.prog 99 #[v, .int .u32 ((2 : Int) ^ k % 4294967296), .func (.func g) #[] lb] w fun e w' => ∃ m : Nat, e = .returned (.int .u32 (m : Int)) ∧ FixAt (stepAfter rl (2 ^ k) take) 0 m ∧ Below w.heap.size w w' := by
  rw [shl_eq k hk]
  exact after_any hs rl v (2 ^ k) hi g lb eg take w h hh (pow_lt22 hk) htk hp

set_option maxRecDepth 100000 in
set_option maxHeartbeats 8000000 in
theorem implCycle_any (rs : List RuleD) (v : Value) (lo hi : Nat) (w : World) (h : Rules w lo hi v rs) (hh : hi ≤ w.heap.size) :
    Calls Try.prog 43 #[.agg #[v]] w fun e w' => e = .returned (.string (cycOf rs)) ∧ Below w.heap.size w w' := by
  have HV := Lib.hid h
  obtain ⟨A, c, rfl, -⟩ := h
  have hb := al1 w (.cells #[.slice A rs.length c] 25)
  go_enter Try.func43, Try.ntmps43
  go_wp2_with fail
  refine (setsOf_any rs _ lo hi _ (HV.out.below hb hh) (by simp; omega)).mono ?_
  rintro e w1 ⟨x, rfl, SG, b1⟩
  have hb1 := hb.trans (b1.mono (by simp))
  have hs1 := hb1.size
  have HSG := Lib.hid SG
  obtain ⟨Ah, ch, Bv, dv, rfl, ST, -⟩ := SG.form
  have HST := Lib.hid ST
  have R1 := Row.made w1 112 #[.slice Ah (headsOf rs).length ch, .slice Bv (rlOf rs).length dv]
  have hb2 := al1 w1 (.cells #[.slice Ah (headsOf rs).length ch, .slice Bv (rlOf rs).length dv] 112)
  have hsz : (w1.alloc (.cells #[.slice Ah (headsOf rs).length ch, .slice Bv (rlOf rs).length dv] 112)).heap.size = w1.heap.size + 1 := by simp
  clear SG b1 hb ST
  go_wp2_with fail
  generalize w1.alloc (.cells #[.slice Ah (headsOf rs).length ch, .slice Bv (rlOf rs).length dv] 112) = wA at *
  have hlA := R1.lt
  have hbA := hb1.trans (hb2.mono hs1)
  have HSZ := Lib.hid hsz
  have HSGD := Lib.hid (HSG.out.below hb2 (Nat.le_refl _))
  have HSTD := Lib.hid (HST.out.below hb2 (Nat.le_refl _))
  have HF := Lib.hid (headsOf_few rs)
  have HRA := Lib.hid R1
  have HBA := Lib.hid hbA
  clear R1 hb2 hb1 hsz hbA HSG HST
  refine (nullable_any (headsOf rs) (rlOf rs) _ w1.heap.size _ HSGD.out (Nat.le_of_lt hlA) (rlOf_head rs)).mono ?_
  rintro e w3 ⟨m1, rfl, hfix, b3⟩
  go_wp2_with fail
  refine (takeAlone_any m1 _ hfix.1).mono ?_
  rintro e w4 ⟨lb, rfl, hT, b4⟩
  have BB := Below.nxt2 b3 b4
  have R4 := HRA.out.below BB hlA
  have c0 := R4.cell 0
  have c1 := R4.cell 1
  simp at c0 c1
  have hl4 := R4.lt
  clear b3 b4 R4
  go_wp2_with fail
  refine (useful_any (headsOf rs) (rlOf rs) _ w1.heap.size _ (HSGD.out.below BB (Nat.le_of_lt hlA)) (Nat.le_of_lt hl4) (rlOf_few rs) (rlOf_head rs) (fun r hr => joinAll_lt (rlOf_body rs r hr))).mono ?_
  rintro e w5 ⟨x5, rl', rfl, SG5, hu, b5⟩
  obtain rfl := use_at hu
  have HT5 := Lib.hid (hT.later b5)
  have B5 := Below.nxt2 BB b5
  obtain ⟨A5, c5, B5v, d5, rfl, -, -⟩ := SG5.form
  have a5 := al1 w5 (.cells #[.slice A5 (headsOf rs).length c5, .slice B5v (rnl rs (useOf rs)).length d5] 112)
  have R5 := Row.made w5 112 #[.slice A5 (headsOf rs).length c5, .slice B5v (rnl rs (useOf rs)).length d5]
  have B6 := Below.nxt2 B5 a5
  have HSG6 := Lib.hid (SG5.below a5 (Nat.le_refl _))
  have HT6 := Lib.hid (HT5.out.later a5)
  have R6 := HRA.out.below B6 hlA
  have HST6 := Lib.hid (HSTD.out.below B6 (Nat.le_of_lt hlA))
  have s0 := R6.cell 0
  simp at s0
  have hl6 := R6.lt
  have hl5 := R5.lt
  have hs6 : (w5.alloc (.cells #[.slice A5 (headsOf rs).length c5, .slice B5v (rnl rs (useOf rs)).length d5] 112)).heap.size = w5.heap.size + 1 := by simp
  have HB6 := Lib.hid (HBA.out.trans (B6.mono HBA.out.size))
  have HR5 := Lib.hid R5
  have HZ6 := Lib.hid hs6
  clear hu SG5 b5 HT5 B5 BB a5 R5 R6 c0 c1 hs6 HRA hT
  have HTK : Hid (∀ r ∈ rnl rs (useOf rs), (fun l => aloneN m1 l l.length) r.body < 4194304) := Lib.hid fun r hr => by
    apply aloneN_lt
    intro x hx
    obtain ⟨i, hi, rfl⟩ := List.mem_map.1 hr
    cases hq : gramB rs
    · rw [useOf_f hq] at hi; simp at hi
    · obtain ⟨t, _, rfl⟩ := List.mem_map.1 hx
      exact (Rt.of hq).setN_lt t
  cases hq : gramB rs
  · have HE := Lib.hid (cyc_f hq)
    have hl0 : (headsOf rs).length = 0 := by rw [headsOf_f hq]; rfl
    have HB7 := HB6.out
    rw [hl0] at s0 HB7
    rw [hl0]
    clear hl0 hq
    go_wp2
    go_loopw [6, 7, 18] (fun _ _ i wr => i = .int .i64 0 ∧ Below w.heap.size w wr) (fun _ _ _ _ => 0)
    case atStart => exact ⟨rfl, HB7⟩
    case round =>
      obtain ⟨rfl, hbw⟩ := hrel
      go_wp2
      go_ret
      exact ⟨ret_strC HE.out.symm, hbw⟩
  · have RT := Lib.hid (Rt.of hq)
    have HQ := Lib.hid hq
    have HH : Hid (headsOf rs = hsOf rs) := Lib.hid (headsOf_t hq)
    have HU : Hid (useOf rs = useIx rs) := Lib.hid (useOf_t hq)
    have HFX : Hid (FixAt (stepCome (rnl rs (List.range rs.length))) (tokBase false) m1) := Lib.hid (by have := hfix; rw [rlOf_t hq] at this; exact this)
    have hl20 := HF.out
    clear hfix hq
    go_wp2
    generalize w5.alloc (.cells #[.slice A5 (headsOf rs).length c5, .slice B5v (rnl rs (useOf rs)).length d5] 112) = w6 at *
    obtain ⟨A', c', e', hlc, hc, hsz, hcell⟩ := HST6.out
    injection e' with e1 _ e2
    subst e1 e2
    unfold maxLen at hc
    have HC := Lib.hid hcell
    clear hcell hsz
    go_loopw [6, 7, 18] (fun _ _ i wr => ∃ j : Nat, j ≤ (headsOf rs).length ∧ i = .int .i64 (j : Int) ∧ (∀ q (hq : q < (hsOf rs).length), q < j → ¬ Cyc rs (hsOf rs)[q]) ∧ Below w6.heap.size w6 wr) (fun _ _ i _ => (headsOf rs).length - (intOf i).toNat)
    case atStart => exact ⟨0, by omega, rfl, fun _ _ h => by omega, Below.refl _ _⟩
    case round =>
      obtain ⟨j, hj, rfl, hall, hbw⟩ := hrel
      have hsw := hbw.size
      have HALL := Lib.hid hall
      clear hall
      by_cases hlt : j < (headsOf rs).length
      · obtain ⟨b, off, rfl, _, hbh, hcc⟩ := HC.out (by omega)
        have hck := (hbw.cell (p := ⟨b, off + j, none⟩) (by show b < _; omega)).trans (hcc j hlt)
        have R7 := HR5.out.below hbw hl5
        have u0 := R7.cell 0
        have u1 := R7.cell 1
        simp at u0 u1
        have h7 := R7.lt
        have HATJ : Hid (∃ h : j < (hsOf rs).length, (headsOf rs)[j] = (hsOf rs)[j]) := Lib.hid ⟨by rw [← HH.out]; exact hlt, by simp only [HH.out]⟩
        have BB : Below wr.heap.size wr wr.drew := (Below.refl _ _).drew
        have HBW := Lib.hid hbw
        have hw5 := hl5
        clear hcc R7 hbw
        go_wp2
        go_region_held3 (fun w' => w'.cell? ⟨w5.heap.size, 0, none⟩ = some (.slice A5 (headsOf rs).length c5) ∧ w'.cell? ⟨w5.heap.size, 1, none⟩ = some (.slice B5v (rnl rs (useOf rs)).length d5))
          (first | go_keep | (refine ⟨?_, ?_⟩ <;> (rw [BB.cell h7]; assumption)))
          (first
            | (go_at_call 99; refine (afterBit_any (headsOf rs) (rnl rs (useOf rs)) _ j w5.heap.size 157 lb (enters_of Try.func157 (by kernel_rfl) rfl) (fun l => aloneN m1 l l.length) _ ((HSG6.out.below HBW.out (Nat.le_of_lt hw5)).below BB (Nat.le_of_lt h7)) (Nat.le_trans (Nat.le_of_lt h7) BB.size) (by omega) HTK.out (HT6.out.later (HBW.out.trans (BB.mono HBW.out.size)))).mono ?_; rintro e w8 ⟨m2, rfl, hfix2, b8⟩; have BB := Below.nxt2 BB b8; have hm2 := hfix2.1)
            | (go_at_call 107; refine (holdsBit_any m2 j _ hm2 (by omega)).mono ?_; rintro e w9 ⟨rfl, rfl⟩))
        have HCB : Hid (m2.testBit j = true ↔ Cyc rs (headsOf rs)[j]) := Lib.hid (by
          obtain ⟨hjh, e⟩ := HATJ.out
          rw [HU.out] at hfix2
          rw [e]
          exact cyc_bit RT.out HFX.out hjh hfix2)
        have hBE := HBW.out.trans (BB.mono HBW.out.size)
        have HBE := Lib.hid hBE
        clear hfix2 hBE b8 BB
        cases hx : m2.testBit j
        · have HN : Hid (¬ Cyc rs (headsOf rs)[j]) := Lib.hid fun h => by rw [HCB.out.2 h] at hx; cases hx
          clear hx HCB
          go_wp2
          go_roundw
          case rel => exact ⟨j + 1, by omega, by go_num, fun q hq hqj => by
            by_cases e : q = j
            · subst e
              obtain ⟨hjh, e⟩ := HATJ.out
              have := HN.out
              rw [e] at this
              exact this
            · exact HALL.out q hq (by omega), HBE.out⟩
          case measure => simp [intOf]; omega
        · have HY : Hid (Cyc rs (headsOf rs)[j]) := Lib.hid (HCB.out.1 hx)
          clear hx HCB
          go_wp2
          go_ret
          refine ⟨ret_strC ?_, HB6.out.trans (HBE.out.mono HB6.out.size)⟩
          obtain ⟨hjh, e⟩ := HATJ.out
          rw [e]
          have := HY.out
          rw [e] at this
          exact (cyc_hit HQ.out hjh HALL.out this).symm
      · go_wp2
        go_ret
        exact ⟨ret_strC (cyc_none fun q hq => HALL.out q hq (by rw [← HH.out] at hq; omega)).symm, HB6.out.trans (hbw.mono HB6.out.size)⟩
end Go.Proofs.Ytcgmnpfeiiomgaa

/- What FnSets asks of what can be told of a grammar, as data. No program stands in this text. -/
namespace Go.Proofs.Ytcgmnpfeiiomgaa
open Go.RowKit

/-- what may come to nothing, may come to tokens alone, too -/
theorem Com.more {rs : List RuleD} {s : ByteArray} (h : Com false rs s) : Com true rs s := by
  induction h with
  | mk i h hb ih => exact .mk i h fun s hs _ => ih s hs rfl
theorem comOf_iff {tok : Bool} {rs : List RuleD} {s : ByteArray} : s ∈ comOf tok rs ↔ s ∈ headsOf rs ∧ Com tok rs s := by
  unfold comOf
  rw [List.mem_filter]
  simp
theorem null_prod {rs : List RuleD} {s : ByteArray} (h : s ∈ comOf false rs) : s ∈ comOf true rs := by
  rw [comOf_iff] at h ⊢
  exact ⟨h.1, h.2.more⟩
theorem Aft.wide {rs : List RuleD} {ix ix' : List Nat} {tk tk' : List ByteArray → ByteArray → Prop} {h s : ByteArray} (a : Aft rs ix tk h s) (hi : ∀ i ∈ ix, i ∈ ix') (ht : ∀ b s, tk b s → tk' b s) : Aft rs ix' tk' h s := by
  induction a with
  | one i h1 hx he s hs => exact .one i h1 (hi i hx) he s (ht _ _ hs)
  | more i h1 hx _ s hs ih => exact .more i h1 (hi i hx) ih s (ht _ _ hs)
theorem Aft.join {rs : List RuleD} {ix : List Nat} {tk : List ByteArray → ByteArray → Prop} {h y s : ByteArray} (a : Aft rs ix tk h y) (b : Aft rs ix tk y s) : Aft rs ix tk h s := by
  induction b with
  | one i h1 hx he s hs => exact .more i h1 hx (by rw [he]; exact a) s hs
  | more i h1 hx _ s hs ih => exact .more i h1 hx ih s hs
/-- by what is useful one comes to tokens -/
theorem use_tells {rs : List RuleD} {i : Nat} (h : i ∈ useOf rs) : gramB rs = true ∧ ∃ hi : i < rs.length, rs[i].head ∈ comOf true rs ∧ rs[i].head ∈ reachOf rs ∧ ∀ s ∈ rs[i].body, headB s = true → s ∈ comOf true rs := by
  cases hg : gramB rs
  · rw [useOf_f hg] at h; cases h
  · rw [useOf_t hg] at h
    have hi := useIx_lt _ h
    refine ⟨rfl, hi, ?_⟩
    unfold useIx at h
    obtain ⟨h1, h2⟩ := List.mem_filter.1 h
    simp only [decide_eq_true_eq] at h2
    have h3 := (List.mem_filter.1 h1).2
    simp only [decide_eq_true_eq] at h3
    unfold Good at h3
    rw [ruleAt_eq hi] at h2 h3
    have eh : headsOf rs = hsOf rs := headsOf_t hg
    refine ⟨comOf_iff.2 ⟨by rw [eh]; exact hs_all hi, .mk i hi fun s hs hn => ?_⟩, ?_, fun s hs hh => ?_⟩
    · rcases h3 s hs with e | e
      · rw [e] at hn; cases hn
      · exact e
    · unfold reachOf
      rw [List.mem_filter]
      refine ⟨by rw [eh]; exact hs_all hi, ?_⟩
      simp only [decide_eq_true_eq]
      rcases h2 with e | e
      · exact .inl e
      · exact .inr (e.wide (fun j hj => List.mem_range.2 (goodIx_lt j hj)) fun _ _ h => h)
    · rcases h3 s hs with e | e
      · rw [head_no_tok hh] at e; cases e
      · exact comOf_iff.2 ⟨by rw [eh]; exact e.in, e⟩
theorem leftOf_mem {rs : List RuleD} {h s : ByteArray} : s ∈ leftOf rs h ↔ s ∈ headsOf rs ∧ Aft rs (List.range rs.length) (tkLeft (Com false rs)) h s := by
  unfold leftOf
  rw [List.mem_filter]
  simp
theorem left_join {rs : List RuleD} {h y s : ByteArray} (a : y ∈ leftOf rs h) (b : s ∈ leftOf rs y) : s ∈ leftOf rs h := by
  rw [leftOf_mem] at *
  exact ⟨b.1, a.2.join b.2⟩
open Classical in
/-- what comes to itself alone has itself at its left end -/
theorem cyc_left {rs : List RuleD} (h : cycOf rs ≠ ByteArray.empty) : cycOf rs ∈ leftOf rs (cycOf rs) := by
  unfold cycOf at h ⊢
  cases hg : gramB rs
  · rw [hg] at h; exact absurd rfl h
  · rw [hg] at h
    simp only [if_true] at h ⊢
    cases hf : (hsOf rs).find? (fun s => decide (Cyc rs s)) with
    | none => rw [hf] at h; exact absurd rfl h
    | some s =>
      have h1 := List.find?_some hf
      simp only [decide_eq_true_eq] at h1
      have h2 := List.mem_of_find?_eq_some hf
      show s ∈ leftOf rs s
      rw [leftOf_mem, headsOf_t hg]
      refine ⟨h2, Aft.wide h1 (fun j hj => List.mem_range.2 (useIx_lt j hj)) ?_⟩
      rintro b x ⟨k, hk, e, hm⟩
      exact ⟨k, hk, e, fun m hmk => hm m (by omega) (by omega)⟩
theorem com_der {rs : List RuleD} {s : ByteArray} (h : Com false rs s) : Der (· ∈ rs) [] [s] 0 0 := by
  induction h with
  | mk i h hb ih =>
    refine .head (List.getElem_mem h) ?_ (.nil 0)
    have key : ∀ l : List ByteArray, (∀ s ∈ l, Der (· ∈ rs) [] [s] 0 0) → Der (· ∈ rs) [] l 0 0 := by
      intro l
      induction l with
      | nil => intro _; exact .nil 0
      | cons a l il =>
        intro hl
        have h1 := hl a (by simp)
        have h2 := il fun s hs => hl s (by simp [hs])
        generalize hx : [a] = x at h1
        generalize hz : (0 : Nat) = z at h1
        cases h1 with
        | nil => cases hx
        | tok ht _ => simp at ht
        | head hr hd hn =>
          injection hx with e1 e2
          subst e2
          subst e1
          subst hz
          cases hn
          exact .head hr hd h2
    exact key _ fun s hs => ih s hs rfl
theorem der_com {rs : List RuleD} {l : List ByteArray} {i k : Nat} (h : Der (· ∈ rs) [] l i k) : ∀ s ∈ l, Com false rs s := by
  induction h with
  | nil i => intro s hs; cases hs
  | tok ht _ _ => simp at ht
  | head hr _ _ ih1 ih2 =>
    intro s hs
    rcases List.mem_cons.1 hs with e | e
    · subst e
      obtain ⟨j, hj, rfl⟩ := List.getElem_of_mem hr
      exact .mk j hj fun s hs _ => ih1 s hs
    · exact ih2 s e
theorem textB_nil : textB [] = true := (textB_iff []).2 ⟨by simp, fun s hs => by cases hs⟩
theorem start_null {rs : List RuleD} (hg : gramB rs = true) (h0 : 0 < rs.length) : inB (comOf false rs) rs[0].head = derB rs [] := by
  rw [Bool.eq_iff_iff, inB_iff, comOf_iff]
  constructor
  · intro h
    refine derB_yes hg textB_nil ?_
    have := com_der h.2
    rw [← ruleAt_eq h0] at this
    exact this
  · intro h
    obtain ⟨_, _, d⟩ := derB_parts h
    unfold DerP at d
    rw [ruleAt_eq h0] at d
    exact ⟨by rw [headsOf_t hg]; exact hs_all h0, der_com d _ (by simp)⟩
theorem com_good {rs : List RuleD} {s : ByteArray} (h : Com true rs s) : ∃ r ∈ frs rs, r.head = s := by
  cases h with
  | mk i h hb =>
    refine ⟨rs[i], frs_mem.2 ⟨List.getElem_mem h, ?_⟩, rfl⟩
    intro s hs
    cases ht : tokB s
    · exact .inr (hb s hs (by rw [ht]; rfl))
    · exact .inl rfl
theorem good_com {rs : List RuleD} {r : RuleD} (h : r ∈ frs rs) : Com true rs r.head := by
  obtain ⟨h1, h2⟩ := frs_mem.1 h
  obtain ⟨j, hj, rfl⟩ := List.getElem_of_mem h1
  refine .mk j hj fun s hs hn => ?_
  rcases h2 s hs with e | e
  · rw [e] at hn; cases hn
  · exact e
theorem start_prod {rs : List RuleD} (hg : gramB rs = true) (h0 : 0 < rs.length) : inB (comOf true rs) rs[0].head = decide (0 ≤ viaZ rs []) := by
  rw [viaZ_yes hg textB_nil, Bool.eq_iff_iff, inB_iff, comOf_iff, decide_eq_true_eq]
  show _ ↔ 0 ≤ lastB (BegP rs []) 0
  have e : BegP rs [] 0 ↔ Com true rs rs[0].head := by
    unfold BegP
    rw [ruleAt_eq h0]
    constructor
    · intro b
      generalize hx : rs[0].head = x at b
      cases b with
      | stop j hr _ => exact good_com hr
      | go j hr _ _ _ => exact good_com hr
    · intro h
      obtain ⟨r, hr, e⟩ := com_good h
      rw [← e]
      exact .stop 0 hr (by simp; exact .nil 0)
  unfold lastB
  rw [e]
  constructor
  · intro h; rw [if_pos h.2]; omega
  · intro h
    split at h
    · rename_i hc; exact ⟨by rw [headsOf_t hg]; exact hs_all h0, hc⟩
    · omega
end Go.Proofs.Ytcgmnpfeiiomgaa

/- The law's own lwTexts. -/
namespace Go.Proofs.Ytcgmnpfeiiomgaa
open Go.RowKit

set_option maxHeartbeats 1000000 in
theorem lwTexts_any (v u : Value) (ss ts : List ByteArray) (lo hi lo' hi' : Nat) (w : World) (h : Strs w lo hi v ss) (h' : Strs w lo' hi' u ts) :
    Calls Try.prog 18 #[v, u] w fun e w' => e = .returned (.bool (eqSs ss ts)) ∧ ∃ n, w' = w.drewN n := by
  obtain ⟨A, c, rfl, hlc, hc, hsz, hcell⟩ := h
  obtain ⟨A', c', rfl, hlc', hc', hsz', hcell'⟩ := h'
  unfold maxLen at hc hc'
  by_cases hn : ss.length = ts.length
  · have d0 : ((ss.length : Int) != (ts.length : Int)) = false := by rw [bne_eq_false_iff_eq]; omega
    have HN := Lib.hid hn
    have HC := Lib.hid hcell
    have HC' := Lib.hid hcell'
    clear hcell hsz hcell' hsz' hn
    go_enter Try.func18, Try.ntmps18
    go_wp2
    go_loopw [5] (fun i wr => ∃ (k n : Nat), k ≤ ss.length ∧ i = .int .i64 k ∧ wr = w.drewN n ∧ (∀ j (h : j < ss.length), j < k → ss[j] = ts[j]'(by have := HN.out; omega))) (fun i _ => ss.length - (intOf i).toNat)
    case atStart => exact ⟨0, 0, by omega, rfl, rfl, fun j _ hj => by omega⟩
    case round =>
      obtain ⟨k, n, hk, rfl, rfl, hall⟩ := hrel
      have HA := Lib.hid hall
      clear hall
      by_cases hlt : k < ss.length
      · have hlt' : k < ts.length := by have := HN.out; omega
        obtain ⟨b, off, rfl, _, hbh, hcc⟩ := HC.out (by omega)
        obtain ⟨b', off', rfl, _, hbh', hcc'⟩ := HC'.out (by omega)
        have hck := hcc k hlt
        have hck' := hcc' k hlt'
        have i1 : (k : Int) < (ss.length : Int) := by omega
        have i2 : (k : Int) < (ts.length : Int) := by omega
        clear hcc hcc'
        by_cases he : ss[k] = ts[k]
        · have d1 : (ss[k].toList == ts[k].toList) = true := by rw [list_eqE, decide_eq_true he]
          have HE := Lib.hid he
          clear he
          go_wp2
          go_quiet (fail)
          go_wp2
          go_roundw
          case rel => exact ⟨k + 1, _, by omega, by go_num, rfl, fun j hj hjk => by
            by_cases e : j = k
            · subst e; exact HE.out
            · exact HA.out j hj (by omega)⟩
          case measure => simp [intOf]; omega
        · have d1 : (ss[k].toList == ts[k].toList) = false := by rw [list_eqE, decide_eq_false he]
          go_wp2
          go_quiet (fail)
          go_wp2
          go_ret
          exact ⟨ret_boolE (eqSs_f (fun e => he (by subst e; rfl))).symm, _, World.drewN_drewN _ _ _⟩
      · go_wp2
        go_ret
        exact ⟨ret_boolE (eqSs_t (List.ext_getElem HN.out fun j h1 h2 => HA.out j h1 (by omega))).symm, _, rfl⟩
  · have d0 : ((ss.length : Int) != (ts.length : Int)) = true := by rw [bne_iff_ne]; omega
    go_enter Try.func18, Try.ntmps18
    go_wp2
    go_ret
    exact ⟨ret_boolE (eqSs_f (fun e => hn (by rw [e]))).symm, 0, rfl⟩
end Go.Proofs.Ytcgmnpfeiiomgaa

/- The law's own lwNums. -/
namespace Go.Proofs.Ytcgmnpfeiiomgaa
open Go.RowKit

set_option maxHeartbeats 1000000 in
theorem lwNums_any (v u : Value) (ss ts : List Int) (lo hi lo' hi' : Nat) (w : World) (h : IntsAt w lo hi v ss) (h' : IntsAt w lo' hi' u ts) :
    Calls Try.prog 39 #[v, u] w fun e w' => e = .returned (.bool (eqIs ss ts)) ∧ ∃ n, w' = w.drewN n := by
  obtain ⟨A, c, rfl, hlc, hc, hcell⟩ := h
  obtain ⟨A', c', rfl, hlc', hc', hcell'⟩ := h'
  unfold maxLen at hc hc'
  by_cases hn : ss.length = ts.length
  · have d0 : ((ss.length : Int) != (ts.length : Int)) = false := by rw [bne_eq_false_iff_eq]; omega
    have HN := Lib.hid hn
    have HC := Lib.hid hcell
    have HC' := Lib.hid hcell'
    clear hcell hcell' hn
    go_enter Try.func39, Try.ntmps39
    go_wp2
    go_loopw [5] (fun i wr => ∃ (k n : Nat), k ≤ ss.length ∧ i = .int .i64 k ∧ wr = w.drewN n ∧ (∀ j (h : j < ss.length), j < k → ss[j] = ts[j]'(by have := HN.out; omega))) (fun i _ => ss.length - (intOf i).toNat)
    case atStart => exact ⟨0, 0, by omega, rfl, rfl, fun j _ hj => by omega⟩
    case round =>
      obtain ⟨k, n, hk, rfl, rfl, hall⟩ := hrel
      have HA := Lib.hid hall
      clear hall
      by_cases hlt : k < ss.length
      · have hlt' : k < ts.length := by have := HN.out; omega
        obtain ⟨b, off, rfl, _, hbh, hcc⟩ := HC.out (by omega)
        obtain ⟨b', off', rfl, _, hbh', hcc'⟩ := HC'.out (by omega)
        have hck := hcc k hlt
        have hck' := hcc' k hlt'
        have i1 : (k : Int) < (ss.length : Int) := by omega
        have i2 : (k : Int) < (ts.length : Int) := by omega
        clear hcc hcc'
        by_cases he : ss[k] = ts[k]
        · have d1 : (ss[k] != ts[k]) = false := by rw [bne_eq_false_iff_eq]; exact he
          have HE := Lib.hid he
          clear he
          go_wp2
          go_quiet (fail)
          go_wp2
          go_roundw
          case rel => exact ⟨k + 1, _, by omega, by go_num, rfl, fun j hj hjk => by
            by_cases e : j = k
            · subst e; exact HE.out
            · exact HA.out j hj (by omega)⟩
          case measure => simp [intOf]; omega
        · have d1 : (ss[k] != ts[k]) = true := by rw [bne_iff_ne]; exact he
          go_wp2
          go_quiet (fail)
          go_wp2
          go_ret
          exact ⟨ret_boolE (eqIs_f (fun e => he (by subst e; rfl))).symm, _, World.drewN_drewN _ _ _⟩
      · go_wp2
        go_ret
        exact ⟨ret_boolE (eqIs_t (List.ext_getElem HN.out fun j h1 h2 => HA.out j h1 (by omega))).symm, _, rfl⟩
  · have d0 : ((ss.length : Int) != (ts.length : Int)) = true := by rw [bne_iff_ne]; omega
    go_enter Try.func39, Try.ntmps39
    go_wp2
    go_ret
    exact ⟨ret_boolE (eqIs_f (fun e => hn (by rw [e]))).symm, 0, rfl⟩
end Go.Proofs.Ytcgmnpfeiiomgaa

/- The law's own lwIn. -/
namespace Go.Proofs.Ytcgmnpfeiiomgaa
open Go.RowKit

set_option maxHeartbeats 1000000 in
theorem lwIn_any (ss : List ByteArray) (s : ByteArray) (v : Value) (lo hi : Nat) (w : World) (h : Strs w lo hi v ss) :
    Calls Try.prog 46 #[v, .string s] w fun e w' => e = .returned (.bool (inB ss s)) ∧ w = w' := by
  have HS := Lib.hid h
  obtain ⟨A, c, rfl, hlc, hc, -⟩ := h
  unfold maxLen at hc
  go_enter Try.func46, Try.ntmps46
  go_wp2
  go_loop [5] (fun x => ∃ k : Nat, k ≤ ss.length ∧ x = .int .i64 (k : Int) ∧ ∀ j (h : j < ss.length), j < k → ss[j] ≠ s) (fun x => ss.length - (intOf x).toNat)
  case atStart => exact ⟨0, by omega, rfl, fun j _ hj => by omega⟩
  case round =>
    obtain ⟨k, hk, rfl, hall⟩ := hrel
    have HA := Lib.hid hall
    clear hall
    by_cases hlt : k < ss.length
    · obtain ⟨b, off, rfl, hbh, _, _, hck⟩ := HS.out.at hlt
      by_cases he : ss[k] = s
      · have d1 : (ss[k].toList == s.toList) = true := by rw [list_eqH, decide_eq_true he]
        have HM : Hid (inB ss s = true) := Lib.hid ((inB_iff _ _).2 (he ▸ List.getElem_mem hlt))
        clear he
        go_wp2
        go_ret
        refine ⟨?_, rfl⟩
        rw [HM.out]
        rfl
      · have d1 : (ss[k].toList == s.toList) = false := by rw [list_eqH, decide_eq_false he]
        go_wp2
        go_round
        case rel => exact ⟨k + 1, by omega, by go_num, fun j hj hjk => by
          by_cases e : j = k
          · subst e; exact he
          · exact HA.out j hj (by omega)⟩
        case measure => simp [intOf]; omega
    · have HN : Hid (inB ss s = false) := Lib.hid (by
        rw [Bool.eq_false_iff]
        intro hm
        obtain ⟨i, hi, e⟩ := List.getElem_of_mem ((inB_iff _ _).1 hm)
        exact HA.out i hi (by omega) e)
      go_wp2
      go_ret
      refine ⟨?_, rfl⟩
      rw [HN.out]
      rfl
end Go.Proofs.Ytcgmnpfeiiomgaa
