import Derived.Test.YtcgmnpfeiiomgaaJSp1
import Derived.Test.YtcgmnpfeiiomgaaJWnew2
import Derived.Test.YtcgmnpfeiiomgaaJAlone
import Derived.Test.YtcgmnpfeiiomgaaJVb
/- The walks of the model's l03Useful and Useful. -/
namespace Go.Proofs.Ytcgmnpfeiiomgaa
open Go.RowKit

theorem comOf_mem {tok : Bool} {rs : List RuleD} (h : gramB rs = true) {s : ByteArray} : s ∈ comOf tok rs ↔ Com tok rs s := by
  unfold comOf
  rw [headsOf_t h, List.mem_filter]
  constructor
  · rintro ⟨_, h2⟩; simpa using h2
  · intro h2; exact ⟨h2.in, by simpa using h2⟩
noncomputable def goodAt (rs : List RuleD) (k : Nat) : Bool := allB (ruleAt rs k).body (comOf true rs) true
noncomputable def goodL (rs : List RuleD) : List Bool := (List.range rs.length).map (goodAt rs)
theorem goodL_len (rs : List RuleD) : (goodL rs).length = rs.length := by simp [goodL]
theorem goodL_at {rs : List RuleD} {k : Nat} (h : k < (goodL rs).length) : (goodL rs)[k] = goodAt rs k := by simp [goodL]
theorem goodAt_iff {rs : List RuleD} (h : gramB rs = true) (k : Nat) : goodAt rs k = true ↔ Good rs k := by
  unfold goodAt Good
  rw [allB_iff]
  constructor
  · intro hh s hs
    cases ht : tokB s
    · exact .inr ((comOf_mem h).1 (hh s hs (by rw [ht]; rfl)))
    · exact .inl rfl
  · intro hh s hs ht
    rcases hh s hs with h1 | h1
    · rw [h1] at ht; cases ht
    · exact (comOf_mem h).2 h1
open Classical in
theorem ixOf_good {rs : List RuleD} (h : gramB rs = true) : ixOf (goodL rs) = goodIx rs := by
  unfold ixOf goodIx
  rw [goodL_len]
  apply List.filter_congr
  intro i hi
  rw [List.mem_range] at hi
  rw [Bool.eq_iff_iff, decide_eq_true_eq, ← goodAt_iff h]
  have : (goodL rs).getD i false = goodAt rs i := by simp [goodL, hi]
  rw [this]
noncomputable def useB (rs : List RuleD) (k : Nat) : Bool := goodAt rs k && (inB (comOf true rs) (ruleAt rs k).head && inB (reachBy rs (ixOf (goodL rs))) (ruleAt rs k).head)
noncomputable def useTo (rs : List RuleD) (k : Nat) : List Int := ((List.range k).filter (useB rs)).map fun (i : Nat) => (i : Int)
theorem useTo_t {rs : List RuleD} {k : Nat} (h : useB rs k = true) : useTo rs (k + 1) = useTo rs k ++ [(k : Int)] := by
  unfold useTo; rw [List.range_succ, List.filter_append]; simp [h]
theorem useTo_f {rs : List RuleD} {k : Nat} (h : useB rs k = false) : useTo rs (k + 1) = useTo rs k := by
  unfold useTo; rw [List.range_succ, List.filter_append]; simp [h]
theorem useTo_len (rs : List RuleD) (k : Nat) : (useTo rs k).length ≤ k := by
  unfold useTo
  rw [List.length_map]
  refine Nat.le_trans (List.length_filter_le _ _) ?_
  rw [List.length_range]; exact Nat.le_refl _
open Classical in
theorem useTo_all {rs : List RuleD} (h : gramB rs = true) : useTo rs rs.length = usefulOf rs := by
  unfold useTo usefulOf
  rw [useOf_t h]
  congr 1
  unfold useIx goodIx
  rw [List.filter_filter]
  apply List.filter_congr
  intro i hi
  rw [List.mem_range] at hi
  rw [Bool.eq_iff_iff]
  unfold useB
  rw [Bool.and_eq_true, Bool.and_eq_true, Bool.and_eq_true, goodAt_iff h, decide_eq_true_eq, decide_eq_true_eq, ixOf_good h, ruleAt_eq hi]
  have hm := hs_all hi
  have h1 : inB (reachBy rs (goodIx rs)) rs[i].head = true ↔ Rch rs (goodIx rs) rs[i].head := by
    rw [inB_iff]
    unfold reachBy
    rw [List.mem_filter]
    simp [hm]
  have h2 : Good rs i → inB (comOf true rs) rs[i].head = true := fun hg => by
    rw [inB_iff, comOf_mem h]
    refine .mk i hi fun s hs ht => ?_
    unfold Good at hg
    rw [ruleAt_eq hi] at hg
    rcases hg s hs with e | e
    · rw [e] at ht; cases ht
    · exact e
  rw [h1]
  change _ ↔ Rch rs (goodIx rs) rs[i].head ∧ _
  constructor
  · rintro ⟨a, _, b⟩; exact ⟨b, a⟩
  · rintro ⟨b, a⟩; exact ⟨a, h2 a, b⟩

set_option maxRecDepth 100000 in
set_option maxHeartbeats 4000000 in
theorem specL03Useful_any (rs : List RuleD) (v : Value) (lo hi : Nat) (w : World) (h : Rules w lo hi v rs) (hh : hi ≤ w.heap.size) (hq : gramB rs = true) :
    Calls Try.prog 104 #[.agg #[v]] w (MadeI w (usefulOf rs)) := by
  obtain ⟨j0, hj0, hy0, hy1, hy2⟩ := info_parts Try.infoI64
  have HV := Lib.hid h
  have RT := Lib.hid (Rt.of hq)
  have hl20 := RT.out.few
  have HQ := Lib.hid hq
  obtain ⟨A, c, rfl, hlc, hc, hcell⟩ := h
  unfold maxLen at hc
  have HC := Lib.hid hcell
  have hb := al1 w (.cells #[.slice A rs.length c] 25)
  have R0 := Row.made w 25 #[.slice A rs.length c]
  have hmk := makeBools rs.length (by omega)
  have HL : Hid (rs.length = (goodL rs).length) := Lib.hid (goodL_len rs).symm
  clear hq hcell
  go_enter Try.func104, Try.ntmps104
  go_wp2_with fail
  refine (specFix_any rs _ true lo hi _ (HV.out.below hb hh) (by simp; omega) HQ.out).mono ?_
  rintro e w1 ⟨u, g, rfl, ho, hg, b1⟩
  have R1 := R0.below b1 (by simp)
  have c1 := R1.cell 0
  simp at c1
  have hb1 := hb.trans (b1.mono (by simp))
  have z1 := hb1.size
  have hl1 := R1.lt
  have HP := Lib.hid (ho.strs (lo := 0) (hi := w1.heap.size) fun hn => by have := hg hn; omega)
  obtain ⟨PA, pc, rfl, -⟩ := ho
  have HR1 := Lib.hid R1
  clear b1 hb R0 hg R1
  go_wp2
  go_loopw [5, 17] (fun _ i wr => ∃ k : Nat, k ≤ rs.length ∧ i = .int .i64 k ∧ GoodTo wr w1.heap.size (goodL rs) k ∧ Below w1.heap.size w1 wr) (fun _ i _ => rs.length - (intOf i).toNat)
  case atStart => exact ⟨0, by omega, rfl, GoodTo.start _ _ _ _ HL.out, al1 _ _⟩
  case round =>
    obtain ⟨k, hk, rfl, hgd, hbw⟩ := hrel
    have hsw := hbw.size
    obtain ⟨cur, hrow, hcs⟩ := hgd.row
    rw [← HL.out] at hcs
    have hgl := hrow.lt
    have cW := (HR1.out.below hbw hl1).cell 0
    simp at cW
    have hbW := hb1.trans (hbw.mono z1)
    by_cases hlt : k < rs.length
    · obtain ⟨b, off, rfl, _, hbh, hcc⟩ := HC.out (by omega)
      obtain ⟨hhs, d0, u, d1, hst⟩ := hcc k hlt
      have d1' := (hbW.cell (p := ⟨b, off + k * 2 + 1, none⟩) (by show b < _; omega)).trans d1
      have hst' := hst.below hbW hh
      have HST := Lib.hid hst'
      obtain ⟨A', c', rfl, -⟩ := hst'
      obtain ⟨u0, hd0⟩ := hrow.there (show k < cur.size by omega)
      have hf0 := hrow.free k
      have HGA : Hid (allB rs[k].body (comOf true rs) true = goodAt rs k) := Lib.hid (by unfold goodAt; rw [ruleAt_eq hlt])
      have hstep := hgd.step (b := goodAt rs k) (by rw [← HL.out]; exact hlt) (goodL_at _)
      have HPW := Lib.hid (HP.out.below hbw (Nat.le_refl _))
      clear hcs hrow hgd d0 d1 hst hcc
      go_wp2_with fail
      refine (specAll_any _ _ rs[k].body (comOf true rs) true _ _ _ _ _ HST.out HPW.out).mono ?_
      rintro e w2 ⟨rfl, rfl⟩
      rw [HGA.out]
      go_wp2
      go_roundw
      case rel => exact ⟨k + 1, by omega, by go_num, hstep, hbw.setCell (Nat.le_refl _) _⟩
      case measure => simp [intOf]; omega
    · have hks : k = rs.length := by omega
      subst hks
      have GD := (show GoodTo wr w1.heap.size _ (goodL rs).length by rw [← HL.out]; exact hgd)
      have BG := GD.done (by rw [← HL.out]; unfold maxLen; omega) HL.out
      have HBG := Lib.hid BG
      have HGD := Lib.hid GD
      have HRW := Lib.hid (HR1.out.below hbw hl1)
      have HPW := Lib.hid (HP.out.below hbw (Nat.le_refl _))
      clear hcs hrow hgd BG GD
      go_wp2_with fail
      refine (specReach_any rs _ _ _ lo hi (w1.heap.size + 1) _ (HV.out.below hbW hh) (by omega) HQ.out HBG.out (by omega) HL.out.symm).mono ?_
      rintro e w2 ⟨ur, gr, rfl, hor, hgr, b2⟩
      have HRR := Lib.hid (hor.strs (lo := 0) (hi := w2.heap.size) fun hn => by have := hgr hn; omega)
      obtain ⟨RA, rc, rfl, -⟩ := hor
      have R2 := HRW.out.below b2 (by omega)
      have G2 := HGD.out.below b2 (by omega)
      have HP2 := Lib.hid (HPW.out.below b2 (by omega))
      have hb2 := hbW.trans (b2.mono (by omega))
      have z2 := b2.size
      have HR2 := Lib.hid R2
      have HG2 := Lib.hid G2
      clear hgr b2 R2 G2
      go_wp2
      go_loopw [7, 8] (fun x i wr => ∃ k : Nat, k ≤ rs.length ∧ i = .int .i64 k ∧ Its wr w2.heap.size x (useTo rs k) ∧ Below w2.heap.size w2 wr) (fun _ i _ => rs.length - (intOf i).toNat)
      case atStart => exact ⟨0, by omega, rfl, Its.lit0 _ (Nat.le_refl _), al1 _ _⟩
      case round =>
        obtain ⟨k, hk, rfl, hit, hbx⟩ := hrel
        rename World => wx
        have hsx := hbx.size
        have cX := (HR2.out.below hbx (by omega)).cell 0
        simp at cX
        have hbX := hb2.trans (hbx.mono (by omega))
        have hln := useTo_len rs k
        by_cases hlt : k < rs.length
        · obtain ⟨b, off, rfl, _, hbh, hcc⟩ := HC.out (by omega)
          obtain ⟨hhs, d0, u, d1, hst⟩ := hcc k hlt
          have d0' := (hbX.cell (p := ⟨b, off + k * 2, none⟩) (by show b < _; omega)).trans d0
          obtain ⟨cur2, hrow2, hcs2, hcv⟩ := HG2.out
          have gk : wx.cell? ⟨w1.heap.size, k, none⟩ = some (.bool (goodAt rs k)) := by
            rw [hbx.cell (by show w1.heap.size < _; omega), hrow2.cell, hcv k (by rw [← HL.out]; exact hlt) (by rw [← HL.out]; exact hlt), goodL_at]
          have HPX := Lib.hid (HP2.out.below hbx (by omega))
          have HRX := Lib.hid (HRR.out.below hbx (Nat.le_refl _))
          have HUB : Hid (useB rs k = (goodAt rs k && (inB (comOf true rs) rs[k].head && inB (reachBy rs (ixOf (goodL rs))) rs[k].head))) := Lib.hid (by unfold useB; rw [ruleAt_eq hlt])
          have HIT := Lib.hid hit
          obtain ⟨Bz, dz, rfl⟩ := hit.form
          clear hrow2 hcs2 hcv d0 d1 hst hcc hit
          cases hg1 : goodAt rs k
          · rw [hg1] at gk
            have HUF : Hid (useB rs k = false) := Lib.hid (by rw [HUB.out, hg1]; rfl)
            clear hg1
            go_wp2
            go_roundw
            case rel => exact ⟨k + 1, by omega, by go_num, by rw [useTo_f HUF.out]; exact HIT.out, hbx⟩
            case measure => simp [intOf]; omega
          · rw [hg1] at gk
            have HG1 := Lib.hid hg1
            cases hi1 : inB (comOf true rs) rs[k].head
            · have HI1 := Lib.hid hi1
              have HUF : Hid (useB rs k = false) := Lib.hid (by rw [HUB.out, hi1, Bool.false_and, Bool.and_false])
              clear hi1 hg1
              go_wp2_with fail
              refine (specIn_any _ (comOf true rs) rs[k].head _ _ _ HPX.out).mono ?_
              rintro e w4 ⟨rfl, rfl⟩
              rw [HI1.out]
              go_wp2
              go_roundw
              case rel => exact ⟨k + 1, by omega, by go_num, by rw [useTo_f HUF.out]; exact HIT.out, hbx⟩
              case measure => simp [intOf]; omega
            · have HI1 := Lib.hid hi1
              cases hi2 : inB (reachBy rs (ixOf (goodL rs))) rs[k].head
              · have HI2 := Lib.hid hi2
                have HUF : Hid (useB rs k = false) := Lib.hid (by rw [HUB.out, hi2, Bool.and_false, Bool.and_false])
                clear hi1 hg1 hi2
                go_wp2_with fail
                refine (specIn_any _ (comOf true rs) rs[k].head _ _ _ HPX.out).mono ?_
                rintro e w4 ⟨rfl, rfl⟩
                rw [HI1.out]
                go_wp2_with fail
                refine (specIn_any _ (reachBy rs (ixOf (goodL rs))) rs[k].head _ _ _ HRX.out).mono ?_
                rintro e w4 ⟨rfl, rfl⟩
                rw [HI2.out]
                go_wp2
                go_roundw
                case rel => exact ⟨k + 1, by omega, by go_num, by rw [useTo_f HUF.out]; exact HIT.out, hbx⟩
                case measure => simp [intOf]; omega
              · have HI2 := Lib.hid hi2
                have HUT : Hid (useB rs k = true) := Lib.hid (by rw [HUB.out, hi2, hi1, hg1]; rfl)
                clear hi1 hg1 hi2
                go_wp2_with fail
                refine (specIn_any _ (comOf true rs) rs[k].head _ _ _ HPX.out).mono ?_
                rintro e w4 ⟨rfl, rfl⟩
                rw [HI1.out]
                go_wp2_with fail
                refine (specIn_any _ (reachBy rs (ixOf (goodL rs))) rs[k].head _ _ _ HRX.out).mono ?_
                rintro e w4 ⟨rfl, rfl⟩
                rw [HI2.out]
                obtain ⟨L, hL⟩ : ∃ L, useTo rs k = L := ⟨_, rfl⟩
                rw [hL] at hln HIT ⊢
                have HLL := Lib.hid hL
                clear hL
                go_wp2_with (at_builtin; refine wpList_append_own _ rfl _ _ 39 rfl w2.heap.size 2 j0 _ 1 8 Try.underlying39 hj0 hy0 hy1 hy2 rfl (by decide) _ _ _ rfl (World.ownsRow.alloc HIT.out _) ⟨wx.heap.size, 0, none⟩ 1 1 [.int .i64 (k : Int)] rfl rfl (cell_one_new _ _ _) (one_i64 _) (by unfold maxLen; omega) (by omega) (by simp; omega) ?_)
                intro v1 w3 hown1 hg1 _
                have s1 : Its w3 w2.heap.size v1 (useTo rs (k + 1)) := by
                  rw [useTo_t HUT.out, HLL.out]
                  exact Its.one _ hown1
                have B1 : Below w2.heap.size w2 w3 := Tx.below_grown (hbx.trans ((al1 wx _).mono hsx)) (World.ownsRow.alloc HIT.out _) hg1 (by simp; omega) (by omega)
                clear hown1 hg1 hbx
                go_wp2
                go_roundw
                case rel => exact ⟨k + 1, by omega, by go_num, s1, B1⟩
                case measure => simp [intOf]; omega
        · have hks : k = rs.length := by omega
          subst hks
          rw [useTo_all HQ.out] at hit
          obtain ⟨g, ho, hg⟩ := hit.own
          clear hit
          go_wp2
          go_ret
          exact ⟨_, g, rfl, ho, fun hn => by have := hg hn; omega, hbX⟩

theorem usefulOf_f {rs : List RuleD} (h : gramB rs = false) : usefulOf rs = [] := by unfold usefulOf; rw [useOf_f h]; rfl
set_option maxHeartbeats 1000000 in
theorem specUseful_any (rs : List RuleD) (v : Value) (lo hi : Nat) (w : World) (h : Rules w lo hi v rs) (hh : hi ≤ w.heap.size) :
    Calls Try.prog 40 #[.agg #[v]] w (MadeI w (usefulOf rs)) := by
  have HV := Lib.hid h
  obtain ⟨A, c, rfl, -⟩ := h
  have hb := al1 w (.cells #[.slice A rs.length c] 25)
  have R0 := Row.made w 25 #[.slice A rs.length c]
  cases hq : gramB rs
  · rw [usefulOf_f hq]
    have HQ := Lib.hid hq
    clear hq
    go_enter Try.func40, Try.ntmps40
    go_wp2_with fail
    refine (specGramRight_any rs _ lo hi _ (HV.out.below hb hh) (by simp; omega)).mono ?_
    rintro e w1 ⟨rfl, b1⟩
    rw [HQ.out]
    go_wp2
    go_ret
    exact ⟨_, 0, rfl, ⟨_, 0, rfl, Nat.le_refl _, by unfold maxLen; omega, fun h => by simp at h⟩, fun hn => absurd rfl hn, (hb.trans (b1.mono (by simp))).trans ((al1 w1 _).mono (hb.trans (b1.mono (by simp))).size)⟩
  · have HQ := Lib.hid hq
    clear hq
    go_enter Try.func40, Try.ntmps40
    go_wp2_with fail
    refine (specGramRight_any rs _ lo hi _ (HV.out.below hb hh) (by simp; omega)).mono ?_
    rintro e w1 ⟨rfl, b1⟩
    rw [HQ.out]
    have c1 := (R0.below b1 (by simp)).cell 0
    simp at c1
    have hb1 := hb.trans (b1.mono (by simp))
    have z1 := hb1.size
    go_wp2_with fail
    refine (specL03Useful_any rs _ lo hi _ (HV.out.below hb1 hh) (by omega) HQ.out).mono ?_
    rintro e w2 ⟨u, g, rfl, ho, hg, b2⟩
    go_wp2
    go_ret
    exact ⟨u, g, rfl, ho, fun hn => by have := hg hn; omega, hb1.trans (b2.mono z1)⟩
end Go.Proofs.Ytcgmnpfeiiomgaa

/- How the model finds what may stand at the left end: what its lists hold at each place. -/
namespace Go.Proofs.Ytcgmnpfeiiomgaa
open Go.RowKit

theorem com_mem {tok : Bool} {rs : List RuleD} (h : gramB rs = true) {s : ByteArray} : inB (comOf tok rs) s = true ↔ Com tok rs s := by
  rw [inB_iff]
  unfold comOf
  rw [headsOf_t h, List.mem_filter]
  constructor
  · rintro ⟨_, h2⟩; simpa using h2
  · intro h2; exact ⟨h2.in, by simpa using h2⟩
abbrev AftL (rs : List RuleD) (h s : ByteArray) : Prop := Aft rs (List.range rs.length) (tkLeft (Com false rs)) h s
theorem aftL_body {rs : List RuleD} {h s : ByteArray} (ha : AftL rs h s) : s ∈ rs.flatMap (·.body) := by
  rw [List.mem_flatMap]
  cases ha with
  | one i hi _ _ _ ht => obtain ⟨k, hk, rfl, _⟩ := ht; exact ⟨_, List.getElem_mem hi, List.getElem_mem hk⟩
  | more i hi _ _ _ ht => obtain ⟨k, hk, rfl, _⟩ := ht; exact ⟨_, List.getElem_mem hi, List.getElem_mem hk⟩
theorem aft_head {rs : List RuleD} {ix : List Nat} {tk : List ByteArray → ByteArray → Prop} {h s : ByteArray} (ha : Aft rs ix tk h s) : ∃ i, ∃ hi : i < rs.length, rs[i].head = h := by
  induction ha with
  | one i hi _ he _ _ => exact ⟨i, hi, he⟩
  | more _ _ _ _ _ _ ih => exact ih
theorem flat_len (rs : List RuleD) (h : ∀ i (hi : i < rs.length), rs[i].body.length ≤ 5) : (rs.flatMap (·.body)).length ≤ rs.length * 5 := by
  induction rs with
  | nil => simp
  | cons r rs ih =>
    have h0 := h 0 (by simp)
    have h1 := ih fun i hi => by have := h (i + 1) (by simpa using hi); simpa using this
    simp only [List.flatMap_cons, List.length_append, List.length_cons, List.getElem_cons_zero] at h0 h1 ⊢
    omega
structure WayL (rs : List RuleD) (h : ByteArray) (ins : List ByteArray) : Prop where
  nodup : ins.Nodup
  aft : ∀ s ∈ ins, AftL rs h s
theorem WayL.nil (rs : List RuleD) (h : ByteArray) : WayL rs h [] := ⟨by simp, by simp⟩
theorem WayL.len {rs : List RuleD} {h : ByteArray} {ins : List ByteArray} (H : WayL rs h ins) (R : Rt rs) : ins.length ≤ 100 := by
  have h1 : ins.length ≤ (rs.flatMap (·.body)).length := H.nodup.length_le_of_subset fun s hs => aftL_body (H.aft s hs)
  have h2 := flat_len rs R.len
  have h3 := R.few
  omega
theorem WayL.size {rs : List RuleD} {h : ByteArray} {ins : List ByteArray} (H : WayL rs h ins) (R : Rt rs) : ∀ s ∈ ins, s.size ≤ maxLen := fun s hs => by
  have := aftL_body (H.aft s hs)
  rw [List.mem_flatMap] at this
  obtain ⟨r, hr, hs⟩ := this
  obtain ⟨i, hi, rfl⟩ := List.getElem_of_mem hr
  have k := R.body i hi s hs
  unfold symOK at k
  rw [Bool.or_eq_true] at k
  have : s.size ≤ 4 := by
    rcases k with k | k
    · exact headB_size k
    · exact tokB_size k
  unfold maxLen; omega
/-- at a head all rules ahead of k have been gone through -/
def ShutL (rs : List RuleD) (ins : List ByteArray) (t : ByteArray) (k : Nat) : Prop :=
  ∀ i (hi : i < rs.length), i < k → rs[i].head = t → ∀ s, tkLeft (Com false rs) rs[i].body s → headB s = true → s ∈ ins
theorem ShutL.mono {rs : List RuleD} {ins ins' : List ByteArray} {t : ByteArray} {k : Nat} (h : ShutL rs ins t k) (hs : ∀ s ∈ ins, s ∈ ins') : ShutL rs ins' t k :=
  fun i hi hk he s ht hh => hs s (h i hi hk he s ht hh)
/-- the heads ahead of the i-th have been gone through -/
structure OldL (rs : List RuleD) (h : ByteArray) (i : Nat) (ins : List ByteArray) : Prop where
  way : WayL rs h ins
  few : i ≤ ins.length + 1
  old : ∀ p, p < i → ∀ u, (h :: ins)[p]? = some u → ShutL rs ins u rs.length
/-- at the i-th, t, the rules ahead of k have been gone through -/
structure NowL (rs : List RuleD) (h t : ByteArray) (i k : Nat) (ins : List ByteArray) : Prop where
  way : WayL rs h ins
  cur : (h :: ins)[i]? = some t
  old : ∀ p, p < i → ∀ u, (h :: ins)[p]? = some u → ShutL rs ins u rs.length
  now : ShutL rs ins t k
theorem NowL.lt {rs : List RuleD} {h t : ByteArray} {i k : Nat} {ins : List ByteArray} (H : NowL rs h t i k ins) : i < ins.length + 1 := by
  rcases Nat.lt_or_ge i (ins.length + 1) with h1 | h1
  · exact h1
  · have := H.cur
    rw [List.getElem?_eq_none (by simpa using h1)] at this; cases this
theorem OldL.start (rs : List RuleD) (h : ByteArray) : OldL rs h 0 [] := ⟨WayL.nil _ _, by simp, fun p hp => by omega⟩
theorem OldL.now {rs : List RuleD} {h : ByteArray} {i : Nat} {ins : List ByteArray} (H : OldL rs h i ins) {t : ByteArray} (ht : (h :: ins)[i]? = some t) : NowL rs h t i 0 ins :=
  ⟨H.way, ht, H.old, fun i _ h => by omega⟩
theorem NowL.done {rs : List RuleD} {h t : ByteArray} {i : Nat} {ins : List ByteArray} (H : NowL rs h t i rs.length ins) : OldL rs h (i + 1) ins := by
  refine ⟨H.way, by have := H.lt; omega, fun p hp u hu => ?_⟩
  by_cases e : p = i
  · subst e
    have := H.cur
    rw [hu] at this
    injection this with this
    subst this
    exact H.now
  · exact H.old p (by omega) u hu
theorem NowL.next {rs : List RuleD} {h t : ByteArray} {i k : Nat} {ins : List ByteArray} (H : NowL rs h t i k ins) (hn : ∀ hk : k < rs.length, rs[k].head = t → ∀ s, tkLeft (Com false rs) rs[k].body s → headB s = true → s ∈ ins) : NowL rs h t i (k + 1) ins := by
  refine ⟨H.way, H.cur, H.old, fun j hj hjk => ?_⟩
  by_cases e : j = k
  · subst e; exact hn hj
  · exact H.now j hj (by omega)
theorem NowL.add {rs : List RuleD} {h t : ByteArray} {i k n : Nat} {ins : List ByteArray} (H : NowL rs h t i k ins) (hk : k < rs.length) (he : rs[k].head = t) (hn : n < rs[k].body.length)
    (hall : ∀ m (hm : m < rs[k].body.length), m < n → Com false rs rs[k].body[m]) (hno : inB ins rs[k].body[n] = false) : NowL rs h t i k (ins ++ [rs[k].body[n]]) := by
  have hlt := H.lt
  have hat : ∀ p, p ≤ i → (h :: (ins ++ [rs[k].body[n]]))[p]? = (h :: ins)[p]? := fun p hp => by
    rw [← List.cons_append, List.getElem?_append_left (by simp; omega)]
  have hsub : ∀ s ∈ ins, s ∈ ins ++ [rs[k].body[n]] := fun s hs => List.mem_append_left _ hs
  refine ⟨⟨?_, ?_⟩, by rw [hat i (Nat.le_refl _)]; exact H.cur, fun p hp u hu => ?_, H.now.mono hsub⟩
  · rw [List.nodup_append]
    refine ⟨H.way.nodup, by simp, fun a ha b hb e => ?_⟩
    rw [List.mem_singleton] at hb
    subst hb e
    rw [(inB_iff _ _).2 ha] at hno; cases hno
  · intro s hs
    rw [List.mem_append, List.mem_singleton] at hs
    rcases hs with hs | rfl
    · exact H.way.aft s hs
    · refine Aft.step hk (List.mem_range.2 hk) ?_ ⟨n, hn, rfl, fun m hm => hall m (by omega) hm⟩
      have h1 := List.mem_of_getElem? H.cur
      rw [List.mem_cons] at h1
      rw [he]
      rcases h1 with h1 | h1
      · exact .inl h1
      · exact .inr (H.way.aft t h1)
  · rw [hat p (by omega)] at hu
    exact (H.old p hp u hu).mono hsub
open Classical in
theorem OldL.out {rs : List RuleD} {h : ByteArray} {i : Nat} {ins : List ByteArray} (H : OldL rs h i ins) (R : Rt rs) (hq : gramB rs = true) (hi : i = ins.length + 1) : ((hsOf rs).filter fun s => inB ins s) = leftOf rs h := by
  unfold leftOf
  rw [headsOf_t hq]
  apply List.filter_congr
  intro s hs
  rw [Bool.eq_iff_iff, decide_eq_true_eq, inB_iff]
  have shut : ∀ t ∈ h :: ins, ShutL rs ins t rs.length := fun t ht => by
    obtain ⟨p, hp, e⟩ := List.getElem_of_mem ht
    exact H.old p (by simp at hp; omega) t (by rw [List.getElem?_eq_getElem hp, e])
  constructor
  · intro h1; exact H.way.aft s h1
  · intro ha
    have hh := R.hs_head hs
    clear hs
    induction ha with
    | one j hj hx he s ht => exact shut h (by simp) j hj hj he s ht hh
    | more j hj hx ha s ht ih => exact shut _ (List.mem_cons_of_mem _ (ih (R.head j hj))) j hj hj rfl s ht hh
open Classical in
theorem leftOf_big {rs : List RuleD} {h : ByteArray} (hb : 8000 < h.size) : leftOf rs h = [] := by
  unfold leftOf
  cases hq : gramB rs
  · rw [headsOf_f hq]; rfl
  · rw [List.filter_eq_nil_iff]
    intro s _
    rw [decide_eq_true_eq]
    intro ha
    obtain ⟨i, hi, e⟩ := aft_head ha
    have := headB_size ((Rt.of hq).head i hi)
    rw [e] at this
    omega
theorem leftOf_f {rs : List RuleD} {h : ByteArray} (hq : gramB rs = false) : leftOf rs h = [] := by unfold leftOf; rw [headsOf_f hq]; rfl
end Go.Proofs.Ytcgmnpfeiiomgaa
