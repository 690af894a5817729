/- The walks of the model's l03Useful and Useful. -/
import Derived.Test.YtbaofldcdcllfaaReachT
import Derived.Test.YtbaofldcdcllfaaJGmf
namespace Go.Proofs.Ytbaofldcdcllfaa
open Go.RowKit

theorem comOf_mem {tok : Bool} {rs : List RuleD} (h : gramB rs = true) {s : ByteArray} : s ∈ comOf tok rs ↔ Com tok rs s := by
  unfold comOf
  rw [headsOf_t h, List.mem_filter]
  constructor
  · rintro ⟨_, h2⟩; simpa using h2
  · intro h2; exact ⟨h2.in, by simpa using h2⟩
noncomputable def goodAt (rs : List RuleD) (k : Nat) : Bool := allB (ruleAt rs k).body (comOf true rs) true
noncomputable def goodL (rs : List RuleD) : List Bool := (List.range rs.length).map (goodAt rs)
theorem goodL_len (rs : List RuleD) : (goodL rs).length = rs.length := by simp [goodL]
theorem goodL_at {rs : List RuleD} {k : Nat} (h : k < (goodL rs).length) : (goodL rs)[k] = goodAt rs k := by simp [goodL]
theorem goodAt_iff {rs : List RuleD} (h : gramB rs = true) (k : Nat) : goodAt rs k = true ↔ Good rs k := by
  unfold goodAt Good
  rw [allB_iff]
  constructor
  · intro hh s hs
    cases ht : tokB s
    · exact .inr ((comOf_mem h).1 (hh s hs (by rw [ht]; rfl)))
    · exact .inl rfl
  · intro hh s hs ht
    rcases hh s hs with h1 | h1
    · rw [h1] at ht; cases ht
    · exact (comOf_mem h).2 h1
open Classical in
theorem ixOf_good {rs : List RuleD} (h : gramB rs = true) : ixOf (goodL rs) = goodIx rs := by
  unfold ixOf goodIx
  rw [goodL_len]
  apply List.filter_congr
  intro i hi
  rw [List.mem_range] at hi
  rw [Bool.eq_iff_iff, decide_eq_true_eq, ← goodAt_iff h]
  have : (goodL rs).getD i false = goodAt rs i := by simp [goodL, hi]
  rw [this]
noncomputable def useB (rs : List RuleD) (k : Nat) : Bool := goodAt rs k && (inB (comOf true rs) (ruleAt rs k).head && inB (reachBy rs (ixOf (goodL rs))) (ruleAt rs k).head)
noncomputable def useTo (rs : List RuleD) (k : Nat) : List Int := ((List.range k).filter (useB rs)).map fun (i : Nat) => (i : Int)
theorem useTo_t {rs : List RuleD} {k : Nat} (h : useB rs k = true) : useTo rs (k + 1) = useTo rs k ++ [(k : Int)] := by
  unfold useTo; rw [List.range_succ, List.filter_append]; simp [h]
theorem useTo_f {rs : List RuleD} {k : Nat} (h : useB rs k = false) : useTo rs (k + 1) = useTo rs k := by
  unfold useTo; rw [List.range_succ, List.filter_append]; simp [h]
theorem useTo_len (rs : List RuleD) (k : Nat) : (useTo rs k).length ≤ k := by
  unfold useTo
  rw [List.length_map]
  refine Nat.le_trans (List.length_filter_le _ _) ?_
  rw [List.length_range]; exact Nat.le_refl _
open Classical in
theorem useTo_all {rs : List RuleD} (h : gramB rs = true) : useTo rs rs.length = usefulOf rs := by
  unfold useTo usefulOf
  rw [useOf_t h]
  congr 1
  unfold useIx goodIx
  rw [List.filter_filter]
  apply List.filter_congr
  intro i hi
  rw [List.mem_range] at hi
  rw [Bool.eq_iff_iff]
  unfold useB
  rw [Bool.and_eq_true, Bool.and_eq_true, Bool.and_eq_true, goodAt_iff h, decide_eq_true_eq, decide_eq_true_eq, ixOf_good h, ruleAt_eq hi]
  have hm := hs_all hi
  have h1 : inB (reachBy rs (goodIx rs)) rs[i].head = true ↔ Rch rs (goodIx rs) rs[i].head := by
    rw [inB_iff]
    unfold reachBy
    rw [List.mem_filter]
    simp [hm]
  have h2 : Good rs i → inB (comOf true rs) rs[i].head = true := fun hg => by
    rw [inB_iff, comOf_mem h]
    refine .mk i hi fun s hs ht => ?_
    unfold Good at hg
    rw [ruleAt_eq hi] at hg
    rcases hg s hs with e | e
    · rw [e] at ht; cases ht
    · exact e
  rw [h1]
  change _ ↔ Rch rs (goodIx rs) rs[i].head ∧ _
  constructor
  · rintro ⟨a, _, b⟩; exact ⟨b, a⟩
  · rintro ⟨b, a⟩; exact ⟨a, h2 a, b⟩

set_option maxRecDepth 100000 in
set_option maxHeartbeats 4000000 in
theorem specL03Useful_any (rs : List RuleD) (v : Value) (lo hi : Nat) (w : World) (h : Rules w lo hi v rs) (hh : hi ≤ w.heap.size) (hq : gramB rs = true) :
    Calls Try.prog 64 #[.agg #[v]] w (MadeI w (usefulOf rs)) := by
  obtain ⟨j0, hj0, hy0, hy1, hy2⟩ := info_parts Try.infoI64
  have HV := Lib.hid h
  have RT := Lib.hid (Rt.of hq)
  have hl20 := RT.out.few
  have HQ := Lib.hid hq
  obtain ⟨A, c, rfl, hlc, hc, hcell⟩ := h
  unfold maxLen at hc
  have HC := Lib.hid hcell
  have hb := al1 w (.cells #[.slice A rs.length c] 41)
  have R0 := Row.made w 41 #[.slice A rs.length c]
  have hmk := makeBools rs.length (by omega)
  have HL : Hid (rs.length = (goodL rs).length) := Lib.hid (goodL_len rs).symm
  clear hq hcell
  go_enter Try.func64, Try.ntmps64
  go_wp2_with fail
  refine (specFix_any rs _ true lo hi _ (HV.out.below hb hh) (by simp; omega) HQ.out).mono ?_
  rintro e w1 ⟨u, g, rfl, ho, hg, b1⟩
  have R1 := R0.below b1 (by simp)
  have c1 := R1.cell 0
  simp at c1
  have hb1 := hb.trans (b1.mono (by simp))
  have z1 := hb1.size
  have hl1 := R1.lt
  have HP := Lib.hid (ho.strs (lo := 0) (hi := w1.heap.size) fun hn => by have := hg hn; omega)
  obtain ⟨PA, pc, rfl, -⟩ := ho
  have HR1 := Lib.hid R1
  clear b1 hb R0 hg R1
  go_wp2
  go_loopw [5, 17] (fun _ i wr => ∃ k : Nat, k ≤ rs.length ∧ i = .int .i64 k ∧ GoodTo wr w1.heap.size (goodL rs) k ∧ Below w1.heap.size w1 wr) (fun _ i _ => rs.length - (intOf i).toNat)
  case atStart => exact ⟨0, by omega, rfl, GoodTo.start _ _ _ _ HL.out, al1 _ _⟩
  case round =>
    obtain ⟨k, hk, rfl, hgd, hbw⟩ := hrel
    have hsw := hbw.size
    obtain ⟨cur, hrow, hcs⟩ := hgd.row
    rw [← HL.out] at hcs
    have hgl := hrow.lt
    have cW := (HR1.out.below hbw hl1).cell 0
    simp at cW
    have hbW := hb1.trans (hbw.mono z1)
    by_cases hlt : k < rs.length
    · obtain ⟨b, off, rfl, _, hbh, hcc⟩ := HC.out (by omega)
      obtain ⟨hhs, d0, u, d1, hst⟩ := hcc k hlt
      have d1' := (hbW.cell (p := ⟨b, off + k * 2 + 1, none⟩) (by show b < _; omega)).trans d1
      have hst' := hst.below hbW hh
      have HST := Lib.hid hst'
      obtain ⟨A', c', rfl, -⟩ := hst'
      obtain ⟨u0, hd0⟩ := hrow.there (show k < cur.size by omega)
      have hf0 := hrow.free k
      have HGA : Hid (allB rs[k].body (comOf true rs) true = goodAt rs k) := Lib.hid (by unfold goodAt; rw [ruleAt_eq hlt])
      have hstep := hgd.step (b := goodAt rs k) (by rw [← HL.out]; exact hlt) (goodL_at _)
      have HPW := Lib.hid (HP.out.below hbw (Nat.le_refl _))
      clear hcs hrow hgd d0 d1 hst hcc
      go_wp2_with fail
      refine (specAll_any _ _ rs[k].body (comOf true rs) true _ _ _ _ _ HST.out HPW.out).mono ?_
      rintro e w2 ⟨rfl, rfl⟩
      rw [HGA.out]
      go_wp2
      go_roundw
      case rel => exact ⟨k + 1, by omega, by go_num, hstep, hbw.setCell (Nat.le_refl _) _⟩
      case measure => simp [intOf]; omega
    · have hks : k = rs.length := by omega
      subst hks
      have GD := (show GoodTo wr w1.heap.size _ (goodL rs).length by rw [← HL.out]; exact hgd)
      have BG := GD.done (by rw [← HL.out]; unfold maxLen; omega) HL.out
      have HBG := Lib.hid BG
      have HGD := Lib.hid GD
      have HRW := Lib.hid (HR1.out.below hbw hl1)
      have HPW := Lib.hid (HP.out.below hbw (Nat.le_refl _))
      clear hcs hrow hgd BG GD
      go_wp2_with fail
      refine (specReach_any rs _ _ _ lo hi (w1.heap.size + 1) _ (HV.out.below hbW hh) (by omega) HQ.out HBG.out (by omega) HL.out.symm).mono ?_
      rintro e w2 ⟨ur, gr, rfl, hor, hgr, b2⟩
      have HRR := Lib.hid (hor.strs (lo := 0) (hi := w2.heap.size) fun hn => by have := hgr hn; omega)
      obtain ⟨RA, rc, rfl, -⟩ := hor
      have R2 := HRW.out.below b2 (by omega)
      have G2 := HGD.out.below b2 (by omega)
      have HP2 := Lib.hid (HPW.out.below b2 (by omega))
      have hb2 := hbW.trans (b2.mono (by omega))
      have z2 := b2.size
      have HR2 := Lib.hid R2
      have HG2 := Lib.hid G2
      clear hgr b2 R2 G2
      go_wp2
      go_loopw [7, 8] (fun x i wr => ∃ k : Nat, k ≤ rs.length ∧ i = .int .i64 k ∧ Its wr w2.heap.size x (useTo rs k) ∧ Below w2.heap.size w2 wr) (fun _ i _ => rs.length - (intOf i).toNat)
      case atStart => exact ⟨0, by omega, rfl, Its.lit0 _ (Nat.le_refl _), al1 _ _⟩
      case round =>
        obtain ⟨k, hk, rfl, hit, hbx⟩ := hrel
        rename World => wx
        have hsx := hbx.size
        have cX := (HR2.out.below hbx (by omega)).cell 0
        simp at cX
        have hbX := hb2.trans (hbx.mono (by omega))
        have hln := useTo_len rs k
        by_cases hlt : k < rs.length
        · obtain ⟨b, off, rfl, _, hbh, hcc⟩ := HC.out (by omega)
          obtain ⟨hhs, d0, u, d1, hst⟩ := hcc k hlt
          have d0' := (hbX.cell (p := ⟨b, off + k * 2, none⟩) (by show b < _; omega)).trans d0
          obtain ⟨cur2, hrow2, hcs2, hcv⟩ := HG2.out
          have gk : wx.cell? ⟨w1.heap.size, k, none⟩ = some (.bool (goodAt rs k)) := by
            rw [hbx.cell (by show w1.heap.size < _; omega), hrow2.cell, hcv k (by rw [← HL.out]; exact hlt) (by rw [← HL.out]; exact hlt), goodL_at]
          have HPX := Lib.hid (HP2.out.below hbx (by omega))
          have HRX := Lib.hid (HRR.out.below hbx (Nat.le_refl _))
          have HUB : Hid (useB rs k = (goodAt rs k && (inB (comOf true rs) rs[k].head && inB (reachBy rs (ixOf (goodL rs))) rs[k].head))) := Lib.hid (by unfold useB; rw [ruleAt_eq hlt])
          have HIT := Lib.hid hit
          obtain ⟨Bz, dz, rfl⟩ := hit.form
          clear hrow2 hcs2 hcv d0 d1 hst hcc hit
          cases hg1 : goodAt rs k
          · rw [hg1] at gk
            have HUF : Hid (useB rs k = false) := Lib.hid (by rw [HUB.out, hg1]; rfl)
            clear hg1
            go_wp2
            go_roundw
            case rel => exact ⟨k + 1, by omega, by go_num, by rw [useTo_f HUF.out]; exact HIT.out, hbx⟩
            case measure => simp [intOf]; omega
          · rw [hg1] at gk
            have HG1 := Lib.hid hg1
            cases hi1 : inB (comOf true rs) rs[k].head
            · have HI1 := Lib.hid hi1
              have HUF : Hid (useB rs k = false) := Lib.hid (by rw [HUB.out, hi1, Bool.false_and, Bool.and_false])
              clear hi1 hg1
              go_wp2_with fail
              refine (specIn_any _ (comOf true rs) rs[k].head _ _ _ HPX.out).mono ?_
              rintro e w4 ⟨rfl, rfl⟩
              rw [HI1.out]
              go_wp2
              go_roundw
              case rel => exact ⟨k + 1, by omega, by go_num, by rw [useTo_f HUF.out]; exact HIT.out, hbx⟩
              case measure => simp [intOf]; omega
            · have HI1 := Lib.hid hi1
              cases hi2 : inB (reachBy rs (ixOf (goodL rs))) rs[k].head
              · have HI2 := Lib.hid hi2
                have HUF : Hid (useB rs k = false) := Lib.hid (by rw [HUB.out, hi2, Bool.and_false, Bool.and_false])
                clear hi1 hg1 hi2
                go_wp2_with fail
                refine (specIn_any _ (comOf true rs) rs[k].head _ _ _ HPX.out).mono ?_
                rintro e w4 ⟨rfl, rfl⟩
                rw [HI1.out]
                go_wp2_with fail
                refine (specIn_any _ (reachBy rs (ixOf (goodL rs))) rs[k].head _ _ _ HRX.out).mono ?_
                rintro e w4 ⟨rfl, rfl⟩
                rw [HI2.out]
                go_wp2
                go_roundw
                case rel => exact ⟨k + 1, by omega, by go_num, by rw [useTo_f HUF.out]; exact HIT.out, hbx⟩
                case measure => simp [intOf]; omega
              · have HI2 := Lib.hid hi2
                have HUT : Hid (useB rs k = true) := Lib.hid (by rw [HUB.out, hi2, hi1, hg1]; rfl)
                clear hi1 hg1 hi2
                go_wp2_with fail
                refine (specIn_any _ (comOf true rs) rs[k].head _ _ _ HPX.out).mono ?_
                rintro e w4 ⟨rfl, rfl⟩
                rw [HI1.out]
                go_wp2_with fail
                refine (specIn_any _ (reachBy rs (ixOf (goodL rs))) rs[k].head _ _ _ HRX.out).mono ?_
                rintro e w4 ⟨rfl, rfl⟩
                rw [HI2.out]
                obtain ⟨L, hL⟩ : ∃ L, useTo rs k = L := ⟨_, rfl⟩
                rw [hL] at hln HIT ⊢
                have HLL := Lib.hid hL
                clear hL
                go_wp2_with (at_builtin; refine wpList_append_own _ rfl _ _ 103 rfl w2.heap.size 2 j0 _ 1 8 Try.underlying103 hj0 hy0 hy1 hy2 rfl (by decide) _ _ _ rfl (World.ownsRow.alloc HIT.out _) ⟨wx.heap.size, 0, none⟩ 1 1 [.int .i64 (k : Int)] rfl rfl (cell_one_new _ _ _) (one_i64 _) (by unfold maxLen; omega) (by omega) (by simp; omega) ?_)
                intro v1 w3 hown1 hg1 _
                have s1 : Its w3 w2.heap.size v1 (useTo rs (k + 1)) := by
                  rw [useTo_t HUT.out, HLL.out]
                  exact Its.one _ hown1
                have B1 : Below w2.heap.size w2 w3 := Tx.below_grown (hbx.trans ((al1 wx _).mono hsx)) (World.ownsRow.alloc HIT.out _) hg1 (by simp; omega) (by omega)
                clear hown1 hg1 hbx
                go_wp2
                go_roundw
                case rel => exact ⟨k + 1, by omega, by go_num, s1, B1⟩
                case measure => simp [intOf]; omega
        · have hks : k = rs.length := by omega
          subst hks
          rw [useTo_all HQ.out] at hit
          obtain ⟨g, ho, hg⟩ := hit.own
          clear hit
          go_wp2
          go_ret
          exact ⟨_, g, rfl, ho, fun hn => by have := hg hn; omega, hbX⟩

theorem usefulOf_f {rs : List RuleD} (h : gramB rs = false) : usefulOf rs = [] := by unfold usefulOf; rw [useOf_f h]; rfl
end Go.Proofs.Ytbaofldcdcllfaa
