import Derived.Test.YtcgmnpfeiiomgaaJCycP
import Derived.Test.YtcgmnpfeiiomgaaJLeftS
import Derived.Test.YtcgmnpfeiiomgaaJInts
import Derived.BigQuiet
import Derived.RegionTactic
import Derived.Test.YtcgmnpfeiiomgaaJLeftP
import Derived.Test.YtcgmnpfeiiomgaaJLwI
/- The walk of the model's l03Comes. -/
namespace Go.Proofs.Ytcgmnpfeiiomgaa
open Go.RowKit

set_option maxRecDepth 100000 in
set_option maxHeartbeats 8000000 in
open Classical in
theorem specComes_any (rs : List RuleD) (v rv : Value) (ix : List Nat) (hd : ByteArray) (hhd : headB hd = true) (lo hi lo2 hi2 : Nat) (w : World) (h : Rules w lo hi v rs) (hh : hi ≤ w.heap.size) (hq : gramB rs = true)
    (hr : IntsAt w lo2 hi2 rv (ix.map fun (i : Nat) => (i : Int))) (hh2 : hi2 ≤ w.heap.size) (hix : ∀ i ∈ ix, i < rs.length) (hil : ix.length ≤ 20) :
    Calls Try.prog 158 #[.agg #[v], rv, .string hd] w fun e w' => e = .returned (.bool (decide (AftC rs ix hd hd))) ∧ Below w.heap.size w w' := by
  obtain ⟨i0, hi0, hz0, hz1, hz2⟩ := info_parts Try.infoStr
  have HV := Lib.hid h
  have HQ := Lib.hid hq
  have RT := Lib.hid (Rt.of hq)
  have hl20 := RT.out.few
  have HIX := Lib.hid hix
  have hd4 := headB_size hhd
  obtain ⟨A, c, rfl, hlc, hc, hcell⟩ := h
  unfold maxLen at hc
  have HC := Lib.hid hcell
  obtain ⟨RA, rc, rfl, hrlc, hrc, hrcell⟩ := hr
  rw [List.length_map] at hrlc
  have hml : (ix.map fun (i : Nat) => (i : Int)).length = ix.length := List.length_map _
  have HRC : Hid (0 < ix.length → ∃ b off, RA = some ⟨b, off, none⟩ ∧ lo2 ≤ b ∧ b < hi2 ∧ ∀ i (h : i < ix.length), w.cell? ⟨b, off + i, none⟩ = some (.int .i64 (ix[i] : Int))) := Lib.hid fun hp => by
    obtain ⟨b, off, e, h1, h2, h3⟩ := hrcell (by rw [hml]; exact hp)
    exact ⟨b, off, e, h1, h2, fun i hi => by have := h3 i (by rw [hml]; exact hi); simpa using this⟩
  unfold maxLen at hrc
  rw [hml]
  clear hcell hrcell hml hq hix
  have hb := al1 w (.cells #[.slice A rs.length c] 25)
  have R0 := Row.made w 25 #[.slice A rs.length c]
  go_enter Try.func158, Try.ntmps158
  go_wp2_with fail
  refine (specFix_any rs _ false lo hi _ (HV.out.below hb hh) (by simp; omega) HQ.out).mono ?_
  rintro e w2 ⟨u, g, rfl, ho, hg, b2⟩
  have HNU := Lib.hid (ho.strs (lo := 0) (hi := w2.heap.size) fun hn => by have := hg hn; omega)
  obtain ⟨NA, nc, rfl, -⟩ := ho
  have R2 := R0.below b2 (by simp)
  have hb2 := hb.trans (b2.mono (by simp))
  have z2 := hb2.size
  have hl2 := R2.lt
  have HR2 := Lib.hid R2
  have HB2 := Lib.hid hb2
  clear hg R0 R2 b2 hb hb2
  go_wp2
  go_loopw [8, 9, 10, 11, 12, 13] (fun x i _ _ _ _ wr => ∃ (j : Nat) (ins : List ByteArray), i = .int .i64 (j : Int) ∧ OldC rs ix hd j ins ∧ Sts wr w2.heap.size x (hd :: ins) ∧ Below w2.heap.size w2 wr) (fun _ i _ _ _ _ _ => 103 - (intOf i).toNat)
  case atStart => exact ⟨0, [], rfl, OldC.start _ _ _, Sts.lit _ (Nat.le_refl _) _, al1 _ _⟩
  case round =>
    obtain ⟨i, ins0, rfl, hold, hsts, hbw⟩ := hrel
    have hsw := hbw.size
    rename World => wo
    have hlen := hold.way.len RT.out
    have hfew := hold.few
    have HOLD := Lib.hid hold
    have HSTS := Lib.hid hsts
    obtain ⟨Bx, dx, rfl⟩ : ∃ B d, _ = Value.slice B (ins0.length + 1) d := hsts.shape
    clear hold hsts
    by_cases hlt : i < ins0.length + 1
    · obtain ⟨t, ht⟩ : ∃ t, (hd :: ins0)[i]? = some t := ⟨(hd :: ins0)[i]'(by simpa using hlt), List.getElem?_eq_getElem _⟩
      have HN0 := Lib.hid (HOLD.out.now ht)
      have HBW := Lib.hid hbw
      have i9 : decide ((i : Int) < (ins0.length : Int) + 1) = true := decide_eq_true (by omega)
      clear ht hbw
      go_wp2
      go_loopw [8, 10, 11, 12, 13] (fun x k _ _ _ wr => ∃ (j : Nat) (ins : List ByteArray), k = .int .i64 (j : Int) ∧ j ≤ ix.length ∧ NowC rs ix hd t i j ins ∧ Sts wr w2.heap.size x (hd :: ins) ∧ Below w2.heap.size w2 wr) (fun _ k _ _ _ _ => ix.length - (intOf k).toNat)
      case atStart => exact ⟨0, ins0, rfl, by omega, HN0.out, HSTS.out, HBW.out⟩
      case round =>
        obtain ⟨j, ins1, rfl, hj, hnow, hsts, hbw⟩ := hrel
        have hsw := hbw.size
        rename World => wm
        have hlen1 := hnow.way.len RT.out
        have hlt1 := hnow.lt
        have HNOW := Lib.hid hnow
        have HST1 := Lib.hid hsts
        obtain ⟨gx, cx, hx, hgx, hgb, hcx⟩ : ∃ g cap, _ = Value.slice (some ⟨g, 0, none⟩) (ins1.length + 1) cap ∧ g < _ ∧ _ ≤ g ∧ _ := hsts.at hnow.cur
        subst hx
        have hbW := HB2.out.trans (hbw.mono z2)
        have hbWs := hbW.size
        have cG := (HR2.out.below hbw hl2).cell 0
        simp at cG
        clear hnow hsts
        by_cases hjl : j < ix.length
        · have hil' := HIX.out _ (List.getElem_mem hjl)
          obtain ⟨rb, roff, rfl, _, hrbh, hrcc⟩ := HRC.out (by omega)
          have e0 := (hbW.cell (p := ⟨rb, roff + j, none⟩) (by show rb < _; omega)).trans (hrcc j hjl)
          obtain ⟨b, off, rfl, _, hbh, hcc⟩ := HC.out (by omega)
          obtain ⟨hhs, d0, u, d1, hst⟩ := hcc ix[j] hil'
          have d0' := (hbW.cell (p := ⟨b, off + ix[j] * 2, none⟩) (by show b < _; omega)).trans d0
          have d1' := (hbW.cell (p := ⟨b, off + ix[j] * 2 + 1, none⟩) (by show b < _; omega)).trans d1
          have hbl5 := RT.out.len ix[j] hil'
          have HRA : Hid (ruleAt rs ix[j] = rs[ix[j]]) := Lib.hid (ruleAt_eq hil')
          clear d0 d1 hcc hrcc
          generalize hR : rs[ix[j]] = r at d0' d1' hst hbl5 HRA hhs
          generalize hI : ix[j] = ij at e0 d0' d1' hil' HRA hR
          have HST := Lib.hid hst
          obtain ⟨A', c', rfl, -⟩ := hst
          have q1 : (j : Int) < (ix.length : Int) := by omega
          have q2 : (ij : Int) < (rs.length : Int) := by omega
          have q3 : b < wm.heap.size := by omega
          have q4 : rb < wm.heap.size := by omega
          have q5 : w.heap.size < wm.heap.size := by omega
          go_wp2
          go_region
          have ha : Below wm.heap.size wm (wm.alloc (.cells #[.string r.head, .slice A' r.body.length c'] 47)).drew := (al1 wm _).drew
          have RA : Row (wm.alloc (.cells #[.string r.head, .slice A' r.body.length c'] 47)).drew wm.heap.size 47 #[.string r.head, .slice A' r.body.length c'] := Row.made wm _ _
          have HSA := Lib.hid (HST1.out.below ha)
          have hBA := hbw.trans (ha.mono hsw)
          have hcA := (ha.cell (p := ⟨gx, i, none⟩) hgx).trans hcx
          have HRUL := Lib.hid hR
          have HIJ := Lib.hid hI
          clear e0 d0' d1' hcx cG hbW hbw HST1 q3 q4 q5
          generalize (wm.alloc (.cells #[.string r.head, .slice A' r.body.length c'] 47)).drew = wA at *
          have ra0 := RA.cell 0
          have ra1 := RA.cell 1
          simp at ra0 ra1
          have hla := RA.lt
          have hgxA : gx < wA.heap.size := by have := ha.size; omega
          have i2 : (i : Int) < (ins1.length : Int) + 1 := by omega
          by_cases he : r.head = t
          · have d2 : (r.head.toList == t.toList) = true := by rw [he]; simp
            have HE := Lib.hid he
            clear he
            go_wp2
            go_quiet (fail)
            have HR3 : Hid (Row (wA.drewN nq) wm.heap.size 47 #[.string r.head, .slice A' r.body.length c']) := Lib.hid RA
            have HS3 : Hid (Sts (wA.drewN nq) w2.heap.size (.slice (some ⟨gx, 0, none⟩) (ins1.length + 1) cx) (hd :: ins1)) := Lib.hid HSA.out
            have hB3 : Below w2.heap.size w2 (wA.drewN nq) := ⟨hBA.os, hBA.tape, hBA.output, hBA.size, hBA.block⟩
            have hg3 : gx < (wA.drewN nq).heap.size := hgxA
            clear HSA hBA RA ha hcA ra0 ra1 hla hgxA
            generalize wA.drewN nq = wq at HR3 HS3 hB3 hg3 ⊢
            have r1 := HR3.out.cell 1
            simp at r1
            have hlq := HR3.out.lt
            have hsq := hB3.size
            have hbQ := HB2.out.trans (hB3.mono z2)
            have hbQs := hbQ.size
            go_wp2_with fail
            refine (specAlone_any _ _ r.body (comOf false rs) lo hi 0 w2.heap.size _ (HST.out.below hbQ hh) (HNU.out.below hB3 (Nat.le_refl _)) (by omega) (by omega) hbl5).mono ?_
            rintro e w5 ⟨ul, gl, rfl, hol, hgl, b5⟩
            have HLM : Hid (∀ s, s ∈ aloneTo r.body (comOf false rs) r.body.length ↔ headB s = true ∧ tkAlone (Com false rs) r.body s) := Lib.hid fun s => alone_mem fun s => (inB_iff _ _).symm.trans (com_mem HQ.out)
            have hLl := aloneTo_len r.body (comOf false rs) r.body.length
            generalize aloneTo r.body (comOf false rs) r.body.length = L at hol hgl HLM hLl
            have HLS := Lib.hid (hol.strs hgl)
            obtain ⟨AL, cL, rfl, hLc, hLm, hLz, -⟩ := hol
            unfold maxLen at hLm
            have HLZ := Lib.hid hLz
            have z5 := b5.size
            have HS5 := Lib.hid (HS3.out.below b5)
            have HB5 := Lib.hid (hB3.trans (b5.mono hsq))
            clear hgl b5 hLz
            go_wp2
            go_loopw [8, 13] (fun x n wr => ∃ (m : Nat) (ins : List ByteArray), n = .int .i64 (m : Int) ∧ m ≤ L.length ∧ NowC rs ix hd t i j ins ∧ (∀ q (hq : q < L.length), q < m → L[q] ∈ ins) ∧ Sts wr w2.heap.size x (hd :: ins) ∧ (∀ g, x.ownBlock = some g → g < wq.heap.size ∨ w5.heap.size ≤ g) ∧ Strs wr wq.heap.size w5.heap.size (.slice AL L.length cL) L ∧ Below w2.heap.size w2 wr ∧ w5.heap.size ≤ wr.heap.size) (fun _ n _ => L.length - (intOf n).toNat)
            case atStart => exact ⟨0, ins1, rfl, by omega, HNOW.out, fun q _ hq => by omega, HS5.out, fun g hg => .inl (by simp [Value.ownBlock] at hg; omega), HLS.out, HB5.out, Nat.le_refl _⟩
            case round =>
              obtain ⟨m, ins, rfl, hm, hnow, hin, hsts, hrng, hLs, hbr, hwr⟩ := hrel
              have hlen2 := hnow.way.len RT.out
              have HN2 := Lib.hid hnow
              have HIN := Lib.hid hin
              have HS6 := Lib.hid hsts
              have HL6 := Lib.hid hLs
              have HRNG := Lib.hid hrng
              have hszr := hbr.size
              obtain ⟨Bx2, dx2, rfl⟩ : ∃ B d, _ = Value.slice B (ins.length + 1) d := hsts.shape
              obtain ⟨A6, c6, e6, -, -, -, hc6⟩ := hLs
              injection e6 with e61 _ e63
              subst e61 e63
              have HC6 := Lib.hid hc6
              clear hnow hin hsts hrng hc6
              by_cases hml : m < L.length
              · obtain ⟨lb, loff, rfl, _, hlbh, hlcc⟩ := HC6.out (by omega)
                have hlm := hlcc m hml
                have hsm := HLZ.out _ (List.getElem_mem hml)
                have HMEM := Lib.hid ((HLM.out L[m]).1 (List.getElem_mem hml))
                clear hlcc
                by_cases hxe : L[m] = hd
                · have d3 : (L[m].toList == hd.toList) = true := by rw [hxe]; simp
                  have HYES : Hid (AftC rs ix hd hd) := Lib.hid (by
                    have := HN2.out.aft hjl (by rw [HIJ.out]; exact hil') (by rw [HIJ.out, HRA.out]; exact HE.out) (s := L[m]) (by rw [HIJ.out, HRA.out]; exact HMEM.out.2)
                    rw [hxe] at this
                    exact this)
                  clear hxe
                  go_wp2
                  go_ret
                  exact ⟨ret_boolE (decide_eq_true HYES.out).symm, HB2.out.trans (hbr.mono z2)⟩
                · have d3 : (L[m].toList == hd.toList) = false := by rw [list_eqU, decide_eq_false hxe]
                  have HXE := Lib.hid hxe
                  have STX := HS6.out.strs (HN2.out.way.size RT.out hhd)
                  clear hxe
                  cases hy : inB (hd :: ins) L[m]
                  · have HY := Lib.hid hy
                    clear hy
                    go_wp2_with fail
                    refine (specIn_any _ (hd :: ins) L[m] _ _ _ STX).mono ?_
                    rintro e w8 ⟨rfl, rfl⟩
                    rw [HY.out]
                    go_wp2_with (at_builtin; refine wpList_append_lies _ rfl _ _ 34 rfl w2.heap.size 9 i0 (.string ByteArray.empty) 1 16 Try.underlying34 hi0 hz0 hz1 hz2 rfl (by decide) (.slice Bx2 (ins.length + 1) dx2) (ins.length + 1) ((hd :: ins).map Value.string) rfl (World.ownsRow.alloc HS6.out _) ⟨wr.heap.size, 0, none⟩ 1 1 [.string L[m]] rfl rfl (cell_one_new _ _ _) (one_str _) (by omega) (by unfold maxLen; omega) (by omega) (by simp; omega) (wr.heap.size + 1) (by simp) ?_)
                    intro g7 cap7 w7 hown7 hg7 hat7 hlt7
                    have S7 : Sts w7 w2.heap.size (.slice (some ⟨g7, 0, none⟩) (ins.length + 1 + 1) cap7) (hd :: (ins ++ [L[m]])) := by
                      have := Sts.one (ss := hd :: ins) L[m] hown7
                      exact this
                    have B7 : Below w2.heap.size w2 w7 := Tx.below_grown (hbr.trans ((al1 wr _).mono hszr)) (World.ownsRow.alloc HS6.out _) hg7 (by simp; omega) (Nat.le_refl _)
                    have z7 : wr.heap.size ≤ w7.heap.size := by have := hg7.size; simp at this; omega
                    have K7 : Keeps wq.heap.size w5.heap.size wr w7 := fun p hp1 hp2 => by
                      rw [hg7.block p (by simp; omega) (fun e => by have := HRNG.out p e.symm; omega), Below.heap_alloc _ _ _ (by omega)]
                    have L7 := HL6.out.keep K7
                    have HN7 := Lib.hid (HN2.out.add (HN2.out.aft hjl (by rw [HIJ.out]; exact hil') (by rw [HIJ.out, HRA.out]; exact HE.out) (s := L[m]) (by rw [HIJ.out, HRA.out]; exact HMEM.out.2)) HY.out)
                    have HRG7 : Hid (∀ g, (Value.slice (some ⟨g7, 0, none⟩) (ins.length + 1 + 1) cap7).ownBlock = some g → g < wq.heap.size ∨ w5.heap.size ≤ g) := Lib.hid fun g hg => by
                      have e : g7 = g := by simpa [Value.ownBlock] using hg
                      subst e
                      rcases hat7 with h | h
                      · exact HRNG.out _ h
                      · right; omega
                    clear hown7 hg7 hat7 K7
                    go_wp2
                    go_roundw
                    case rel => exact ⟨m + 1, ins ++ [L[m]], by go_num, by omega, HN7.out, fun q hq hqm => by
                      by_cases e : q = m
                      · subst e; exact List.mem_append_right _ (by simp)
                      · exact List.mem_append_left _ (HIN.out q hq (by omega)), S7, HRG7.out, L7, B7, by omega⟩
                    case measure => simp [intOf]; omega
                  · have HY := Lib.hid hy
                    clear hy
                    go_wp2_with fail
                    refine (specIn_any _ (hd :: ins) L[m] _ _ _ STX).mono ?_
                    rintro e w8 ⟨rfl, rfl⟩
                    rw [HY.out]
                    go_wp2
                    go_roundw
                    case rel => exact ⟨m + 1, ins, by go_num, by omega, HN2.out, fun q hq hqm => by
                      by_cases e : q = m
                      · subst e
                        have := (inB_iff _ _).1 HY.out
                        rw [List.mem_cons] at this
                        rcases this with h | h
                        · exact absurd h HXE.out
                        · exact h
                      · exact HIN.out q hq (by omega), HS6.out, HRNG.out, HL6.out, hbr, hwr⟩
                    case measure => simp [intOf]; omega
              · have HNX : Hid (NowC rs ix hd t i (j + 1) ins) := Lib.hid (HN2.out.next fun hk _ s ht hs => by
                  rw [HIJ.out, HRA.out] at ht
                  have := (HLM.out s).2 ⟨hs, ht⟩
                  obtain ⟨q, hq, rfl⟩ := List.getElem_of_mem this
                  exact HIN.out q hq (by omega))
                go_wp2
                go_roundw
                case rel => exact ⟨j + 1, ins, by go_num, by omega, HNX.out, HS6.out, hbr⟩
                case measure => simp [intOf]; omega
          · have d2 : (r.head.toList == t.toList) = false := by rw [list_eqU, decide_eq_false he]
            have HE := Lib.hid he
            clear he
            have HNX : Hid (NowC rs ix hd t i (j + 1) ins1) := Lib.hid (HNOW.out.next fun hk h => by
              rw [HIJ.out, HRA.out] at h
              exact absurd h HE.out)
            go_wp2
            go_quiet (fail)
            have HS3 : Hid (Sts (wA.drewN nq) w2.heap.size (.slice (some ⟨gx, 0, none⟩) (ins1.length + 1) cx) (hd :: ins1)) := Lib.hid HSA.out
            have hB3 : Below w2.heap.size w2 (wA.drewN nq) := ⟨hBA.os, hBA.tape, hBA.output, hBA.size, hBA.block⟩
            clear HSA hBA RA ha hcA ra0 ra1 hla hgxA
            generalize wA.drewN nq = wq at HS3 hB3 ⊢
            go_wp2
            go_roundw
            case rel => exact ⟨j + 1, ins1, by go_num, by omega, HNX.out, HS3.out, hB3⟩
            case measure => simp [intOf]; omega
        · have HOL : Hid (OldC rs ix hd (i + 1) ins1) := Lib.hid (by
            have hje : j = ix.length := by omega
            have := HNOW.out
            rw [hje] at this
            exact this.done)
          go_wp2
          go_roundw
          case rel => exact ⟨i + 1, ins1, by go_num, HOL.out, HST1.out, hbw⟩
          case measure => simp [intOf]; omega
    · have HNO := Lib.hid (HOLD.out.out RT.out hhd (by omega))
      go_wp2
      go_ret
      exact ⟨ret_boolE (decide_eq_false HNO.out).symm, HB2.out.trans (hbw.mono z2)⟩
end Go.Proofs.Ytcgmnpfeiiomgaa

/- The walks of the model's l03Cycle and Cycle. -/
namespace Go.Proofs.Ytcgmnpfeiiomgaa
open Go.RowKit

set_option maxRecDepth 100000 in
set_option maxHeartbeats 4000000 in
open Classical in
theorem specL03Cycle_any (rs : List RuleD) (v : Value) (lo hi : Nat) (w : World) (h : Rules w lo hi v rs) (hh : hi ≤ w.heap.size) (hq : gramB rs = true) :
    Calls Try.prog 108 #[.agg #[v]] w fun e w' => e = .returned (.string (cycOf rs)) ∧ Below w.heap.size w w' := by
  have HV := Lib.hid h
  have HQ := Lib.hid hq
  have RT := Lib.hid (Rt.of hq)
  have hl20 := RT.out.few
  have hhl := RT.out.hs_len
  obtain ⟨A, c, rfl, -⟩ := h
  have hb := al1 w (.cells #[.slice A rs.length c] 25)
  have R0 := Row.made w 25 #[.slice A rs.length c]
  have hsz : (w.alloc (.cells #[.slice A rs.length c] 25)).heap.size = w.heap.size + 1 := by simp
  have HUE : Hid (usefulOf rs = (useIx rs).map fun (i : Nat) => (i : Int)) := Lib.hid (by unfold usefulOf; rw [useOf_t hq])
  have hul := useIx_len (rs := rs)
  clear hq
  go_enter Try.func108, Try.ntmps108
  go_wp2
  generalize w.alloc (.cells #[.slice A rs.length c] 25) = wA at *
  have c0 := R0.cell 0
  simp at c0
  have hlA := R0.lt
  have HSZ := Lib.hid hsz
  have HR0 := Lib.hid R0
  have BB : Below wA.heap.size wA wA.drew := (Below.refl _ _).drew
  have HVA := Lib.hid (HV.out.below hb hh)
  have HB0 := Lib.hid hb
  have hw1 : w.heap.size ≤ wA.heap.size := Nat.le_of_lt hlA
  clear hsz R0 hb
  go_region_held3 (fun w' => w'.cell? ⟨w.heap.size, 0, none⟩ = some (.slice A rs.length c))
    (first | go_keep | (rw [BB.cell hlA]; assumption))
    (first
      | (go_at_call 88; refine (specHeadsOf_any rs _ lo hi _ (HVA.out.below BB (Nat.le_trans hh hw1)) (Nat.le_trans (Nat.le_trans hh hw1) BB.size) (by omega)).mono ?_; rintro e w1 ⟨u1, g1, rfl, ho1, hg1, b1⟩; change OwnS w1 g1 u1 (hsOf rs) at ho1; have HO1 := Lib.hid (ho1.strs (lo := 0) (hi := w1.heap.size) (fun hn => by have := hg1 hn; omega)); have BB := Below.nxt2 BB b1)
      | (go_at_call 104; refine (specL03Useful_any rs _ lo hi _ (HVA.out.below BB (Nat.le_trans hh hw1)) (Nat.le_trans (Nat.le_trans hh hw1) BB.size) HQ.out).mono ?_; rintro e w2 ⟨u2, g2, rfl, ho2, hg2, b2⟩; have HO2 := Lib.hid (ho2.strs (lo := 0) (hi := w2.heap.size) (fun hn => by have := hg2 hn; omega)); have HO3 := Lib.hid (HO1.out.below b2 (Nat.le_refl _)); have zz2 := b2.size; have BB := Below.nxt2 BB b2))
  have HB2 := Lib.hid (HB0.out.trans (BB.mono hw1))
  have hb2s := HB2.out.size
  have R2 := HR0.out.below BB hlA
  have HR2 := Lib.hid R2
  have hl2 := R2.lt
  obtain ⟨Ah, ch, rfl, -⟩ := ho1
  obtain ⟨Au, cu, rfl, -⟩ := ho2
  have HI2 : Hid (IntsAt w2 0 w2.heap.size (.slice Au (usefulOf rs).length cu) ((useIx rs).map fun (i : Nat) => (i : Int))) := Lib.hid (by have := HO2.out; rwa [← HUE.out])
  obtain ⟨A', c', e', hlc, hcm, hsz', hcell⟩ := HO3.out
  injection e' with e1 _ e2
  subst e1 e2
  unfold maxLen at hcm
  have HC := Lib.hid hcell
  clear hcell hsz' hg1 hg2 b1 b2 BB R2
  go_wp2
  go_loopw [5] (fun i wr => ∃ j : Nat, j ≤ (hsOf rs).length ∧ i = .int .i64 (j : Int) ∧ (∀ q (hq : q < (hsOf rs).length), q < j → ¬ Cyc rs (hsOf rs)[q]) ∧ Below w2.heap.size w2 wr) (fun i _ => (hsOf rs).length - (intOf i).toNat)
  case atStart => exact ⟨0, by omega, rfl, fun _ _ h => by omega, Below.refl _ _⟩
  case round =>
    obtain ⟨j, hj, rfl, hall, hbw⟩ := hrel
    have hsw := hbw.size
    have HALL := Lib.hid hall
    clear hall
    by_cases hlt : j < (hsOf rs).length
    · obtain ⟨b, off, rfl, _, hbh, hcc⟩ := HC.out (by omega)
      have hck := (hbw.cell (p := ⟨b, off + j, none⟩) (by show b < _; omega)).trans (hcc j hlt)
      have cg := (HR2.out.below hbw hl2).cell 0
      simp at cg
      have hbW := HB2.out.trans (hbw.mono hb2s)
      have q1 : (j : Int) < ((hsOf rs).length : Int) := by omega
      have q2 : b < wr.heap.size := by omega
      have q3 : w.heap.size < wr.heap.size := by omega
      have HBW := Lib.hid hbw
      have HBB := Lib.hid hbW
      have hcy : decide (AftC rs (useIx rs) (hsOf rs)[j] (hsOf rs)[j]) = decide (Cyc rs (hsOf rs)[j]) := rfl
      have HCY := Lib.hid hcy
      have hhead := RT.out.hs_head (List.getElem_mem hlt)
      clear hcc hbw hbW hcy
      go_wp2
      go_region_held3 (fun w' => w'.cell? ⟨w.heap.size, 0, none⟩ = some (.slice A rs.length c) ∧ w'.cell? ⟨b, off + j, none⟩ = some (.string (hsOf rs)[j]))
        (first | go_keep | (refine ⟨?_, ?_⟩ <;> (rw [b5.cell (by first | exact q3 | exact q2)]; assumption)))
        (first
          | (go_at_call 158; refine (specComes_any rs _ _ (useIx rs) (hsOf rs)[j] hhead lo hi 0 w2.heap.size wr.drew ((HV.out.below HBB.out hh).below (Below.refl wr.heap.size wr).drew (by omega)) (by show hi ≤ wr.heap.size; omega) HQ.out ((HI2.out.below HBW.out (Nat.le_refl _)).below (Below.refl wr.heap.size wr).drew hsw) (by show w2.heap.size ≤ wr.heap.size; omega) useIx_lt (by omega)).mono ?_; rintro e w5 ⟨rfl, b5⟩; rw [HCY.out]))
      have b5' : Below wr.heap.size wr w5 := ⟨b5.os, b5.tape, b5.output, b5.size, b5.block⟩
      have hB5 := HBW.out.trans (b5'.mono hsw)
      have HB5 := Lib.hid hB5
      have hck5 := (b5'.cell (p := ⟨b, off + j, none⟩) q2).trans hck
      have z5 := b5'.size
      have q25 : b < w5.heap.size := by omega
      clear b5 b5' hck cg hB5
      cases hx : decide (Cyc rs (hsOf rs)[j])
      · have HN := Lib.hid (of_decide_eq_false hx)
        clear hx
        go_wp2
        go_roundw
        case rel => exact ⟨j + 1, by omega, by go_num, fun q hq hqj => by
          by_cases e : q = j
          · subst e; exact HN.out
          · exact HALL.out q hq (by omega), HB5.out⟩
        case measure => simp [intOf]; omega
      · have HY := Lib.hid (of_decide_eq_true hx)
        clear hx
        go_wp2
        go_ret
        exact ⟨ret_strC (cyc_hit HQ.out hlt HALL.out HY.out).symm, HB2.out.trans (HB5.out.mono hb2s)⟩
    · go_wp2
      go_ret
      exact ⟨ret_strC (cyc_none fun q hq => HALL.out q hq (by omega)).symm, HB2.out.trans (hbw.mono hb2s)⟩

set_option maxHeartbeats 1000000 in
theorem specCycle_any (rs : List RuleD) (v : Value) (lo hi : Nat) (w : World) (h : Rules w lo hi v rs) (hh : hi ≤ w.heap.size) :
    Calls Try.prog 44 #[.agg #[v]] w fun e w' => e = .returned (.string (cycOf rs)) ∧ Below w.heap.size w w' := by
  have HV := Lib.hid h
  obtain ⟨A, c, rfl, -⟩ := h
  have hb := al1 w (.cells #[.slice A rs.length c] 25)
  have R0 := Row.made w 25 #[.slice A rs.length c]
  cases hq : gramB rs
  · have HE := Lib.hid (cyc_f hq)
    have HQ := Lib.hid hq
    clear hq
    go_enter Try.func44, Try.ntmps44
    go_wp2_with fail
    refine (specGramRight_any rs _ lo hi _ (HV.out.below hb hh) (by simp; omega)).mono ?_
    rintro e w1 ⟨rfl, b1⟩
    rw [HQ.out]
    go_wp2
    go_ret
    exact ⟨ret_strC HE.out.symm, hb.trans (b1.mono (by simp))⟩
  · have HQ := Lib.hid hq
    clear hq
    go_enter Try.func44, Try.ntmps44
    go_wp2_with fail
    refine (specGramRight_any rs _ lo hi _ (HV.out.below hb hh) (by simp; omega)).mono ?_
    rintro e w1 ⟨rfl, b1⟩
    rw [HQ.out]
    have c1 := (R0.below b1 (by simp)).cell 0
    simp at c1
    have hb1 := hb.trans (b1.mono (by simp))
    have z1 := hb1.size
    go_wp2_with fail
    refine (specL03Cycle_any rs _ lo hi _ (HV.out.below hb1 hh) (by omega) HQ.out).mono ?_
    rintro e w2 ⟨rfl, b2⟩
    go_wp2
    go_ret
    exact ⟨rfl, hb1.trans (b2.mono z1)⟩
end Go.Proofs.Ytcgmnpfeiiomgaa
