import Derived.Test.YtiochjagolijfaaJRcg
import Derived.Test.YtiochjagolijfaaJShr
import Derived.Test.YtiochjagolijfaaCls
/- fruitfulMades, of the program. -/
namespace Go.Proofs.Ytiochjagolijfaa
open Go.RowKit

set_option maxRecDepth 100000 in
set_option maxHeartbeats 4000000 in
theorem fruitfulMades_any (v : Value) (ms : List MadeD) (lo hi : Nat) (w : World) (h : DM true w lo hi v ms) (hhi : hi ≤ w.heap.size) (hn : bulkDs ms ≤ 1048576) :
    Calls Try.prog 72 #[v] w fun e w' => ∃ u, e = .returned u ∧ DM true w' 0 w'.heap.size u (fruitOf ms) ∧ Below w.heap.size w w' := by
  obtain ⟨i0, hi0, hz0, hz1, hz2⟩ := info_parts Try.infoMadeR
  have hml : ms.length ≤ 1048576 := by unfold bulkDs at hn; omega
  obtain ⟨A, c, rfl, hlc, hc, hcell⟩ := h
  have HHS : Hid (∀ i (hi : i < ms.length), ms[i].head.size ≤ maxLen) := Lib.hid fun i hi => by
    obtain ⟨_, _, _, _, _, _, hcc⟩ := hcell (by omega)
    exact (hcc i hi).1
  have HC := Lib.hid hcell
  unfold maxLen at hc
  clear hcell
  have HM0 := Lib.hid (And.intro (SetM.made w) (al1 w (.map #[] 0)))
  have hmm := @run_makeMap Try.prog
  go_enter Try.func72, Try.ntmps72
  go_wp2
  go_loopg [4, 6, 19] (ms.length + 1) (fun gk v4 _ _ wr => ∃ (bf : Int) (kn : List ByteArray), v4 = .int .i64 bf ∧ -1 ≤ bf ∧ bf ≤ (kn.length : Int) ∧ SetM wr w.heap.size kn ∧ GoodN ms kn ∧ Below w.heap.size w wr ∧ (bf = (kn.length : Int) → GoodL ms kn) ∧ gk = ms.length + 1 - (bf + 1).toNat)
  case atStart => exact ⟨-1, [], rfl, by omega, by simp, HM0.out.1, GoodN.nil ms, HM0.out.2, (fun e => by simp at e), by simp⟩
  case round =>
    clear hmm
    obtain ⟨bf, kn, rfl, hb1, hb2, hS, hGN, hbw, hcl, rfl⟩ := hrel
    have hlen := fun ty => hS.len hGN.nodup ty
    have hkl := hGN.len
    have HS := Lib.hid hS
    have HGN := Lib.hid hGN
    have HB := Lib.hid hbw
    have HCL := Lib.hid hcl
    clear hS hGN hbw hcl
    by_cases hlt : bf < (kn.length : Int)
    · go_wp2
      clear hlen
      go_loopg [6, 19] ms.length (fun gk _ v19 wr => ∃ (k : Nat) (ks : List ByteArray), v19 = .int .i64 k ∧ k ≤ ms.length ∧ SetM wr w.heap.size ks ∧ GoodN ms ks ∧ Below w.heap.size w wr ∧ kn.length ≤ ks.length ∧ (ks.length = kn.length → ks = kn ∧ ∀ i (hi : i < ms.length), i < k → allB ms[i].body kn true = true → ms[i].head ∈ kn) ∧ gk = ms.length - k)
      case atStart => exact ⟨0, kn, rfl, by omega, HS.out, HGN.out, HB.out, Nat.le_refl _, (fun _ => ⟨rfl, fun i _ h9 => by omega⟩), rfl⟩
      case round =>
        obtain ⟨k, ks, rfl, hk, hS2, hG2, hbw2, hle, hcl2, rfl⟩ := hrel
        have hzw := hbw2.size
        have hsl := hS2.lt
        by_cases hkm : k < ms.length
        · obtain ⟨b, off, rfl, _, hbh, _, hcc⟩ := HC.out (by omega)
          obtain ⟨hhs, htop, hc0, u, x, hc1, hc2, hc3, hc4, hst, hkm'⟩ := hcc k hkm
          have k0 := (hbw2.cell (p := ⟨b, off + k * 5, none⟩) (by show b < _; omega)).trans hc0
          have k1 := (hbw2.cell (p := ⟨b, off + k * 5 + 1, none⟩) (by show b < _; omega)).trans hc1
          have k2 := (hbw2.cell (p := ⟨b, off + k * 5 + 2, none⟩) (by show b < _; omega)).trans hc2
          have k3 := (hbw2.cell (p := ⟨b, off + k * 5 + 3, none⟩) (by show b < _; omega)).trans hc3
          have k4 := (hbw2.cell (p := ⟨b, off + k * 5 + 4, none⟩) (by show b < _; omega)).trans hc4
          obtain ⟨Au, cu, rfl, -⟩ := id hst
          obtain ⟨Ax, cx, Ux, rfl, -⟩ := hkm'.parts
          have ha := al1 wr (.cells #[.string ms[k].head, .slice Au ms[k].body.length cu, .int .i64 ms[k].term.kind, .int .i64 ms[k].term.num, .slice Ax ms[k].term.kids.length cx] 67)
          have R0 := Row.made wr 67 #[.string ms[k].head, .slice Au ms[k].body.length cu, .int .i64 ms[k].term.kind, .int .i64 ms[k].term.num, .slice Ax ms[k].term.kids.length cx]
          have HSA := Lib.hid (hS2.keep (ha.block _ hsl))
          have hlk := HSA.out.look hhs
          have HBA := Lib.hid (hbw2.trans (ha.mono hzw))
          have HG2 := Lib.hid hG2
          have HCL2 := Lib.hid hcl2
          have HST := Lib.hid (hst.below HBA.out hhi)
          have hl2 := hG2.len
          clear hcc hc0 hc1 hc2 hc3 hc4 hst hkm' htop hS2 hG2 hbw2 hcl2
          cases hin : inB ks ms[k].head with
          | true =>
            rw [hin] at hlk
            have HIN := Lib.hid hin
            clear hin
            go_wp2
            go_roundg (ms.length - (k + 1))
            case rel =>
              refine ⟨k + 1, ks, by go_num, by omega, HSA.out, HG2.out, HBA.out, hle, fun e => ?_, rfl⟩
              obtain ⟨f1, f2⟩ := HCL2.out e
              refine ⟨f1, fun i hi h9 hb => ?_⟩
              by_cases q : i = k
              · subst q; rw [← f1]; exact (inB_iff _ _).1 HIN.out
              · exact f2 i hi (by omega) hb
            case measure => omega
          | false =>
            rw [hin] at hlk
            have HIN := Lib.hid hin
            clear hin
            cases hall : allB ms[k].body ks true with
            | false =>
              have HAL := Lib.hid hall
              clear hall
              go_wp2_with fail
              refine (allCome_any _ ms[k].body ks w.heap.size lo hi _ HST.out (by simp; omega) HSA.out).mono ?_
              rintro e w1 ⟨rfl, b1⟩
              rw [HAL.out]
              have FIN := Lib.hid (And.intro (HSA.out.keep (b1.block _ HSA.out.lt)) (HBA.out.trans (b1.mono (by simp; omega))))
              clear b1 hlk
              go_wp2
              go_roundg (ms.length - (k + 1))
              case rel =>
                refine ⟨k + 1, ks, by go_num, by omega, FIN.out.1, HG2.out, FIN.out.2, hle, fun e => ?_, rfl⟩
                obtain ⟨f1, f2⟩ := HCL2.out e
                refine ⟨f1, fun i hi h9 hb => ?_⟩
                by_cases q : i = k
                · subst q
                  have := HAL.out
                  rw [f1, hb] at this
                  cases this
                · exact f2 i hi (by omega) hb
              case measure => omega
            | true =>
              have HAL := Lib.hid hall
              clear hall
              go_wp2_with fail
              refine (allCome_any _ ms[k].body ks w.heap.size lo hi _ HST.out (by simp; omega) HSA.out).mono ?_
              rintro e w1 ⟨rfl, b1⟩
              rw [HAL.out]
              have R1 := R0.below b1 (by simp)
              have c0 := R1.cell 0
              simp at c0
              have HS1 := HSA.out.keep (b1.block _ HSA.out.lt)
              have B1 := HBA.out.trans (b1.mono (by simp; omega))
              have hz1 := B1.size
              obtain ⟨w2, hup, hS3, hg3, hz3⟩ := HS1.put (s := ms[k].head) (by unfold maxLen; omega) hhs
              have FIN : Hid (SetM w2 w.heap.size (ks ++ [ms[k].head]) ∧ Below w.heap.size w w2) := Lib.hid ⟨hS3, B1.trans ⟨hg3.os, hg3.tape, hg3.output, hg3.size, fun q hq => hg3.block q (by omega) fun e => by
                injection e with e
                omega⟩⟩
              clear b1 hlk HS1 B1 hS3 hg3 R1 R0 k0 k1 k2 k3 k4
              go_wp2
              go_roundg (ms.length - (k + 1))
              case rel =>
                refine ⟨k + 1, _, by go_num, by omega, FIN.out.1, HG2.out.more (List.getElem_mem hkm) HIN.out HAL.out, FIN.out.2, by rw [List.length_append]; omega, (fun e => ?_), rfl⟩
                rw [List.length_append] at e
                simp at e
                omega
              case measure => omega
        · have hks : k = ms.length := by omega
          subst hks
          have hl2 := hG2.len
          have FIN := Lib.hid (And.intro hS2 (And.intro hG2 (And.intro hbw2 hcl2)))
          clear hS2 hG2 hbw2 hcl2
          go_wp2
          go_roundg (ms.length + 1 - (kn.length + 1))
          case rel =>
            refine ⟨kn.length, ks, rfl, by omega, by omega, FIN.out.1, FIN.out.2.1, FIN.out.2.2.1, (fun e => ?_), by omega⟩
            obtain ⟨f1, f2⟩ := FIN.out.2.2.2 (by omega)
            subst f1
            exact good_closed FIN.out.2.1 fun i hi hb => f2 i hi hi hb
          case measure => omega
    · have hbf : bf = (kn.length : Int) := by omega
      have HGL := Lib.hid (HCL.out hbf)
      subst hbf
      have hz2' := HB.out.size
      have hsl := HS.out.lt
      have HO0 := Lib.hid (GrowH.nil ‹World› (w.heap.size + 1))
      go_wp2
      clear hlen
      rename World => w2
      go_loopg [7, 9, 40] ms.length (fun gk v7 _ v40 wr => ∃ (k : Nat) (xs : List Gx), v40 = .int .i64 k ∧ k ≤ ms.length ∧ SetM wr w.heap.size kn ∧ Below w.heap.size w wr ∧ GrowH wr (w.heap.size + 1) v7 xs ∧ xs.map (·.m) = fruitUp ms k ∧ gk = ms.length - k)
      case atStart => exact ⟨0, [], rfl, by omega, HS.out, HB.out, HO0.out, (fruitUp_zero ms).symm, rfl⟩
      case round =>
        obtain ⟨k, xs, rfl, hk, hS2, hbw2, hG, hxs, rfl⟩ := hrel
        have hzw := hbw2.size
        have hsl2 := hS2.lt
        by_cases hkm : k < ms.length
        · obtain ⟨b, off, rfl, _, hbh, _, hcc⟩ := HC.out (by omega)
          obtain ⟨hhs, htop, hc0, u, x, hc1, hc2, hc3, hc4, hst, hkm'⟩ := hcc k hkm
          have k0 := (hbw2.cell (p := ⟨b, off + k * 5, none⟩) (by show b < _; omega)).trans hc0
          have k1 := (hbw2.cell (p := ⟨b, off + k * 5 + 1, none⟩) (by show b < _; omega)).trans hc1
          have k2 := (hbw2.cell (p := ⟨b, off + k * 5 + 2, none⟩) (by show b < _; omega)).trans hc2
          have k3 := (hbw2.cell (p := ⟨b, off + k * 5 + 3, none⟩) (by show b < _; omega)).trans hc3
          have k4 := (hbw2.cell (p := ⟨b, off + k * 5 + 4, none⟩) (by show b < _; omega)).trans hc4
          obtain ⟨Au, cu, rfl, -⟩ := id hst
          obtain ⟨Ax, cx, Ux, rfl, -⟩ := id hkm'.parts
          have ha := al1 wr (.cells #[.string ms[k].head, .slice Au ms[k].body.length cu, .int .i64 ms[k].term.kind, .int .i64 ms[k].term.num, .slice Ax ms[k].term.kids.length cx] 67)
          have R0 := Row.made wr 67 #[.string ms[k].head, .slice Au ms[k].body.length cu, .int .i64 ms[k].term.kind, .int .i64 ms[k].term.num, .slice Ax ms[k].term.kids.length cx]
          have HSA := Lib.hid (hS2.keep (ha.block _ hsl2))
          have HBA := Lib.hid (hbw2.trans (ha.mono hzw))
          have HGA := Lib.hid (hG.below (by omega) ha)
          have HST := Lib.hid (hst.below HBA.out hhi)
          have HKM := Lib.hid (hkm'.keep (Keeps.below HBA.out hhi))
          have HTOP := Lib.hid htop
          have HXS := Lib.hid hxs
          have hlx : xs.length ≤ ms.length := by
            have := congrArg List.length hxs
            rw [List.length_map] at this
            have := fruitUp_len ms k
            omega
          clear hcc hc0 hc1 hc2 hc3 hc4 hst hkm' htop hS2 hbw2 hG hxs
          cases hall : allB ms[k].body kn true with
          | false =>
            have HAL := Lib.hid hall
            clear hall
            go_wp2_with fail
            refine (allCome_any _ ms[k].body kn w.heap.size lo hi _ HST.out (by simp; omega) HSA.out).mono ?_
            rintro e w1 ⟨rfl, b1⟩
            rw [HAL.out]
            have FIN := Lib.hid (And.intro (HSA.out.keep (b1.block _ HSA.out.lt)) (And.intro (HBA.out.trans (b1.mono (by simp; omega))) (HGA.out.below (by simp; omega) b1)))
            clear b1
            go_wp2
            go_roundg (ms.length - (k + 1))
            case rel => exact ⟨k + 1, xs, by go_num, by omega, FIN.out.1, FIN.out.2.1, FIN.out.2.2, HXS.out.trans (fruitUp_no HGL.out hkm HAL.out).symm, rfl⟩
            case measure => omega
          | true =>
            have HAL := Lib.hid hall
            clear hall
            go_wp2_with fail
            refine (allCome_any _ ms[k].body kn w.heap.size lo hi _ HST.out (by simp; omega) HSA.out).mono ?_
            rintro e w1 ⟨rfl, b1⟩
            rw [HAL.out]
            have R1 := R0.below b1 (by simp)
            have c0 := R1.cell 0
            have c1 := R1.cell 1
            have c2 := R1.cell 2
            have c3 := R1.cell 3
            have c4 := R1.cell 4
            simp at c0 c1 c2 c3 c4
            have HB1 := Lib.hid (HBA.out.trans (b1.mono (by simp; omega)))
            have hzv := HB1.out.size
            have hzb : wr.heap.size + 1 ≤ w1.heap.size := by have := b1.size; simpa using this
            have HS1 := Lib.hid (HSA.out.keep (b1.block _ HSA.out.lt))
            have HG1 := Lib.hid (HGA.out.below (by simp; omega) b1)
            have HY : Hid (ShAt w1 (w.heap.size + 1) ⟨ms[k], .slice Au ms[k].body.length cu, .slice Ax ms[k].term.kids.length cx, 0, 0, 0, 0⟩) := Lib.hid ⟨hhs, HTOP.out, (HST.out.below b1 (by simp; omega)).more (Nat.zero_le _) (by omega), (HKM.out.keep (Keeps.below b1 (by simp; omega))).more (Nat.zero_le _) (by omega)⟩
            clear b1 R1 R0 k0 k1 k2 k3 k4
            go_wp2_with (at_builtin; refine wpList_append_lies _ rfl _ _ 24 rfl (w.heap.size + 1) 67 i0 _ 5 80 Try.underlying24 hi0 hz0 hz1 hz2 rfl (by decide) u7 xs.length (flatD xs) rfl (World.ownsRow.alloc HG1.out.row _) ⟨w1.heap.size, 0, none⟩ 1 1 [.string ms[k].head, .slice Au ms[k].body.length cu, .int .i64 ms[k].term.kind, .int .i64 ms[k].term.num, .slice Ax ms[k].term.kids.length cx] rfl rfl (made_news _ _ _ _ _ _) (made_one _ _ _ _ _ _ _ _ _) (by omega) (by unfold maxLen; omega) (by omega) (by simp; omega) (w1.heap.size + 1) (by simp) ?_)
            intro gg capg w6 hown6 hg6 hat6 hlt6
            have FIN : Hid (SetM w6 w.heap.size kn ∧ Below w.heap.size w w6 ∧ GrowH w6 (w.heap.size + 1) (.slice (some ⟨gg, 0, none⟩) (xs.length + 1) capg) (xs ++ [⟨ms[k], .slice Au ms[k].body.length cu, .slice Ax ms[k].term.kids.length cx, 0, 0, 0, 0⟩]) ∧ (xs ++ [(⟨ms[k], .slice Au ms[k].body.length cu, .slice Ax ms[k].term.kids.length cx, 0, 0, 0, 0⟩ : Gx)]).map (·.m) = fruitUp ms (k + 1)) := Lib.hid (by
              have hb := al1 w1 (.cells #[.string ms[k].head, .slice Au ms[k].body.length cu, .int .i64 ms[k].term.kind, .int .i64 ms[k].term.num, .slice Ax ms[k].term.kids.length cx] 67)
              have GA := HG1.out.below (by omega) hb
              refine ⟨(HS1.out.keep (hb.block _ HS1.out.lt)).keep (hg6.block _ (by simp; omega) fun e => ?_), Tx.below_grown (HB1.out.trans (hb.mono hzv)) GA.row hg6 (by simp; omega) (by omega), GA.snoc (by simp; omega) (HY.out.keep fun p _ hp => hb.block p (by omega)) hown6 hg6, ?_⟩
              · have := (HG1.out.row.lt _ e.symm).1
                omega
              · rw [List.map_append, HXS.out, fruitUp_yes HGL.out hkm HAL.out]; rfl)
            clear hown6 hg6 hat6 hlt6
            go_wp2
            go_roundg (ms.length - (k + 1))
            case rel => exact ⟨k + 1, _, by go_num, by omega, FIN.out.1, FIN.out.2.1, FIN.out.2.2.1, FIN.out.2.2.2, rfl⟩
            case measure => omega
        · have hks : k = ms.length := by omega
          subst hks
          rw [fruitUp_all] at hxs
          have FIN := Lib.hid (And.intro (hxs ▸ hG.dm (by omega)) hbw2)
          clear hG hbw2 hxs
          go_wp2
          go_ret
          exact ⟨_, rfl, FIN.out⟩
end Go.Proofs.Ytiochjagolijfaa

/- clean, of the program. -/
namespace Go.Proofs.Ytiochjagolijfaa
open Go.RowKit

set_option maxRecDepth 100000 in
set_option maxHeartbeats 4000000 in
theorem clean_any (v : Value) (ms : List MadeD) (start : ByteArray) (lo hi : Nat) (w : World) (h : DM true w lo hi v ms) (hhi : hi ≤ w.heap.size) (hn : bulkDs ms ≤ 1048576) (hss : start.size ≤ maxLen) :
    Calls Try.prog 31 #[v, .string start] w fun e w' => ∃ u, e = .returned u ∧ DM true w' 0 w'.heap.size u (cleanOf ms start) ∧ Below w.heap.size w w' := by
  obtain ⟨i0, hi0, hz0, hz1, hz2⟩ := info_parts Try.infoMadeR
  have HV := Lib.hid h
  have hfb := Nat.le_trans (bulk_fruit ms) hn
  have hfl : (fruitOf ms).length ≤ 1048576 := by unfold bulkDs at hfb; omega
  have HCL := Lib.hid (clean_reach ms start)
  have HFL := Lib.hid hfl
  generalize hfs : fruitOf ms = fs at hfb hfl HCL HFL
  have HFS := Lib.hid hfs
  clear h hfs
  go_enter Try.func31, Try.ntmps31
  go_wp2_with fail
  refine (fruitfulMades_any _ ms lo hi _ HV.out hhi hn).mono ?_
  rintro e w1 ⟨u1, rfl, D1, b1⟩
  rw [HFS.out] at D1
  have z1 := b1.size
  have H1 := Lib.hid b1
  have HD1 := Lib.hid D1
  obtain ⟨A, c, rfl, hlc, hc, -⟩ := D1
  unfold maxLen at hc
  clear b1
  go_wp2_with fail
  refine (byHead_any _ fs 0 w1.heap.size _ HD1.out (Nat.le_refl _) hfl).mono ?_
  rintro e w2 ⟨f, rfl, BH, b2⟩
  have z2 := b2.size
  have H2 := Lib.hid (H1.out.trans (b2.mono z1))
  have HD2 := Lib.hid (HD1.out.under b2 (Nat.le_refl _))
  have HBH := Lib.hid BH
  clear b2 BH HD1
  go_wp2_with fail
  refine (reachedFrom_any start fs f w1.heap.size w1.heap.size w2 HBH.out z2 hss hfb).mono ?_
  rintro e w3 ⟨rc, rfl, S3, hrc, b3⟩
  have z3 := b3.size
  have H3 := Lib.hid (H2.out.trans (b3.mono (by omega)))
  have HD3 := Lib.hid (HD2.out.under b3 z2)
  have HS3 := Lib.hid S3
  have HRC := Lib.hid hrc
  have hsl := S3.lt
  obtain ⟨A', c', e', -, -, hcell⟩ := HD3.out
  injection e' with e1 _ e3
  subst e1 e3
  have HC := Lib.hid hcell
  clear b3 S3 hrc hcell HBH HD2
  go_wp2
  go_loopg [7, 9, 18] fs.length (fun gk v7 _ v18 wr => ∃ (k : Nat) (xs : List Gx), v18 = .int .i64 k ∧ k ≤ fs.length ∧ Below w3.heap.size w3 wr ∧ GrowH wr w3.heap.size v7 xs ∧ xs.map (·.m) = reachUp fs start k ∧ gk = fs.length - k)
  case atStart => exact ⟨0, [], rfl, by omega, Below.refl _ _, GrowH.nil _ _, (reachUp_zero fs start).symm, rfl⟩
  case round =>
    obtain ⟨k, xs, rfl, hk, hbw, hG, hxs, rfl⟩ := hrel
    have hzw := hbw.size
    by_cases hkm : k < fs.length
    · obtain ⟨b, off, rfl, _, hbh, _, hcc⟩ := HC.out (by omega)
      obtain ⟨hhs, htop, hc0, u, x, hc1, hc2, hc3, hc4, hst, hkm'⟩ := hcc k hkm
      have k0 := (hbw.cell (p := ⟨b, off + k * 5, none⟩) (by show b < _; omega)).trans hc0
      have k1 := (hbw.cell (p := ⟨b, off + k * 5 + 1, none⟩) (by show b < _; omega)).trans hc1
      have k2 := (hbw.cell (p := ⟨b, off + k * 5 + 2, none⟩) (by show b < _; omega)).trans hc2
      have k3 := (hbw.cell (p := ⟨b, off + k * 5 + 3, none⟩) (by show b < _; omega)).trans hc3
      have k4 := (hbw.cell (p := ⟨b, off + k * 5 + 4, none⟩) (by show b < _; omega)).trans hc4
      obtain ⟨Au, cu, rfl, -⟩ := id hst
      obtain ⟨Ax, cx, Ux, rfl, -⟩ := id hkm'.parts
      have ha := al1 wr (.cells #[.string fs[k].head, .slice Au fs[k].body.length cu, .int .i64 fs[k].term.kind, .int .i64 fs[k].term.num, .slice Ax fs[k].term.kids.length cx] 67)
      have R0 := Row.made wr 67 #[.string fs[k].head, .slice Au fs[k].body.length cu, .int .i64 fs[k].term.kind, .int .i64 fs[k].term.num, .slice Ax fs[k].term.kids.length cx]
      have HBA := Lib.hid (hbw.trans (ha.mono hzw))
      have hlk := (HS3.out.keep (HBA.out.block _ (by omega))).look hhs
      have HGA := Lib.hid (hG.below (by omega) ha)
      have HST := Lib.hid (hst.below HBA.out (by omega))
      have HKM := Lib.hid (hkm'.keep (Keeps.below HBA.out (by omega)))
      have HTOP := Lib.hid htop
      have HXS := Lib.hid hxs
      have hlx : xs.length ≤ fs.length := by
        have := congrArg List.length hxs
        rw [List.length_map] at this
        have := reachUp_len fs start k
        omega
      clear hcc hc0 hc1 hc2 hc3 hc4 hst hkm' htop hbw hG hxs
      cases hin : inB rc fs[k].head with
      | false =>
        rw [hin] at hlk
        have HNO : Hid (¬ RchF fs start fs[k].head) := Lib.hid (fun q => by
          rw [← HRC.out, ← inB_iff, hin] at q
          cases q)
        clear hin
        go_wp2
        go_roundg (fs.length - (k + 1))
        case rel => exact ⟨k + 1, xs, by go_num, by omega, HBA.out, HGA.out, HXS.out.trans (reachUp_no hkm HNO.out).symm, rfl⟩
        case measure => omega
      | true =>
        rw [hin] at hlk
        have HYES : Hid (RchF fs start fs[k].head) := Lib.hid (by rw [← HRC.out, ← inB_iff]; exact hin)
        clear hin
        have c0 := R0.cell 0
        have c1 := R0.cell 1
        have c2 := R0.cell 2
        have c3 := R0.cell 3
        have c4 := R0.cell 4
        simp at c0 c1 c2 c3 c4
        go_wp2_with (at_builtin; refine wpList_append_lies _ rfl _ _ 24 rfl w3.heap.size 67 i0 _ 5 80 Try.underlying24 hi0 hz0 hz1 hz2 rfl (by decide) u7 xs.length (flatD xs) rfl (World.ownsRow.alloc HGA.out.row _) ⟨wr.heap.size + 1, 0, none⟩ 1 1 [.string fs[k].head, .slice Au fs[k].body.length cu, .int .i64 fs[k].term.kind, .int .i64 fs[k].term.num, .slice Ax fs[k].term.kids.length cx] rfl rfl (by have e := made_news (wr.alloc (.cells #[.string fs[k].head, .slice Au fs[k].body.length cu, .int .i64 fs[k].term.kind, .int .i64 fs[k].term.num, .slice Ax fs[k].term.kids.length cx] 67)) (.string fs[k].head) (.slice Au fs[k].body.length cu) (.int .i64 fs[k].term.kind) (.int .i64 fs[k].term.num) (.slice Ax fs[k].term.kids.length cx); simpa using e) (made_one _ _ _ _ _ _ _ _ _) (by omega) (by unfold maxLen; omega) (by omega) (by simp; omega) (wr.heap.size + 2) (by simp) ?_)
        intro gg capg w6 hown6 hg6 hat6 hlt6
        generalize hwx : wr.alloc (.cells #[.string fs[k].head, .slice Au fs[k].body.length cu, .int .i64 fs[k].term.kind, .int .i64 fs[k].term.num, .slice Ax fs[k].term.kids.length cx] 67) = wx at *
        have hzx : wx.heap.size = wr.heap.size + 1 := by rw [← hwx]; simp
        have FIN : Hid (Below w3.heap.size w3 w6 ∧ GrowH w6 w3.heap.size (.slice (some ⟨gg, 0, none⟩) (xs.length + 1) capg) (xs ++ [⟨fs[k], .slice Au fs[k].body.length cu, .slice Ax fs[k].term.kids.length cx, 0, 0, 0, 0⟩]) ∧ (xs ++ [(⟨fs[k], .slice Au fs[k].body.length cu, .slice Ax fs[k].term.kids.length cx, 0, 0, 0, 0⟩ : Gx)]).map (·.m) = reachUp fs start (k + 1)) := Lib.hid (by
          have hb := al1 wx (.cells #[.string fs[k].head, .slice Au fs[k].body.length cu, .int .i64 fs[k].term.kind, .int .i64 fs[k].term.num, .slice Ax fs[k].term.kids.length cx] 67)
          have GA := HGA.out.below (by omega) hb
          refine ⟨Tx.below_grown (HBA.out.trans (hb.mono (by omega))) GA.row hg6 (by simp; omega) (by omega), GA.snoc (by simp; omega) ⟨hhs, HTOP.out, (HST.out.below hb (by omega)).more (Nat.zero_le _) (by omega), (HKM.out.keep (Keeps.below hb (by omega))).more (Nat.zero_le _) (by omega)⟩ hown6 hg6, ?_⟩
          rw [List.map_append, HXS.out, reachUp_yes hkm HYES.out]; rfl)
        clear hown6 hg6 hat6 hlt6
        go_wp2
        go_roundg (fs.length - (k + 1))
        case rel => exact ⟨k + 1, _, by go_num, by omega, FIN.out.1, FIN.out.2.1, FIN.out.2.2, rfl⟩
        case measure => omega
    · have hks : k = fs.length := by omega
      subst hks
      rw [HCL.out] at hxs
      have FIN := Lib.hid (And.intro (hxs ▸ hG.dm hzw) (H3.out.trans (hbw.mono (by omega))))
      clear hG hbw hxs
      go_wp2
      go_ret
      exact ⟨_, rfl, FIN.out⟩
end Go.Proofs.Ytiochjagolijfaa
