/- fruitfulMades, of the program. -/
import Derived.Test.YtiochjagolijfaaJAcm
import Derived.Test.YtiochjagolijfaaJShr
import Derived.Test.YtiochjagolijfaaCls
namespace Go.Proofs.Ytiochjagolijfaa
open Go.RowKit

set_option maxRecDepth 100000 in
set_option maxHeartbeats 4000000 in
theorem fruitfulMades_any (v : Value) (ms : List MadeD) (lo hi : Nat) (w : World) (h : DM true w lo hi v ms) (hhi : hi ≤ w.heap.size) (hn : bulkDs ms ≤ 1048576) :
    Calls Try.prog 72 #[v] w fun e w' => ∃ u, e = .returned u ∧ DM true w' 0 w'.heap.size u (fruitOf ms) ∧ Below w.heap.size w w' := by
  obtain ⟨i0, hi0, hz0, hz1, hz2⟩ := info_parts Try.infoMadeR
  have hml : ms.length ≤ 1048576 := by unfold bulkDs at hn; omega
  obtain ⟨A, c, rfl, hlc, hc, hcell⟩ := h
  have HHS : Hid (∀ i (hi : i < ms.length), ms[i].head.size ≤ maxLen) := Lib.hid fun i hi => by
    obtain ⟨_, _, _, _, _, _, hcc⟩ := hcell (by omega)
    exact (hcc i hi).1
  have HC := Lib.hid hcell
  unfold maxLen at hc
  clear hcell
  have HM0 := Lib.hid (And.intro (SetM.made w) (al1 w (.map #[] 0)))
  have hmm := @run_makeMap Try.prog
  go_enter Try.func72, Try.ntmps72
  go_wp2
  go_loopg [4, 6, 19] (ms.length + 1) (fun gk v4 _ _ wr => ∃ (bf : Int) (kn : List ByteArray), v4 = .int .i64 bf ∧ -1 ≤ bf ∧ bf ≤ (kn.length : Int) ∧ SetM wr w.heap.size kn ∧ GoodN ms kn ∧ Below w.heap.size w wr ∧ (bf = (kn.length : Int) → GoodL ms kn) ∧ gk = ms.length + 1 - (bf + 1).toNat)
  case atStart => exact ⟨-1, [], rfl, by omega, by simp, HM0.out.1, GoodN.nil ms, HM0.out.2, (fun e => by simp at e), by simp⟩
  case round =>
    clear hmm
    obtain ⟨bf, kn, rfl, hb1, hb2, hS, hGN, hbw, hcl, rfl⟩ := hrel
    have hlen := fun ty => hS.len hGN.nodup ty
    have hkl := hGN.len
    have HS := Lib.hid hS
    have HGN := Lib.hid hGN
    have HB := Lib.hid hbw
    have HCL := Lib.hid hcl
    clear hS hGN hbw hcl
    by_cases hlt : bf < (kn.length : Int)
    · go_wp2
      clear hlen
      go_loopg [6, 19] ms.length (fun gk _ v19 wr => ∃ (k : Nat) (ks : List ByteArray), v19 = .int .i64 k ∧ k ≤ ms.length ∧ SetM wr w.heap.size ks ∧ GoodN ms ks ∧ Below w.heap.size w wr ∧ kn.length ≤ ks.length ∧ (ks.length = kn.length → ks = kn ∧ ∀ i (hi : i < ms.length), i < k → allB ms[i].body kn true = true → ms[i].head ∈ kn) ∧ gk = ms.length - k)
      case atStart => exact ⟨0, kn, rfl, by omega, HS.out, HGN.out, HB.out, Nat.le_refl _, (fun _ => ⟨rfl, fun i _ h9 => by omega⟩), rfl⟩
      case round =>
        obtain ⟨k, ks, rfl, hk, hS2, hG2, hbw2, hle, hcl2, rfl⟩ := hrel
        have hzw := hbw2.size
        have hsl := hS2.lt
        by_cases hkm : k < ms.length
        · obtain ⟨b, off, rfl, _, hbh, _, hcc⟩ := HC.out (by omega)
          obtain ⟨hhs, htop, hc0, u, x, hc1, hc2, hc3, hc4, hst, hkm'⟩ := hcc k hkm
          have k0 := (hbw2.cell (p := ⟨b, off + k * 5, none⟩) (by show b < _; omega)).trans hc0
          have k1 := (hbw2.cell (p := ⟨b, off + k * 5 + 1, none⟩) (by show b < _; omega)).trans hc1
          have k2 := (hbw2.cell (p := ⟨b, off + k * 5 + 2, none⟩) (by show b < _; omega)).trans hc2
          have k3 := (hbw2.cell (p := ⟨b, off + k * 5 + 3, none⟩) (by show b < _; omega)).trans hc3
          have k4 := (hbw2.cell (p := ⟨b, off + k * 5 + 4, none⟩) (by show b < _; omega)).trans hc4
          obtain ⟨Au, cu, rfl, -⟩ := id hst
          obtain ⟨Ax, cx, Ux, rfl, -⟩ := hkm'.parts
          have ha := al1 wr (.cells #[.string ms[k].head, .slice Au ms[k].body.length cu, .int .i64 ms[k].term.kind, .int .i64 ms[k].term.num, .slice Ax ms[k].term.kids.length cx] 67)
          have R0 := Row.made wr 67 #[.string ms[k].head, .slice Au ms[k].body.length cu, .int .i64 ms[k].term.kind, .int .i64 ms[k].term.num, .slice Ax ms[k].term.kids.length cx]
          have HSA := Lib.hid (hS2.keep (ha.block _ hsl))
          have hlk := HSA.out.look hhs
          have HBA := Lib.hid (hbw2.trans (ha.mono hzw))
          have HG2 := Lib.hid hG2
          have HCL2 := Lib.hid hcl2
          have HST := Lib.hid (hst.below HBA.out hhi)
          have hl2 := hG2.len
          clear hcc hc0 hc1 hc2 hc3 hc4 hst hkm' htop hS2 hG2 hbw2 hcl2
          cases hin : inB ks ms[k].head with
          | true =>
            rw [hin] at hlk
            have HIN := Lib.hid hin
            clear hin
            go_wp2
            go_roundg (ms.length - (k + 1))
            case rel =>
              refine ⟨k + 1, ks, by go_num, by omega, HSA.out, HG2.out, HBA.out, hle, fun e => ?_, rfl⟩
              obtain ⟨f1, f2⟩ := HCL2.out e
              refine ⟨f1, fun i hi h9 hb => ?_⟩
              by_cases q : i = k
              · subst q; rw [← f1]; exact (inB_iff _ _).1 HIN.out
              · exact f2 i hi (by omega) hb
            case measure => omega
          | false =>
            rw [hin] at hlk
            have HIN := Lib.hid hin
            clear hin
            cases hall : allB ms[k].body ks true with
            | false =>
              have HAL := Lib.hid hall
              clear hall
              go_wp2_with fail
              refine (allCome_any _ ms[k].body ks w.heap.size lo hi _ HST.out (by simp; omega) HSA.out).mono ?_
              rintro e w1 ⟨rfl, b1⟩
              rw [HAL.out]
              have FIN := Lib.hid (And.intro (HSA.out.keep (b1.block _ HSA.out.lt)) (HBA.out.trans (b1.mono (by simp; omega))))
              clear b1 hlk
              go_wp2
              go_roundg (ms.length - (k + 1))
              case rel =>
                refine ⟨k + 1, ks, by go_num, by omega, FIN.out.1, HG2.out, FIN.out.2, hle, fun e => ?_, rfl⟩
                obtain ⟨f1, f2⟩ := HCL2.out e
                refine ⟨f1, fun i hi h9 hb => ?_⟩
                by_cases q : i = k
                · subst q
                  have := HAL.out
                  rw [f1, hb] at this
                  cases this
                · exact f2 i hi (by omega) hb
              case measure => omega
            | true =>
              have HAL := Lib.hid hall
              clear hall
              go_wp2_with fail
              refine (allCome_any _ ms[k].body ks w.heap.size lo hi _ HST.out (by simp; omega) HSA.out).mono ?_
              rintro e w1 ⟨rfl, b1⟩
              rw [HAL.out]
              have R1 := R0.below b1 (by simp)
              have c0 := R1.cell 0
              simp at c0
              have HS1 := HSA.out.keep (b1.block _ HSA.out.lt)
              have B1 := HBA.out.trans (b1.mono (by simp; omega))
              have hz1 := B1.size
              obtain ⟨w2, hup, hS3, hg3, hz3⟩ := HS1.put (s := ms[k].head) (by unfold maxLen; omega) hhs
              have FIN : Hid (SetM w2 w.heap.size (ks ++ [ms[k].head]) ∧ Below w.heap.size w w2) := Lib.hid ⟨hS3, B1.trans ⟨hg3.os, hg3.tape, hg3.output, hg3.size, fun q hq => hg3.block q (by omega) fun e => by
                injection e with e
                omega⟩⟩
              clear b1 hlk HS1 B1 hS3 hg3 R1 R0 k0 k1 k2 k3 k4
              go_wp2
              go_roundg (ms.length - (k + 1))
              case rel =>
                refine ⟨k + 1, _, by go_num, by omega, FIN.out.1, HG2.out.more (List.getElem_mem hkm) HIN.out HAL.out, FIN.out.2, by rw [List.length_append]; omega, (fun e => ?_), rfl⟩
                rw [List.length_append] at e
                simp at e
                omega
              case measure => omega
        · have hks : k = ms.length := by omega
          subst hks
          have hl2 := hG2.len
          have FIN := Lib.hid (And.intro hS2 (And.intro hG2 (And.intro hbw2 hcl2)))
          clear hS2 hG2 hbw2 hcl2
          go_wp2
          go_roundg (ms.length + 1 - (kn.length + 1))
          case rel =>
            refine ⟨kn.length, ks, rfl, by omega, by omega, FIN.out.1, FIN.out.2.1, FIN.out.2.2.1, (fun e => ?_), by omega⟩
            obtain ⟨f1, f2⟩ := FIN.out.2.2.2 (by omega)
            subst f1
            exact good_closed FIN.out.2.1 fun i hi hb => f2 i hi hi hb
          case measure => omega
    · have hbf : bf = (kn.length : Int) := by omega
      have HGL := Lib.hid (HCL.out hbf)
      subst hbf
      have hz2' := HB.out.size
      have hsl := HS.out.lt
      have HO0 := Lib.hid (GrowH.nil ‹World› (w.heap.size + 1))
      go_wp2
      clear hlen
      rename World => w2
      go_loopg [7, 9, 40] ms.length (fun gk v7 _ v40 wr => ∃ (k : Nat) (xs : List Gx), v40 = .int .i64 k ∧ k ≤ ms.length ∧ SetM wr w.heap.size kn ∧ Below w.heap.size w wr ∧ GrowH wr (w.heap.size + 1) v7 xs ∧ xs.map (·.m) = fruitUp ms k ∧ gk = ms.length - k)
      case atStart => exact ⟨0, [], rfl, by omega, HS.out, HB.out, HO0.out, (fruitUp_zero ms).symm, rfl⟩
      case round =>
        obtain ⟨k, xs, rfl, hk, hS2, hbw2, hG, hxs, rfl⟩ := hrel
        have hzw := hbw2.size
        have hsl2 := hS2.lt
        by_cases hkm : k < ms.length
        · obtain ⟨b, off, rfl, _, hbh, _, hcc⟩ := HC.out (by omega)
          obtain ⟨hhs, htop, hc0, u, x, hc1, hc2, hc3, hc4, hst, hkm'⟩ := hcc k hkm
          have k0 := (hbw2.cell (p := ⟨b, off + k * 5, none⟩) (by show b < _; omega)).trans hc0
          have k1 := (hbw2.cell (p := ⟨b, off + k * 5 + 1, none⟩) (by show b < _; omega)).trans hc1
          have k2 := (hbw2.cell (p := ⟨b, off + k * 5 + 2, none⟩) (by show b < _; omega)).trans hc2
          have k3 := (hbw2.cell (p := ⟨b, off + k * 5 + 3, none⟩) (by show b < _; omega)).trans hc3
          have k4 := (hbw2.cell (p := ⟨b, off + k * 5 + 4, none⟩) (by show b < _; omega)).trans hc4
          obtain ⟨Au, cu, rfl, -⟩ := id hst
          obtain ⟨Ax, cx, Ux, rfl, -⟩ := id hkm'.parts
          have ha := al1 wr (.cells #[.string ms[k].head, .slice Au ms[k].body.length cu, .int .i64 ms[k].term.kind, .int .i64 ms[k].term.num, .slice Ax ms[k].term.kids.length cx] 67)
          have R0 := Row.made wr 67 #[.string ms[k].head, .slice Au ms[k].body.length cu, .int .i64 ms[k].term.kind, .int .i64 ms[k].term.num, .slice Ax ms[k].term.kids.length cx]
          have HSA := Lib.hid (hS2.keep (ha.block _ hsl2))
          have HBA := Lib.hid (hbw2.trans (ha.mono hzw))
          have HGA := Lib.hid (hG.below (by omega) ha)
          have HST := Lib.hid (hst.below HBA.out hhi)
          have HKM := Lib.hid (hkm'.keep (Keeps.below HBA.out hhi))
          have HTOP := Lib.hid htop
          have HXS := Lib.hid hxs
          have hlx : xs.length ≤ ms.length := by
            have := congrArg List.length hxs
            rw [List.length_map] at this
            have := fruitUp_len ms k
            omega
          clear hcc hc0 hc1 hc2 hc3 hc4 hst hkm' htop hS2 hbw2 hG hxs
          cases hall : allB ms[k].body kn true with
          | false =>
            have HAL := Lib.hid hall
            clear hall
            go_wp2_with fail
            refine (allCome_any _ ms[k].body kn w.heap.size lo hi _ HST.out (by simp; omega) HSA.out).mono ?_
            rintro e w1 ⟨rfl, b1⟩
            rw [HAL.out]
            have FIN := Lib.hid (And.intro (HSA.out.keep (b1.block _ HSA.out.lt)) (And.intro (HBA.out.trans (b1.mono (by simp; omega))) (HGA.out.below (by simp; omega) b1)))
            clear b1
            go_wp2
            go_roundg (ms.length - (k + 1))
            case rel => exact ⟨k + 1, xs, by go_num, by omega, FIN.out.1, FIN.out.2.1, FIN.out.2.2, HXS.out.trans (fruitUp_no HGL.out hkm HAL.out).symm, rfl⟩
            case measure => omega
          | true =>
            have HAL := Lib.hid hall
            clear hall
            go_wp2_with fail
            refine (allCome_any _ ms[k].body kn w.heap.size lo hi _ HST.out (by simp; omega) HSA.out).mono ?_
            rintro e w1 ⟨rfl, b1⟩
            rw [HAL.out]
            have R1 := R0.below b1 (by simp)
            have c0 := R1.cell 0
            have c1 := R1.cell 1
            have c2 := R1.cell 2
            have c3 := R1.cell 3
            have c4 := R1.cell 4
            simp at c0 c1 c2 c3 c4
            have HB1 := Lib.hid (HBA.out.trans (b1.mono (by simp; omega)))
            have hzv := HB1.out.size
            have hzb : wr.heap.size + 1 ≤ w1.heap.size := by have := b1.size; simpa using this
            have HS1 := Lib.hid (HSA.out.keep (b1.block _ HSA.out.lt))
            have HG1 := Lib.hid (HGA.out.below (by simp; omega) b1)
            have HY : Hid (ShAt w1 (w.heap.size + 1) ⟨ms[k], .slice Au ms[k].body.length cu, .slice Ax ms[k].term.kids.length cx, 0, 0, 0, 0⟩) := Lib.hid ⟨hhs, HTOP.out, (HST.out.below b1 (by simp; omega)).more (Nat.zero_le _) (by omega), (HKM.out.keep (Keeps.below b1 (by simp; omega))).more (Nat.zero_le _) (by omega)⟩
            clear b1 R1 R0 k0 k1 k2 k3 k4
            go_wp2_with (at_builtin; refine wpList_append_lies _ rfl _ _ 24 rfl (w.heap.size + 1) 67 i0 _ 5 80 Try.underlying24 hi0 hz0 hz1 hz2 rfl (by decide) u7 xs.length (flatD xs) rfl (World.ownsRow.alloc HG1.out.row _) ⟨w1.heap.size, 0, none⟩ 1 1 [.string ms[k].head, .slice Au ms[k].body.length cu, .int .i64 ms[k].term.kind, .int .i64 ms[k].term.num, .slice Ax ms[k].term.kids.length cx] rfl rfl (made_news _ _ _ _ _ _) (made_one _ _ _ _ _ _ _ _ _) (by omega) (by unfold maxLen; omega) (by omega) (by simp; omega) (w1.heap.size + 1) (by simp) ?_)
            intro gg capg w6 hown6 hg6 hat6 hlt6
            have FIN : Hid (SetM w6 w.heap.size kn ∧ Below w.heap.size w w6 ∧ GrowH w6 (w.heap.size + 1) (.slice (some ⟨gg, 0, none⟩) (xs.length + 1) capg) (xs ++ [⟨ms[k], .slice Au ms[k].body.length cu, .slice Ax ms[k].term.kids.length cx, 0, 0, 0, 0⟩]) ∧ (xs ++ [(⟨ms[k], .slice Au ms[k].body.length cu, .slice Ax ms[k].term.kids.length cx, 0, 0, 0, 0⟩ : Gx)]).map (·.m) = fruitUp ms (k + 1)) := Lib.hid (by
              have hb := al1 w1 (.cells #[.string ms[k].head, .slice Au ms[k].body.length cu, .int .i64 ms[k].term.kind, .int .i64 ms[k].term.num, .slice Ax ms[k].term.kids.length cx] 67)
              have GA := HG1.out.below (by omega) hb
              refine ⟨(HS1.out.keep (hb.block _ HS1.out.lt)).keep (hg6.block _ (by simp; omega) fun e => ?_), Tx.below_grown (HB1.out.trans (hb.mono hzv)) GA.row hg6 (by simp; omega) (by omega), GA.snoc (by simp; omega) (HY.out.keep fun p _ hp => hb.block p (by omega)) hown6 hg6, ?_⟩
              · have := (HG1.out.row.lt _ e.symm).1
                omega
              · rw [List.map_append, HXS.out, fruitUp_yes HGL.out hkm HAL.out]; rfl)
            clear hown6 hg6 hat6 hlt6
            go_wp2
            go_roundg (ms.length - (k + 1))
            case rel => exact ⟨k + 1, _, by go_num, by omega, FIN.out.1, FIN.out.2.1, FIN.out.2.2.1, FIN.out.2.2.2, rfl⟩
            case measure => omega
        · have hks : k = ms.length := by omega
          subst hks
          rw [fruitUp_all] at hxs
          have FIN := Lib.hid (And.intro (hxs ▸ hG.dm (by omega)) hbw2)
          clear hG hbw2 hxs
          go_wp2
          go_ret
          exact ⟨_, rfl, FIN.out⟩
end Go.Proofs.Ytiochjagolijfaa
