/- byHead, of the program. -/
import Derived.Test.YtiochjagolijfaaJHmp
import Derived.Test.YtiochjagolijfaaRnm
import Derived.Deep.LoopGhost
import Derived.Deep.RegionLaw
namespace Go.Proofs.Ytiochjagolijfaa
open Go.RowKit

set_option maxRecDepth 100000 in
set_option maxHeartbeats 4000000 in
theorem byHead_any (v : Value) (ms : List MadeD) (lo hi : Nat) (w : World) (h : DM true w lo hi v ms) (hhi : hi ≤ w.heap.size) (hn : ms.length ≤ 1048576) :
    Calls Try.prog 42 #[v] w fun e w' => ∃ f, e = .returned (.map (some w.heap.size)) ∧ ByH w' w.heap.size w.heap.size ms f ∧ Below w.heap.size w w' := by
  obtain ⟨i0, hi0, hz0, hz1, hz2⟩ := info_parts Try.infoMadeR
  obtain ⟨A, c, rfl, hlc, hc, hcell⟩ := h
  have HC := Lib.hid hcell
  unfold maxLen at hc
  clear hcell
  have HM0 := Lib.hid (And.intro (ByH.made w) (al1 w (.map #[] 0)))
  have hmm := @run_makeMap Try.prog
  go_enter Try.func42, Try.ntmps42
  go_wp2
  clear hmm
  go_loopg [5, 9] ms.length (fun gk _ v9 wr => ∃ (k : Nat) (f : HdF), v9 = .int .i64 k ∧ k ≤ ms.length ∧ ByH wr w.heap.size w.heap.size (ms.take k) f ∧ Below w.heap.size w wr ∧ gk = ms.length - k)
  case atStart => exact ⟨0, _, rfl, by omega, HM0.out.1, HM0.out.2, by simp⟩
  case round =>
    obtain ⟨k, f, rfl, hk, hB, hbw, rfl⟩ := hrel
    have hzw := hbw.size
    by_cases hkm : k < ms.length
    · obtain ⟨b, off, rfl, _, hbh, _, hcc⟩ := HC.out (by omega)
      obtain ⟨hhs, htop, hc0, u, x, hc1, hc2, hc3, hc4, hst, hkm'⟩ := hcc k hkm
      have k0 := (hbw.cell (p := ⟨b, off + k * 5, none⟩) (by show b < _; omega)).trans hc0
      have k1 := (hbw.cell (p := ⟨b, off + k * 5 + 1, none⟩) (by show b < _; omega)).trans hc1
      have k2 := (hbw.cell (p := ⟨b, off + k * 5 + 2, none⟩) (by show b < _; omega)).trans hc2
      have k3 := (hbw.cell (p := ⟨b, off + k * 5 + 3, none⟩) (by show b < _; omega)).trans hc3
      have k4 := (hbw.cell (p := ⟨b, off + k * 5 + 4, none⟩) (by show b < _; omega)).trans hc4
      obtain ⟨Au, cu, rfl, -⟩ := id hst
      obtain ⟨Ax, cx, Ux, rfl, -⟩ := id hkm'.parts
      have ha := al1 wr (.cells #[.string ms[k].head, .slice Au ms[k].body.length cu, .int .i64 ms[k].term.kind, .int .i64 ms[k].term.num, .slice Ax ms[k].term.kids.length cx] 67)
      have R0 := Row.made wr 67 #[.string ms[k].head, .slice Au ms[k].body.length cu, .int .i64 ms[k].term.kind, .int .i64 ms[k].term.num, .slice Ax ms[k].term.kids.length cx]
      have HBA := Lib.hid (hbw.trans (ha.mono hzw))
      have HHA := Lib.hid (hB.below hzw ha)
      have HLT : Hid (∀ g, (valH f ms[k].head).ownBlock = some g → g ≠ wr.heap.size) := Lib.hid (fun g hg => by have := ((hB.look hhs).own g hg).2.1; omega)
      have HST := Lib.hid (hst.below HBA.out hhi)
      have HKM := Lib.hid (hkm'.keep (Keeps.below HBA.out hhi))
      have HR0 := Lib.hid R0
      have HBK : Hid (b < w.heap.size) := Lib.hid (by omega)
      have hxz : (wr.alloc (.cells #[.string ms[k].head, .slice Au ms[k].body.length cu, .int .i64 ms[k].term.kind, .int .i64 ms[k].term.num, .slice Ax ms[k].term.kids.length cx] 67)).heap.size = wr.heap.size + 1 := by simp
      have HXZ := Lib.hid hxz
      clear hxz R0 ha hcc hc0 hc1 hc2 hc3 hc4 hst hkm' hbw hB
      go_wp2
      generalize wr.alloc (.cells #[.string ms[k].head, .slice Au ms[k].body.length cu, .int .i64 ms[k].term.kind, .int .i64 ms[k].term.num, .slice Ax ms[k].term.kids.length cx] 67) = wx at HBA HHA HST HKM HR0 HXZ ⊢
      clear k0 k1 k2 k3 k4
      generalize hp : wr.heap.size = p at HR0 HXZ HLT hzw ⊢
      have hxz := HXZ.out
      have HHD := Lib.hid (HHA.out.below (by omega) ((Below.refl wx.heap.size wx).drew))
      have ad := al1 wx.drew (.cells #[.string ms[k].head, .slice Au ms[k].body.length cu, .int .i64 ms[k].term.kind, .int .i64 ms[k].term.num, .slice Ax ms[k].term.kids.length cx] 67)
      have HHE := Lib.hid (HHD.out.below (by show w.heap.size ≤ wx.heap.size; omega) ad)
      have HA1 := Lib.hid (HHD.out.look hhs)
      have HA2 := Lib.hid (HHE.out.look hhs)
      have l1 := HA1.out.run
      have l2 : (Instr.lookup 78 (.map (some w.heap.size)) (.string ms[k].head) false).run Try.prog (wx.alloc (.cells #[.string ms[k].head, .slice Au ms[k].body.length cu, .int .i64 ms[k].term.kind, .int .i64 ms[k].term.num, .slice Ax ms[k].term.kids.length cx] 67)).drew = .ok (valH f ms[k].head) (wx.alloc (.cells #[.string ms[k].head, .slice Au ms[k].body.length cu, .int .i64 ms[k].term.kind, .int .i64 ms[k].term.num, .slice Ax ms[k].term.kids.length cx] 67)).drew := HA2.out.run
      have RD : Row wx.drew p 67 #[.string ms[k].head, .slice Au ms[k].body.length cu, .int .i64 ms[k].term.kind, .int .i64 ms[k].term.num, .slice Ax ms[k].term.kids.length cx] := HR0.out
      have a0 := RD.cell 0
      have a1 := RD.cell 1
      have a2 := RD.cell 2
      have a3 := RD.cell 3
      have a4 := RD.cell 4
      simp at a0 a1 a2 a3 a4
      have hlx : (xsH f ms[k].head).length ≤ k := by
        have e := congrArg List.length HA1.out.mades
        rw [List.length_map] at e
        have e2 : (ofHead (ms.take k) ms[k].head).length ≤ (ms.take k).length := List.length_filter_le _ _
        rw [List.length_take] at e2
        omega
      have HPUT : Hid (∀ gg capg w6, w6.ownsRow w.heap.size 67 5 (.slice (some ⟨gg, 0, none⟩) ((xsH f ms[k].head).length + 1) capg) ((xsH f ms[k].head).length + 1) (flatD (xsH f ms[k].head) ++ [.string ms[k].head, .slice Au ms[k].body.length cu, .int .i64 ms[k].term.kind, .int .i64 ms[k].term.num, .slice Ax ms[k].term.kids.length cx]) →
          (wx.drew.alloc (.cells #[.string ms[k].head, .slice Au ms[k].body.length cu, .int .i64 ms[k].term.kind, .int .i64 ms[k].term.num, .slice Ax ms[k].term.kids.length cx] 67)).grownBy w6 (valH f ms[k].head).ownBlock → ((valH f ms[k].head).ownBlock = some gg ∨ gg = wx.heap.size + 1) →
          ∃ w7 f', (Instr.mapUpdate 78 (.map (some w.heap.size)) (.string ms[k].head) (.slice (some ⟨gg, 0, none⟩) ((xsH f ms[k].head).length + 1) capg)).run Try.prog w6 = .ok () w7 ∧ ByH w7 w.heap.size w.heap.size (ms.take (k + 1)) f' ∧ Below w.heap.size w w7) := Lib.hid (fun gg capg w6 ho hg hat => by
        have e := HHE.out.put (y := ⟨ms[k], .slice Au ms[k].body.length cu, .slice Ax ms[k].term.kids.length cx, 0, 0, 0, 0⟩) (by have := ad.size; show w.heap.size ≤ _; have : wx.drew.heap.size = wx.heap.size := rfl; omega) (by rw [List.length_take]; omega) hhs HA2.out
          ⟨hhs, htop, ((HST.out.below (Below.refl wx.heap.size wx).drew (by omega)).below ad (by show hi ≤ wx.heap.size; omega)).more (Nat.zero_le _) hhi, ((HKM.out.keep (Keeps.below (Below.refl wx.heap.size wx).drew (by omega))).keep (Keeps.below ad (by show hi ≤ wx.heap.size; omega))).more (Nat.zero_le _) hhi⟩ ho hg (by simpa using hat)
        obtain ⟨w7, h1, h2, h3⟩ := e
        have e2 : ms.take (k + 1) = ms.take k ++ [ms[k]] := List.take_succ_eq_append_getElem hkm
        exact ⟨w7, updH f ms[k].head ⟨xsH f ms[k].head ++ [⟨ms[k], .slice Au ms[k].body.length cu, .slice Ax ms[k].term.kids.length cx, 0, 0, 0, 0⟩], gg, capg⟩, h1, by rw [e2]; exact h2, (HBA.out.trans (((Below.refl wx.heap.size wx).drew.trans ad).mono (by omega))).trans h3⟩)
      have hown2 := HA2.out.grow.row
      have hpx : p < wx.heap.size := by omega
      clear ad
      generalize hvv : valH f ms[k].head = vv at l1 l2 HPUT HLT hown2
      generalize hxx : xsH f ms[k].head = xx at HPUT hown2 hlx
      have HVX := Lib.hid (And.intro hvv hxx)
      clear hvv hxx hxz
      go_region_law (first
        | (refine step_append_lies _ (by rfl) _ _ _ (by rfl) w.heap.size 67 i0 _ 5 80 Try.underlying24 hi0 hz0 hz1 hz2 rfl (by omega) vv xx.length (flatD xx) (by rfl) hown2 ⟨wx.heap.size, 0, none⟩ 1 1 [.string ms[k].head, .slice Au ms[k].body.length cu, .int .i64 ms[k].term.kind, .int .i64 ms[k].term.num, .slice Ax ms[k].term.kids.length cx] (by rfl) (by rfl) (made_news wx.drew _ _ _ _ _) (made_one _ _ _ _ _ _ _ _ _) (by omega) (by unfold maxLen; omega) (by omega) (by have := HXZ.out; simp; omega) (wx.heap.size + 1) (by simp) ?_; intro gg capg w6 hown6 hg6 hat6 hlt6; obtain ⟨w7, f7, hup, FB7⟩ := HPUT.out gg capg w6 hown6 hg6 hat6; have R9 : Row w6 p 67 #[.string ms[k].head, .slice Au ms[k].body.length cu, .int .i64 ms[k].term.kind, .int .i64 ms[k].term.num, .slice Ax ms[k].term.kids.length cx] := (RD.alloc _).same (hg6.block p (by simp; omega) (fun e => HLT.out p e.symm rfl)); have c6 := R9.cell 0; simp at c6))
      all_goals
        have HFB := Lib.hid FB7
        clear FB7 hown6 hg6 hat6 hlt6 R9 c6
        go_wp2
        go_roundg (ms.length - (k + 1))
        case rel => exact ⟨k + 1, f7, by go_num, by omega, HFB.out.1, HFB.out.2, rfl⟩
        case measure => omega
    · have hks : k = ms.length := by omega
      subst hks
      rw [List.take_length] at hB
      have FIN := Lib.hid (And.intro hB hbw)
      clear hB hbw
      go_wp2
      go_ret
      exact ⟨_, rfl, FIN.out⟩
end Go.Proofs.Ytiochjagolijfaa
