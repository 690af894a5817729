/- Mades are laid anew in memory of the call's own: impl.renewMades. -/
import Derived.Test.YtiochjagolijfaaRny
import Derived.Test.YtiochjagolijfaaRnl
import Derived.Test.YtiochjagolijfaaJSym
import Derived.Test.YtiochjagolijfaaJFixS
import Derived.Deep.RegionLaw
import Derived.Deep.CutRange
import Derived.Deep.AppendLies
namespace Go.Proofs.Ytiochjagolijfaa
open Go.RowKit

theorem Try.infoMadeR : (Try.prog.info? 67).map (fun i => (i.zero, i.size, i.bytes)) = some (some (.agg #[.string ByteArray.empty, .slice none 0 0, .int .i64 0, .int .i64 0, .slice none 0 0]), 5, 80) := by kernel_rfl
set_option maxRecDepth 100000 in
set_option maxHeartbeats 8000000 in
theorem renewMades_any (v : Value) (ms : List MadeD) (lo hi : Nat) (w : World) (h : DM true w lo hi v ms) (hhi : hi ≤ w.heap.size) (hn : bulkDs ms ≤ 2097152) :
    Calls Try.prog 30 #[v] w fun e w' => ∃ u xs, e = .returned u ∧ xs.map (·.m) = ms ∧ GrowD w' (w.heap.size + 1) u xs ∧ w.heap.size < w'.heap.size ∧ Below w.heap.size w w' := by
  obtain ⟨i0, hi0, hz0, hz1, hz2⟩ := info_parts Try.infoMadeR
  obtain ⟨j0, hj0, hy0, hy1, hy2⟩ := info_parts Try.infoStr
  obtain ⟨A, c, rfl, hlc, hc, hcell⟩ := h
  unfold maxLen at hc
  have HC := Lib.hid hcell
  clear hcell
  have ha := al1 w (.cells #[.int .i64 34359738368] 106)
  have R0 := Row.made w 106 #[.int .i64 34359738368]
  go_enter Try.func30, Try.ntmps30
  go_wp2
  go_loopw [4, 6, 7, 9, 14, 29] (fun v4 _ _ _ i _ wr => ∃ (k : Nat) (xs : List Gx) (left : Int), k ≤ ms.length ∧ i = .int .i64 k ∧ xs.map (·.m) = ms.take k ∧ GrowD wr (w.heap.size + 1) v4 xs ∧ Row wr w.heap.size 106 #[.int .i64 left] ∧ 34359738368 - 40 * ((k + madesTo ms k : Nat) : Int) ≤ left ∧ left ≤ 34359738368 ∧ Below w.heap.size w wr) (fun _ _ _ _ i _ _ => ms.length - (intOf i).toNat)
  case atStart => exact ⟨0, [], 34359738368, by omega, rfl, rfl, GrowD.nil _ _, R0, by simp [madesTo], Int.le_refl _, ha⟩
  case round =>
    obtain ⟨k, xs, left, hk, rfl, hxs, hG, hroom, hl1, hl2, hbw⟩ := hrel
    have hsw := hbw.size
    by_cases hlt : k < ms.length
    · obtain ⟨b, off, rfl, _, hbh, _, hcc⟩ := HC.out (by omega)
      obtain ⟨hhs, htm, hc0, u, x, hc1, hc2, hc3, hc4, hst, hkm⟩ := hcc k hlt
      have k0 := (hbw.cell (p := ⟨b, off + k * 5, none⟩) (by show b < _; omega)).trans hc0
      have k1 := (hbw.cell (p := ⟨b, off + k * 5 + 1, none⟩) (by show b < _; omega)).trans hc1
      have k2 := (hbw.cell (p := ⟨b, off + k * 5 + 2, none⟩) (by show b < _; omega)).trans hc2
      have k3 := (hbw.cell (p := ⟨b, off + k * 5 + 3, none⟩) (by show b < _; omega)).trans hc3
      have k4 := (hbw.cell (p := ⟨b, off + k * 5 + 4, none⟩) (by show b < _; omega)).trans hc4
      have hbl := bulkD_get hlt
      have hto := madesTo_le ms k
      have hts := madesTo_succ ms k hlt
      have hse := sizeM_eq ms[k].term
      have hbe : bulkD ms[k] = ms[k].head.size + bulkS ms[k].body + sizeMs ms[k].term.kids := rfl
      have hsz : sizeM ms[k].term ≤ 2097152 := by omega
      have hhd : ms[k].head.size ≤ 281474976710656 := by omega
      have HNX : Hid (34359738368 - 40 * ((k + 1 + madesTo ms (k + 1) : Nat) : Int) ≤ left - (sizeM ms[k].term : Int) * 40) := Lib.hid (by omega)
      have hleft : (sizeM ms[k].term : Int) * 40 ≤ left := by
        have := madesTo_le ms (k + 1)
        omega
      have HST := Lib.hid (hst.below hbw hhi)
      have HKM := Lib.hid (hkm.under hbw hhi)
      have HTM := Lib.hid htm
      obtain ⟨Au, cu, rfl, hluc, hcu, _, hsc⟩ := hst
      obtain ⟨Ax, cx, Ux, rfl, -⟩ := hkm.parts
      have a6 := al1 wr (.cells #[.string ms[k].head, .slice Au ms[k].body.length cu, .int .i64 ms[k].term.kind, .int .i64 ms[k].term.num, .slice Ax ms[k].term.kids.length cx] 67)
      have R6 := Row.made wr 67 #[.string ms[k].head, .slice Au ms[k].body.length cu, .int .i64 ms[k].term.kind, .int .i64 ms[k].term.num, .slice Ax ms[k].term.kids.length cx]
      have hrl := hroom.lt
      have HG6 := Lib.hid (hG.below a6)
      have HR6 := Lib.hid (hroom.below a6 hrl)
      have HK6 := Lib.hid (HKM.out.under a6 (by omega))
      have HS6 := Lib.hid (HST.out.below a6 (by omega))
      have HB6 := Lib.hid (hbw.trans (a6.mono hsw))
      have hsy : wr.heap.size < (wr.alloc (.cells #[.string ms[k].head, .slice Au ms[k].body.length cu, .int .i64 ms[k].term.kind, .int .i64 ms[k].term.num, .slice Ax ms[k].term.kids.length cx] 67)).heap.size := by simp
      clear hcc hc0 hc1 hc2 hc3 hc4 hkm hsc htm hbe hse hts hto hbl hG hbw a6 hroom hl1
      go_wp2
      generalize wr.alloc (.cells #[.string ms[k].head, .slice Au ms[k].body.length cu, .int .i64 ms[k].term.kind, .int .i64 ms[k].term.num, .slice Ax ms[k].term.kids.length cx] 67) = wy at R6 HG6 HR6 HK6 HS6 HB6 hsy ⊢
      generalize hp6 : wr.heap.size = p6 at *
      have c60 := R6.cell 0
      have c61 := R6.cell 1
      have c62 := R6.cell 2
      have c63 := R6.cell 3
      have c64 := R6.cell 4
      simp at c60 c61 c62 c63 c64
      go_cut [7] from 18 to 25 (fun s7 wx => ∃ g l e x' left', s7 = .pointer (some ⟨g, 0, none⟩) ∧ OneD wy wx w.heap.size g l e ms[k] x' (.slice none 0 0) left left')
      case first =>
        have HKC : Hid (∀ w' : World, Below wy.heap.size wy w' → KM true w' lo hi (.slice Ax ms[k].term.kids.length cx) ms[k].term.kids ∧ Row w' w.heap.size 106 #[.int .i64 left] ∧ Row w' p6 67 #[.string ms[k].head, .slice Au ms[k].body.length cu, .int .i64 ms[k].term.kind, .int .i64 ms[k].term.num, .slice Ax ms[k].term.kids.length cx]) :=
          Lib.hid fun w' bb => ⟨HK6.out.under bb (by omega), HR6.out.below bb (by omega), R6.below bb hsy⟩
        have HA1 : Hid (∀ (o : Obj) (w' : World), Below (wy.drew.alloc o).heap.size (wy.drew.alloc o) w' → Below wy.heap.size wy w') := Lib.hid fun o w' bb => ((Below.refl _ _).drew.alloc (Nat.le_refl _) o).trans (bb.mono (by simp))
        have HA2 : Hid (∀ (o : Obj) (w' : World), Below (wy.alloc o).drew.heap.size (wy.alloc o).drew w' → Below wy.heap.size wy w') := Lib.hid fun o w' bb => ((al1 wy o).drew).trans (bb.mono (by show _ ≤ (wy.alloc o).heap.size; simp))
        have HZ1 : Hid (∀ (w3 w4 : World), Below (wy.drew.alloc (.cells #[.string ⟨#[]⟩, .slice none 0 0, .int .i64 0, .int .i64 0, .slice none 0 0] 67)).heap.size (wy.drew.alloc (.cells #[.string ⟨#[]⟩, .slice none 0 0, .int .i64 0, .int .i64 0, .slice none 0 0] 67)) w3 → Mid w.heap.size (w.heap.size + 1) w3 w4 → Row w4 wy.heap.size 67 #[.string ⟨#[]⟩, .slice none 0 0, .int .i64 0, .int .i64 0, .slice none 0 0]) := Lib.hid fun w3 w4 b m => by
          have r0 : Row (wy.drew.alloc (.cells #[.string ⟨#[]⟩, .slice none 0 0, .int .i64 0, .int .i64 0, .slice none 0 0] 67)) wy.heap.size 67 #[.string ⟨#[]⟩, .slice none 0 0, .int .i64 0, .int .i64 0, .slice none 0 0] := Row.made wy.drew _ _
          have r1 := r0.below b r0.lt
          exact r1.same (m.block _ r1.lt (by omega))
        have HZ2 : Hid (∀ (w3 w4 : World), Below (wy.alloc (.cells #[.string ⟨#[]⟩, .slice none 0 0, .int .i64 0, .int .i64 0, .slice none 0 0] 67)).drew.heap.size (wy.alloc (.cells #[.string ⟨#[]⟩, .slice none 0 0, .int .i64 0, .int .i64 0, .slice none 0 0] 67)).drew w3 → Mid w.heap.size (w.heap.size + 1) w3 w4 → Row w4 wy.heap.size 67 #[.string ⟨#[]⟩, .slice none 0 0, .int .i64 0, .int .i64 0, .slice none 0 0]) := Lib.hid fun w3 w4 b m => by
          have r0 : Row (wy.alloc (.cells #[.string ⟨#[]⟩, .slice none 0 0, .int .i64 0, .int .i64 0, .slice none 0 0] 67)).drew wy.heap.size 67 #[.string ⟨#[]⟩, .slice none 0 0, .int .i64 0, .int .i64 0, .slice none 0 0] := Row.made wy _ _
          have r1 := r0.below b r0.lt
          exact r1.same (m.block _ r1.lt (by omega))
        have HZ3 : Hid (∀ (w3 w4 : World), Below wy.heap.size wy w3 → Mid w.heap.size (w.heap.size + 1) (w3.alloc (.cells #[.string ⟨#[]⟩, .slice none 0 0, .int .i64 0, .int .i64 0, .slice none 0 0] 67)) w4 → Row w4 w3.heap.size 67 #[.string ⟨#[]⟩, .slice none 0 0, .int .i64 0, .int .i64 0, .slice none 0 0]) := Lib.hid fun w3 w4 b m => by
          have r0 := Row.made w3 67 #[.string ⟨#[]⟩, .slice none 0 0, .int .i64 0, .int .i64 0, .slice none 0 0]
          exact r0.same (m.block _ r0.lt (by have := b.size; omega))
        have lp : p6 < wy.heap.size := hsy
        have lpd : p6 < wy.drew.heap.size := hsy
        have c60d : wy.drew.cell? ⟨p6, 0, none⟩ = some (.string ms[k].head) := c60
        have c62d : wy.drew.cell? ⟨p6, 2, none⟩ = some (.int .i64 ms[k].term.kind) := c62
        have c63d : wy.drew.cell? ⟨p6, 3, none⟩ = some (.int .i64 ms[k].term.num) := c63
        have c64d : wy.drew.cell? ⟨p6, 4, none⟩ = some (.slice Ax ms[k].term.kids.length cx) := c64
        clear HG6 HS6 HB6 HNX HST HKM hxs
        go_region_law (first
          | (go_simp; go_at_call 70; refine (clone_any ms[k].head _ hhd).mono ?_; rintro e wc ⟨rfl, bc⟩; have bd : Below wy.heap.size wy wc := (by first | exact ⟨bc.os, bc.tape, bc.output, bc.size, bc.block⟩ | exact HA1.out _ _ bc | exact HA2.out _ _ bc); have rc := (HKC.out wc bd).2.2; have lpc := rc.lt; have e60 := rc.cell 0; have e62 := rc.cell 2; have e63 := rc.cell 3; have e64 := rc.cell 4; simp at e60 e62 e63 e64; clear rc)
          | (go_simp; go_at_call 71; refine (renew_any ms[k].term _ lo hi w.heap.size left _ HTM.out (HKC.out _ (by first | exact bd | exact bd.trans ((al1 wc _).mono bd.size))).1 hhi (HKC.out _ (by first | exact bd | exact bd.trans ((al1 wc _).mono bd.size))).2.1 hsz hleft hl2).mono ?_; rintro e wn ⟨x', left', rfl, ho, hm1, hm2, hr, hmid⟩; have HOI := Lib.hid ho; obtain ⟨Ax', cx', Ux', Lx', Ex', rfl, -⟩ := ho.parts; clear ho; unfold tmV; (try (have RZ := (by first | exact HZ1.out _ _ bc hmid | exact HZ2.out _ _ bc hmid | exact HZ3.out _ _ bd hmid : Row _ _ _ _); have z0 := RZ.cell 0; have z1 := RZ.cell 1; have z2 := RZ.cell 2; have z3 := RZ.cell 3; have z4 := RZ.cell 4; have y0 := RZ.free 0; have y1 := RZ.free 1; have y2 := RZ.free 2; have y3 := RZ.free 3; have y4 := RZ.free 4; simp at z0 z1 z2 z3 z4))))
        all_goals
          go_wp2_with fail
          go_meet
          first
            | (refine ⟨wn.heap.size, wc.heap.size, wn.heap.size, .slice Ax' ms[k].term.kids.length cx', left', by with_reducible rfl, ?_⟩; with_reducible exact OneD.last bd HOI.out hm1 hm2 hr hmid)
            | (refine ⟨wc.heap.size, (wc.alloc (.cells #[.string ⟨#[]⟩, .slice none 0 0, .int .i64 0, .int .i64 0, .slice none 0 0] 67)).heap.size, wn.heap.size, .slice Ax' ms[k].term.kids.length cx', left', by with_reducible rfl, ?_⟩; with_reducible exact OneD.first (bd.trans ((al1 wc _).mono bd.size)) bd.size (by simp) (by omega) HOI.out hm1 hm2 hr hmid RZ)
            | (refine ⟨wy.heap.size, wc.heap.size, wn.heap.size, .slice Ax' ms[k].term.kids.length cx', left', by with_reducible rfl, ?_⟩; with_reducible exact OneD.first bd (Nat.le_refl _) (by have := bc.size; simp at this; omega) (by omega) HOI.out hm1 hm2 hr hmid RZ)
      case rest =>
        obtain ⟨g, l, e, x', left', rfl, D⟩ := hcut
        rename World => wx
        have hm := D.mid
        have zx := hm.size
        obtain ⟨dl1, dl2, dl3⟩ := D.le
        have hgn := D.new
        have hgl := D.box.lt
        have R6x := R6.same (hm.block p6 hsy (.inr (by omega)))
        have c61x := R6x.cell 1
        simp at c61x
        have HGX := Lib.hid (HG6.out.move zx (fun q hq => hm.block q (HG6.out.row.lt q hq).2 (.inr (HG6.out.row.lt q hq).1)) fun y hy p p1 p2 => hm.block p (by have := (HG6.out.each y hy).ord; omega) (.inr (by have := (HG6.out.each y hy).ord; omega)))
        have HBX := Lib.hid (HB6.out.trans (hm.below (by omega)))
        have HSX : Hid (Strs wx lo hi (.slice Au ms[k].body.length cu) ms[k].body) := Lib.hid (HS6.out.keep fun p _ hp => hm.block p (by omega) (.inl (by omega)))
        have HG9 : Hid (∀ q, u4.ownBlock = some q → q < wy.heap.size) := Lib.hid fun q hq => (HG6.out.row.lt q hq).2
        have HG8 : Hid (∀ y ∈ xs, y.h ≤ wy.heap.size) := Lib.hid fun y hy => (HG6.out.each y hy).ord.2.2.2
        have HD := Lib.hid D
        have HRX := Lib.hid R6x
        obtain ⟨Ax', cx', Ux', Lx', Ex', rfl, -⟩ := D.kids.parts
        have hbn : ms[k].body.length ≤ 2097152 := by
          have := bulkD_get hlt
          have h2 : bulkD ms[k] = ms[k].head.size + bulkS ms[k].body + sizeMs ms[k].term.kids := rfl
          unfold bulkS at h2
          omega
        have HSY : Hid (∀ s ∈ ms[k].body, s.size ≤ 281474976710656) := Lib.hid fun s hs => by
          have := bulkD_get hlt
          have h2 : bulkD ms[k] = ms[k].head.size + bulkS ms[k].body + sizeMs ms[k].term.kids := rfl
          have h3 := sizes_mem hs
          unfold bulkS at h2
          omega
        have hgp : g ≠ p6 := by omega
        clear HG6 HS6 HB6 hm D R6 R6x c60 c61 c62 c63 c64
        go_wp2
        go_loopw [9, 29] (fun _ i wr' => ∃ (j : Nat) (bv : Value), j ≤ ms[k].body.length ∧ i = .int .i64 j ∧ Row wr' g 67 #[.string ms[k].head, bv, .int .i64 ms[k].term.kind, .int .i64 ms[k].term.num, .slice Ax' ms[k].term.kids.length cx'] ∧ Sts wr' wx.heap.size bv (ms[k].body.take j) ∧ Mid g (g + 1) wx wr') (fun _ i _ => ms[k].body.length - (intOf i).toNat)
        case atStart => exact ⟨0, _, by omega, rfl, HD.out.box, by rw [List.take_zero]; exact World.ownsRow_nil _ _ _ _, Mid.refl _ _ _⟩
        case round =>
          obtain ⟨j, bv, hj, rfl, RG, stb, hmid⟩ := hrel
          have hsz2 := hmid.size
          obtain ⟨Bv, dv, ebv⟩ := stb.shape
          have htk : (ms[k].body.take j).length = j := by rw [List.length_take]; omega
          rw [htk] at ebv
          subst ebv
          by_cases hjl : j < ms[k].body.length
          · obtain ⟨_, _, e0, _, _, _, hcellb⟩ := HSX.out
            injection e0 with e01 _ e02
            subst e01 e02
            obtain ⟨b1, off1, rfl, _, hbh1, hcc1⟩ := hcellb (by omega)
            have hcb := (World.cell?_of_block (w := wx) (a := ⟨b1, off1 + j, none⟩) (hmid.block b1 (by omega) (by omega))).trans (hcc1 j hjl)
            have hsy2 := HSY.out _ (List.getElem_mem hjl)
            clear hcellb hcc1
            have HOW : Hid (wr.ownsRow wx.heap.size 9 1 (.slice Bv j dv) j ((ms[k].body.take j).map Value.string)) := Lib.hid (by have := stb; unfold Sts at this; rw [htk] at this; exact this)
            have HOC : Hid (∀ wc : World, Below wr.heap.size wr wc → wc.ownsRow wx.heap.size 9 1 (.slice Bv j dv) j ((ms[k].body.take j).map Value.string) ∧ Row wc g 67 #[.string ms[k].head, .slice Bv j dv, .int .i64 ms[k].term.kind, .int .i64 ms[k].term.num, .slice Ax' ms[k].term.kids.length cx']) :=
              Lib.hid fun wc bb => ⟨own_keep HOW.out fun q hq => bb.block q (HOW.out.lt q hq).2, RG.below bb (by omega)⟩
            have HTK := Lib.hid (List.take_succ_eq_append_getElem hjl)
            have HRG := Lib.hid RG
            have HMI := Lib.hid hmid
            have lg1 : g < wr.heap.size := by omega
            have lg2 : g < wr.drew.heap.size := lg1
            have gc1 := RG.cell 1
            simp at gc1
            have gc2 : wr.drew.cell? ⟨g, 1, none⟩ = some (.slice Bv j dv) := gc1
            generalize hsym : ms[k].body[j] = sym at hcb hsy2 HTK
            clear hsym stb RG hmid
            go_wp2
            go_region_law (first
              | (refine step_append_lies _ (by rfl) _ _ _ (by rfl) wx.heap.size 9 j0 _ 1 16 Try.underlying63 hj0 hy0 hy1 hy2 rfl (by omega) (.slice Bv j dv) j ((ms[k].body.take j).map Value.string) (by rfl) (World.ownsRow.alloc (HOC.out wc bd).1 _) ⟨wc.heap.size, 0, none⟩ 1 1 [.string sym] (by rfl) (by rfl) (World.news_of_block (cs := #[.string sym]) (t := 9) (fr := (0, 0)) (heap_alloc_new wc _)) (one_str _) (by omega) (by unfold maxLen; omega) (by omega) (by simp; omega) (wc.heap.size + 1) (by simp) ?_; intro gg capg w6 hown6 hg6 hat6 hlt6; have R9 := Tx.row_grown ((HOC.out wc bd).2.alloc (.cells #[.string sym] 9)) (World.ownsRow.alloc (HOC.out wc bd).1 _) (by decide) ⟨hg6.os, hg6.tape, hg6.output, hg6.size, hg6.block⟩; have c6 := R9.cell 1; have f6 := R9.free 1; simp at c6)
              | (go_simp; go_at_call 70; refine (clone_any sym _ hsy2).mono ?_; rintro e wc ⟨rfl, bc⟩; have bd : Below wr.heap.size wr wc := ⟨bc.os, bc.tape, bc.output, bc.size, bc.block⟩; have lgc := (HOC.out wc bd).2.lt; have gc3 := (HOC.out wc bd).2.cell 1; simp at gc3; have zwc : wx.heap.size ≤ wc.heap.size := by have := bd.size; omega))
            all_goals
              have FIN := Lib.hid (OneD.sym hgl HRG.out HOW.out HMI.out bd hown6 ⟨hg6.os, hg6.tape, hg6.output, hg6.size, hg6.block⟩ htk)
              rw [← HTK.out] at FIN
              clear hown6 hg6 hat6 hlt6 R9 c6 f6 bc bd
              go_wp2
              go_roundw
              case rel => exact ⟨j + 1, _, by omega, by go_num, FIN.out.1, FIN.out.2.1, FIN.out.2.2⟩
              case measure => simp [intOf]; omega
          · have hjk : j = ms[k].body.length := by omega
            subst hjk
            rw [List.take_length] at stb
            obtain ⟨gb, hob, hgb⟩ := stb.own fun s hs => by have := HSY.out s hs; unfold maxLen; omega
            have hxl : xs.length = k := by have := congrArg List.length hxs; rw [List.length_map, List.length_take] at this; omega
            have hk2 : xs.length ≤ 2097152 := by have : ms.length ≤ bulkDs ms := (by unfold bulkDs; omega); omega
            clear hxl
            have hGr : GrowD wr (w.heap.size + 1) u4 xs := HGX.out.move hsz2 (fun q hq => hmid.block q (HGX.out.row.lt q hq).2 (by have := (HG9.out q hq); omega)) fun y hy p p1 p2 => hmid.block p (by have := (HGX.out.each y hy).ord; omega) (by have := HG8.out y hy; omega)
            have hgx : GxAt wr (w.heap.size + 1) ⟨ms[k], .slice Bv ms[k].body.length dv, .slice Ax' ms[k].term.kids.length cx', gb, l, e, wr.heap.size⟩ :=
              ⟨hhs, HTM.out, hob, fun hn => by have := hgb hn; show e ≤ gb ∧ gb < wr.heap.size; omega, HD.out.kids.keep fun p p1 p2 => hmid.block p (by omega) (by have := HD.out.far; omega), by show w.heap.size + 1 ≤ l ∧ l ≤ e ∧ e ≤ wr.heap.size ∧ wr.heap.size ≤ wr.heap.size; omega⟩
            have ga := al1 wr (.cells #[.string ms[k].head, .slice Bv ms[k].body.length dv, .int .i64 ms[k].term.kind, .int .i64 ms[k].term.num, .slice Ax' ms[k].term.kids.length cx'] 67)
            have HGA := Lib.hid (hGr.below ga)
            have HGY := Lib.hid (hgx.keep (w' := wr.alloc (.cells #[.string ms[k].head, .slice Bv ms[k].body.length dv, .int .i64 ms[k].term.kind, .int .i64 ms[k].term.num, .slice Ax' ms[k].term.kids.length cx'] 67)) (by simp) fun p p1 p2 => ga.block p p2)
            have HMI := Lib.hid hmid
            have g0 := RG.cell 0
            have g1 := RG.cell 1
            have g2 := RG.cell 2
            have g3 := RG.cell 3
            have g4 := RG.cell 4
            simp at g0 g1 g2 g3 g4
            have HRM := Lib.hid (HD.out.room.same (hmid.block w.heap.size (by omega) (by omega)))
            have HHX := Lib.hid hxs
            clear hGr hgx ga hmid RG stb hob hgb hxs
            go_wp2_with (at_builtin; refine wpList_append_lies _ rfl _ _ 24 rfl (w.heap.size + 1) 67 i0 _ 5 80 Try.underlying24 hi0 hz0 hz1 hz2 rfl (by decide) u4 xs.length (flatD xs) rfl HGA.out.row ⟨wr.heap.size, 0, none⟩ 1 1 [.string ms[k].head, .slice Bv ms[k].body.length dv, .int .i64 ms[k].term.kind, .int .i64 ms[k].term.num, .slice Ax' ms[k].term.kids.length cx'] rfl rfl (made_news _ _ _ _ _ _) (made_one _ _ _ _ _ _ _ _ _) (by omega) (by unfold maxLen; omega) (by omega) (by simp; omega) (wr.heap.size + 1) (by simp) ?_)
            intro gg capg w6 hown6 hg6 hat6 hlt6
            have FIN : Hid (GrowD w6 (w.heap.size + 1) (.slice (some ⟨gg, 0, none⟩) (xs.length + 1) capg) (xs ++ [⟨ms[k], .slice Bv ms[k].body.length dv, .slice Ax' ms[k].term.kids.length cx', gb, l, e, wr.heap.size⟩]) ∧ Row w6 w.heap.size 106 #[.int .i64 left'] ∧ Below w.heap.size w w6) := Lib.hid (by
              refine ⟨HGA.out.snoc HGY.out (fun y hy => by have := HG8.out y hy; show y.h ≤ l; omega) (fun q hq => by have := HG9.out q hq; show q < l; omega) hown6 hg6 (by rw [show (wr.alloc (.cells #[.string ms[k].head, .slice Bv ms[k].body.length dv, .int .i64 ms[k].term.kind, .int .i64 ms[k].term.num, .slice Ax' ms[k].term.kids.length cx'] 67)).heap.size = wr.heap.size + 1 by simp]; exact hat6), ?_, ?_⟩
              · exact (HRM.out.alloc _).same (hg6.block _ (by simp; omega) fun h => by have := (HGA.out.row.lt _ h.symm).1; omega)
              · have b1 : Below w.heap.size w wr := HBX.out.trans (HMI.out.below (by omega) |>.mono (by omega))
                exact Tx.below_grown (b1.trans ((al1 wr _).mono (by omega))) HGA.out.row hg6 (by simp; omega) (by omega))
            have HXX : Hid ((xs ++ [(⟨ms[k], .slice Bv ms[k].body.length dv, .slice Ax' ms[k].term.kids.length cx', gb, l, e, wr.heap.size⟩ : Gx)]).map (·.m) = ms.take (k + 1)) := Lib.hid (by
              rw [List.map_append, HHX.out, List.take_succ_eq_append_getElem hlt]; rfl)
            have hmr := HD.out.more
            have hlf : 34359738368 - 40 * ((k + 1 + madesTo ms (k + 1) : Nat) : Int) ≤ left' := by have := HNX.out; omega
            clear hown6 hg6 hat6 hlt6
            go_wp2
            go_roundw
            case rel => exact ⟨k + 1, _, left', by omega, by go_num, HXX.out, FIN.out.1, FIN.out.2.1, hlf, by omega, FIN.out.2.2⟩
            case measure => simp [intOf]; omega
    · have hks : k = ms.length := by omega
      subst hks
      rw [List.take_length] at hxs
      have FIN := Lib.hid (And.intro hxs (And.intro hG (And.intro hroom.lt hbw)))
      have hv4 : ∃ A c, u4 = .slice A xs.length c := by
        rcases hG.row.2 with ⟨rfl, h0⟩ | ⟨g, cap, cur, rfl, _⟩
        · exact ⟨_, _, by rw [h0]⟩
        · exact ⟨_, _, rfl⟩
      obtain ⟨A4, c4, rfl⟩ := hv4
      clear hG hroom hbw hxs
      go_wp2
      go_ret
      exact ⟨_, xs, rfl, FIN.out.1, FIN.out.2.1, FIN.out.2.2⟩
end Go.Proofs.Ytiochjagolijfaa
