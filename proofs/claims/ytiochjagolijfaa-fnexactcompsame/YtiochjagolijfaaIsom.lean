/- How many parts some trees have: impl.sizeOfAll. -/
import Derived.Test.YtiochjagolijfaaJUfpm
import Derived.Test.YtiochjagolijfaaJTxt
import Derived.Deep.LoopGhost
import Derived.Deep.QuietTactic
import Derived.Deep.RegionWith
import Derived.Deep.RegionHeld3
import Derived.StillTailTactics
import Derived.Deep.AppendLies
namespace Go.Proofs.Ytiochjagolijfaa
open Go.RowKit

def SzRM (w : World) (lo hi : Nat) (root : List TermD) (v4 : Value) (wr : World) (gk : Nat) : Prop :=
  ∃ top r M rd, SzIM w lo hi root top r M rd ∧ StkM wr (w.heap.size + 1) v4 (r.reverse ++ [top]) ∧ PM wr w.heap.size plV (fun x => .int .i64 x) M ∧ Below w.heap.size w wr ∧ gk = costM top r rd
theorem StkM.made (w : World) (base : Nat) (e : EntM) (hb : base ≤ w.heap.size) (h0 : e.dn = 0) : StkM (w.alloc (.cells #[e.v, .int .i64 0, .int .i64 0] 159)) base (.slice (some ⟨w.heap.size, 0, none⟩) 1 1) ([] ++ [e]) := by
  refine ⟨by simp [flatEM], .inr ⟨w.heap.size, 1, _, rfl, hb, heap_alloc_new w _, by simp, by unfold maxLen; omega, rfl, ?_⟩⟩
  simp [flatEM, h0, sizeMs]
theorem Try.infoTallyM : (Try.prog.info? 159).map (fun i => (i.zero, i.size, i.bytes)) = some (some (.agg #[.slice none 0 0, .int .i64 0, .int .i64 0]), 3, 40) := by kernel_rfl
theorem stk3_newM (w : World) (a b c : Value) : ∀ j u, [a, b, c][j]? = some u → (w.alloc (.cells #[a, b, c] 159)).cell? ((⟨w.heap.size, 0, none⟩ : Addr).add j) = some u :=
  World.news_of_block (cs := #[a, b, c]) (t := 159) (fr := (0, 0)) (heap_alloc_new _ _)

theorem undSizesM : Try.prog.underlying 157 = some (.map 149 2) := Try.underlying157
/-- one more is counted -/
theorem stk_addM {wr : World} {base g cap : Nat} {top : EntM} {r : List EntM} (HQ : ∀ e' : EntM, e'.v = top.v → StkM ((wr.setCell ⟨g, r.length * 3 + 1, none⟩ (.int .i64 (e'.dn : Int))).setCell ⟨g, r.length * 3 + 2, none⟩ (.int .i64 (sizeMs (e'.ts.take e'.dn) : Int))) base (.slice (some ⟨g, 0, none⟩) (r.length + 1) cap) (r.reverse ++ [e']))
    (hlt : top.dn < top.ts.length) (x : Int) (hx : x = (sizeMs top.ts[top.dn].kids : Int)) (w2 : World) (hw : w2.heap[g]? = wr.heap[g]?) :
    StkM ((w2.setCell ⟨g, r.length * 3 + 1, none⟩ (.int .i64 ((top.dn : Int) + 1))).setCell ⟨g, r.length * 3 + 2, none⟩ (.int .i64 ((sizeMs (top.ts.take top.dn) : Int) + (1 + x)))) base (.slice (some ⟨g, 0, none⟩) (r.length + 1) cap) (r.reverse ++ [{ top with dn := top.dn + 1 }]) := by
  have h := HQ { top with dn := top.dn + 1 } rfl
  have e1 := sizeMs_take top.ts top.dn hlt
  have e2 := sizeM_eq top.ts[top.dn]
  simp only at h
  rw [e1, e2] at h
  have e3 : ((sizeMs (top.ts.take top.dn) + (1 + sizeMs top.ts[top.dn].kids) : Nat) : Int) = (sizeMs (top.ts.take top.dn) : Int) + (1 + x) := by rw [hx]; omega
  have e4 : ((top.dn + 1 : Nat) : Int) = (top.dn : Int) + 1 := by omega
  rw [e3, e4] at h
  refine h.keep fun g' hg => ?_
  obtain rfl : g = g' := by simpa [Value.ownBlock] using hg
  simp [World.setCell, Array.getElem?_modify, hw]

set_option maxRecDepth 100000 in
/-- the list of Kids of a tree, by the function that is handed on -/
theorem kidsOfM_any (t : TermD) (A : Option Addr) (n c : Nat) (w : World) :
    Calls Try.prog 105 #[tmV t (.slice A n c)] w fun e w' => e = .returned (.slice A n c) ∧ Below w.heap.size w w' := by
  have b1 := al1 w (.cells #[.int .i64 t.kind, .int .i64 t.num, .slice A n c] 47)
  have R := Row.made w 47 #[.int .i64 t.kind, .int .i64 t.num, .slice A n c]
  have c0 := R.cell 2
  simp at c0
  unfold tmV
  go_enter Try.func105, Try.ntmps105
  go_wp2
  go_ret
  exact ⟨rfl, b1⟩
set_option maxRecDepth 100000 in
/-- a tree's own size, by the function that is handed on -/
theorem ownOne_anyM (t : TermD) (A : Option Addr) (n c : Nat) (w : World) :
    Calls Try.prog 106 #[tmV t (.slice A n c)] w fun e w' => e = .returned (.int .i64 1) ∧ Below w.heap.size w w' := by
  have b1 := al1 w (.cells #[.int .i64 t.kind, .int .i64 t.num, .slice A n c] 47)
  unfold tmV
  go_enter Try.func106, Try.ntmps106
  go_wp2
  go_ret
  exact ⟨rfl, b1⟩
abbrev kidsFM : Value := .func (.func 105) #[] #[]
abbrev ownFM : Value := .func (.func 106) #[] #[]

set_option maxRecDepth 100000 in
set_option maxHeartbeats 4000000 in
theorem sizeOfAll_anyM (v : Value) (ts : List TermD) (lo hi : Nat) (w : World) (h : KM true w lo hi v ts) (hhi : hi ≤ w.heap.size) (hn : sizeMs ts ≤ 2097152) :
    Calls Try.prog 104 #[v, kidsFM, ownFM] w fun e w' => e = .returned (.int .i64 (sizeMs ts : Int)) ∧ Below w.heap.size w w' := by
  have H := Lib.hid h
  obtain ⟨A, c, U, rfl, hlc, hc, -⟩ := h.parts
  clear h
  have hmm := @run_makeMap Try.prog
  obtain ⟨i0, hi0, hz0, hz1, hz2⟩ := info_parts Try.infoTallyM
  go_enter Try.func104, Try.ntmps104
  go_wp2
  go_loopg [8] (costM ⟨.slice A ts.length c, ts, 0⟩ [] false) (fun gk v4 wr => SzRM w lo hi ts v4 wr gk)
  case atStart =>
    refine ⟨⟨.slice A ts.length c, ts, 0⟩, [], [], false, SzIM.start H.out hn, ?_, ?_, al2 _ _ _, rfl⟩
    · simpa using StkM.made (w.alloc (.map #[] 0)) (w.heap.size + 1) ⟨.slice A ts.length c, ts, 0⟩ (by simp) rfl
    · exact (PM.made w).keep (Below.heap_alloc _ _ _ (by simp))
  case round =>
    obtain ⟨top, r, M, rd, hI, hS, hM, hbw, rfl⟩ := hrel
    have HI := Lib.hid hI
    have HS := Lib.hid hS
    have HM := Lib.hid hM
    have hdep := hI.ch.depth
    have hsm := hI.small
    obtain ⟨hkt, hdt⟩ := hI.kd top List.mem_cons_self
    obtain ⟨g, cap, cur, rfl, hgb, hrow, hcap, hcm, hcs, s0, s1, s2, hpop, hput⟩ := hS.parts
    rw [List.length_reverse] at *
    obtain ⟨A1, c1, U1, e1, hl1, hm1, ht1, hcell1, hsub1⟩ := hkt.parts
    rw [e1] at s0
    have HP := Lib.hid hpop
    have HQ := Lib.hid hput
    have HR := Lib.hid hrow
    have HC1 := Lib.hid hcell1
    have HB1 := Lib.hid hsub1
    have HE1 := Lib.hid e1
    have hgl := hrow.lt
    clear hI hS hM hpop hput hrow hcell1 hsub1 e1 ht1 hkt
    unfold maxLen at hm1 hcm
    by_cases hlt : top.dn < top.ts.length
    · have i1 : (top.dn : Int) < (top.ts.length : Int) := by omega
      obtain ⟨b, off, rfl, _, hbh, _, hcc⟩ := HC1.out (by omega)
      obtain ⟨hc0, hc1, hc2⟩ := hcc top.dn hlt
      have k0 := (hbw.cell (p := ⟨b, off + top.dn * 3, none⟩) (by show b < _; omega)).trans hc0
      have k1 := (hbw.cell (p := ⟨b, off + top.dn * 3 + 1, none⟩) (by show b < _; omega)).trans hc1
      have k2 := (hbw.cell (p := ⟨b, off + top.dn * 3 + 2, none⟩) (by show b < _; omega)).trans hc2
      clear hcc
      have hbwr : b < wr.heap.size := by have := hbw.size; omega
      have hkid := HB1.out top.dn hlt
      obtain ⟨A2, c2, U2, e2, hl2, hm2, -, hcell2, -⟩ := hkid.parts
      rw [e2] at hc2 k2 hkid
      have HK := Lib.hid hkid
      have HV : Hid (KidVM w top.v top.dn (.slice A2 top.ts[top.dn].kids.length c2)) := Lib.hid ⟨b, off, _, _, HE1.out, hc2⟩
      have HC2 := Lib.hid hcell2
      have hle1 := sizeMs_take_le top.ts top.dn
      have hlen1 := length_sizeMs top.ts
      have hkle := sizeMs_get top.ts top.dn hlt
      rw [sizeM_eq] at hkle
      have HKL := Lib.hid hkle
      have HBW := Lib.hid hbw
      clear hkid hcell2 hc0 hc1 hc2 e2 hkle hbw
      unfold maxLen at hm2
      go_wp2
      go_quiet (fail)
      go_wp2
      have s0q : (wr.drewN nq).cell? ⟨g, r.length * 3, none⟩ = some (.slice (some ⟨b, off, none⟩) top.ts.length c1) := s0
      have s1q : (wr.drewN nq).cell? ⟨g, r.length * 3 + 1, none⟩ = some (.int .i64 (top.dn : Int)) := s1
      have k0q : (wr.drewN nq).cell? ⟨b, off + top.dn * 3, none⟩ = some (.int .i64 top.ts[top.dn].kind) := k0
      have k1q : (wr.drewN nq).cell? ⟨b, off + top.dn * 3 + 1, none⟩ = some (.int .i64 top.ts[top.dn].num) := k1
      have k2q : (wr.drewN nq).cell? ⟨b, off + top.dn * 3 + 2, none⟩ = some (.slice A2 top.ts[top.dn].kids.length c2) := k2
      have HZ : Hid (Below wr.heap.size wr (wr.drewN nq)) := Lib.hid (below_dn (Below.refl _ _) nq)
      have glq : g < (wr.drewN nq).heap.size := hgl
      have blq : b < (wr.drewN nq).heap.size := hbwr
      have HGL := Lib.hid hgl
      clear s0 s1 s2 k0 k1 k2 HR HP HQ hgl hbwr
      generalize wr.drewN nq = wq at s0q s1q k0q k1q k2q HZ glq blq ⊢
      go_region
      have ha : Below wq.heap.size wq (wq.alloc (.cells #[.int .i64 top.ts[top.dn].kind, .int .i64 top.ts[top.dn].num, .slice A2 top.ts[top.dn].kids.length c2] 47)).drew := (al1 wq _).drew
      have RA : Row (wq.alloc (.cells #[.int .i64 top.ts[top.dn].kind, .int .i64 top.ts[top.dn].num, .slice A2 top.ts[top.dn].kids.length c2] 47)).drew wq.heap.size 47 #[.int .i64 top.ts[top.dn].kind, .int .i64 top.ts[top.dn].num, .slice A2 top.ts[top.dn].kids.length c2] := Row.made wq _ _
      have BZ := HZ.out.trans (ha.mono HZ.out.size)
      clear s0q s1q k0q k1q k2q glq blq
      generalize (wq.alloc (.cells #[.int .i64 top.ts[top.dn].kind, .int .i64 top.ts[top.dn].num, .slice A2 top.ts[top.dn].kids.length c2] 47)).drew = wA at ha RA BZ ⊢
      have hra := RA.lt
      have ra0 := RA.cell 0
      have ra1 := RA.cell 1
      have ra2 := RA.cell 2
      simp at ra0 ra1 ra2
      go_wp2_with fail
      refine (kidsOfM_any top.ts[top.dn] A2 top.ts[top.dn].kids.length c2 _).mono ?_
      rintro e wa ⟨rfl, bn⟩
      have RB := Lib.hid (RA.below bn hra)
      have BA : Below wr.heap.size wr wa := BZ.trans (bn.mono BZ.size)
      have HS9 := Lib.hid (HS.out.keep (w' := wa) fun g' hg' => by
        obtain rfl : g = g' := by simpa [Value.ownBlock] using hg'
        exact BA.block g HGL.out)
      have HM9 := Lib.hid (HM.out.keep (BA.block w.heap.size HM.out.lt))
      have hbw := HBW.out.trans (BA.mono HBW.out.size)
      clear BA HZ HS HM HBW HGL ra0 ra1 ra2 RA ha BZ hra bn
      obtain ⟨g', cap', cur', e9, hgb', hrow, hcap', hcm', hcs', s0, s1, s2, hpop, hput⟩ := HS9.out.parts
      injection e9 with e91 _ e93
      injection e91 with e91
      injection e91 with e91
      subst e91 e93
      rw [List.length_reverse] at *
      have HQ := Lib.hid hput
      have HR := Lib.hid hrow
      have HS := Lib.hid HS9.out
      have HM := Lib.hid HM9.out
      have hgl := hrow.lt
      have f1 := HR.out.free (r.length * 3 + 1)
      have f2 := HR.out.free (r.length * 3 + 2)
      clear hput hrow hpop s0 HS9 HM9 hcs' hgb' hcap' hcm'
      by_cases hk0 : top.ts[top.dn].kids.length = 0
      · have n0 : ((top.ts[top.dn].kids.length : Int) == 0) = true := by rw [hk0]; rfl
        have hx0 : (0 : Int) = (sizeMs top.ts[top.dn].kids : Int) := by rw [List.eq_nil_of_length_eq_zero hk0]; rfl
        have HX := Lib.hid hx0
        clear hx0 hk0
        have rb0 := RB.out.cell 0
        have rb1 := RB.out.cell 1
        have rb2 := RB.out.cell 2
        simp at rb0 rb1 rb2
        go_wp2_with fail
        refine (ownOne_anyM top.ts[top.dn] A2 top.ts[top.dn].kids.length c2 _).mono ?_
        rintro e w0 ⟨rfl, b0⟩
        have t1 := (b0.cell (p := ⟨g, r.length * 3 + 1, none⟩) hgl).trans s1
        have t2 := (b0.cell (p := ⟨g, r.length * 3 + 2, none⟩) hgl).trans s2
        have R1 := HR.out.below b0 hgl
        have step := add_anyM g (r.length * 3) (top.dn : Int) (sizeMs (top.ts.take top.dn) : Int) 0 w0 t1 t2 (R1.free _) (R1.free _) (by omega) (by omega) (by omega) (by omega) (by omega) (by omega)
        have HG1 := Lib.hid (b0.block g hgl)
        have HM1 := Lib.hid (HM.out.keep (b0.block w.heap.size HM.out.lt))
        have HB1' := Lib.hid (hbw.trans (b0.mono hbw.size))
        clear b0 R1 rb0 rb1 rb2
        go_wp2_with fail
        refine step.mono ?_
        rintro e w1 ⟨rfl, rfl⟩
        go_wp2
        go_roundg (costM { top with dn := top.dn + 1 } r false)
        case rel => exact ⟨_, r, M, false, HI.out.add hlt, stk_addM HQ.out hlt 0 HX.out _ HG1.out, HM1.out.keep (by rw [Below.heap_setCell _ _ _ _ (by simp; omega), Below.heap_setCell _ _ _ _ (by simp; omega)]), (HB1'.out.setCell (by simp; omega) _).setCell (by simp; omega) _, rfl⟩
        case measure => exact cost_addM top r rd hlt
      · obtain ⟨b2, off2, rfl, hb2l, hb2h, hfr2, -⟩ := HC2.out (by omega)
        have hk1 : 0 < top.ts[top.dn].kids.length := by omega
        have hp : plOk w (⟨b2, off2, none⟩, top.ts[top.dn].kids.length) := hfr2 (by first | rfl | trivial)
        have HP1 := Lib.hid hp
        have n0 : ((top.ts[top.dn].kids.length : Int) == 0) = false := by rw [beq_eq_false_iff_ne]; omega
        have HWS := Lib.hid hbw.size
        clear hfr2 hp
        go_wp2_with fail
        refine (placeOf_anyM b2 off2 _ c2 _ hk1).mono ?_
        rintro e w1 ⟨rfl, hb1⟩
        have hb1' : Below wa.heap.size wa w1 := hb1
        have B1 := hbw.trans (hb1'.mono HWS.out)
        have free1 : ∀ q : Place, plOk w q → q.1.block < hi → plOk w1 q := fun q hq hb => by
          obtain ⟨x, y, hh⟩ := hq
          exact ⟨x, y, (B1.block _ (by omega)).trans hh⟩
        have hok1 : ∀ x ∈ M, plOk w1 x.1 := fun x hx => free1 _ (HI.out.mfree x hx).1 (HI.out.mfree x hx).2
        have hp1 := free1 (⟨b2, off2, none⟩, top.ts[top.dn].kids.length) HP1.out hb2h
        have hM1 := HM.out.keep (hb1'.block w.heap.size (by omega))
        have hlook := hM1.look2 keyPlaceM undSizesM hok1 (zeroI64 w1) (⟨b2, off2, none⟩, top.ts[top.dn].kids.length) hp1
        cases hlk : lk M (⟨b2, off2, none⟩, top.ts[top.dn].kids.length) with
        | some x =>
          have hx := HI.out.known hlt HK.out hlk
          rw [hlk] at hlook
          simp only [Option.elim, Option.isSome] at hlook
          unfold plV at hlook ⊢
          have RB1 := RB.out.below hb1' RB.out.lt
          have rb0 := RB1.cell 0
          have rb1 := RB1.cell 1
          have rb2 := RB1.cell 2
          simp at rb0 rb1 rb2
          have x0 : 0 ≤ x := by omega
          have x1 : x ≤ 2097152 := by have := HKL.out; omega
          have HX := Lib.hid hx
          have HM1 := Lib.hid hM1
          have HB1 := Lib.hid hb1'
          have HBW1 := Lib.hid B1
          clear hx hlk hM1 hok1 hp1 free1 hb1 hb1' B1 RB1
          go_wp2_with fail
          refine (ownOne_anyM top.ts[top.dn] (some ⟨b2, off2, none⟩) top.ts[top.dn].kids.length c2 _).mono ?_
          rintro e w1b ⟨rfl, b1b⟩
          have hb1' := HB1.out.trans (b1b.mono HB1.out.size)
          have t1 := (hb1'.cell (p := ⟨g, r.length * 3 + 1, none⟩) hgl).trans s1
          have t2 := (hb1'.cell (p := ⟨g, r.length * 3 + 2, none⟩) hgl).trans s2
          have R1 := HR.out.below hb1' hgl
          have step := add_anyM g (r.length * 3) (top.dn : Int) (sizeMs (top.ts.take top.dn) : Int) x w1b t1 t2 (R1.free _) (R1.free _) (by omega) (by omega) (by omega) (by omega) x0 x1
          have HB1' := Lib.hid (HBW1.out.trans (b1b.mono HBW1.out.size))
          have HM2 := Lib.hid (HM1.out.keep (b1b.block w.heap.size HM1.out.lt))
          have HG1 := Lib.hid (hb1'.block g hgl)
          clear R1 hb1' b1b rb0 rb1 rb2
          go_wp2_with fail
          refine (plus_any 1 x _ (by omega) (by omega) x0 (by omega)).mono ?_
          rintro e w1c ⟨rfl, rfl⟩
          go_wp2_with fail
          refine step.mono ?_
          rintro e w2 ⟨rfl, rfl⟩
          go_wp2
          go_roundg (costM { top with dn := top.dn + 1 } r false)
          case rel => exact ⟨_, r, M, false, HI.out.add hlt, stk_addM HQ.out hlt x HX.out _ HG1.out, HM2.out.keep (by rw [Below.heap_setCell _ _ _ _ (by simp; omega), Below.heap_setCell _ _ _ _ (by simp; omega)]), (HB1'.out.setCell (by simp; omega) _).setCell (by simp; omega) _, rfl⟩
          case measure => exact cost_addM top r rd hlt
        | none =>
          have hrd : rd = false := by
            cases rd with
            | false => rfl
            | true =>
              obtain ⟨q, c9, e9, h9⟩ := HI.out.ready HV.out
              injection e9 with e9 e10 e11
              injection e9 with e9
              have : q = (⟨b2, off2, none⟩, top.ts[top.dn].kids.length) := Prod.ext e9.symm e10.symm
              rw [this, hlk] at h9
              cases h9
          subst hrd
          rw [hlk] at hlook
          simp only [Option.elim, Option.isSome] at hlook
          have HI2 := Lib.hid (HI.out.push hlt (p := (⟨b2, off2, none⟩, top.ts[top.dn].kids.length)) HK.out HV.out HP1.out hb2h hk1)
          have HS1 := Lib.hid (HS.out.keep (w' := w1) fun g' hg' => by
            obtain rfl : g = g' := by simpa [Value.ownBlock] using hg'
            exact hb1'.block g hgl)
          unfold plV at hlook ⊢
          have HM1 := Lib.hid hM1
          have HB1 := Lib.hid B1
          have HF1 := Lib.hid free1
          have hg1 := Nat.lt_of_lt_of_le hgl hb1'.size
          have hm1l := hM1.lt
          clear hlk hM1 hok1 hp1 free1 hb1 hb1' B1
          go_wp2_with fail
          refine (placeOf_anyM b2 off2 _ c2 _ hk1).mono ?_
          rintro e w2 ⟨rfl, hb2⟩
          have B2 := HB1.out.trans (hb2.mono HB1.out.size)
          have free2 : ∀ q : Place, plOk w q → q.1.block < hi → plOk w2 q := fun q hq hb => by
            obtain ⟨x, y, hh⟩ := hq
            exact ⟨x, y, (B2.block _ (by omega)).trans hh⟩
          obtain ⟨w3, hrun, hM3, hmid, hsz3⟩ := (HM1.out.keep (hb2.block w.heap.size hm1l)).put keyPlaceM undSizesM (fun x hx => free2 _ (HI.out.mfree x hx).1 (HI.out.mfree x hx).2) (⟨b2, off2, none⟩, top.ts[top.dn].kids.length) (free2 _ HP1.out hb2h) endl
          have hrun' : (Instr.mapUpdate 157 (.map (some w.heap.size)) (.agg #[.pointer (some ⟨b2, off2, none⟩), .int .i64 (top.ts[top.dn].kids.length : Int)]) (.int .i64 9223372036854775807)).run Try.prog w2 = .ok () w3 := hrun
          have B3 : Below w.heap.size w w3 := B2.trans (hmid.below (by have := B2.size; omega))
          have HB3 := Lib.hid B3
          have HM3 := Lib.hid hM3
          have HS3 := Lib.hid (HS1.out.keep (w' := w3) fun g' hg' => by
            obtain rfl : g = g' := by simpa [Value.ownBlock] using hg'
            have := hb2.size
            exact (hmid.block g (by omega) (.inr (by omega))).trans (hb2.block g hg1))
          have hw3 : w.heap.size + 1 ≤ w3.heap.size := by have := hM3.lt; omega
          have HNW := Lib.hid (stk3_newM w3 (.slice (some ⟨b2, off2, none⟩) top.ts[top.dn].kids.length c2) (.int .i64 0) (.int .i64 0))
          clear hrun B2 free2 hb2 hmid hM3 B3 hsz3
          unfold plV
          go_wp2_with (at_builtin; refine wpList_append_own _ rfl _ _ 160 rfl (w.heap.size + 1) 159 i0 _ 3 40 Try.underlying160 hi0 hz0 hz1 hz2 rfl (by decide) (.slice (some ⟨g, 0, none⟩) (r.length + 1) cap) (r.length + 1) (flatEM (r.reverse ++ [top])) rfl (by have := World.ownsRow.alloc HS3.out (.cells #[.slice (some ⟨b2, off2, none⟩) top.ts[top.dn].kids.length c2, .int .i64 0, .int .i64 0] 159); simpa using this) ⟨w3.heap.size, 0, none⟩ 1 1 [.slice (some ⟨b2, off2, none⟩) top.ts[top.dn].kids.length c2, .int .i64 0, .int .i64 0] rfl rfl HNW.out (stk3_one _ _ _ _ _) (by unfold maxLen; omega) (by omega) (by simp; omega) ?_)
          intro v5 w5 hown5 hg5 _
          have A4 := al1 w3 (.cells #[.slice (some ⟨b2, off2, none⟩) top.ts[top.dn].kids.length c2, .int .i64 0, .int .i64 0] 159)
          have S5 : StkM w5 (w.heap.size + 1) v5 ((top :: r).reverse ++ [⟨.slice (some ⟨b2, off2, none⟩) top.ts[top.dn].kids.length c2, top.ts[top.dn].kids, 0⟩]) := by
            unfold StkM
            rw [flatE_snocM, List.reverse_cons]
            simpa [sizeMs] using hown5
          have O4 := World.ownsRow.alloc HS3.out (.cells #[.slice (some ⟨b2, off2, none⟩) top.ts[top.dn].kids.length c2, .int .i64 0, .int .i64 0] 159)
          have M5 := HM3.out.keep ((hg5.block w.heap.size (by simp; omega) (by simp [Value.ownBlock]; omega)).trans (A4.block _ (by omega)))
          have B5 : Below w.heap.size w w5 := Tx.below_grown (HB3.out.trans (A4.mono (by omega))) O4 hg5 (by simp; omega) (by omega)
          have H5 := Lib.hid (And.intro S5 (And.intro M5 B5))
          clear S5 M5 B5 O4 A4 hown5 hg5
          go_wp2
          go_roundg (costM ⟨.slice (some ⟨b2, off2, none⟩) top.ts[top.dn].kids.length c2, top.ts[top.dn].kids, 0⟩ (top :: r) false)
          case rel => exact ⟨_, _, _, _, HI2.out, H5.out.1, H5.out.2.1, H5.out.2.2, rfl⟩
          case measure => exact cost_pushM top r _ hlt
    · have hdn : top.dn = top.ts.length := by omega
      have HD := Lib.hid hdn
      have nlt : decide ((top.dn : Int) < (top.ts.length : Int)) = false := decide_eq_false (by omega)
      cases r with
      | nil =>
        have hroot : top.ts = ts := HI.out.ch
        have HRT := Lib.hid hroot
        clear hroot hdn
        simp only [List.length_nil, Nat.zero_mul, Nat.zero_add] at s0 s1 s2
        go_wp2
        go_quiet (fail)
        go_wp2
        go_ret
        refine ⟨ret_int ?_, below_dn hbw _⟩
        rw [HD.out, List.take_length, HRT.out]
      | cons e r' =>
        have hpos : 0 < top.ts.length := HI.out.ch.1
        obtain ⟨b2, off2, rfl, hb2l, hb2h, hfr2, -⟩ := HC1.out hpos
        have hp : plOk w (⟨b2, off2, none⟩, top.ts.length) := hfr2 rfl
        have hrd : rd = false := by
          cases rd with
          | false => rfl
          | true => have := (HI.out.rdy rfl).1; omega
        subst hrd
        have HI2 := Lib.hid (HI.out.pop HE1.out hp hb2h)
        have HP1 := Lib.hid hp
        have hrl : (e :: r').reverse = r'.reverse ++ [e] := by simp
        rw [hrl] at HP
        have HMC := Lib.hid (cost_popM top e r' hdn)
        rw [hdn, List.take_length] at s2
        have HWS := Lib.hid hbw.size
        generalize hm : (e :: r').length = m at *
        have hm0 : 0 < m := by rw [← hm]; simp
        have n1 : (((m : Int) + 1) == 1) = false := by rw [beq_eq_false_iff_ne]; omega
        have HPUT : ∀ w1 : World, Below wr.heap.size wr w1 → ∃ w3, (Instr.mapUpdate 157 (.map (some w.heap.size)) (.agg #[.pointer (some ⟨b2, off2, none⟩), .int .i64 (top.ts.length : Int)]) (.int .i64 (sizeMs top.ts : Int))).run Try.prog w1 = .ok () w3 ∧
            Hid (PM w3 w.heap.size plV (fun x => .int .i64 x) (up M (⟨b2, off2, none⟩, top.ts.length) (sizeMs top.ts : Int)) ∧ Below w.heap.size w w3 ∧ w3.heap[g]? = wr.heap[g]?) := fun w1 hb1 => by
          have B1 := hbw.trans (hb1.mono HWS.out)
          have free1 : ∀ q : Place, plOk w q → q.1.block < hi → plOk w1 q := fun q hq hb => by
            obtain ⟨x, y, hh⟩ := hq
            exact ⟨x, y, (B1.block _ (by omega)).trans hh⟩
          obtain ⟨w3, hrun, hM3, hmid, hsz3⟩ := (HM.out.keep (hb1.block w.heap.size (by omega))).put keyPlaceM undSizesM (fun x hx => free1 _ (HI.out.mfree x hx).1 (HI.out.mfree x hx).2) (⟨b2, off2, none⟩, top.ts.length) (free1 _ HP1.out hb2h) (sizeMs top.ts : Int)
          have := hb1.size
          exact ⟨w3, hrun, Lib.hid ⟨hM3, B1.trans (hmid.below (by have := B1.size; omega)), (hmid.block g (by omega) (.inr (by omega))).trans (hb1.block g hgl)⟩⟩
        clear hfr2 hp hdn hrl hm hdt
        go_wp2
        go_quiet (fail)
        go_wp2
        go_region_with (go_at_call 100; refine (placeOf_anyM b2 off2 _ c1 _ hpos).mono ?_; rintro e w1 ⟨rfl, hb1⟩; have hb1' : Below wr.heap.size wr w1 := ⟨hb1.os, hb1.tape, hb1.output, hb1.size, hb1.block⟩; have t2 := (hb1'.cell (p := ⟨g, m * 3 + 2, none⟩) hgl).trans s2; obtain ⟨w3, hrun, H3⟩ := HPUT w1 hb1'; clear hb1 hb1'; unfold plV)
        all_goals
          go_wp2
          go_roundg (costM e r' true)
          case rel => exact ⟨e, r', _, true, HI2.out, HP.out.keep (fun g' hg' => by
            obtain rfl : g = g' := by simpa [Value.ownBlock] using hg'
            exact H3.out.2.2), H3.out.1, H3.out.2.1, rfl⟩
          case measure => exact HMC.out
end Go.Proofs.Ytiochjagolijfaa
