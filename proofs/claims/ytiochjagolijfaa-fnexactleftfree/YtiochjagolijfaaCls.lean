/- The clean Mades, of the model: l07Clean. -/
import Derived.Test.YtiochjagolijfaaJClg
import Derived.Test.YtiochjagolijfaaMcp
import Derived.Test.YtiochjagolijfaaRnm
import Derived.Test.YtiochjagolijfaaJFixS
import Derived.Test.YtiochjagolijfaaJShr
import Derived.Test.YtiochjagolijfaaJEq
import Derived.Deep.LoopGhost
import Derived.Deep.AppendLies
import Derived.Deep.QuietTactic
import Derived.BigQuiet
namespace Go.Proofs.Ytiochjagolijfaa
open Go.RowKit

/-- good heads so far, in a row of the call's own that is not block p -/
structure InsI (ms : List MadeD) (w : World) (p : Nat) (v : Value) (ins : List ByteArray) (wr : World) : Prop where
  sts : Sts wr w.heap.size v ins
  good : GoodN ms ins
  apart : ∀ q, v.ownBlock = some q → q ≠ p
  bel : Below w.heap.size w wr
theorem good_closed {ms : List MadeD} {ins : List ByteArray} (g : GoodN ms ins) (h : ∀ i (hi : i < ms.length), allB ms[i].body ins true = true → ms[i].head ∈ ins) : GoodL ms ins := ⟨g.sound, fun m hm => by
  obtain ⟨i, hi, rfl⟩ := List.mem_iff_getElem.1 hm
  exact h i hi⟩
/-- of good heads none is longer than a text may be -/
theorem GoodN.sizes {ms : List MadeD} {ins : List ByteArray} (g : GoodN ms ins) (h : ∀ i (hi : i < ms.length), ms[i].head.size ≤ maxLen) : ∀ s ∈ ins, s.size ≤ maxLen := fun s hs => by
  obtain ⟨m, hm, rfl⟩ := List.mem_map.1 (g.head s hs)
  obtain ⟨i, hi, rfl⟩ := List.mem_iff_getElem.1 hm
  exact h i hi

theorem sts_at {w : World} {base : Nat} {v : Value} {ss : List ByteArray} (h : Sts w base v ss) {i : Nat} {t : ByteArray} (hi : ss[i]? = some t) : ∃ g cap, v = .slice (some ⟨g, 0, none⟩) ss.length cap ∧ w.cell? ⟨g, i, none⟩ = some (.string t) := by
  have hl : i < ss.length := (List.getElem?_eq_some_iff.1 hi).1
  have h' : w.ownsRow base 9 1 v ss.length (ss.map Value.string) := h
  rcases h.2 with ⟨_, h0⟩ | ⟨g, cap, cur, rfl, _⟩
  · omega
  · refine ⟨g, cap, rfl, ?_⟩
    have := World.ownsRow.cells h' (g := g) rfl i (.string t) (by rw [List.getElem?_map, hi]; rfl)
    rwa [show (⟨g, 0, none⟩ : Addr).add i = ⟨g, i, none⟩ by unfold Addr.add; split <;> simp_all] at this
theorem eq_strs (a b : ByteArray) : (a.toList == b.toList) = decide (a = b) := list_eqE a b
set_option maxRecDepth 100000 in
set_option maxHeartbeats 8000000 in
theorem l07Clean_any (v : Value) (ms : List MadeD) (start : ByteArray) (lo hi : Nat) (w : World) (h : DM true w lo hi v ms) (hhi : hi ≤ w.heap.size) (hn : bulkDs ms ≤ 1048576) (hss : start.size ≤ maxLen) :
    Calls Try.prog 27 #[v, .string start] w fun e w' => ∃ u, e = .returned u ∧ DM true w' 0 w'.heap.size u (cleanOf ms start) ∧ Below w.heap.size w w' := by
  obtain ⟨s0, hs0, hx0, hx1, hx2⟩ := info_parts Try.infoStr
  obtain ⟨i0, hi0, hz0, hz1, hz2⟩ := info_parts Try.infoMadeR
  have hml : ms.length ≤ 1048576 := by unfold bulkDs at hn; omega
  obtain ⟨A, c, rfl, hlc, hc, hcell⟩ := h
  have HHS : Hid (∀ i (hi : i < ms.length), ms[i].head.size ≤ maxLen) := Lib.hid fun i hi => by
    obtain ⟨_, _, _, _, _, _, hcc⟩ := hcell (by omega)
    exact (hcc i hi).1
  have HBS : Hid (∀ m ∈ ms, ∀ s ∈ m.body, s.size ≤ maxLen) := Lib.hid fun m hm => by
    obtain ⟨i, hi, rfl⟩ := List.mem_iff_getElem.1 hm
    obtain ⟨_, _, _, _, _, _, hcc⟩ := hcell (by omega)
    obtain ⟨_, _, _, _, _, _, _, _, _, ⟨_, _, _, _, _, q, _⟩, _⟩ := hcc i hi
    exact q
  have HZR : Hid (∀ rc : List ByteArray, RchN ms start rc → ∀ s ∈ rc, s.size ≤ maxLen) := Lib.hid fun rc g s hs => by
    rcases g.sub s hs with rfl | ⟨m, hm, hb⟩
    · exact hss
    · exact HBS.out m hm s hb
  have HC := Lib.hid hcell
  unfold maxLen at hc
  clear hcell
  have ha := al2 w (.cells #[] 9) (.cells #[.string start] 9)
  have hI0 : InsI ms w (w.heap.size + 1) (.slice (some ⟨w.heap.size, 0, none⟩) 0 0) [] ((w.alloc (.cells #[] 9)).alloc (.cells #[.string start] 9)) :=
    ⟨World.ownsRow.alloc (World.ownsRow_lit w #[] 0 (Nat.le_refl _) (by unfold maxLen; omega) rfl) _, GoodN.nil ms, fun q hq => by
      have : w.heap.size = q := by simpa [Value.ownBlock] using hq
      omega, ha⟩
  have hR0 : Row ((w.alloc (.cells #[] 9)).alloc (.cells #[.string start] 9)) (w.heap.size + 1) 9 #[.string start] := by
    simpa using Row.made (w.alloc (.cells #[] 9)) 9 #[.string start]
  have HI0 := Lib.hid hI0
  clear hI0 ha
  go_enter Try.func27, Try.ntmps27
  go_wp2
  go_loopg [5, 7, 8] (2 * ms.length + 1) (fun gk v5 v7 _ wr => ∃ (ins : List ByteArray) (ag : Bool), v7 = .bool ag ∧ InsI ms w (w.heap.size + 1) v5 ins wr ∧ Row wr (w.heap.size + 1) 9 #[.string start] ∧ (ag = false → GoodL ms ins) ∧ gk = 2 * (ms.length - ins.length) + (if ag then 1 else 0))
  case atStart => exact ⟨[], true, rfl, HI0.out, hR0, (fun e => by cases e), by simp⟩
  case round =>
    obtain ⟨ins, ag, rfl, hI, hR, hag, rfl⟩ := hrel
    cases ag with
    | true =>
      have HI := Lib.hid hI
      have HR := Lib.hid hR
      clear hI hR hag
      go_wp2
      go_loopg [5, 7, 8] ms.length (fun gk v5 v7 v8 wr' => ∃ (k : Nat) (is2 : List ByteArray) (ag : Bool), k ≤ ms.length ∧ v8 = .int .i64 k ∧ v7 = .bool ag ∧ InsI ms w (w.heap.size + 1) v5 is2 wr' ∧ Row wr' (w.heap.size + 1) 9 #[.string start] ∧ (ag = false → is2 = ins ∧ ∀ i (hi : i < ms.length), i < k → allB ms[i].body ins true = true → ms[i].head ∈ ins) ∧ (ag = true → ins.length < is2.length) ∧ gk = ms.length - k)
      case atStart => exact ⟨0, ins, false, by omega, rfl, rfl, HI.out, HR.out, (fun _ => ⟨rfl, fun i _ h9 => by omega⟩), (fun e => by cases e), rfl⟩
      case round =>
        obtain ⟨k, is2, ag, hk, rfl, rfl, hI, hR, hf, ht, rfl⟩ := hrel
        have hsw := hI.bel.size
        by_cases hlt : k < ms.length
        · obtain ⟨b, off, rfl, _, hbh, _, hcc⟩ := HC.out (by omega)
          obtain ⟨hhs, _, hc0, u, x, hc1, _, _, _, hst, _⟩ := hcc k hlt
          have hbw := hI.bel
          have k0 := (hbw.cell (p := ⟨b, off + k * 5, none⟩) (by show b < _; omega)).trans hc0
          have k1 := (hbw.cell (p := ⟨b, off + k * 5 + 1, none⟩) (by show b < _; omega)).trans hc1
          have HST := Lib.hid (hst.below hbw hhi)
          have HS2 := Lib.hid (hI.sts.strs (hI.good.sizes HHS.out))
          have HI2 := Lib.hid hI
          have HR2 := Lib.hid hR
          have HF := Lib.hid hf
          have HT := Lib.hid ht
          obtain ⟨Au, cu, rfl, -⟩ := hst
          obtain ⟨Bv, dv, rfl⟩ := hI.sts.shape
          have i1 : (k : Int) < (ms.length : Int) := by omega
          have hil := hI.good.len
          clear hcc hc0 hc1 hI hR hf ht hbw
          cases hin : inB is2 ms[k].head with
          | true =>
            have HIN := Lib.hid hin
            clear hin
            go_wp2_with fail
            refine (specIn_any _ is2 ms[k].head _ _ _ HS2.out).mono ?_
            rintro e w9 ⟨rfl, rfl⟩
            rw [HIN.out]
            go_wp2
            go_roundg (ms.length - (k + 1))
            case rel =>
              refine ⟨k + 1, is2, ag, by omega, by go_num, rfl, HI2.out, HR2.out, fun e => ?_, HT.out, rfl⟩
              obtain ⟨f1, f2⟩ := HF.out e
              refine ⟨f1, fun i hi h9 hb => ?_⟩
              by_cases q : i = k
              · subst q; rw [← f1]; exact (inB_iff _ _).1 HIN.out
              · exact f2 i hi (by omega) hb
            case measure => omega
          | false =>
            have HIN := Lib.hid hin
            clear hin
            cases hall : allB ms[k].body is2 true with
            | false =>
              have HAL := Lib.hid hall
              clear hall
              go_wp2_with fail
              refine (specIn_any _ is2 ms[k].head _ _ _ HS2.out).mono ?_
              rintro e w9 ⟨rfl, rfl⟩
              rw [HIN.out]
              go_wp2_with fail
              refine (specAll_any _ _ ms[k].body is2 true _ _ _ _ _ HST.out HS2.out).mono ?_
              rintro e w9 ⟨rfl, rfl⟩
              rw [HAL.out]
              go_wp2
              go_roundg (ms.length - (k + 1))
              case rel =>
                refine ⟨k + 1, is2, ag, by omega, by go_num, rfl, HI2.out, HR2.out, fun e => ?_, HT.out, rfl⟩
                obtain ⟨f1, f2⟩ := HF.out e
                refine ⟨f1, fun i hi h9 hb => ?_⟩
                by_cases q : i = k
                · subst q
                  have := HAL.out
                  rw [f1, hb] at this
                  cases this
                · exact f2 i hi (by omega) hb
              case measure => omega
            | true =>
              have HAL := Lib.hid hall
              clear hall
              have hge : ins.length ≤ is2.length := by
                cases ag with
                | false => rw [(HF.out rfl).1]; exact Nat.le_refl _
                | true => have := HT.out rfl; omega
              have hpl := HR2.out.lt
              go_wp2_with fail
              refine (specIn_any _ is2 ms[k].head _ _ _ HS2.out).mono ?_
              rintro e w9 ⟨rfl, rfl⟩
              rw [HIN.out]
              go_wp2_with fail
              refine (specAll_any _ _ ms[k].body is2 true _ _ _ _ _ HST.out HS2.out).mono ?_
              rintro e w9 ⟨rfl, rfl⟩
              rw [HAL.out]
              go_wp2_with (at_builtin; refine wpList_append_lies _ rfl _ _ 63 rfl w.heap.size 9 s0 _ 1 16 Try.underlying63 hs0 hx0 hx1 hx2 rfl (by decide) (.slice Bv is2.length dv) is2.length (is2.map Value.string) rfl (World.ownsRow.alloc HI2.out.sts _) ⟨wr.heap.size, 0, none⟩ 1 1 [.string ms[k].head] rfl rfl (World.news_of_block (cs := #[.string ms[k].head]) (t := 9) (fr := (0, 0)) (heap_alloc_new wr _)) (one_str _) (by omega) (by unfold maxLen; omega) (by omega) (by simp; omega) (wr.heap.size + 1) (by simp) ?_)
              intro gg capg w6 hown6 hg6 hat6 hlt6
              have FIN : Hid (InsI ms w (w.heap.size + 1) (.slice (some ⟨gg, 0, none⟩) (is2.length + 1) capg) (is2 ++ [ms[k].head]) w6 ∧ Row w6 (w.heap.size + 1) 9 #[.string start]) := Lib.hid (by
                refine ⟨⟨Sts.one ms[k].head hown6, HI2.out.good.more (List.getElem_mem hlt) HIN.out HAL.out, fun q hq => ?_, ?_⟩, ?_⟩
                · obtain rfl : gg = q := by simpa [Value.ownBlock] using hq
                  rcases hat6 with e | rfl
                  · exact HI2.out.apart _ e
                  · omega
                · exact Tx.below_grown (HI2.out.bel.trans ((al1 wr _).mono hsw)) (World.ownsRow.alloc HI2.out.sts _) hg6 (by simp; omega) (Nat.le_refl _)
                · exact (HR2.out.alloc _).same (hg6.block _ (by simp; omega) fun e => HI2.out.apart _ e.symm rfl))
              clear hown6 hg6 hat6 hlt6
              go_wp2
              go_roundg (ms.length - (k + 1))
              case rel => exact ⟨k + 1, _, true, by omega, by go_num, rfl, FIN.out.1, FIN.out.2, (fun e => by cases e), (fun _ => by rw [List.length_append]; simp; omega), rfl⟩
              case measure => omega
        · have hks : k = ms.length := by omega
          subst hks
          have HI2 := Lib.hid hI
          have HR2 := Lib.hid hR
          have HF := Lib.hid hf
          have HT := Lib.hid ht
          have HL2 := Lib.hid hI.good.len
          clear hI hR hf ht
          go_wp2
          go_roundg (2 * (ms.length - is2.length) + (if ag then 1 else 0))
          case rel =>
            refine ⟨is2, ag, rfl, HI2.out, HR2.out, fun e => ?_, rfl⟩
            obtain ⟨f1, f2⟩ := HF.out e
            subst f1
            exact good_closed HI2.out.good fun i hi hb => f2 i hi hi hb
          case measure =>
            cases ag with
            | false =>
              obtain ⟨f1, _⟩ := HF.out rfl
              subst f1
              simp
            | true =>
              have := HT.out rfl
              have := HL2.out
              simp; omega
    | false =>
      have HGL := Lib.hid (hag rfl)
      have HI := Lib.hid hI
      have hR2 := hR.lt
      rename World => w2
      have HRC : Hid (Sts w2 (w.heap.size + 1) (.slice (some ⟨w.heap.size + 1, 0, none⟩) 1 1) [start]) := Lib.hid ⟨by simp, .inr ⟨w.heap.size + 1, 1, _, rfl, Nat.le_refl _, hR, Nat.le_refl _, by unfold maxLen; omega, by simp, by simp⟩⟩
      have HZI := Lib.hid (hI.good.sizes HHS.out)
      obtain ⟨Bg, dg, rfl⟩ := hI.sts.shape
      have HBW := Lib.hid hI.bel
      have hgl := hI.good.len
      have zw2 := hI.bel.size
      -- the good heads stand while the reached ones grow
      have HGS : Hid (∀ wr : World, Mid (w.heap.size + 1) (w.heap.size + 1 + 1) w2 wr → Strs wr w.heap.size wr.heap.size (.slice Bg ins.length dg) ins) := Lib.hid fun wr m =>
        (show Sts wr w.heap.size (.slice Bg ins.length dg) ins from own_keep HI.out.sts fun q hq => m.block q (HI.out.sts.lt q hq).2 (by have := HI.out.apart q hq; omega)).strs HZI.out
      have HMB : Hid (∀ wr : World, Mid (w.heap.size + 1) (w.heap.size + 1 + 1) w2 wr → Below w.heap.size w wr) := Lib.hid fun wr m => HBW.out.trans ((m.below (by omega)).mono (by omega))
      clear hI hR hag
      go_wp2
      go_loopg [6, 9, 10, 11, 12] (bulkDs ms + 2) (fun gk v6 v9 _ _ _ wr => ∃ (i : Nat) (rc : List ByteArray), v9 = .int .i64 i ∧ i ≤ rc.length ∧ Sts wr (w.heap.size + 1) v6 rc ∧ (∀ q, v6.ownBlock = some q → q = w.heap.size + 1 ∨ w2.heap.size ≤ q) ∧ Mid (w.heap.size + 1) (w.heap.size + 1 + 1) w2 wr ∧ RchN ms start rc ∧ DoneR ms rc i ∧ gk = bulkDs ms + 2 - i)
      case atStart => exact ⟨0, [start], rfl, by simp, HRC.out, (fun q hq => .inl (by simpa [Value.ownBlock] using hq.symm)), Mid.refl _ _ _, RchN.start ms start, (fun j t _ hj => by omega), rfl⟩
      case round =>
        obtain ⟨i, rc, rfl, hi', hS, hvo, hmid, hRN, hD, rfl⟩ := hrel
        have hrl := hRN.len
        by_cases hlt : i < rc.length
        · obtain ⟨t, htt⟩ : ∃ t, rc[i]? = some t := ⟨rc[i], List.getElem?_eq_getElem hlt⟩
          have HTT := Lib.hid htt
          have HS := Lib.hid hS
          have HVO := Lib.hid hvo
          have HM := Lib.hid hmid
          have HRN := Lib.hid hRN
          have HD := Lib.hid hD
          obtain ⟨Br, dr, rfl⟩ := hS.shape
          have i1 : (i : Int) < (rc.length : Int) := by omega
          clear hS hvo hmid hRN hD htt
          go_wp2
          go_loopg [6, 10, 11, 12] ms.length (fun gk v6 v10 _ _ wr => ∃ (k : Nat) (rc2 : List ByteArray), v10 = .int .i64 k ∧ k ≤ ms.length ∧ rc2[i]? = some t ∧ Sts wr (w.heap.size + 1) v6 rc2 ∧ (∀ q, v6.ownBlock = some q → q = w.heap.size + 1 ∨ w2.heap.size ≤ q) ∧ Mid (w.heap.size + 1) (w.heap.size + 1 + 1) w2 wr ∧ RchN ms start rc2 ∧ DoneR ms rc2 i ∧ (∀ k' (h : k' < ms.length), k' < k → DoneM ms rc2 t ms[k']) ∧ gk = ms.length - k)
          case atStart => exact ⟨0, rc, rfl, by omega, HTT.out, HS.out, HVO.out, HM.out, HRN.out, HD.out, (fun k' _ h9 => by omega), rfl⟩
          case round =>
            obtain ⟨k, rc2, rfl, hk, htt, hS, hvo, hmid, hRN, hD, hDK, rfl⟩ := hrel
            have hil : i < rc2.length := (List.getElem?_eq_some_iff.1 htt).1
            by_cases hkl : k < ms.length
            · obtain ⟨b, off, rfl, _, hbh, _, hcc⟩ := HC.out (by omega)
              obtain ⟨hhs, _, hc0, u, x, hc1, _, _, _, hst, _⟩ := hcc k hkl
              have HQ := Lib.hid (And.intro hc0 (And.intro hc1 hst))
              obtain ⟨Au, cu, rfl, -⟩ := hst
              have HTT2 := Lib.hid htt
              have HS2 := Lib.hid hS
              have HVO2 := Lib.hid hvo
              have HM2 := Lib.hid hmid
              have HRN2 := Lib.hid hRN
              have HD2 := Lib.hid hD
              have HDK2 := Lib.hid hDK
              have k1 : (k : Int) < (ms.length : Int) := by omega
              obtain ⟨Bs, ds, rfl⟩ := hS.shape
              generalize hmk : ms[k] = m at HQ hhs
              have HMK := Lib.hid hmk
              clear hcc hc0 hc1 hS hvo hmid hRN hD hDK htt hmk
              go_wp2
              go_loopg [6, 11, 12] m.body.length (fun gk v6 v11 _ wr => ∃ (n : Nat) (rc3 : List ByteArray), v11 = .int .i64 n ∧ n ≤ m.body.length ∧ rc3[i]? = some t ∧ Sts wr (w.heap.size + 1) v6 rc3 ∧ (∀ q, v6.ownBlock = some q → q = w.heap.size + 1 ∨ w2.heap.size ≤ q) ∧ Mid (w.heap.size + 1) (w.heap.size + 1 + 1) w2 wr ∧ RchN ms start rc3 ∧ DoneR ms rc3 i ∧ (∀ k' (h : k' < ms.length), k' < k → DoneM ms rc3 t ms[k']) ∧ (∀ n' (h : n' < m.body.length), n' < n → m.head = t → bodyG ms m.body → tokB m.body[n'] = false → m.body[n'] ∈ rc3) ∧ gk = m.body.length - n)
              case atStart => exact ⟨0, rc2, rfl, by omega, HTT2.out, HS2.out, HVO2.out, HM2.out, HRN2.out, HD2.out, HDK2.out, (fun n' _ h9 => by omega), rfl⟩
              case round =>
                obtain ⟨n, rc3, rfl, hnl, htt, hS, hvo, hmid, hRN, hD, hDK, hDN, rfl⟩ := hrel
                have hil3 : i < rc3.length := (List.getElem?_eq_some_iff.1 htt).1
                have hbw := HMB.out _ hmid
                have hsw := hbw.size
                have m0 := (hbw.cell (p := ⟨b, off + k * 5, none⟩) (by show b < _; omega)).trans HQ.out.1
                have m1 := (hbw.cell (p := ⟨b, off + k * 5 + 1, none⟩) (by show b < _; omega)).trans HQ.out.2.1
                have hstw := HQ.out.2.2.below hbw hhi
                have HSTW := Lib.hid hstw
                obtain ⟨gr, cr, e6, hcr⟩ := sts_at hS htt
                subst e6
                have i3 : (i : Int) < (rc3.length : Int) := by omega
                have HSR := Lib.hid (hS.strs (HZR.out rc3 hRN))
                have HGW := Lib.hid (HGS.out _ hmid)
                have HSM := Lib.hid hS
                have HVM := Lib.hid hvo
                have HMM := Lib.hid hmid
                have HRM := Lib.hid hRN
                have HDM := Lib.hid hD
                have HDKM := Lib.hid hDK
                have HDNM := Lib.hid hDN
                have HTM := Lib.hid htt
                have hrl3 := hRN.len
                clear hS hvo hmid hRN hD hDK hDN htt hstw hbw
                by_cases hnlt : n < m.body.length
                · have n1 : decide ((n : Int) < (m.body.length : Int)) = true := decide_eq_true (by omega)
                  by_cases hht : m.head = t
                  · have deq : (m.head.toList == t.toList) = true := by rw [eq_strs, decide_eq_true hht]
                    have HHT := Lib.hid hht
                    clear hht
                    have cW : ∀ n', Calls Try.prog 67 #[.slice Au m.body.length cu, .slice Bg ins.length dg, .bool true] (wr.drewN n') fun e w' => e = .returned (.bool (allB m.body ins true)) ∧ w' = wr.drewN n' := fun n' => (specAll_any _ _ m.body ins true _ _ _ _ (wr.drewN n') (HSTW.out.drewN n') (HGW.out.drewN n')).mono fun _ _ ⟨a, b⟩ => ⟨a, b.symm⟩
                    cases hall : allB m.body ins true with
                    | false =>
                      have HAL := Lib.hid hall
                      rw [hall] at cW
                      clear hall
                      go_wp2
                      go_quiet (first | (go_at_call 67; refine Calls.quiet_of_same (cW _)))
                      have hmq : Mid (w.heap.size + 1) (w.heap.size + 1 + 1) w2 (wr.drewN nq) := ⟨HMM.out.os, HMM.out.tape, HMM.out.output, HMM.out.size, HMM.out.block⟩
                      have hsq : Sts (wr.drewN nq) (w.heap.size + 1) (.slice (some ⟨gr, 0, none⟩) rc3.length cr) rc3 := HSM.out
                      clear cW
                      go_wp2
                      go_roundg (ms.length - (k + 1))
                      case rel =>
                        refine ⟨k + 1, rc3, by go_num, by omega, HTM.out, hsq, HVM.out, hmq, HRM.out, HDM.out, fun k' hk' h9 => ?_, rfl⟩
                        by_cases e : k' = k
                        · subst e
                          rw [HMK.out]
                          intro _ hb
                          have := HAL.out
                          rw [(HGL.out.body m.body).2 hb] at this
                          cases this
                        · exact HDKM.out k' hk' (by omega)
                      case measure => omega
                    | true =>
                      have HAL := Lib.hid hall
                      rw [hall] at cW
                      clear hall
                      go_wp2
                      go_quiet (first | (go_at_call 67; refine Calls.quiet_of_same (cW _)))
                      have hmq : Mid (w.heap.size + 1) (w.heap.size + 1 + 1) w2 (wr.drewN nq) := ⟨HMM.out.os, HMM.out.tape, HMM.out.output, HMM.out.size, HMM.out.block⟩
                      have hsq : Sts (wr.drewN nq) (w.heap.size + 1) (.slice (some ⟨gr, 0, none⟩) rc3.length cr) rc3 := HSM.out
                      have d0 : (wr.drewN nq).cell? ⟨b, off + k * 5 + 1, none⟩ = some (.slice Au m.body.length cu) := m1
                      obtain ⟨bb, boff, eAu, hbbh, d1⟩ : ∃ bb boff, Au = some ⟨bb, boff, none⟩ ∧ bb < hi ∧ (wr.drewN nq).cell? ⟨bb, boff + n, none⟩ = some (.string m.body[n]) := by
                        obtain ⟨A', c', e', _, _, _, hcc'⟩ := HSTW.out
                        obtain ⟨bb, boff, rfl, _, hbbh, hc'⟩ := hcc' (by omega)
                        injection e' with e' _ _
                        exact ⟨bb, boff, e', hbbh, hc' n hnlt⟩
                      have hzq : wr.heap.size = (wr.drewN nq).heap.size := rfl
                      clear cW HSM HMM HSR HGW HSTW m0 m1 hcr
                      generalize wr.drewN nq = wq at hmq hsq d0 d1 hzq ⊢
                      subst eAu
                      rw [hzq] at hsw
                      clear hzq
                      have hsm := HBS.out m (HMK.out ▸ List.getElem_mem hkl) _ (List.getElem_mem hnlt)
                      have HSR := Lib.hid (hsq.strs (HZR.out rc3 HRM.out))
                      have HMM := Lib.hid hmq
                      have HSM := Lib.hid hsq
                      have hz2 := hmq.size
                      have hmm : m ∈ ms := HMK.out ▸ List.getElem_mem hkl
                      have hbl := bulk_mem hmm
                      have HMM2 := Lib.hid hmm
                      clear hmq hsq hmm
                      cases htk : tokB m.body[n] with
                      | true =>
                        have HTK := Lib.hid htk
                        clear htk
                        go_wp2_with fail
                        refine (specIsToken_any m.body[n] _ hsm).mono ?_
                        rintro e w8 ⟨rfl, rfl⟩
                        rw [HTK.out]
                        go_wp2
                        go_roundg (m.body.length - (n + 1))
                        case rel =>
                          refine ⟨n + 1, rc3, by go_num, by omega, HTM.out, HSM.out, HVM.out, HMM.out, HRM.out, HDM.out, HDKM.out, fun n' hn' h9 a hb ht => ?_, rfl⟩
                          by_cases e : n' = n
                          · subst e
                            rw [HTK.out] at ht
                            cases ht
                          · exact HDNM.out n' hn' (by omega) a hb ht
                        case measure => omega
                      | false =>
                        have HTK := Lib.hid htk
                        clear htk
                        cases hin : inB rc3 m.body[n] with
                        | true =>
                          have HIN := Lib.hid hin
                          clear hin
                          go_wp2_with fail
                          refine (specIsToken_any m.body[n] _ hsm).mono ?_
                          rintro e w8 ⟨rfl, rfl⟩
                          rw [HTK.out]
                          go_wp2_with fail
                          refine (specIn_any _ rc3 m.body[n] _ _ _ HSR.out).mono ?_
                          rintro e w8 ⟨rfl, rfl⟩
                          rw [HIN.out]
                          go_wp2
                          go_roundg (m.body.length - (n + 1))
                          case rel =>
                            refine ⟨n + 1, rc3, by go_num, by omega, HTM.out, HSM.out, HVM.out, HMM.out, HRM.out, HDM.out, HDKM.out, fun n' hn' h9 a hb ht => ?_, rfl⟩
                            by_cases e : n' = n
                            · subst e
                              exact (inB_iff _ _).1 HIN.out
                            · exact HDNM.out n' hn' (by omega) a hb ht
                          case measure => omega
                        | false =>
                          have HIN := Lib.hid hin
                          clear hin
                          go_wp2_with fail
                          refine (specIsToken_any m.body[n] _ hsm).mono ?_
                          rintro e w8 ⟨rfl, rfl⟩
                          rw [HTK.out]
                          go_wp2_with fail
                          refine (specIn_any _ rc3 m.body[n] _ _ _ HSR.out).mono ?_
                          rintro e w8 ⟨rfl, rfl⟩
                          rw [HIN.out]
                          go_wp2_with (at_builtin; refine wpList_append_lies _ rfl _ _ 63 rfl (w.heap.size + 1) 9 s0 _ 1 16 Try.underlying63 hs0 hx0 hx1 hx2 rfl (by decide) (.slice (some ⟨gr, 0, none⟩) rc3.length cr) rc3.length (rc3.map Value.string) rfl (World.ownsRow.alloc HSM.out _) ⟨wq.heap.size, 0, none⟩ 1 1 [.string m.body[n]] rfl rfl (World.news_of_block (cs := #[.string m.body[n]]) (t := 9) (fr := (0, 0)) (heap_alloc_new wq _)) (one_str _) (by omega) (by unfold maxLen; omega) (by omega) (by simp; omega) (wq.heap.size + 1) (by simp) ?_)
                          intro gg capg w6 hown6 hg6 hat6 hlt6
                          have FIN : Hid (Sts w6 (w.heap.size + 1) (.slice (some ⟨gg, 0, none⟩) (rc3.length + 1) capg) (rc3 ++ [m.body[n]]) ∧ (∀ q, (Value.slice (some ⟨gg, 0, none⟩) (rc3.length + 1) capg).ownBlock = some q → q = w.heap.size + 1 ∨ w2.heap.size ≤ q) ∧ Mid (w.heap.size + 1) (w.heap.size + 1 + 1) w2 w6 ∧ RchN ms start (rc3 ++ [m.body[n]])) := Lib.hid (by
                            refine ⟨Sts.one m.body[n] hown6, fun q hq => ?_, ?_, HRM.out.more HMM2.out (HHT.out ▸ List.mem_of_getElem? HTM.out) ((HGL.out.body _).1 HAL.out) (List.getElem_mem hnlt) HTK.out HIN.out⟩
                            · obtain rfl : gg = q := by simpa [Value.ownBlock] using hq
                              rcases hat6 with e | rfl
                              · exact HVM.out _ e
                              · exact .inr (by omega)
                            · have ha := al1 wq (.cells #[.string m.body[n]] 9)
                              have hzs := ha.size
                              refine ⟨(hg6.os.trans ha.os).trans HMM.out.os, (hg6.tape.trans ha.tape).trans HMM.out.tape, (hg6.output.trans ha.output).trans HMM.out.output, Nat.le_trans (Nat.le_trans HMM.out.size ha.size) hg6.size, fun q h1 h2 => ?_⟩
                              rw [hg6.block q (by omega) fun e => by
                                have := HVM.out q e.symm
                                omega]
                              exact (ha.block q (by omega)).trans (HMM.out.block q h1 h2))
                          clear hown6 hg6 hat6 hlt6
                          go_wp2
                          go_roundg (m.body.length - (n + 1))
                          case rel =>
                            refine ⟨n + 1, _, by go_num, by omega, ?_, FIN.out.1, FIN.out.2.1, FIN.out.2.2.1, FIN.out.2.2.2, HDM.out.app (by omega) _, fun k' hk' h9 => (HDKM.out k' hk' h9).app _, fun n' hn' h9 a hb ht => ?_, rfl⟩
                            · rw [List.getElem?_append_left hil3]; exact HTM.out
                            · by_cases e : n' = n
                              · subst e
                                exact List.mem_append_right _ (by simp)
                              · exact List.mem_append_left _ (HDNM.out n' hn' (by omega) a hb ht)
                          case measure => omega
                  · have deq : (m.head.toList == t.toList) = false := by rw [eq_strs, decide_eq_false hht]
                    have HHT := Lib.hid hht
                    clear hht
                    go_wp2
                    go_quiet (fail)
                    have hmq : Mid (w.heap.size + 1) (w.heap.size + 1 + 1) w2 (wr.drewN nq) := ⟨HMM.out.os, HMM.out.tape, HMM.out.output, HMM.out.size, HMM.out.block⟩
                    have hsq : Sts (wr.drewN nq) (w.heap.size + 1) (.slice (some ⟨gr, 0, none⟩) rc3.length cr) rc3 := HSM.out
                    go_wp2
                    go_roundg (ms.length - (k + 1))
                    case rel =>
                      refine ⟨k + 1, rc3, by go_num, by omega, HTM.out, hsq, HVM.out, hmq, HRM.out, HDM.out, fun k' hk' h9 => ?_, rfl⟩
                      by_cases e : k' = k
                      · subst e
                        rw [HMK.out]
                        exact fun a => absurd a HHT.out
                      · exact HDKM.out k' hk' (by omega)
                    case measure => omega
                · have hne : n = m.body.length := by omega
                  have n1 : decide ((n : Int) < (m.body.length : Int)) = false := decide_eq_false (by omega)
                  have HNE := Lib.hid hne
                  clear hne
                  go_wp2
                  go_quiet (fail)
                  have hmq : Mid (w.heap.size + 1) (w.heap.size + 1 + 1) w2 (wr.drewN nq) := ⟨HMM.out.os, HMM.out.tape, HMM.out.output, HMM.out.size, HMM.out.block⟩
                  have hsq : Sts (wr.drewN nq) (w.heap.size + 1) (.slice (some ⟨gr, 0, none⟩) rc3.length cr) rc3 := HSM.out
                  go_wp2
                  go_roundg (ms.length - (k + 1))
                  case rel =>
                    refine ⟨k + 1, rc3, by go_num, by omega, HTM.out, hsq, HVM.out, hmq, HRM.out, HDM.out, fun k' hk' h9 => ?_, rfl⟩
                    by_cases e : k' = k
                    · subst e
                      rw [HMK.out]
                      intro a hb s hs ht
                      obtain ⟨n', hn', rfl⟩ := List.mem_iff_getElem.1 hs
                      exact HDNM.out n' hn' (by have := HNE.out; omega) a hb ht
                    · exact HDKM.out k' hk' (by omega)
                  case measure => omega
            · have hks : k = ms.length := by omega
              subst hks
              have hD2 : DoneR ms rc2 (i + 1) := fun j t' ht' hj m hm => by
                by_cases e : j = i
                · subst e
                  rw [htt] at ht'
                  injection ht' with ht'
                  subst ht'
                  obtain ⟨k', hk', rfl⟩ := List.mem_iff_getElem.1 hm
                  exact hDK k' hk' hk'
                · exact hD j t' ht' (by omega) m hm
              have FIN := Lib.hid (And.intro hS (And.intro hvo (And.intro hmid (And.intro hRN hD2))))
              have hrl2 := hRN.len
              clear hS hvo hmid hRN hD hDK hD2 htt
              go_wp2
              go_roundg (bulkDs ms + 2 - (i + 1))
              case rel => exact ⟨i + 1, rc2, by go_num, by omega, FIN.out.1, FIN.out.2.1, FIN.out.2.2.1, FIN.out.2.2.2.1, FIN.out.2.2.2.2, rfl⟩
              case measure => omega
        · have hie : i = rc.length := by omega
          subst hie
          have HRL := Lib.hid (hRN.done hD)
          have HSR := Lib.hid (hS.strs (HZR.out rc hRN))
          have HGW := Lib.hid (HGS.out _ hmid)
          have HBQ := Lib.hid (HMB.out _ hmid)
          have hz9 := (HMB.out _ hmid).size
          have i1 : ¬((rc.length : Int) < (rc.length : Int)) := by omega
          obtain ⟨Br, dr, rfl⟩ := hS.shape
          rename World => w9
          have HO0 : Hid (GrowC (w9.alloc (.cells #[] 67)) w9.heap.size (.slice (some ⟨w9.heap.size, 0, none⟩) 0 0) [] ∧ Below w9.heap.size w9 (w9.alloc (.cells #[] 67))) := Lib.hid ⟨⟨World.ownsRow_lit w9 #[] 0 (Nat.le_refl _) (by unfold maxLen; omega) rfl, by simp, by simp⟩, al1 w9 _⟩
          clear hS hvo hmid hRN hD
          go_wp2
          go_loopg [13, 14] ms.length (fun gk v13 v14 wr => ∃ (k : Nat) (xs : List Gx), v14 = .int .i64 k ∧ k ≤ ms.length ∧ GrowC wr w9.heap.size v13 xs ∧ Below w9.heap.size w9 wr ∧ xs.map (·.m) = cleanUp ms start k ∧ gk = ms.length - k)
          case atStart => exact ⟨0, [], rfl, by omega, HO0.out.1, HO0.out.2, (cleanUp_zero _ _).symm, rfl⟩
          case round =>
            obtain ⟨k, xs, rfl, hk, hG, hbm, hxs, rfl⟩ := hrel
            have hsm := hbm.size
            by_cases hkl : k < ms.length
            · have hbw := HBQ.out.trans (hbm.mono hz9)
              obtain ⟨b, off, rfl, _, hbh, hfz, hcc⟩ := HC.out (by omega)
              obtain ⟨hhs, htop, hc0, u, x, hc1, hc2, hc3, hc4, hst, hkm⟩ := hcc k hkl
              have k0 := (hbw.cell (p := ⟨b, off + k * 5, none⟩) (by show b < _; omega)).trans hc0
              have k1 := (hbw.cell (p := ⟨b, off + k * 5 + 1, none⟩) (by show b < _; omega)).trans hc1
              have k2 := (hbw.cell (p := ⟨b, off + k * 5 + 2, none⟩) (by show b < _; omega)).trans hc2
              have k3 := (hbw.cell (p := ⟨b, off + k * 5 + 3, none⟩) (by show b < _; omega)).trans hc3
              have k4 := (hbw.cell (p := ⟨b, off + k * 5 + 4, none⟩) (by show b < _; omega)).trans hc4
              have HST := Lib.hid (hst.below hbw hhi)
              have HKM := Lib.hid (hkm.keep (Keeps.below hbw hhi))
              have HTOP := Lib.hid htop
              have HS2 := Lib.hid (HSR.out.below hbm (Nat.le_refl _))
              have HG2 := Lib.hid (HGW.out.below hbm (Nat.le_refl _))
              have HG := Lib.hid hG
              have HXS := Lib.hid hxs
              have HBM := Lib.hid hbm
              have hlx : xs.length ≤ ms.length := by
                have := congrArg List.length hxs
                rw [List.length_map] at this
                have := cleanUp_len ms start k
                omega
              have i2 : (k : Int) < (ms.length : Int) := by omega
              have hbk := bulk_mem (List.getElem_mem hkl)
              have hbwz := hbw.size
              clear hcc hc0 hc1 hc2 hc3 hc4 hst hkm htop hfz hG hxs hbm hbw
              cases hin : inB ins ms[k].head with
              | false =>
                have HIN := Lib.hid hin
                clear hin
                go_wp2_with fail
                refine (specIn_any _ ins ms[k].head _ _ _ HG2.out).mono ?_
                rintro e w8 ⟨rfl, rfl⟩
                rw [HIN.out]
                go_wp2
                go_roundg (ms.length - (k + 1))
                case rel => exact ⟨k + 1, xs, by go_num, by omega, HG.out, HBM.out, HXS.out.trans (cleanUp_no HGL.out HRL.out hkl (by rw [HIN.out]; simp)).symm, rfl⟩
                case measure => omega
              | true =>
                have HIN := Lib.hid hin
                clear hin
                cases hall : allB ms[k].body ins true with
                | false =>
                  have HAL := Lib.hid hall
                  clear hall
                  go_wp2_with fail
                  refine (specIn_any _ ins ms[k].head _ _ _ HG2.out).mono ?_
                  rintro e w8 ⟨rfl, rfl⟩
                  rw [HIN.out]
                  go_wp2_with fail
                  refine (specAll_any _ _ ms[k].body ins true _ _ _ _ _ HST.out HG2.out).mono ?_
                  rintro e w8 ⟨rfl, rfl⟩
                  rw [HAL.out]
                  go_wp2
                  go_roundg (ms.length - (k + 1))
                  case rel => exact ⟨k + 1, xs, by go_num, by omega, HG.out, HBM.out, HXS.out.trans (cleanUp_no HGL.out HRL.out hkl (by rw [HAL.out]; simp)).symm, rfl⟩
                  case measure => omega
                | true =>
                  have HAL := Lib.hid hall
                  clear hall
                  cases hre : inB rc ms[k].head with
                  | false =>
                    have HRE := Lib.hid hre
                    clear hre
                    go_wp2_with fail
                    refine (specIn_any _ ins ms[k].head _ _ _ HG2.out).mono ?_
                    rintro e w8 ⟨rfl, rfl⟩
                    rw [HIN.out]
                    go_wp2_with fail
                    refine (specAll_any _ _ ms[k].body ins true _ _ _ _ _ HST.out HG2.out).mono ?_
                    rintro e w8 ⟨rfl, rfl⟩
                    rw [HAL.out]
                    go_wp2_with fail
                    refine (specIn_any _ rc ms[k].head _ _ _ HS2.out).mono ?_
                    rintro e w8 ⟨rfl, rfl⟩
                    rw [HRE.out]
                    go_wp2
                    go_roundg (ms.length - (k + 1))
                    case rel => exact ⟨k + 1, xs, by go_num, by omega, HG.out, HBM.out, HXS.out.trans (cleanUp_no HGL.out HRL.out hkl (by rw [HRE.out]; simp)).symm, rfl⟩
                    case measure => omega
                  | true =>
                    have HRE := Lib.hid hre
                    clear hre
                    go_wp2_with fail
                    refine (specIn_any _ ins ms[k].head _ _ _ HG2.out).mono ?_
                    rintro e w8 ⟨rfl, rfl⟩
                    rw [HIN.out]
                    go_wp2_with fail
                    refine (specAll_any _ _ ms[k].body ins true _ _ _ _ _ HST.out HG2.out).mono ?_
                    rintro e w8 ⟨rfl, rfl⟩
                    rw [HAL.out]
                    go_wp2_with fail
                    refine (specIn_any _ rc ms[k].head _ _ _ HS2.out).mono ?_
                    rintro e w8 ⟨rfl, rfl⟩
                    rw [HRE.out]
                    go_wp2_with fail
                    refine (copyD_any ms[k] u x lo hi _ HTOP.out HST.out HKM.out (by omega) (by rw [sizeM_eq]; omega) (by omega)).mono ?_
                    rintro e w3 ⟨u', x', rfl, hs3, hk3, hb3⟩
                    have HS3 := Lib.hid hs3
                    have HK3 := Lib.hid hk3
                    have HB3 := Lib.hid hb3
                    have hz3 := hb3.size
                    have HG3 := Lib.hid (HG.out.below hb3)
                    obtain ⟨A3, c3, e3, -⟩ := id hs3
                    subst e3
                    obtain ⟨B3, d3, e4⟩ : ∃ B3 d3, x' = .slice B3 ms[k].term.kids.length d3 := by
                      obtain ⟨B3, d3, _, e4, _⟩ := hk3.parts
                      exact ⟨B3, d3, e4⟩
                    subst e4
                    clear hs3 hk3 hb3
                    unfold mdV
                    go_wp2_with (at_builtin; refine wpList_append_lies _ rfl _ _ 24 rfl w9.heap.size 67 i0 _ 5 80 Try.underlying24 hi0 hz0 hz1 hz2 rfl (by decide) u13 xs.length (flatD xs) rfl (World.ownsRow.alloc HG3.out.row _) ⟨w3.heap.size, 0, none⟩ 1 1 [.string ms[k].head, .slice A3 ms[k].body.length c3, .int .i64 ms[k].term.kind, .int .i64 ms[k].term.num, .slice B3 ms[k].term.kids.length d3] rfl rfl (made_news _ _ _ _ _ _) (made_one _ _ _ _ _ _ _ _ _) (by omega) (by unfold maxLen; omega) (by omega) (by simp; omega) (w3.heap.size + 1) (by simp) ?_)
                    intro gg capg w6 hown6 hg6 hat6 hlt6
                    have FIN : Hid (GrowC w6 w9.heap.size (.slice (some ⟨gg, 0, none⟩) (xs.length + 1) capg) (xs ++ [⟨ms[k], .slice A3 ms[k].body.length c3, .slice B3 ms[k].term.kids.length d3, 0, wr.heap.size, wr.heap.size, w3.heap.size⟩]) ∧ Below w9.heap.size w9 w6 ∧ (xs ++ [(⟨ms[k], .slice A3 ms[k].body.length c3, .slice B3 ms[k].term.kids.length d3, 0, wr.heap.size, wr.heap.size, w3.heap.size⟩ : Gx)]).map (·.m) = cleanUp ms start (k + 1)) := Lib.hid (by
                      have ha := al1 w3 (.cells #[.string ms[k].head, .slice A3 ms[k].body.length c3, .int .i64 ms[k].term.kind, .int .i64 ms[k].term.num, .slice B3 ms[k].term.kids.length d3] 67)
                      have hy : GcAt w3 w9.heap.size ⟨ms[k], .slice A3 ms[k].body.length c3, .slice B3 ms[k].term.kids.length d3, 0, wr.heap.size, wr.heap.size, w3.heap.size⟩ := ⟨hhs, HTOP.out, HS3.out, HK3.out, hsm, hz3, Nat.le_refl _⟩
                      refine ⟨(HG3.out.below ha).snoc (hy.keep ha.size fun p _ hp => ha.block p hp) (fun q hq => (HG.out.row.lt q hq).2) hown6 hg6 (by rw [show (w3.alloc (.cells #[.string ms[k].head, .slice A3 ms[k].body.length c3, .int .i64 ms[k].term.kind, .int .i64 ms[k].term.num, .slice B3 ms[k].term.kids.length d3] 67)).heap.size = w3.heap.size + 1 by simp]; exact hat6), ?_, ?_⟩
                      · exact Tx.below_grown ((HBM.out.trans (HB3.out.mono hsm)).trans (ha.mono (by omega))) (World.ownsRow.alloc HG3.out.row _) hg6 (by simp; omega) (Nat.le_refl _)
                      · rw [List.map_append, HXS.out, cleanUp_yes HGL.out HRL.out hkl ⟨HIN.out, HAL.out, HRE.out⟩]; rfl)
                    clear hown6 hg6 hat6 hlt6
                    go_wp2
                    go_roundg (ms.length - (k + 1))
                    case rel => exact ⟨k + 1, _, by go_num, by omega, FIN.out.1, FIN.out.2.1, FIN.out.2.2, rfl⟩
                    case measure => omega
            · have hks : k = ms.length := by omega
              subst hks
              rw [cleanUp_all] at hxs
              have FIN := Lib.hid (And.intro (hxs ▸ hG.dm) (HBQ.out.trans (hbm.mono hz9)))
              have i2 : ¬((ms.length : Int) < (ms.length : Int)) := by omega
              clear hG hbm hxs
              go_wp2
              go_ret
              exact ⟨_, rfl, FIN.out⟩
end Go.Proofs.Ytiochjagolijfaa
