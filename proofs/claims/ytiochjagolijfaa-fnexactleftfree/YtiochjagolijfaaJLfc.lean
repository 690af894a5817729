import Derived.Test.YtiochjagolijfaaJTmt
import Derived.Test.YtiochjagolijfaaMab
import Derived.Test.YtiochjagolijfaaRnl
import Derived.Deep.Slices
/- slices.DeleteFunc, of the program. -/
namespace Go.Proofs.Ytiochjagolijfaa
open Go.RowKit

theorem DlI.done {w wr : World} {g c n i j base : Nat} {ls : List MadeD} {xs : List Gx} {cur : Array Value} (a : DlI w wr g c n i j ls xs cur) (hg : base ≤ g) (hic : i ≤ c) (hc : c ≤ maxLen) (he : ∀ x ∈ xs, ShAt w base x) (hb : base ≤ w.heap.size) :
    GrowH wr base (.slice (some ⟨g, 0, none⟩) i c) (stays ls (xs.take j)) where
  row := by
    have hl := flatD_len (stays ls (xs.take j))
    refine ⟨hl, .inr ⟨g, c, cur, by rw [a.len], hg, a.row, by rw [a.len]; exact hic, hc, a.size, ?_⟩⟩
    refine List.ext_getElem? fun p => ?_
    by_cases hp : p < (stays ls (xs.take j)).length * 5
    · rw [List.getElem?_take_of_lt hp, Array.getElem?_toList]
      exact a.front p (by rw [← a.len]; exact hp)
    · rw [List.getElem?_eq_none (by rw [List.length_take]; omega), List.getElem?_eq_none (by rw [hl]; omega)]
  each := fun x hx => by
    have hx' : x ∈ xs := List.mem_of_mem_take (List.mem_filter.1 hx).1
    exact (he x hx').keep fun p _ hp => a.mid.block p (by omega) (.inl (by omega))

theorem DlI.skip {w wr w2 : World} {g c n i j : Nat} {ls : List MadeD} {xs : List Gx} {cur : Array Value} (a : DlI w wr g c n i j ls xs cur) (hj : j < xs.length) (hg : goneB ls xs[j].m = true) (b : Below wr.heap.size wr w2) : DlI w w2 g c n i (j + 1) ls xs cur where
  row := a.row.below b a.row.lt
  size := a.size
  len := by rw [stays_no hj hg]; exact a.len
  front := fun p hp => by rw [stays_no hj hg]; exact a.front p hp
  rest := fun p h1 h2 => a.rest p (by omega) h2
  mid := a.mid.trans (Mid.of_below b (Nat.le_refl _))
theorem DlI.lay {w wr w2 : World} {g c n i j : Nat} {ls : List MadeD} {xs : List Gx} {cur : Array Value} (a : DlI w wr g c n i j ls xs cur) (hj : j < xs.length) (hij : i < j) (hnc : xs.length ≤ c) (hg : goneB ls xs[j].m = false) (b : Below wr.heap.size wr w2) :
    DlI w (set5 w2 g (i * 5) (.string xs[j].m.head) xs[j].u (.int .i64 xs[j].m.term.kind) (.int .i64 xs[j].m.term.num) xs[j].x) g c n (i + 1) (j + 1) ls xs
      (((((cur.setIfInBounds (i * 5) (.string xs[j].m.head)).setIfInBounds (i * 5 + 1) xs[j].u).setIfInBounds (i * 5 + 2) (.int .i64 xs[j].m.term.kind)).setIfInBounds (i * 5 + 3) (.int .i64 xs[j].m.term.num)).setIfInBounds (i * 5 + 4) xs[j].x) where
  row := set5_row (a.row.below b a.row.lt) _ _ _ _ _ _
  size := by simp [a.size]
  len := by rw [stays_yes hj hg, List.length_append, a.len]; rfl
  front := fun p hp => by
    have hcs := a.size
    have hl := flatD_len (stays ls (xs.take j))
    rw [a.len] at hl
    rw [stays_yes hj hg, flatD_snoc, set5_at _ _ _ _ _ (by omega)]
    by_cases h0 : p < i * 5
    · rw [if_neg (by omega), if_neg (by omega), if_neg (by omega), if_neg (by omega), if_neg (by omega), List.getElem?_append_left (by omega)]
      exact a.front p h0
    · rw [List.getElem?_append_right (by omega), hl]
      obtain ⟨r, rfl⟩ : ∃ r, p = i * 5 + r := ⟨p - i * 5, by omega⟩
      rw [Nat.add_sub_cancel_left]
      have h5 : r < 5 := by omega
      match r, h5 with
      | 0, _ => simp [Gx.cells]
      | 1, _ => simp [Gx.cells]
      | 2, _ => simp [Gx.cells]
      | 3, _ => simp [Gx.cells]
      | 4, _ => simp [Gx.cells]
  rest := fun p h1 h2 => by
    have hcs := a.size
    rw [set5_at _ _ _ _ _ (by omega), if_neg (by omega), if_neg (by omega), if_neg (by omega), if_neg (by omega), if_neg (by omega)]
    exact a.rest p (by omega) h2
  mid := by
    have h : Mid g (g + 1) w w2 := a.mid.trans (Mid.of_below b (Nat.le_refl _))
    unfold set5
    exact ((((h.setCell (p := ⟨g, i * 5, none⟩) (Nat.le_refl _) (Nat.lt_succ_self _) _).setCell (p := ⟨g, i * 5 + 1, none⟩) (Nat.le_refl _) (Nat.lt_succ_self _) _).setCell (p := ⟨g, i * 5 + 2, none⟩) (Nat.le_refl _) (Nat.lt_succ_self _) _).setCell (p := ⟨g, i * 5 + 3, none⟩) (Nat.le_refl _) (Nat.lt_succ_self _) _).setCell (p := ⟨g, i * 5 + 4, none⟩) (Nat.le_refl _) (Nat.lt_succ_self _) _

set_option maxRecDepth 100000 in
set_option maxHeartbeats 8000000 in
theorem deleteFunc_any (v : Value) (xs : List Gx) (base q b : Nat) (ls : List MadeD) (f : HdF) (w : World) (h : GrowH w base v xs) (hb : base ≤ w.heap.size) (hI : GnI w q b ls f) (hap : ∀ g, v.ownBlock = some g → g ≠ q ∧ g ≠ b) (hn : xs.length ≤ 1048576) :
    Calls Try.prog 43 #[v, goneV q] w fun e w' => ∃ u, e = .returned u ∧ GrowH w' base u (stays ls xs) ∧ (∀ g, u.ownBlock = some g → v.ownBlock = some g) ∧ Below base w w' := by
  have HG := Lib.hid h
  have HI := Lib.hid hI
  have HAP := Lib.hid hap
  obtain ⟨A, c, rfl, hlc, hc⟩ := h.form
  have HCM := Lib.hid hc
  unfold maxLen at hc
  clear h hI hap
  unfold goneV
  go_enter Try.func43, Try.ntmps43
  go_wp2_with fail
  refine (indexFunc_any _ xs base q b ls f _ HG.out hb HI.out hn).mono ?_
  rintro e w1 ⟨i, rfl, hi, b1⟩
  have z1 := b1.size
  have HB1 := Lib.hid b1
  have HG1 := Lib.hid (HG.out.below hb b1)
  have HI1 := Lib.hid (HI.out.below b1)
  clear b1 HI
  rcases hi with ⟨rfl, hall⟩ | ⟨k0, rfl, hk0, hgk, hbef⟩
  · have HE := Lib.hid (stays_all hall)
    clear hall
    go_wp2
    go_ret
    exact ⟨_, rfl, by rw [HE.out]; exact HG1.out, fun g hg => hg, HB1.out.mono hb⟩
  · obtain ⟨g, c', e', hg1, hg2, -⟩ := HG1.out.five hk0
    injection e' with e1 _ e2
    subst e1 e2
    have hne : ((k0 : Int) == -1) = false := by rw [beq_eq_false_iff_ne]; omega
    obtain ⟨hgq, hgb⟩ := HAP.out g rfl
    have HD0 : Hid (∃ cur, DlI w1 w1 g c xs.length k0 (k0 + 1) ls xs cur) := Lib.hid (by
      rcases HG1.out.row.2 with ⟨e, _⟩ | ⟨g', cap, cur, e, _, hh, _, _, hs, ht⟩
      · cases e
      · injection e with e1 _ e2
        injection e1 with e1
        injection e1 with e1 _
        subst e1 e2
        have hst : stays ls (xs.take (k0 + 1)) = xs.take k0 := by
          rw [stays_no hk0 hgk]
          exact stays_all fun x hx => by
            obtain ⟨j, hj, rfl⟩ := List.getElem_of_mem hx
            rw [List.length_take] at hj
            rw [List.getElem_take]
            exact hbef j (by omega) (by omega)
        have hcell : ∀ p, p < xs.length * 5 → cur[p]? = (flatD xs)[p]? := fun p hp => by
          rw [← ht, List.getElem?_take_of_lt hp, Array.getElem?_toList]
        refine ⟨cur, hh, hs, by rw [hst, List.length_take]; omega, fun p hp => ?_, fun p _ hp => hcell p hp, Mid.refl _ _ _⟩
        rw [hcell p (by omega), hst]
        have e : flatD xs = flatD (xs.take k0) ++ flatD (xs.drop k0) := by
          unfold flatD
          rw [← List.flatMap_append, List.take_append_drop]
        rw [e, List.getElem?_append_left (by rw [flatD_len, List.length_take]; omega)])
    clear hgk hbef
    have hci : (c : Int) ≤ 9223372036854775807 := by omega
    go_wp2
    go_loopg [5, 6, 7] (xs.length - (k0 + 1)) (fun gk v5 v6 _ wr => ∃ (i j : Nat) (cur : Array Value), v5 = .int .i64 i ∧ v6 = .int .i64 j ∧ i < j ∧ j ≤ xs.length ∧ DlI w1 wr g c xs.length i j ls xs cur ∧ gk = xs.length - j)
    case atStart =>
      obtain ⟨cur, hd⟩ := HD0.out
      exact ⟨k0, k0 + 1, cur, rfl, by go_num, by omega, by omega, hd, rfl⟩
    case round =>
      clear HD0
      obtain ⟨i, j, cur, rfl, rfl, hij, hj, hD, rfl⟩ := hrel
      have hzw := hD.mid.size
      have hlen := hD.len
      have hcs := hD.size
      by_cases hjl : j < xs.length
      · have hcell : ∀ r, r < 5 → wr.cell? ⟨g, j * 5 + r, none⟩ = xs[j].cells[r]? := fun r hr => by
          rw [hD.row.cell, hD.rest _ (by omega) (by omega), flatD_at xs j r hjl hr]
        have c0 : wr.cell? ⟨g, j * 5, none⟩ = some (.string xs[j].m.head) := by have := hcell 0 (by omega); rwa [Nat.add_zero] at this
        have c1 : wr.cell? ⟨g, j * 5 + 1, none⟩ = some xs[j].u := hcell 1 (by omega)
        have c2 : wr.cell? ⟨g, j * 5 + 2, none⟩ = some (.int .i64 xs[j].m.term.kind) := hcell 2 (by omega)
        have c3 : wr.cell? ⟨g, j * 5 + 3, none⟩ = some (.int .i64 xs[j].m.term.num) := hcell 3 (by omega)
        have c4 : wr.cell? ⟨g, j * 5 + 4, none⟩ = some xs[j].x := hcell 4 (by omega)
        have hkeep : Keeps 0 base w1 wr := fun p _ hp => hD.mid.block p (by omega) (.inl (by omega))
        have hx := (HG1.out.each _ (List.getElem_mem hjl)).keep hkeep
        have HX := Lib.hid hx
        have HST := Lib.hid hx.body
        obtain ⟨Au, cu, eu, -⟩ := id hx.body
        obtain ⟨Ax, cx, Ux, ex, -⟩ := id hx.kids.parts
        rw [eu] at c1 HST
        rw [ex] at c4
        have HIW : Hid (GnI wr q b ls f) := Lib.hid (HI1.out.keep (hD.mid.block b HI1.out.lt.1 (by omega)) (hD.mid.block q HI1.out.lt.2 (by omega)))
        have ha := al1 wr (.cells #[.string xs[j].m.head, .slice Au xs[j].m.body.length cu, .int .i64 xs[j].m.term.kind, .int .i64 xs[j].m.term.num, .slice Ax xs[j].m.term.kids.length cx] 67)
        have R0 := Row.made wr 67 #[.string xs[j].m.head, .slice Au xs[j].m.body.length cu, .int .i64 xs[j].m.term.kind, .int .i64 xs[j].m.term.num, .slice Ax xs[j].m.term.kids.length cx]
        have HD := Lib.hid hD
        have HU := Lib.hid (And.intro eu ex)
        have i1 : (j : Int) < (xs.length : Int) := by omega
        have i2 : (i : Int) < (xs.length : Int) := by omega
        have hgw : g < wr.heap.size := by omega
        have hcs2 := hD.size
        have HKE := Lib.hid hkeep
        clear hD hx eu ex hcell hkeep
        go_wp2_with fail
        refine (goneF_any xs[j].m _ Ax xs[j].m.term.kids.length cx b q 0 base ls f _ (HST.out.below ha (by omega)) (by simp; omega) (HIW.out.below ha).map (HIW.out.below ha).box).mono ?_
        rintro e w2 ⟨rfl, b2⟩
        have R2 := R0.below b2 (by simp)
        have HB2 := Lib.hid (ha.trans (b2.mono (by simp)))
        have r0 := R2.cell 0
        have r1 := R2.cell 1
        have r2 := R2.cell 2
        have r3 := R2.cell 3
        have r4 := R2.cell 4
        simp at r0 r1 r2 r3 r4
        clear R0 R2 b2 ha c0 c1 c2 c3 c4
        cases hgn : goneB ls xs[j].m with
        | true =>
          have HGN := Lib.hid hgn
          clear hgn
          go_wp2
          go_roundg (xs.length - (j + 1))
          case rel => exact ⟨i, j + 1, cur, rfl, by go_num, by omega, by omega, HD.out.skip hjl HGN.out HB2.out, rfl⟩
          case measure => omega
        | false =>
          have HFIN := Lib.hid (HD.out.lay hjl hij hlc hgn HB2.out)
          rw [HU.out.1, HU.out.2] at HFIN
          have hrow := HD.out.row.below HB2.out hgw
          obtain ⟨u0, hd0⟩ := hrow.there (show i * 5 < cur.size by omega)
          obtain ⟨u1, hd1⟩ := hrow.there (show i * 5 + 1 < cur.size by omega)
          obtain ⟨u2, hd2⟩ := hrow.there (show i * 5 + 2 < cur.size by omega)
          obtain ⟨u3, hd3⟩ := hrow.there (show i * 5 + 3 < cur.size by omega)
          obtain ⟨u4, hd4⟩ := hrow.there (show i * 5 + 4 < cur.size by omega)
          have hf0 := hrow.free (i * 5)
          have hf1 := hrow.free (i * 5 + 1)
          have hf2 := hrow.free (i * 5 + 2)
          have hf3 := hrow.free (i * 5 + 3)
          have hf4 := hrow.free (i * 5 + 4)
          clear hgn hrow
          go_wp2
          go_roundg (xs.length - (j + 1))
          case rel => exact ⟨i + 1, j + 1, _, by go_num, by go_num, by omega, by omega, HFIN.out, rfl⟩
          case measure => omega
      · have hje : j = xs.length := by omega
        subst hje
        obtain ⟨w3, cur3, hclr, hr3, hs3, hp3, m3, hz3⟩ := run_clear_mades (c := c - i) (i := i) (n := xs.length - i) hD.row (by omega) (by omega)
        have FIN : Hid (GrowH w3 base (.slice (some ⟨g, 0, none⟩) i c) (stays ls xs) ∧ Below base w w3) := Lib.hid (by
          have hd : DlI w1 w3 g c xs.length i xs.length ls xs cur3 := ⟨hr3, by omega, hD.len, fun p hp => (hp3 p hp).trans (hD.front p hp), fun p h1 h2 => by omega, hD.mid.trans m3⟩
          have := hd.done hg1 (by omega) HCM.out HG1.out.each (by omega)
          rw [List.take_length] at this
          exact ⟨this, (HB1.out.mono hb).trans (hd.mid.below (by omega) |>.mono hg1)⟩)
        have hil : i ≤ xs.length := by omega
        have hic : i ≤ c := by omega
        clear hD hr3 hs3 hp3 m3 hz3
        go_wp2
        go_ret
        exact ⟨_, rfl, FIN.out.1, fun g hg => hg, FIN.out.2⟩
end Go.Proofs.Ytiochjagolijfaa

/- A list of Mades laid anew, each sharing what hangs from it: slices.Clone. -/
namespace Go.Proofs.Ytiochjagolijfaa
open Go.RowKit

theorem ShAt.more {w : World} {base base' : Nat} {x : Gx} (a : ShAt w base x) (h : base ≤ base') : ShAt w base' x := ⟨a.head, a.top, a.body.more (Nat.zero_le _) h, a.kids.more (Nat.zero_le _) h⟩
/-- the cells of a list of Mades, as they stand -/
theorem DM.gx {w : World} {lo hi : Nat} {v : Value} {ms : List MadeD} (h : DM true w lo hi v ms) :
    ∃ xs : List Gx, xs.map (·.m) = ms ∧ (∀ x ∈ xs, ShAt w hi x) ∧ (∀ u ∈ flatD xs, u.oneCell' = true) ∧
      (0 < ms.length → ∃ b off c, v = .slice (some ⟨b, off, none⟩) ms.length c ∧ lo ≤ b ∧ b < hi ∧ ∀ j u, (flatD xs)[j]? = some u → w.cell? ⟨b, off + j, none⟩ = some u) := by
  obtain ⟨A, c, rfl, hlc, hc, hcell⟩ := h
  by_cases h0 : ms.length = 0
  · obtain rfl := List.eq_nil_of_length_eq_zero h0
    exact ⟨[], rfl, by simp, by simp [flatD], fun hp => by simp at hp⟩
  · obtain ⟨b, off, rfl, hlb, hbh, _, hcc⟩ := hcell (by omega)
    have each : ∀ i, i < ms.length → ∃ x : Gx, (∃ h : i < ms.length, x.m = ms[i]) ∧ ShAt w hi x ∧ (∀ u ∈ x.cells, u.oneCell' = true) ∧ ∀ r u, x.cells[r]? = some u → w.cell? ⟨b, off + i * 5 + r, none⟩ = some u := fun i hi => by
      obtain ⟨hhs, htop, hc0, u, x, hc1, hc2, hc3, hc4, hst, hkm⟩ := hcc i hi
      refine ⟨⟨ms[i], u, x, 0, 0, 0, 0⟩, ⟨hi, rfl⟩, ⟨hhs, htop, hst.more (Nat.zero_le _) (Nat.le_refl _), hkm.more (Nat.zero_le _) (Nat.le_refl _)⟩, ?_, fun r y hy => ?_⟩
      · obtain ⟨Au, cu, rfl, -⟩ := hst
        obtain ⟨Ax, cx, Ux, rfl, -⟩ := hkm.parts
        exact made_one _ _ _ _ _ _ _ _ _
      · match r with
        | 0 => injection hy with hy; subst hy; exact hc0
        | 1 => injection hy with hy; subst hy; exact hc1
        | 2 => injection hy with hy; subst hy; exact hc2
        | 3 => injection hy with hy; subst hy; exact hc3
        | 4 => injection hy with hy; subst hy; exact hc4
        | r + 5 => simp [Gx.cells] at hy
    haveI : Inhabited Gx := ⟨⟨⟨ByteArray.empty, [], default⟩, .nilFunc, .nilFunc, 0, 0, 0, 0⟩⟩
    obtain ⟨q, hq⟩ := Go.Deep.choose_lt each
    have hlen : ((List.range ms.length).map q).length = ms.length := by simp
    refine ⟨(List.range ms.length).map q, ?_, fun x hx => ?_, fun u hu => ?_, fun _ => ⟨b, off, c, rfl, hlb, hbh, fun j u hj => ?_⟩⟩
    · refine List.ext_getElem (by simp) fun i h1 h2 => ?_
      obtain ⟨⟨_, e⟩, _⟩ := hq i h2
      simp [e]
    · obtain ⟨i, hi, rfl⟩ := List.mem_map.1 hx
      exact (hq i (List.mem_range.1 hi)).2.1
    · obtain ⟨x, hx, hux⟩ := List.mem_flatMap.1 hu
      obtain ⟨i, hi, rfl⟩ := List.mem_map.1 hx
      exact (hq i (List.mem_range.1 hi)).2.2.1 u hux
    · have hjl : j < ms.length * 5 := by
        have := (List.getElem?_eq_some_iff.1 hj).1
        rwa [flatD_len, hlen] at this
      rw [show j = j / 5 * 5 + j % 5 by omega, flatD_at _ (j / 5) (j % 5) (by omega) (by omega)] at hj
      rw [List.getElem_map, List.getElem_range] at hj
      have := (hq (j / 5) (by omega)).2.2.2 (j % 5) u hj
      rw [show off + j / 5 * 5 + j % 5 = off + j by omega] at this
      exact this

set_option maxRecDepth 100000 in
set_option maxHeartbeats 4000000 in
theorem cloneMades_any (v : Value) (ms : List MadeD) (lo hi : Nat) (w : World) (h : DM true w lo hi v ms) (hhi : hi ≤ w.heap.size) (hn : ms.length ≤ 1048576) :
    Calls Try.prog 41 #[v] w fun e w' => ∃ u xs, e = .returned u ∧ GrowH w' w.heap.size u xs ∧ xs.map (·.m) = ms ∧ Below w.heap.size w w' := by
  obtain ⟨i0, hi0, hz0, hz1, hz2⟩ := info_parts Try.infoMadeR
  obtain ⟨xs, hx1, hx2, hx3, hx4⟩ := h.gx
  have HX := Lib.hid (And.intro hx1 (And.intro hx2 (And.intro hx3 hx4)))
  have hxl : xs.length = ms.length := by rw [← hx1, List.length_map]
  obtain ⟨A, c, rfl, hlc, hc, -⟩ := h
  unfold maxLen at hc
  clear hx1 hx2 hx3 hx4
  have ha := al1 w (.cells #[] 67)
  have hown : (w.alloc (.cells #[] 67)).ownsRow w.heap.size 67 5 (.slice (some ⟨w.heap.size, 0, none⟩) 0 0) 0 [] := World.ownsRow_lit w #[] 0 (Nat.le_refl _) (by unfold maxLen; omega) rfl
  have HA := Lib.hid ha
  have HO := Lib.hid hown
  have heq : ∀ (W : World) (A : Option Addr) (n c : Nat), (binOp .eql 24 (.slice A n c) (.slice none 0 0)).run Try.prog W = .ok (.bool A.isNone) W := fun W A n c => Lib.run_eql_slice_nil W _ _ A n c 0 0 Try.underlying24
  clear ha hown
  by_cases h0 : ms.length = 0
  · have hms : ms = [] := List.eq_nil_of_length_eq_zero h0
    have HM := Lib.hid hms
    rw [h0]
    have FIN : Hid (GrowH (w.alloc (.cells #[] 67)) w.heap.size (.slice (some ⟨w.heap.size, 0, none⟩) 0 0) []) := Lib.hid ⟨HO.out, fun x hx => by cases hx⟩
    cases A with
    | none =>
      go_enter Try.func41, Try.ntmps41
      go_wp2
      go_ret
      exact ⟨_, [], rfl, GrowH.nil _ _, HM.out.symm, Below.refl _ _⟩
    | some ad =>
      have hsrc : Src Try.prog i0.size 24 (.slice (some ad) 0 c) 0 [] (w.alloc (.cells #[] 67)) := Src.ofSlice _ Try.underlying24 ad 0 c [] (by simp) (by simp) (by simp)
      have hrun := fun ty => run_append_nothing (P := Try.prog) (w.alloc (.cells #[] 67)) 24 24 ty 67 i0 Try.underlying24 hi0 (some ⟨w.heap.size, 0, none⟩) 0 0 (Nat.le_refl _) (.slice (some ad) 0 c) hsrc
      go_enter Try.func41, Try.ntmps41
      go_wp2
      go_ret
      exact ⟨_, [], rfl, FIN.out, HM.out.symm, HA.out⟩
  · obtain ⟨b, off, c', e, hlb, hbh, hcell⟩ := HX.out.2.2.2 (by omega)
    injection e with e1 _ e2
    subst e1 e2
    have hbw : b < w.heap.size := by omega
    have HC := Lib.hid hcell
    clear hcell
    go_enter Try.func41, Try.ntmps41
    go_wp2_with (at_builtin; refine wpList_append_lies _ rfl _ _ 24 rfl w.heap.size 67 i0 _ 5 80 Try.underlying24 hi0 hz0 hz1 hz2 rfl (by decide) (.slice (some ⟨w.heap.size, 0, none⟩) 0 0) 0 [] rfl HO.out ⟨b, off, none⟩ ms.length c (flatD xs) rfl (by rw [flatD_len, hxl]) (fun j u hj => by rw [show (⟨b, off, none⟩ : Addr).add j = ⟨b, off + j, none⟩ by unfold Addr.add; split <;> simp_all]; exact (HA.out.cell (p := ⟨b, off + j, none⟩) hbw).trans (HC.out j u hj)) HX.out.2.2.1 (by omega) (by unfold maxLen; omega) (by omega) (by simp) (w.heap.size + 1) (by simp) ?_)
    intro gg capg w6 hown6 hg6 hat6 hlt6
    have FIN : Hid (GrowH w6 w.heap.size (.slice (some ⟨gg, 0, none⟩) ms.length capg) xs ∧ Below w.heap.size w w6) := Lib.hid (by
      have hB : Below w.heap.size w w6 := Tx.below_grown HA.out HO.out hg6 (by simp) (Nat.le_refl _)
      exact ⟨⟨by rw [hxl]; exact hown6, fun x hx => ((HX.out.2.1 x hx).keep (Keeps.below hB hhi)).more hhi⟩, hB⟩)
    clear hown6 hg6 hat6 hlt6
    go_wp2
    go_ret
    exact ⟨_, xs, rfl, FIN.out.1, HX.out.1, FIN.out.2⟩
end Go.Proofs.Ytiochjagolijfaa
