/- The walk of the law FnDerive. -/
import Derived.Test.YtonfiahihmcmlaaWd9
import Derived.Test.YtonfiahihmcmlaaJWspans
import Derived.Test.YtonfiahihmcmlaaJWder
import Derived.Test.YtonfiahihmcmlaaJTbl
import Derived.Test.YtonfiahihmcmlaaJVc
import Derived.Test.YtonfiahihmcmlaaJVe
import Derived.Deep.RegionHeld3
import Derived.Deep.RegionWith
import Derived.Deep.RegionLaw
import Derived.Deep.QuietTactic
import Derived.BigQuiet
import Derived.StillTailTactics
namespace Go.Proofs.Ytonfiahihmcmlaa
open Go.RowKit
theorem lastB_range {p : Nat → Prop} {n : Nat} : -1 ≤ lastB p n ∧ lastB p n ≤ (n : Int) := by
  induction n with
  | zero => unfold lastB; split <;> omega
  | succ n ih => unfold lastB; split <;> omega
theorem via_bounds {rs : List RuleD} {t : List ByteArray} (h : t.length ≤ 200) : -1 ≤ viaZ rs t ∧ viaZ rs t ≤ 200 := by
  by_cases hp : 0 ≤ viaZ rs t
  · obtain ⟨_, _, m, e, hm, _⟩ := via_parts hp
    omega
  · refine ⟨?_, by omega⟩
    cases hg : gramB rs
    · rw [viaZ_no (by rw [hg]; rfl)]; omega
    · cases ht : textB t
      · rw [viaZ_no (by rw [ht, Bool.and_false])]; omega
      · rw [viaZ_yes hg ht]
        exact lastB_range.1
namespace fnDerive
abbrev IsRow := @Dr.IsRow

theorem nextB {w0 wk w' : World} (h : Below w0.heap.size w0 wk) (b : Below wk.heap.size wk w') : Below w0.heap.size w0 w' := h.trans (b.mono h.size)
theorem ints_at {w : World} {lo hi : Nat} {A : Option Addr} {c : Nat} {l : List Int} (h : IntsAt w lo hi (.slice A l.length c) l) {j : Nat} (hj : j < l.length) : ∃ b off, A = some ⟨b, off, none⟩ ∧ b < hi ∧ l.length ≤ c ∧ c ≤ maxLen ∧ w.cell? ⟨b, off + j, none⟩ = some (.int .i64 l[j]) := by
  obtain ⟨A', c', e, h1, h2, h3⟩ := h
  injection e with e1 _ e2
  subst e1 e2
  obtain ⟨b, off, rfl, _, h5, h6⟩ := h3 (by omega)
  exact ⟨b, off, rfl, h5, h1, h2, h6 j hj⟩
/-- what the loop over the numbers asks of each -/
theorem spans_step {rs : List RuleD} {t : List ByteArray} {h : ByteArray} {k : Nat} (hk : k < (spansOf rs t h).length) :
    0 ≤ (spansOf rs t h)[k] ∧ (spansOf rs t h)[k] ≤ 168 ∧ (spansOf rs t h)[k] / 13 ≤ (spansOf rs t h)[k] % 13 ∧ ∀ (_ : 0 < k), (spansOf rs t h)[k - 1]'(by omega) < (spansOf rs t h)[k] := by
  obtain ⟨h1, h2⟩ := spans_order (rs := rs) (t := t) (h := h)
  obtain ⟨q, hq, hq1, hq2⟩ := h2 _ (List.getElem_mem hk)
  refine ⟨by omega, by omega, by omega, fun h0 => ?_⟩
  exact (List.pairwise_iff_getElem.1 h1) (k - 1) k (by omega) hk (by omega)
theorem whole_step {l : List Int} {n : Int} {k : Nat} (hk : k < l.length) : decide (n ∈ l.take (k + 1)) = (decide (n ∈ l.take k) || decide (l[k] = n)) := by
  rw [List.take_succ_eq_append_getElem hk, Bool.eq_iff_iff]
  simp only [List.mem_append, List.mem_singleton, Bool.or_eq_true, decide_eq_true_eq]
  constructor
  · rintro (h | h)
    · exact .inl h
    · exact .inr h.symm
  · rintro (h | h)
    · exact .inl h
    · exact .inr h.symm

set_option linter.unusedSimpArgs false in
set_option maxRecDepth 100000 in
set_option maxHeartbeats 40000000 in
theorem walk (a0 : Option Addr) (len0 cap0 : Nat) (z0 : List Int) (a1 : Option Addr) (len1 cap1 : Nat) (z1 : List Int) (w : World) (h0 : IsRow .u8 w a0 len0 cap0 z0) (h1 : IsRow .u8 w a1 len1 cap1 z1) :
    Calls Try.prog 4 #[.slice a0 len0 cap0, .slice a1 len1 cap1] w fun e w' => e = .returned (.bool true) ∧ Below w.heap.size w w' := by
  have hb0 := Dr.IsRow.bytes h0
  have HB1 := Lib.hid (Dr.IsRow.bytes h1)
  clear h0 h1
  by_cases hl0 : (1048576 : Int) < len0
  · go_enter Try.func4, Try.ntmps4
    go_wp2
    go_ret
    exact ⟨rfl, Below.refl _ _⟩
  by_cases hl1 : (1048576 : Int) < len1
  · go_enter Try.func4, Try.ntmps4
    go_wp2
    go_ret
    exact ⟨rfl, Below.refl _ _⟩
  go_enter Try.func4, Try.ntmps4
  go_wp2_with fail
  refine (Dr.drawDerives_any w a0 len0 cap0 hb0 (by omega)).mono ?_
  rintro e w1 ⟨v, rs, tv, t, rfl, R1, W1, htl, b1⟩
  have A1 := al1 w1 (.cells #[v] 25)
  have RG := Row.made w1 25 #[v]
  have HV := Lib.hid (R1.below A1 (Nat.le_refl _))
  have HT := Lib.hid (W1.below A1 (Nat.le_refl _))
  have B1 := nextB b1 A1
  obtain ⟨Av, cv, rfl, -⟩ := R1
  obtain ⟨At, ct, rfl, -⟩ := W1
  have lG := RG.lt
  have lv : w1.heap.size ≤ (w1.alloc (.cells #[.slice Av rs.length cv] 25)).heap.size := by simp
  clear hb0 b1 A1
  go_wp2_with fail
  generalize w1.alloc (.cells #[.slice Av rs.length cv] 25) = wg at RG HV HT B1 lG lv ⊢
  have cG := RG.cell 0
  simp at cG
  have BB : Below wg.heap.size wg wg.drew := (Below.refl _ _).drew
  go_region_held3 (fun w' => w'.cell? ⟨w1.heap.size, 0, none⟩ = some (.slice Av rs.length cv))
    (first | go_keep | (rw [BB.cell lG]; assumption))
    (first
      | (go_at_call 32; refine (implDerives_any rs t _ _ _ _ _ _ _ (HV.out.below BB lv) (Nat.le_trans lv BB.size) (HT.out.below BB lv) (Nat.le_trans lv BB.size)).mono ?_; rintro e wa ⟨rfl, bn⟩; have BB := nextB BB bn)
      | (go_at_call 33; refine (implViable_any rs t _ _ _ _ _ _ _ (HV.out.below BB lv) (Nat.le_trans lv BB.size) (HT.out.below BB lv) (Nat.le_trans lv BB.size)).mono ?_; rintro e wb ⟨rfl, bp⟩; have BB := nextB BB bp))
  have HBD := Lib.hid (nextB B1 BB)
  have cG := (BB.cell (p := ⟨w1.heap.size, 0, none⟩) lG).trans cG
  have lGd : w1.heap.size < wb.heap.size := Nat.lt_of_lt_of_le lG BB.size
  have HVD := Lib.hid (HV.out.below BB lv)
  have HTD := Lib.hid (HT.out.below BB lv)
  clear bn bp BB B1 HV HT RG
  go_wp2_with fail
  refine (Dr.drawSpans_any wb a1 len1 cap1 (HB1.out.later HBD.out) (by omega)).mono ?_
  rintro e w2 ⟨v2, rh, tv2, u, hd, rfl, hhd, R2, W2, hul, b2⟩
  have A2 := al1 w2 (.cells #[v2] 25)
  have RH := Row.made w2 25 #[v2]
  have HVH := Lib.hid (R2.below A2 (Nat.le_refl _))
  have HTH := Lib.hid (W2.below A2 (Nat.le_refl _))
  have HBE := Lib.hid (nextB b2 A2)
  obtain ⟨A9, c9, rfl, -⟩ := R2
  obtain ⟨A8, c8, rfl, -⟩ := W2
  have lH := RH.lt
  have z2 := b2.size
  clear b2 A2
  go_wp2_with fail
  have z22 : w2.heap.size ≤ (w2.alloc (.cells #[.slice A9 rh.length c9] 25)).heap.size := by simp
  generalize w2.alloc (.cells #[.slice A9 rh.length c9] 25) = we at RH HVH HTH HBE lH z22 ⊢
  have cH := RH.cell 0
  simp at cH
  refine (implSpans_any rh u hd _ _ _ _ _ _ _ HVH.out (by omega) HTH.out (by omega)).mono ?_
  rintro e wl ⟨ul, gl, rfl, Sl, Gl, bl⟩
  have TL := Sl.strs Gl
  have HTL := Lib.hid TL
  obtain ⟨Al, cl, rfl, hl1', hl2', -⟩ := TL
  unfold maxLen at hl2'
  have RHl := RH.below bl lH
  have HEL := Lib.hid (nextB HBE.out bl)
  have HBL := Lib.hid (nextB HBD.out HEL.out)
  have cGl := (HEL.out.cell (p := ⟨w1.heap.size, 0, none⟩) lGd).trans cG
  have cHl := RHl.cell 0
  simp at cHl
  have lHl := RHl.lt
  have zl := bl.size
  have lGl : w1.heap.size < wl.heap.size := by omega
  have HVL := Lib.hid (HVD.out.below HEL.out (by omega))
  have HTDL := Lib.hid (HTD.out.below HEL.out (by omega))
  have HVHL := Lib.hid (HVH.out.below bl (by omega))
  have HTHL := Lib.hid (HTH.out.below bl (by omega))
  have lvl : w1.heap.size ≤ wl.heap.size := by omega
  have lvh : w2.heap.size ≤ wl.heap.size := by omega
  clear Sl Gl bl RH RHl HVH HTH HVD HTD HBE HEL HBD
  have hhm : hd.size ≤ maxLen := by unfold maxLen; omega
  have HEI := Lib.hid (fun l : List Int => eqIs_t (rfl : l = l))
  have HDV : Hid (derB rs t = true → viaZ rs t = (t.length : Int)) := Lib.hid der_via
  have HVB : Hid (-1 ≤ viaZ rs t ∧ viaZ rs t ≤ 200) := Lib.hid (via_bounds htl)
  generalize hdb : derB rs t = db at *
  generalize hvz : viaZ rs t = vz at *
  have HDB := Lib.hid hdb
  have HVZ := Lib.hid hvz
  clear hdb hvz
  have dd : (db != db) = false := by simp
  have dv : (vz != vz) = false := by simp
  go_upto_region 7 with fail
  go_cut [75] from 46 to 75 (fun s75 wx => s75 = .bool false ∧ Below wl.heap.size wl wx)
  case first =>
    cases db with
    | true =>
      have hvt := HDV.out rfl
      have dvt : (vz != (t.length : Int)) = false := by rw [hvt]; simp
      clear hvt
      have BB : Below wl.heap.size wl wl := Below.refl _ _
      go_wp2_with fail
      refine (specDerives_any rs t _ _ _ _ _ _ _ (HVL.out.below BB lvl) (Nat.le_trans lvl BB.size) (HTDL.out.below BB lvl) (Nat.le_trans lvl BB.size)).mono ?_
      rintro e x1 ⟨rfl, b1⟩
      rw [HDB.out]
      have BB := nextB BB b1
      have cGx := (BB.cell (p := ⟨w1.heap.size, 0, none⟩) lGl).trans cGl
      have cHx := (BB.cell (p := ⟨w2.heap.size, 0, none⟩) lHl).trans cHl
      go_wp2_with fail
      refine (specViable_any rs t _ _ _ _ _ _ _ (HVL.out.below BB lvl) (Nat.le_trans lvl BB.size) (HTDL.out.below BB lvl) (Nat.le_trans lvl BB.size)).mono ?_
      rintro e x2 ⟨rfl, b2⟩
      rw [HVZ.out]
      have BB := nextB BB b2
      have cGx := (BB.cell (p := ⟨w1.heap.size, 0, none⟩) lGl).trans cGl
      have cHx := (BB.cell (p := ⟨w2.heap.size, 0, none⟩) lHl).trans cHl
      go_wp2_with fail
      refine (specSpans_any rh u hd _ _ _ _ _ _ _ (HVHL.out.below BB lvh) (Nat.le_trans lvh BB.size) (HTHL.out.below BB lvh) (Nat.le_trans lvh BB.size) hhm).mono ?_
      rintro e x3 ⟨u3, g3, rfl, S3, G3, b3⟩
      have T3 := Lib.hid (S3.strs G3)
      have BB := nextB BB b3
      obtain ⟨A3, c3, rfl, -⟩ := S3
      go_wp2_with fail
      refine (lwNums_any _ _ (spansOf rh u hd) (spansOf rh u hd) _ _ _ _ _ (HTL.out.below BB (Nat.le_refl _)) T3.out).mono ?_
      rintro e x4 ⟨rfl, n4, rfl⟩
      rw [HEI.out]
      have BB : Below wl.heap.size wl (x3.drewN n4) := ⟨BB.os, BB.tape, BB.output, BB.size, BB.block⟩
      go_wp2_with fail
      go_meet
      exact ⟨rfl, BB⟩
    | false =>
      have BB : Below wl.heap.size wl wl := Below.refl _ _
      go_wp2_with fail
      refine (specDerives_any rs t _ _ _ _ _ _ _ (HVL.out.below BB lvl) (Nat.le_trans lvl BB.size) (HTDL.out.below BB lvl) (Nat.le_trans lvl BB.size)).mono ?_
      rintro e x1 ⟨rfl, b1⟩
      rw [HDB.out]
      have BB := nextB BB b1
      have cGx := (BB.cell (p := ⟨w1.heap.size, 0, none⟩) lGl).trans cGl
      have cHx := (BB.cell (p := ⟨w2.heap.size, 0, none⟩) lHl).trans cHl
      go_wp2_with fail
      refine (specViable_any rs t _ _ _ _ _ _ _ (HVL.out.below BB lvl) (Nat.le_trans lvl BB.size) (HTDL.out.below BB lvl) (Nat.le_trans lvl BB.size)).mono ?_
      rintro e x2 ⟨rfl, b2⟩
      rw [HVZ.out]
      have BB := nextB BB b2
      have cGx := (BB.cell (p := ⟨w1.heap.size, 0, none⟩) lGl).trans cGl
      have cHx := (BB.cell (p := ⟨w2.heap.size, 0, none⟩) lHl).trans cHl
      go_wp2_with fail
      refine (specSpans_any rh u hd _ _ _ _ _ _ _ (HVHL.out.below BB lvh) (Nat.le_trans lvh BB.size) (HTHL.out.below BB lvh) (Nat.le_trans lvh BB.size) hhm).mono ?_
      rintro e x3 ⟨u3, g3, rfl, S3, G3, b3⟩
      have T3 := Lib.hid (S3.strs G3)
      have BB := nextB BB b3
      obtain ⟨A3, c3, rfl, -⟩ := S3
      go_wp2_with fail
      refine (lwNums_any _ _ (spansOf rh u hd) (spansOf rh u hd) _ _ _ _ _ (HTL.out.below BB (Nat.le_refl _)) T3.out).mono ?_
      rintro e x4 ⟨rfl, n4, rfl⟩
      rw [HEI.out]
      have BB : Below wl.heap.size wl (x3.drewN n4) := ⟨BB.os, BB.tape, BB.output, BB.size, BB.block⟩
      go_wp2_with fail
      go_meet
      exact ⟨rfl, BB⟩
  case rest =>
    obtain ⟨rfl, BW⟩ := hcut
    have HBZ := Lib.hid (nextB HBL.out BW)
    have cGz := (BW.cell (p := ⟨w1.heap.size, 0, none⟩) lGl).trans cGl
    have HVz := Lib.hid (HVL.out.below BW lvl)
    have HTz := Lib.hid (HTDL.out.below BW lvl)
    have HLz := Lib.hid (HTL.out.below BW (Nat.le_refl _))
    have zz := BW.size
    have lwz1 : w1.heap.size < wc.heap.size := by omega
    have lwzl : wl.heap.size ≤ wc.heap.size := by omega
    clear HVL HTDL HVHL HTHL HTL HBL cGl cHl dd dv BW HEI
    go_wp2
    go_loopw [13] (fun x wr => ∃ k n : Nat, k ≤ (spansOf rh u hd).length ∧ x = .int .i64 (k : Int) ∧ wr = wc.drewN n) (fun x _ => (spansOf rh u hd).length - (intOf x).toNat)
    case atStart => exact ⟨0, 0, by omega, rfl, rfl⟩
    case round =>
      obtain ⟨k, n, hk, rfl, rfl⟩ := hrel
      by_cases hlt : k < (spansOf rh u hd).length
      · obtain ⟨b, off, rfl, hb, _, _, hck⟩ := ints_at HLz.out hlt
        obtain ⟨p0, p1, p2, p3⟩ := spans_step hlt
        have hint : Hid (∀ i (hi : i < (spansOf rh u hd).length), (wc.drewN n).cell? ⟨b, off + i, none⟩ = some (.int .i64 (spansOf rh u hd)[i])) := Lib.hid fun i hi => by
          obtain ⟨b2, off2, e2, _, _, _, h9⟩ := ints_at HLz.out hi
          injection e2 with e2
          injection e2 with e3 e4
          subst e3 e4
          exact h9
        have hck' : (wc.drewN n).cell? ⟨b, off + k, none⟩ = some (.int .i64 (spansOf rh u hd)[k]) := hck
        have k1 : (k : Int) < ((spansOf rh u hd).length : Int) := by omega
        by_cases hk0 : k = 0
        · have d1 : decide ((0 : Int) < (k : Int)) = false := decide_eq_false (by omega)
          have d1' : decide (0 < k) = false := decide_eq_false (by omega)
          generalize (spansOf rh u hd)[k] = z at hck hck' p0 p1 p2
          have q1 : IntKind.i64.wrap (z.tdiv 13) = z / 13 := IntWalk.i64_quo z 13 ⟨by omega, by omega, by omega⟩
          have q2 : z.tdiv 13 = z / 13 := Int.tdiv_eq_ediv_of_nonneg p0
          have q3 : z.tmod 13 = z % 13 := Int.tmod_eq_emod_of_nonneg p0
          have q4 : IntKind.i64.wrap (z / 13) = z / 13 := IntWalk.i64_in _ (by omega)
          have d3 : decide (z % 13 < z / 13) = false := decide_eq_false (by omega)
          have HK0 := Lib.hid hk0
          clear p3 hck hk0 hint
          go_wp2_with fail
          refine wp_region_held_drew (S := fun w' => w'.cell? ⟨b, off + k, none⟩ = some (.int .i64 z)) (by kernel_rfl) hck' (fun hHeld => ?_)
          refine wpAnyH_take (i := 0) (v := ?_) rfl (by kernel_rfl) (by kernel_rfl) (by kernel_rfl) (fun _ _ _ h => h) (Or.inl ⟨by rfl, ?_⟩) (by assumption) ?_
          rotate_left
          · intro w' hSw
            try dsimp only at hSw
            go_simp
            try with_reducible rfl
          simp only [Act.put, List.setIfInBounds_toArray, List.set_cons_zero, List.set_cons_succ, List.getElem_toArray, List.getElem_cons_zero, List.getElem_cons_succ]
          refine wpAnyH_take (i := 1) (v := ?_) rfl (by kernel_rfl) (by kernel_rfl) (by kernel_rfl) (fun _ _ _ h => h) (Or.inl ⟨by rfl, ?_⟩) (by assumption) ?_
          rotate_left
          · intro w' hSw
            try dsimp only at hSw
            go_simp
            try with_reducible rfl
          simp only [Act.put, List.setIfInBounds_toArray, List.set_cons_zero, List.set_cons_succ, List.getElem_toArray, List.getElem_cons_zero, List.getElem_cons_succ]
          refine wpAnyH_take (i := 2) (v := ?_) rfl (by kernel_rfl) (by kernel_rfl) (by kernel_rfl) (fun _ _ _ h => h) (Or.inl ⟨by rfl, ?_⟩) (by assumption) ?_
          rotate_left
          · intro w' hSw
            try dsimp only at hSw
            go_simp
            try with_reducible rfl
          simp only [Act.put, List.setIfInBounds_toArray, List.set_cons_zero, List.set_cons_succ, List.getElem_toArray, List.getElem_cons_zero, List.getElem_cons_succ]
          refine wpAnyH_take (i := 3) (v := undef) rfl (by kernel_rfl) (by kernel_rfl) (by kernel_rfl) (fun _ _ _ h => h) (Or.inr ⟨by rfl, rfl⟩) (by assumption) ?_
          simp only [Act.put, List.setIfInBounds_toArray, List.set_cons_zero, List.set_cons_succ, List.getElem_toArray, List.getElem_cons_zero, List.getElem_cons_succ]
          refine wpAnyH_take (i := 4) (v := undef) rfl (by kernel_rfl) (by kernel_rfl) (by kernel_rfl) (fun _ _ _ h => h) (Or.inr ⟨by rfl, rfl⟩) (by assumption) ?_
          simp only [Act.put, List.setIfInBounds_toArray, List.set_cons_zero, List.set_cons_succ, List.getElem_toArray, List.getElem_cons_zero, List.getElem_cons_succ]
          refine wpAnyH_take (i := 5) (v := undef) rfl (by kernel_rfl) (by kernel_rfl) (by kernel_rfl) (fun _ _ _ h => h) (Or.inr ⟨by rfl, rfl⟩) (by assumption) ?_
          simp only [Act.put, List.setIfInBounds_toArray, List.set_cons_zero, List.set_cons_succ, List.getElem_toArray, List.getElem_cons_zero, List.getElem_cons_succ]
          refine wpAnyH_take (i := 6) (v := undef) rfl (by kernel_rfl) (by kernel_rfl) (by kernel_rfl) (fun _ _ _ h => h) (Or.inr ⟨by rfl, rfl⟩) (by assumption) ?_
          simp only [Act.put, List.setIfInBounds_toArray, List.set_cons_zero, List.set_cons_succ, List.getElem_toArray, List.getElem_cons_zero, List.getElem_cons_succ]
          refine wpAnyH_take (i := 7) (v := undef) rfl (by kernel_rfl) (by kernel_rfl) (by kernel_rfl) (fun _ _ _ h => h) (Or.inr ⟨by rfl, rfl⟩) (by assumption) ?_
          simp only [Act.put, List.setIfInBounds_toArray, List.set_cons_zero, List.set_cons_succ, List.getElem_toArray, List.getElem_cons_zero, List.getElem_cons_succ]
          refine wpAnyH_take (i := 8) (v := undef) rfl (by kernel_rfl) (by kernel_rfl) (by kernel_rfl) (fun _ _ _ h => h) (Or.inr ⟨by rfl, rfl⟩) (by assumption) ?_
          simp only [Act.put, List.setIfInBounds_toArray, List.set_cons_zero, List.set_cons_succ, List.getElem_toArray, List.getElem_cons_zero, List.getElem_cons_succ]
          refine wpAnyH_take (i := 9) (v := undef) rfl (by kernel_rfl) (by kernel_rfl) (by kernel_rfl) (fun _ _ _ h => h) (Or.inr ⟨by rfl, rfl⟩) (by assumption) ?_
          simp only [Act.put, List.setIfInBounds_toArray, List.set_cons_zero, List.set_cons_succ, List.getElem_toArray, List.getElem_cons_zero, List.getElem_cons_succ]
          refine wpAnyH_take (i := 10) (v := undef) rfl (by kernel_rfl) (by kernel_rfl) (by kernel_rfl) (fun _ _ _ h => h) (Or.inr ⟨by rfl, rfl⟩) (by assumption) ?_
          simp only [Act.put, List.setIfInBounds_toArray, List.set_cons_zero, List.set_cons_succ, List.getElem_toArray, List.getElem_cons_zero, List.getElem_cons_succ]
          refine wpAnyH_take (i := 11) (v := undef) rfl (by kernel_rfl) (by kernel_rfl) (by kernel_rfl) (fun _ _ _ h => h) (Or.inr ⟨by rfl, rfl⟩) (by assumption) ?_
          simp only [Act.put, List.setIfInBounds_toArray, List.set_cons_zero, List.set_cons_succ, List.getElem_toArray, List.getElem_cons_zero, List.getElem_cons_succ]
          refine wpAnyH_take (i := 12) (v := undef) rfl (by kernel_rfl) (by kernel_rfl) (by kernel_rfl) (fun _ _ _ h => h) (Or.inr ⟨by rfl, rfl⟩) (by assumption) ?_
          simp only [Act.put, List.setIfInBounds_toArray, List.set_cons_zero, List.set_cons_succ, List.getElem_toArray, List.getElem_cons_zero, List.getElem_cons_succ]
          refine wpAnyH_take (i := 13) (v := ?_) rfl (by kernel_rfl) (by kernel_rfl) (by kernel_rfl) (fun _ _ _ h => h) (Or.inl ⟨by rfl, ?_⟩) (by assumption) ?_
          rotate_left
          · intro w' hSw
            try dsimp only at hSw
            go_simp
            try with_reducible rfl
          simp only [Act.put, List.setIfInBounds_toArray, List.set_cons_zero, List.set_cons_succ, List.getElem_toArray, List.getElem_cons_zero, List.getElem_cons_succ]
          refine wpAnyH_take (i := 14) (v := ?_) rfl (by kernel_rfl) (by kernel_rfl) (by kernel_rfl) (fun _ _ _ h => h) (Or.inl ⟨by rfl, ?_⟩) (by assumption) ?_
          rotate_left
          · intro w' hSw
            try dsimp only at hSw
            go_simp
            try with_reducible rfl
          simp only [Act.put, List.setIfInBounds_toArray, List.set_cons_zero, List.set_cons_succ, List.getElem_toArray, List.getElem_cons_zero, List.getElem_cons_succ]
          refine wpAnyH_take (i := 15) (v := ?_) rfl (by kernel_rfl) (by kernel_rfl) (by kernel_rfl) (fun _ _ _ h => h) (Or.inl ⟨by rfl, ?_⟩) (by assumption) ?_
          rotate_left
          · intro w' hSw
            try dsimp only at hSw
            go_simp
            try with_reducible rfl
          simp only [Act.put, List.setIfInBounds_toArray, List.set_cons_zero, List.set_cons_succ, List.getElem_toArray, List.getElem_cons_zero, List.getElem_cons_succ]
          refine wpAnyH_take (i := 16) (v := ?_) rfl (by kernel_rfl) (by kernel_rfl) (by kernel_rfl) (fun _ _ _ h => h) (Or.inl ⟨by rfl, ?_⟩) (by assumption) ?_
          rotate_left
          · intro w' hSw
            try dsimp only at hSw
            go_simp
            try with_reducible rfl
          simp only [Act.put, List.setIfInBounds_toArray, List.set_cons_zero, List.set_cons_succ, List.getElem_toArray, List.getElem_cons_zero, List.getElem_cons_succ]
          refine wpAnyH_take (i := 17) (v := ?_) rfl (by kernel_rfl) (by kernel_rfl) (by kernel_rfl) (fun _ _ _ h => h) (Or.inl ⟨by rfl, ?_⟩) (by assumption) ?_
          rotate_left
          · intro w' hSw
            try dsimp only at hSw
            go_simp
            try with_reducible rfl
          simp only [Act.put, List.setIfInBounds_toArray, List.set_cons_zero, List.set_cons_succ, List.getElem_toArray, List.getElem_cons_zero, List.getElem_cons_succ]
          refine wpAnyH_take (i := 18) (v := ?_) rfl (by kernel_rfl) (by kernel_rfl) (by kernel_rfl) (fun _ _ _ h => h) (Or.inl ⟨by rfl, ?_⟩) (by assumption) ?_
          rotate_left
          · intro w' hSw
            try dsimp only at hSw
            go_simp
            try with_reducible rfl
          simp only [Act.put, List.setIfInBounds_toArray, List.set_cons_zero, List.set_cons_succ, List.getElem_toArray, List.getElem_cons_zero, List.getElem_cons_succ]
          refine wpAnyH_take (i := 19) (v := ?_) rfl (by kernel_rfl) (by kernel_rfl) (by kernel_rfl) (fun _ _ _ h => h) (Or.inl ⟨by rfl, ?_⟩) (by assumption) ?_
          rotate_left
          · intro w' hSw
            try dsimp only at hSw
            go_simp
            try with_reducible rfl
          simp only [Act.put, List.setIfInBounds_toArray, List.set_cons_zero, List.set_cons_succ, List.getElem_toArray, List.getElem_cons_zero, List.getElem_cons_succ]
          refine wpAnyH_take (i := 20) (v := ?_) rfl (by kernel_rfl) (by kernel_rfl) (by kernel_rfl) (fun _ _ _ h => h) (Or.inl ⟨by rfl, ?_⟩) (by assumption) ?_
          rotate_left
          · intro w' hSw
            try dsimp only at hSw
            go_simp
            try with_reducible rfl
          simp only [Act.put, List.setIfInBounds_toArray, List.set_cons_zero, List.set_cons_succ, List.getElem_toArray, List.getElem_cons_zero, List.getElem_cons_succ]
          refine wpAnyH_take (i := 21) (v := ?_) rfl (by kernel_rfl) (by kernel_rfl) (by kernel_rfl) (fun _ _ _ h => h) (Or.inl ⟨by rfl, ?_⟩) (by assumption) ?_
          rotate_left
          · intro w' hSw
            try dsimp only at hSw
            go_simp
            try with_reducible rfl
          simp only [Act.put, List.setIfInBounds_toArray, List.set_cons_zero, List.set_cons_succ, List.getElem_toArray, List.getElem_cons_zero, List.getElem_cons_succ]
          refine wpAnyH_take (i := 22) (v := ?_) rfl (by kernel_rfl) (by kernel_rfl) (by kernel_rfl) (fun _ _ _ h => h) (Or.inl ⟨by rfl, ?_⟩) (by assumption) ?_
          rotate_left
          · intro w' hSw
            try dsimp only at hSw
            go_simp
            try with_reducible rfl
          simp only [Act.put, List.setIfInBounds_toArray, List.set_cons_zero, List.set_cons_succ, List.getElem_toArray, List.getElem_cons_zero, List.getElem_cons_succ]
          refine wpAnyH_take (i := 23) (v := ?_) rfl (by kernel_rfl) (by kernel_rfl) (by kernel_rfl) (fun _ _ _ h => h) (Or.inl ⟨by rfl, ?_⟩) (by assumption) ?_
          rotate_left
          · intro w' hSw
            try dsimp only at hSw
            go_simp
            try with_reducible rfl
          simp only [Act.put, List.setIfInBounds_toArray, List.set_cons_zero, List.set_cons_succ, List.getElem_toArray, List.getElem_cons_zero, List.getElem_cons_succ]
          refine wpAnyH_take (i := 24) (v := ?_) rfl (by kernel_rfl) (by kernel_rfl) (by kernel_rfl) (fun _ _ _ h => h) (Or.inl ⟨by rfl, ?_⟩) (by assumption) ?_
          rotate_left
          · intro w' hSw
            try dsimp only at hSw
            go_simp
            try with_reducible rfl
          simp only [Act.put, List.setIfInBounds_toArray, List.set_cons_zero, List.set_cons_succ, List.getElem_toArray, List.getElem_cons_zero, List.getElem_cons_succ]
          refine wpAnyH_take (i := 25) (v := ?_) rfl (by kernel_rfl) (by kernel_rfl) (by kernel_rfl) (fun _ _ _ h => h) (Or.inl ⟨by rfl, ?_⟩) (by assumption) ?_
          rotate_left
          · intro w' hSw
            try dsimp only at hSw
            go_simp
            try with_reducible rfl
          simp only [Act.put, List.setIfInBounds_toArray, List.set_cons_zero, List.set_cons_succ, List.getElem_toArray, List.getElem_cons_zero, List.getElem_cons_succ]
          refine wpAnyH_take (i := 26) (v := ?_) rfl (by kernel_rfl) (by kernel_rfl) (by kernel_rfl) (fun _ _ _ h => h) (Or.inl ⟨by rfl, ?_⟩) (by assumption) ?_
          rotate_left
          · intro w' hSw
            try dsimp only at hSw
            go_simp
            try with_reducible rfl
          simp only [Act.put, List.setIfInBounds_toArray, List.set_cons_zero, List.set_cons_succ, List.getElem_toArray, List.getElem_cons_zero, List.getElem_cons_succ]
          refine wpAnyH_done (by kernel_rfl) ?_ _
          go_wp2
          go_roundw
          case rel => exact ⟨k + 1, n + 1, by have := HK0.out; omega, by go_num, rfl⟩
          case measure => simp [intOf]; omega
        · have hkp : 0 < k := by omega
          have hck9 : (wc.drewN n).cell? ⟨b, off + (k - 1), none⟩ = some (.int .i64 ((spansOf rh u hd)[k - 1]'(by omega))) := (hint.out (k - 1) (by omega))
          have p4 := p3 hkp
          generalize (spansOf rh u hd)[k - 1] = y at hck9 p4
          generalize (spansOf rh u hd)[k] = z at hck hck' p0 p1 p2 p4
          have d1 : decide ((0 : Int) < (k : Int)) = true := decide_eq_true (by omega)
          have d1' : decide (0 < k) = true := decide_eq_true (by omega)
          have d2 : decide (z ≤ y) = false := decide_eq_false (by omega)
          have d3 : decide (z % 13 < z / 13) = false := decide_eq_false (by omega)
          have e1 : (k : Int) - 1 = ((k - 1 : Nat) : Int) := by omega
          have e2 : ((k - 1 : Nat) : Int) < ((spansOf rh u hd).length : Int) := by omega
          have q1 : IntKind.i64.wrap (z.tdiv 13) = z / 13 := IntWalk.i64_quo z 13 ⟨by omega, by omega, by omega⟩
          have q2 : z.tdiv 13 = z / 13 := Int.tdiv_eq_ediv_of_nonneg p0
          have q3 : z.tmod 13 = z % 13 := Int.tmod_eq_emod_of_nonneg p0
          have q4 : IntKind.i64.wrap (z / 13) = z / 13 := IntWalk.i64_in _ (by omega)
          have e3 : IntKind.i64.wrap ((k - 1 : Nat) : Int) = ((k - 1 : Nat) : Int) := IntWalk.i64_in _ (by omega)
          have e4 : (0 : Int) ≤ ((k - 1 : Nat) : Int) := by omega
          clear p3 hck hint
          go_wp2_with fail
          refine wp_region_held_drew (S := fun w' => w'.cell? ⟨b, off + (k - 1), none⟩ = some (.int .i64 y) ∧ w'.cell? ⟨b, off + k, none⟩ = some (.int .i64 z)) (by kernel_rfl) ⟨hck9, hck'⟩ (fun hHeld => ?_)
          refine wpAnyH_take (i := 0) (v := ?_) rfl (by kernel_rfl) (by kernel_rfl) (by kernel_rfl) (fun _ _ _ h => h) (Or.inl ⟨by rfl, ?_⟩) (by assumption) ?_
          rotate_left
          · intro w' hSw
            try dsimp only at hSw
            go_simp
            try with_reducible rfl
          simp only [Act.put, List.setIfInBounds_toArray, List.set_cons_zero, List.set_cons_succ, List.getElem_toArray, List.getElem_cons_zero, List.getElem_cons_succ]
          refine wpAnyH_take (i := 1) (v := ?_) rfl (by kernel_rfl) (by kernel_rfl) (by kernel_rfl) (fun _ _ _ h => h) (Or.inl ⟨by rfl, ?_⟩) (by assumption) ?_
          rotate_left
          · intro w' hSw
            try dsimp only at hSw
            go_simp
            try with_reducible rfl
          simp only [Act.put, List.setIfInBounds_toArray, List.set_cons_zero, List.set_cons_succ, List.getElem_toArray, List.getElem_cons_zero, List.getElem_cons_succ]
          refine wpAnyH_take (i := 2) (v := ?_) rfl (by kernel_rfl) (by kernel_rfl) (by kernel_rfl) (fun _ _ _ h => h) (Or.inl ⟨by rfl, ?_⟩) (by assumption) ?_
          rotate_left
          · intro w' hSw
            try dsimp only at hSw
            go_simp
            try with_reducible rfl
          simp only [Act.put, List.setIfInBounds_toArray, List.set_cons_zero, List.set_cons_succ, List.getElem_toArray, List.getElem_cons_zero, List.getElem_cons_succ]
          refine wpAnyH_take (i := 3) (v := ?_) rfl (by kernel_rfl) (by kernel_rfl) (by kernel_rfl) (fun _ _ _ h => h) (Or.inl ⟨by rfl, ?_⟩) (by assumption) ?_
          rotate_left
          · intro w' hSw
            try dsimp only at hSw
            go_simp
            try with_reducible rfl
          simp only [Act.put, List.setIfInBounds_toArray, List.set_cons_zero, List.set_cons_succ, List.getElem_toArray, List.getElem_cons_zero, List.getElem_cons_succ]
          refine wpAnyH_take (i := 4) (v := ?_) rfl (by kernel_rfl) (by kernel_rfl) (by kernel_rfl) (fun _ _ _ h => h) (Or.inl ⟨by rfl, ?_⟩) (by assumption) ?_
          rotate_left
          · intro w' hSw
            try dsimp only at hSw
            go_simp
            try with_reducible rfl
          simp only [Act.put, List.setIfInBounds_toArray, List.set_cons_zero, List.set_cons_succ, List.getElem_toArray, List.getElem_cons_zero, List.getElem_cons_succ]
          refine wpAnyH_take (i := 5) (v := ?_) rfl (by kernel_rfl) (by kernel_rfl) (by kernel_rfl) (fun _ _ _ h => h) (Or.inl ⟨by rfl, ?_⟩) (by assumption) ?_
          rotate_left
          · intro w' hSw
            try dsimp only at hSw
            go_simp
            try with_reducible rfl
          simp only [Act.put, List.setIfInBounds_toArray, List.set_cons_zero, List.set_cons_succ, List.getElem_toArray, List.getElem_cons_zero, List.getElem_cons_succ]
          refine wpAnyH_take (i := 6) (v := ?_) rfl (by kernel_rfl) (by kernel_rfl) (by kernel_rfl) (fun _ _ _ h => h) (Or.inl ⟨by rfl, ?_⟩) (by assumption) ?_
          rotate_left
          · intro w' hSw
            try dsimp only at hSw
            go_simp
            try with_reducible rfl
          simp only [Act.put, List.setIfInBounds_toArray, List.set_cons_zero, List.set_cons_succ, List.getElem_toArray, List.getElem_cons_zero, List.getElem_cons_succ]
          refine wpAnyH_take (i := 7) (v := ?_) rfl (by kernel_rfl) (by kernel_rfl) (by kernel_rfl) (fun _ _ _ h => h) (Or.inl ⟨by rfl, ?_⟩) (by assumption) ?_
          rotate_left
          · intro w' hSw
            try dsimp only at hSw
            go_simp
            try with_reducible rfl
          simp only [Act.put, List.setIfInBounds_toArray, List.set_cons_zero, List.set_cons_succ, List.getElem_toArray, List.getElem_cons_zero, List.getElem_cons_succ]
          refine wpAnyH_take (i := 8) (v := ?_) rfl (by kernel_rfl) (by kernel_rfl) (by kernel_rfl) (fun _ _ _ h => h) (Or.inl ⟨by rfl, ?_⟩) (by assumption) ?_
          rotate_left
          · intro w' hSw
            try dsimp only at hSw
            go_simp
            try with_reducible rfl
          simp only [Act.put, List.setIfInBounds_toArray, List.set_cons_zero, List.set_cons_succ, List.getElem_toArray, List.getElem_cons_zero, List.getElem_cons_succ]
          refine wpAnyH_take (i := 9) (v := ?_) rfl (by kernel_rfl) (by kernel_rfl) (by kernel_rfl) (fun _ _ _ h => h) (Or.inl ⟨by rfl, ?_⟩) (by assumption) ?_
          rotate_left
          · intro w' hSw
            try dsimp only at hSw
            go_simp
            try with_reducible rfl
          simp only [Act.put, List.setIfInBounds_toArray, List.set_cons_zero, List.set_cons_succ, List.getElem_toArray, List.getElem_cons_zero, List.getElem_cons_succ]
          refine wpAnyH_take (i := 10) (v := ?_) rfl (by kernel_rfl) (by kernel_rfl) (by kernel_rfl) (fun _ _ _ h => h) (Or.inl ⟨by rfl, ?_⟩) (by assumption) ?_
          rotate_left
          · intro w' hSw
            try dsimp only at hSw
            go_simp
            try with_reducible rfl
          simp only [Act.put, List.setIfInBounds_toArray, List.set_cons_zero, List.set_cons_succ, List.getElem_toArray, List.getElem_cons_zero, List.getElem_cons_succ]
          refine wpAnyH_take (i := 11) (v := ?_) rfl (by kernel_rfl) (by kernel_rfl) (by kernel_rfl) (fun _ _ _ h => h) (Or.inl ⟨by rfl, ?_⟩) (by assumption) ?_
          rotate_left
          · intro w' hSw
            try dsimp only at hSw
            go_simp
            try with_reducible rfl
          simp only [Act.put, List.setIfInBounds_toArray, List.set_cons_zero, List.set_cons_succ, List.getElem_toArray, List.getElem_cons_zero, List.getElem_cons_succ]
          refine wpAnyH_take (i := 12) (v := ?_) rfl (by kernel_rfl) (by kernel_rfl) (by kernel_rfl) (fun _ _ _ h => h) (Or.inl ⟨by rfl, ?_⟩) (by assumption) ?_
          rotate_left
          · intro w' hSw
            try dsimp only at hSw
            go_simp
            try with_reducible rfl
          simp only [Act.put, List.setIfInBounds_toArray, List.set_cons_zero, List.set_cons_succ, List.getElem_toArray, List.getElem_cons_zero, List.getElem_cons_succ]
          refine wpAnyH_take (i := 13) (v := ?_) rfl (by kernel_rfl) (by kernel_rfl) (by kernel_rfl) (fun _ _ _ h => h) (Or.inl ⟨by rfl, ?_⟩) (by assumption) ?_
          rotate_left
          · intro w' hSw
            try dsimp only at hSw
            go_simp
            try with_reducible rfl
          simp only [Act.put, List.setIfInBounds_toArray, List.set_cons_zero, List.set_cons_succ, List.getElem_toArray, List.getElem_cons_zero, List.getElem_cons_succ]
          refine wpAnyH_take (i := 14) (v := ?_) rfl (by kernel_rfl) (by kernel_rfl) (by kernel_rfl) (fun _ _ _ h => h) (Or.inl ⟨by rfl, ?_⟩) (by assumption) ?_
          rotate_left
          · intro w' hSw
            try dsimp only at hSw
            go_simp
            try with_reducible rfl
          simp only [Act.put, List.setIfInBounds_toArray, List.set_cons_zero, List.set_cons_succ, List.getElem_toArray, List.getElem_cons_zero, List.getElem_cons_succ]
          refine wpAnyH_take (i := 15) (v := ?_) rfl (by kernel_rfl) (by kernel_rfl) (by kernel_rfl) (fun _ _ _ h => h) (Or.inl ⟨by rfl, ?_⟩) (by assumption) ?_
          rotate_left
          · intro w' hSw
            try dsimp only at hSw
            go_simp
            try with_reducible rfl
          simp only [Act.put, List.setIfInBounds_toArray, List.set_cons_zero, List.set_cons_succ, List.getElem_toArray, List.getElem_cons_zero, List.getElem_cons_succ]
          refine wpAnyH_take (i := 16) (v := ?_) rfl (by kernel_rfl) (by kernel_rfl) (by kernel_rfl) (fun _ _ _ h => h) (Or.inl ⟨by rfl, ?_⟩) (by assumption) ?_
          rotate_left
          · intro w' hSw
            try dsimp only at hSw
            go_simp
            try with_reducible rfl
          simp only [Act.put, List.setIfInBounds_toArray, List.set_cons_zero, List.set_cons_succ, List.getElem_toArray, List.getElem_cons_zero, List.getElem_cons_succ]
          refine wpAnyH_take (i := 17) (v := ?_) rfl (by kernel_rfl) (by kernel_rfl) (by kernel_rfl) (fun _ _ _ h => h) (Or.inl ⟨by rfl, ?_⟩) (by assumption) ?_
          rotate_left
          · intro w' hSw
            try dsimp only at hSw
            go_simp
            try with_reducible rfl
          simp only [Act.put, List.setIfInBounds_toArray, List.set_cons_zero, List.set_cons_succ, List.getElem_toArray, List.getElem_cons_zero, List.getElem_cons_succ]
          refine wpAnyH_take (i := 18) (v := ?_) rfl (by kernel_rfl) (by kernel_rfl) (by kernel_rfl) (fun _ _ _ h => h) (Or.inl ⟨by rfl, ?_⟩) (by assumption) ?_
          rotate_left
          · intro w' hSw
            try dsimp only at hSw
            go_simp
            try with_reducible rfl
          simp only [Act.put, List.setIfInBounds_toArray, List.set_cons_zero, List.set_cons_succ, List.getElem_toArray, List.getElem_cons_zero, List.getElem_cons_succ]
          refine wpAnyH_take (i := 19) (v := ?_) rfl (by kernel_rfl) (by kernel_rfl) (by kernel_rfl) (fun _ _ _ h => h) (Or.inl ⟨by rfl, ?_⟩) (by assumption) ?_
          rotate_left
          · intro w' hSw
            try dsimp only at hSw
            go_simp
            try with_reducible rfl
          simp only [Act.put, List.setIfInBounds_toArray, List.set_cons_zero, List.set_cons_succ, List.getElem_toArray, List.getElem_cons_zero, List.getElem_cons_succ]
          refine wpAnyH_take (i := 20) (v := ?_) rfl (by kernel_rfl) (by kernel_rfl) (by kernel_rfl) (fun _ _ _ h => h) (Or.inl ⟨by rfl, ?_⟩) (by assumption) ?_
          rotate_left
          · intro w' hSw
            try dsimp only at hSw
            go_simp
            try with_reducible rfl
          simp only [Act.put, List.setIfInBounds_toArray, List.set_cons_zero, List.set_cons_succ, List.getElem_toArray, List.getElem_cons_zero, List.getElem_cons_succ]
          refine wpAnyH_take (i := 21) (v := ?_) rfl (by kernel_rfl) (by kernel_rfl) (by kernel_rfl) (fun _ _ _ h => h) (Or.inl ⟨by rfl, ?_⟩) (by assumption) ?_
          rotate_left
          · intro w' hSw
            try dsimp only at hSw
            go_simp
            try with_reducible rfl
          simp only [Act.put, List.setIfInBounds_toArray, List.set_cons_zero, List.set_cons_succ, List.getElem_toArray, List.getElem_cons_zero, List.getElem_cons_succ]
          refine wpAnyH_take (i := 22) (v := ?_) rfl (by kernel_rfl) (by kernel_rfl) (by kernel_rfl) (fun _ _ _ h => h) (Or.inl ⟨by rfl, ?_⟩) (by assumption) ?_
          rotate_left
          · intro w' hSw
            try dsimp only at hSw
            go_simp
            try with_reducible rfl
          simp only [Act.put, List.setIfInBounds_toArray, List.set_cons_zero, List.set_cons_succ, List.getElem_toArray, List.getElem_cons_zero, List.getElem_cons_succ]
          refine wpAnyH_take (i := 23) (v := ?_) rfl (by kernel_rfl) (by kernel_rfl) (by kernel_rfl) (fun _ _ _ h => h) (Or.inl ⟨by rfl, ?_⟩) (by assumption) ?_
          rotate_left
          · intro w' hSw
            try dsimp only at hSw
            go_simp
            try with_reducible rfl
          simp only [Act.put, List.setIfInBounds_toArray, List.set_cons_zero, List.set_cons_succ, List.getElem_toArray, List.getElem_cons_zero, List.getElem_cons_succ]
          refine wpAnyH_take (i := 24) (v := ?_) rfl (by kernel_rfl) (by kernel_rfl) (by kernel_rfl) (fun _ _ _ h => h) (Or.inl ⟨by rfl, ?_⟩) (by assumption) ?_
          rotate_left
          · intro w' hSw
            try dsimp only at hSw
            go_simp
            try with_reducible rfl
          simp only [Act.put, List.setIfInBounds_toArray, List.set_cons_zero, List.set_cons_succ, List.getElem_toArray, List.getElem_cons_zero, List.getElem_cons_succ]
          refine wpAnyH_take (i := 25) (v := ?_) rfl (by kernel_rfl) (by kernel_rfl) (by kernel_rfl) (fun _ _ _ h => h) (Or.inl ⟨by rfl, ?_⟩) (by assumption) ?_
          rotate_left
          · intro w' hSw
            try dsimp only at hSw
            go_simp
            try with_reducible rfl
          simp only [Act.put, List.setIfInBounds_toArray, List.set_cons_zero, List.set_cons_succ, List.getElem_toArray, List.getElem_cons_zero, List.getElem_cons_succ]
          refine wpAnyH_take (i := 26) (v := ?_) rfl (by kernel_rfl) (by kernel_rfl) (by kernel_rfl) (fun _ _ _ h => h) (Or.inl ⟨by rfl, ?_⟩) (by assumption) ?_
          rotate_left
          · intro w' hSw
            try dsimp only at hSw
            go_simp
            try with_reducible rfl
          simp only [Act.put, List.setIfInBounds_toArray, List.set_cons_zero, List.set_cons_succ, List.getElem_toArray, List.getElem_cons_zero, List.getElem_cons_succ]
          refine wpAnyH_done (by kernel_rfl) ?_ _
          go_wp2
          go_roundw
          case rel => exact ⟨k + 1, n + 1, by omega, by go_num, rfl⟩
          case measure => simp [intOf]; omega
      · have BN : Below wc.heap.size wc (wc.drewN n) := ⟨rfl, rfl, rfl, Nat.le_refl _, fun _ _ => rfl⟩
        have HBN := Lib.hid (nextB HBZ.out BN)
        by_cases hv : vz < 0
        · have dv : decide (vz < 0) = true := decide_eq_true hv
          have hdb : db = false := by
            cases db with
            | false => rfl
            | true => have := HDV.out rfl; omega
          subst hdb
          go_wp2
          go_ret
          exact ⟨rfl, HBN.out⟩
        · have dv : decide (vz < 0) = false := decide_eq_false hv
          obtain ⟨hg, ht, m, hm, hml, -⟩ := via_parts (rs := rs) (t := t) (by rw [HVZ.out]; omega)
          have R0 : 0 < rs.length := (Rt.of hg).one
          have HG := Lib.hid hg
          have HTB := Lib.hid ht
          have hvm : vz = (m : Int) := by rw [← HVZ.out]; exact hm
          obtain ⟨br, offr, rfl, hbr, hcv1, hcv2, hhm2, hr0, -⟩ := HVz.out.at R0
          simp only [Nat.zero_mul, Nat.add_zero] at hr0
          unfold maxLen at hcv2
          have lb : br < wc.heap.size := by omega
          have i0 : (0 : Int) < (rs.length : Int) := by omega
          have HHM := Lib.hid hhm2
          have HRQ : Hid (Rules (wc.drewN n) w.heap.size w1.heap.size (.slice (some ⟨br, offr, none⟩) rs.length cv) rs) := Lib.hid HVz.out
          have HTQ : Hid (Strs (wc.drewN n) w.heap.size w1.heap.size (.slice At t.length ct) t) := Lib.hid HTz.out
          have cq : (wc.drewN n).cell? ⟨w1.heap.size, 0, none⟩ = some (.slice (some ⟨br, offr, none⟩) rs.length cv) := cGz
          have cr : (wc.drewN n).cell? ⟨br, offr, none⟩ = some (.string rs[0].head) := hr0
          have HSQ : Hid (w1.heap.size < (wc.drewN n).heap.size ∧ br < (wc.drewN n).heap.size) := Lib.hid ⟨lwz1, lb⟩
          have hw0 : rs[0].head = (ruleAt rs 0).head := by unfold ruleAt; rw [List.getD_eq_getElem?_getD, List.getElem?_eq_getElem R0]; rfl
          have HW : Hid (decide ((t.length : Int) ∈ spansOf rs t rs[0].head) = db) := Lib.hid (by rw [hw0, ← HDB.out, Bool.eq_iff_iff, decide_eq_true_eq]; exact spans_whole hg ht)
          obtain ⟨At2, ct2, et2, ht1, ht2, -⟩ := HTz.out
          injection et2 with e1 _ e3
          subst e1 e3
          unfold maxLen at ht2
          have HVT := Lib.hid (via_take (rs := rs) (t := t) (m := m) (by rw [HVZ.out]; exact hvm))
          subst hvm
          have i9 : (rs.length : Int) ≤ (cv : Int) := by omega
          generalize wc.drewN n = wn at HBN HRQ HTQ HSQ cq cr ⊢
          clear hg ht hm hhm2 BN hw0 HDV HVB HLz HVz HTz HBZ cGz hr0 lwz1 lwzl lb
          go_wp2
          go_still_tail 7, (by kernel_rfl)
          have HRD : Hid (Rules wn.drew w.heap.size w1.heap.size (.slice (some ⟨br, offr, none⟩) rs.length cv) rs) := Lib.hid HRQ.out
          have HTD : Hid (Strs wn.drew w.heap.size w1.heap.size (.slice At t.length ct) t) := Lib.hid HTQ.out
          have HBD : Hid (Below w.heap.size w wn.drew) := Lib.hid HBN.out.drew
          have cqd : wn.drew.cell? ⟨w1.heap.size, 0, none⟩ = some (.slice (some ⟨br, offr, none⟩) rs.length cv) := cq
          have HSD : Hid (w1.heap.size < wn.drew.heap.size) := Lib.hid HSQ.out.1
          change wpList _ _ _ _ _ wn.drew
          generalize wn.drew = wq at HRD HTD HBD cqd HSD ⊢
          clear HRQ HTQ HBN HSQ cq cr
          have lq := HSD.out
          go_wp2_with fail
          refine (implSpans_any rs t rs[0].head _ _ _ _ _ _ wq HRD.out (by omega) HTD.out (by omega)).mono ?_
          rintro e w5 ⟨u5, g5, rfl, S5, G5, b5⟩
          have T5 := S5.strs G5
          have HT5 := Lib.hid T5
          obtain ⟨A5, c5, rfl, hl51, hl52, -⟩ := T5
          unfold maxLen at hl52
          have HB5 := Lib.hid (nextB HBD.out b5)
          have HR5 := Lib.hid (HRD.out.below b5 (by omega))
          have HV5 := Lib.hid (HTD.out.below b5 (by omega))
          have cq5 := (b5.cell (p := ⟨w1.heap.size, 0, none⟩) lq).trans cqd
          have l5 : w1.heap.size < w5.heap.size := by have := b5.size; omega
          generalize spansOf rs t rs[0].head = L at HW HT5 hl51 ⊢
          clear S5 G5 b5 HRD HTD HBD cqd HSD lq
          go_wp2
          go_loopw [14, 16] (fun x y wr => ∃ k : Nat, k ≤ L.length ∧ x = .bool (decide ((t.length : Int) ∈ L.take k)) ∧ y = .int .i64 (k : Int) ∧ wr = w5) (fun _ y _ => L.length - (intOf y).toNat)
          case atStart => exact ⟨0, by omega, by simp, rfl, rfl⟩
          case round =>
            obtain ⟨k, hk, rfl, rfl, rfl⟩ := hrel
            by_cases hlt : k < L.length
            · obtain ⟨b, off, rfl, hb, _, _, hck⟩ := ints_at HT5.out hlt
              have HWS := Lib.hid (whole_step (n := (t.length : Int)) hlt)
              have k1 : (k : Int) < (L.length : Int) := by omega
              generalize L[k] = z at hck HWS
              generalize decide ((t.length : Int) ∈ L.take k) = q at HWS ⊢
              cases q with
              | true =>
                go_wp2
                go_roundw
                case rel => exact ⟨k + 1, by omega, by rw [HWS.out]; rfl, by go_num, by first | rfl | trivial⟩
                case measure => simp [intOf]; omega
              | false =>
                go_wp2
                go_roundw
                case rel => exact ⟨k + 1, by omega, by rw [HWS.out]; simp; rw [Bool.eq_iff_iff]; simp, by go_num, by first | rfl | trivial⟩
                case measure => simp [intOf]; omega
            · obtain rfl : k = L.length := by omega
              have hq : decide ((t.length : Int) ∈ L.take L.length) = db := by rw [List.take_length]; exact HW.out
              rw [hq]
              clear hq
              have dd : (db == db) = true := by simp
              have m0 : (0 : Int) ≤ (m : Int) := by omega
              have m1 : (m : Int) ≤ (ct : Int) := by omega
              have m2 : (m : Int) ≤ (t.length : Int) := by omega
              have HM := Lib.hid hml
              have HTS := Lib.hid (HV5.out.take hml)
              have HLM : Hid ((t.take m).length = m) := Lib.hid (by rw [List.length_take]; omega)
              go_wp2
              have BB : Below wr.heap.size wr wr.drew := (Below.refl _ _).drew
              have hbr5 : w1.heap.size ≤ wr.heap.size := Nat.le_of_lt l5
              go_region_held3 (fun w' => w'.cell? ⟨w1.heap.size, 0, none⟩ = some (.slice (some ⟨br, offr, none⟩) rs.length cv))
                (first | go_keep | (rw [BB.cell l5]; assumption))
                (first | (go_at_call 33; refine (implViable_any rs (t.take m) _ _ _ _ _ _ _ (HR5.out.below BB hbr5) (Nat.le_trans hbr5 BB.size) (HTS.out.below BB hbr5) (Nat.le_trans hbr5 BB.size)).mono ?_; rintro e wa ⟨rfl, bn⟩; rw [HVT.out]; have BB := nextB BB bn))
              have FIN := Lib.hid (nextB HB5.out BB)
              go_wp2
              go_ret
              exact ⟨rfl, FIN.out⟩
end fnDerive
end Go.Proofs.Ytonfiahihmcmlaa
