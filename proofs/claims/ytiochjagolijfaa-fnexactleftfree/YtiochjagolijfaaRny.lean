/- A term is laid anew in memory of the call's own: (*room).renew, walked. -/
import Derived.Test.YtiochjagolijfaaJRnx
namespace Go.Proofs.Ytiochjagolijfaa
open Go.RowKit

theorem ptr_news (w : World) (p : Value) : ∀ j u, [p][j]? = some u → (w.alloc (.cells #[p] 135)).cell? ((⟨w.heap.size, 0, none⟩ : Addr).add j) = some u :=
  World.news_of_block (cs := #[p]) (t := 135) (fr := (0, 0)) (heap_alloc_new _ _)
set_option maxRecDepth 100000 in
set_option maxHeartbeats 4000000 in
theorem renew_any (t : TermD) (x : Value) (lo hi rb : Nat) (left : Int) (w : World) (ht : TopM t) (h : KM true w lo hi x t.kids) (hhi : hi ≤ rb) (hr : Row w rb 106 #[.int .i64 left]) (hn : sizeM t ≤ 2097152) (hl : (sizeM t : Int) * 40 ≤ left) (hl2 : left ≤ 34359738368) :
    Calls Try.prog 71 #[.pointer (some ⟨rb, 0, none⟩), tmV t x] w fun e w' => ∃ x' left', e = .returned (tmV t x') ∧ OI w' w.heap.size w'.heap.size x' t.kids ∧ left - (sizeM t : Int) * 40 ≤ left' ∧ left' ≤ left ∧ Row w' rb 106 #[.int .i64 left'] ∧ Mid rb (rb + 1) w w' := by
  have hrl := hr.lt
  have hrb := hrl
  obtain ⟨i0, hi0, hz0, hz1, hz2⟩ := info_parts Try.infoTermR
  obtain ⟨j0, hj0, hy0, hy1, hy2⟩ := info_parts Try.infoPtrR
  have a2 := al2 w (.cells #[.int .i64 t.kind, .int .i64 t.num, x] 47) (.cells #[.int .i64 0, .int .i64 0, .slice none 0 0] 47)
  have RB := Row.made w 47 #[.int .i64 t.kind, .int .i64 t.num, x]
  have RR : Row ((w.alloc (.cells #[.int .i64 t.kind, .int .i64 t.num, x] 47)).alloc (.cells #[.int .i64 0, .int .i64 0, .slice none 0 0] 47)) (w.heap.size + 1) 47 #[.int .i64 0, .int .i64 0, .slice none 0 0] := by
    simpa using Row.made (w.alloc (.cells #[.int .i64 t.kind, .int .i64 t.num, x] 47)) 47 #[.int .i64 0, .int .i64 0, .slice none 0 0]
  have HK := Lib.hid h
  have HR := Lib.hid hr
  have HA := Lib.hid a2
  obtain ⟨Ax, cx, Ux, rfl, -⟩ := h.parts
  have RB2 := RB.alloc (.cells #[.int .i64 0, .int .i64 0, .slice none 0 0] 47)
  unfold tmV
  clear h hr RB
  go_enter Try.func71, Try.ntmps71
  go_wp2_with fail
  refine (sizeOfTerm_any t _ lo hi _ ht (HK.out.under HA.out (by omega)) (by simp; omega) hn).mono ?_
  rintro e w1 ⟨rfl, b1⟩
  have z1 : w.heap.size + 2 ≤ w1.heap.size := by have := b1.size; simpa using this
  have B1 : Below w.heap.size w w1 := HA.out.trans (b1.mono (by simp; omega))
  have RB3 := RB2.below b1 (by simp; omega)
  have RR3 := RR.below b1 (by simp)
  have R1 := HR.out.below B1 hrl
  clear b1 RB2 RR a2
  go_wp2_with fail
  refine (take_any rb left (sizeM t : Int) w1 R1 (by omega) (by omega) hl hl2).mono ?_
  rintro e w2 ⟨rfl, left', hl3, hl4, R2, M2, z2⟩
  have RB4 : Row w2 w.heap.size 47 #[.int .i64 t.kind, .int .i64 t.num, .slice Ax t.kids.length cx] := RB3.same (M2.block _ (by omega) (by omega))
  have RR4 : Row w2 (w.heap.size + 1) 47 #[.int .i64 0, .int .i64 0, .slice none 0 0] := RR3.same (M2.block _ (by omega) (by omega))
  have HKM2 : Hid (KM true w2 lo hi (.slice Ax t.kids.length cx) t.kids) := Lib.hid ((HK.out.under B1 (by omega)).keep fun p _ hp => M2.block p (by omega) (by omega))
  have HB2 : Hid (Mid rb (rb + 1) w w2) := Lib.hid ((Mid.of_below B1 (Nat.le_refl _)).trans M2)
  have zz2 : w.heap.size + 2 ≤ w2.heap.size := by omega
  have a3 := al1 w2 (.cells #[.pointer (some ⟨w.heap.size, 0, none⟩)] 135)
  have rk3 : ∀ p cur, w.heap.size ≤ p → Row w2 p 47 cur → Row (w2.alloc (.cells #[.pointer (some ⟨w.heap.size, 0, none⟩)] 135)) p 47 cur := fun p cur _ hp => hp.alloc _
  have HI : Hid (RnI w2 (w2.alloc (.cells #[.pointer (some ⟨w.heap.size, 0, none⟩)] 135)) lo hi w.heap.size [⟨w.heap.size, 0, t, .slice Ax t.kids.length cx⟩] (fun w' => ∃ x' L E, w'.cell? ⟨w.heap.size, 0, none⟩ = some (.int .i64 t.kind) ∧ w'.cell? ⟨w.heap.size, 1, none⟩ = some (.int .i64 t.num) ∧ w'.cell? ⟨w.heap.size, 2, none⟩ = some x' ∧ OI w' L E x' t.kids ∧ w2.heap.size ≤ L ∧ E ≤ w'.heap.size)) :=
    Lib.hid ((RnI.start RB4 RR4 HKM2.out ht hn).on (by omega) (a3.mono (by omega)) rk3)
  have HO : Hid ((w2.alloc (.cells #[.pointer (some ⟨w.heap.size, 0, none⟩)] 135)).ownsRow (w.heap.size + 2) 135 1 (.slice (some ⟨w2.heap.size, 0, none⟩) 1 1) 1 (ptrs [⟨w.heap.size, 0, t, .slice Ax t.kids.length cx⟩])) :=
    Lib.hid (World.ownsRow_lit w2 #[.pointer (some ⟨w.heap.size, 0, none⟩)] 1 (by omega) (by unfold maxLen; omega) rfl)
  have HR2 := Lib.hid R2
  generalize hG : (fun w' : World => ∃ x' L E, w'.cell? ⟨w.heap.size, 0, none⟩ = some (.int .i64 t.kind) ∧ w'.cell? ⟨w.heap.size, 1, none⟩ = some (.int .i64 t.num) ∧ w'.cell? ⟨w.heap.size, 2, none⟩ = some x' ∧ OI w' L E x' t.kids ∧ w2.heap.size ≤ L ∧ E ≤ w'.heap.size) = G at HI
  have HG := Lib.hid hG
  have HZ2 := Lib.hid z2
  clear hG z2
  clear RB3 RR3 RB4 RR4 M2 R1 R2 rk3 B1
  go_wp2
  go_loopg [5, 6, 7, 42] (sizeM t) (fun gk v5 _ _ _ wr => ∃ P : List Pe, RnI w2 wr lo hi w.heap.size P G ∧ wr.ownsRow (w.heap.size + 2) 135 1 v5 P.length (ptrs P) ∧ w2.heap.size < wr.heap.size ∧ gk = costP P)
  case atStart => exact ⟨_, HI.out, HO.out, by simp, by simp [costP]⟩
  case round =>
    obtain ⟨P, hI, hO, hgt, rfl⟩ := hrel
    have hsw := hI.bel.size
    rcases List.eq_nil_or_concat P with rfl | ⟨R, e, hP⟩
    · obtain ⟨A5, c5, rfl⟩ : ∃ A c, u5 = .slice A 0 c := by
        rcases hO.2 with ⟨rfl, _⟩ | ⟨g, cap, cur, rfl, _⟩
        · exact ⟨_, _, rfl⟩
        · exact ⟨_, _, rfl⟩
      have q := hI.wand.done
      rw [← HG.out] at q
      obtain ⟨x', L, E, c0, c1, c2, o, oL, oE⟩ := q
      have hres := hI.res
      have r0 := hres.cell 0
      have r1 := hres.cell 1
      have r2 := hres.cell 2
      simp at r0 r1 r2
      have f0 := hres.free 0
      have f1 := hres.free 1
      have f2 := hres.free 2
      have HOI := Lib.hid o
      have HBL := Lib.hid hI.bel
      have HRB := Lib.hid (HR2.out.below hI.bel hrl)
      obtain ⟨A', c', U', L', E', rfl, -⟩ := o.parts
      clear o hI hO hres
      go_wp2
      refine bodyPost_ret (v := .agg #[.int .i64 t.kind, .int .i64 t.num, .slice A' t.kids.length c']) (by simp [results, Try.results71, go_sem, r0, r1, r2]) rfl ⟨_, left', rfl, ?_, hl3, hl4, ?_, ?_⟩
      · refine (HOI.out.keep ?_).more (by omega) (by simp [World.setCell]; omega)
        intro p h1 h2
        iterate 3 rw [Below.heap_setCell _ _ _ _ (by show p ≠ w.heap.size + 1; omega)]
      · refine HRB.out.same ?_
        iterate 3 rw [Below.heap_setCell _ _ _ _ (by show rb ≠ w.heap.size + 1; omega)]
      · refine ⟨HBL.out.os.trans HB2.out.os, HBL.out.tape.trans HB2.out.tape, HBL.out.output.trans HB2.out.output, by have := HB2.out.size; simp [World.setCell]; omega, fun k hk hkk => ?_⟩
        iterate 3 rw [Below.heap_setCell _ _ _ _ (by show k ≠ w.heap.size + 1; omega)]
        exact (HBL.out.block k hk).trans (HB2.out.block k hk hkk)
    · rw [List.concat_eq_append] at hP
      subst hP
      have hlenP : (R ++ [e]).length = R.length + 1 := by simp
      obtain ⟨g0, cap, e5, hg1, hg2, hcap, hcm, hcell, hO2, curp, hrp⟩ := own1_pop (l := ptrs R) (x := .pointer (some ⟨e.b, e.o, none⟩)) (by have := hO; rw [hlenP, ptrs_app] at this; rw [ptrs_len]; exact this)
      rw [ptrs_len] at e5 hcell hO2 hcap
      subst e5
      unfold maxLen at hcm
      have hE : PeAt wr lo hi w.heap.size e := by have := hI.each R.length (by omega); simpa using this
      obtain ⟨cur, q1, q2, q3, q4, q5⟩ := hE.row
      have k2 := q1.cell (e.o + 2)
      rw [q5] at k2
      have fr2 := q1.free (e.o + 2)
      have HE := Lib.hid hE
      have HCUR := Lib.hid q1
      have HI2 := Lib.hid hI
      have HO2 := Lib.hid hO2
      have heb := q1.lt
      have hkn : e.t.kids.length ≤ 2097152 := by
        have h1 := hI.room
        rw [costP_app] at h1
        have h2 : costP [e] = sizeM e.t := by simp [costP]
        have h3 := sizeM_eq e.t
        have h4 := length_sizeMs e.t.kids
        omega
      obtain ⟨A1, c1, U1, ex, -⟩ := hE.kids.parts
      rw [ex] at k2
      have HKE := Lib.hid (ex ▸ hE.kids)
      clear hI hO hO2 hE q1 q3 q4 q5
      go_wp2_with (at_builtin; refine wpList_append_kids rfl _ _ rfl i0 hi0 hz0 hz1 hz2 lo hi A1 c1 e.t.kids HKE.out hkn rfl rfl ?_)
      intro A' c' g U gcur w3 b3 hkid hS
      have RC3 := HCUR.out.below b3 heb
      have fr3 := RC3.free (e.o + 2)
      have k3 := RC3.cell (e.o + 2)
      have hzz := HI2.out.bel.size
      have hge := HE.out.ge
      have hapt : g0 ≠ e.b := hrp.apart HCUR.out (by decide)
      have hrow4 : ∀ p cur', w.heap.size ≤ p → Row wr p 47 cur' → Row (w3.setCell ⟨e.b, e.o + 2, none⟩ (.slice A' e.t.kids.length c')) p 47 (if p = e.b then cur'.setIfInBounds (e.o + 2) (.slice A' e.t.kids.length c') else cur') := fun p cur' _ hr => by
        have r3 := hr.below b3 hr.lt
        by_cases hh : p = e.b
        · subst hh
          rw [if_pos rfl]
          exact r3.put _ _
        · rw [if_neg hh]
          exact r3.away hh _
      have hB4 : Below w.heap.size wr (w3.setCell ⟨e.b, e.o + 2, none⟩ (.slice A' e.t.kids.length c')) := (b3.mono (by omega)).setCell (p := ⟨e.b, e.o + 2, none⟩) hge _
      have HT : Hid (RnI w2 (w3.setCell ⟨e.b, e.o + 2, none⟩ (.slice A' e.t.kids.length c')) lo hi w.heap.size (R ++ kidsP g e.t.kids U) G) := Lib.hid (HI2.out.turn (by omega) (by omega) hB4 hrow4 (by
        rcases hS with ⟨h1, rfl, rfl⟩ | ⟨h1, rfl, h2, h3, h4, h5, h6, h7⟩
        · have h0 : e.t.kids.length = 0 := by simpa using h1
          exact .inl ⟨List.eq_nil_of_length_eq_zero h0, by rw [h0]⟩
        · exact .inr ⟨h1, h2, c', gcur, rfl, h3, h4, h5.away (by show g ≠ e.b; omega) _, h6, fun i hi' => ⟨(hkid i hi').2, (h7 i hi').1, (h7 i hi').2.1, (h7 i hi').2.2, (hkid i hi').1⟩⟩))
      have HO4 : Hid ((w3.setCell ⟨e.b, e.o + 2, none⟩ (.slice A' e.t.kids.length c')).ownsRow (w.heap.size + 2) 135 1 (.slice (some ⟨g0, 0, none⟩) R.length cap) R.length (ptrs R)) := Lib.hid (own_keep HO2.out fun g' hg' => by
        obtain rfl : g0 = g' := by simpa [Value.ownBlock] using hg'
        rw [Below.heap_setCell _ _ _ _ (by exact hapt)]
        exact b3.block g0 hg2)
      have HR4 := Lib.hid (RC3.put (e.o + 2) (.slice A' e.t.kids.length c'))
      have hlt4 : w2.heap.size < (w3.setCell ⟨e.b, e.o + 2, none⟩ (.slice A' e.t.kids.length c')).heap.size := by have := b3.size; simp [World.setCell]; omega
      have HS : Hid (0 < e.t.kids.length → A' = some ⟨g, 0, none⟩) := Lib.hid (fun h0 => by
        rcases hS with ⟨h1, _⟩ | ⟨_, h1, _⟩
        · have h2 : e.t.kids.length = 0 := by simpa using h1
          omega
        · exact h1)
      have hRl : R.length + e.t.kids.length ≤ 2097152 := by
        have h1 := HT.out.room
        rw [costP_app, costP_kids] at h1
        have h2 := costP_len R
        have h4 := length_sizeMs e.t.kids
        omega
      have HC : Hid (costP (R ++ kidsP g e.t.kids U) < costP (R ++ [e])) := Lib.hid (by
        rw [costP_app, costP_app, costP_kids]
        have h2 : costP [e] = sizeM e.t := by simp [costP]
        have h3 := sizeM_eq e.t
        omega)
      have hcs : e.o + 2 < cur.size := by
        obtain ⟨cur', p1, p2, _⟩ := HE.out.row
        have e1 : cur = cur' := by have := HCUR.out.symm.trans p1; simpa using this
        rw [e1]; exact p2
      clear hkid hS b3 hrow4 hB4 RC3 hcell hrp
      go_wp2
      generalize w3.setCell ⟨e.b, e.o + 2, none⟩ (.slice A' e.t.kids.length c') = w4 at HT HO4 HR4 hlt4 ⊢
      go_loopw [5, 7, 42] (fun v5 _ i wr' => ∃ k : Nat, k ≤ e.t.kids.length ∧ i = .int .i64 k ∧ wr'.ownsRow (w.heap.size + 2) 135 1 v5 (R.length + k) (ptrs (R ++ (kidsP g e.t.kids U).take k)) ∧ (∀ p cur, w.heap.size ≤ p → Row w4 p 47 cur → Row wr' p 47 cur) ∧ Below w.heap.size w4 wr' ∧ w2.heap.size < wr'.heap.size) (fun _ _ i _ => e.t.kids.length - (intOf i).toNat)
      case atStart => exact ⟨0, by omega, rfl, by simpa using HO4.out, fun _ _ _ h => h, Below.refl _ _, hlt4⟩
      case round =>
        obtain ⟨k, hk, rfl, hown, hrows, hbl, hlt5⟩ := hrel
        by_cases hlt : k < e.t.kids.length
        · have hAS := HS.out (by omega)
          subst hAS
          have rS := hrows e.b _ hge HR4.out
          have kS := rS.cell (e.o + 2)
          rw [Array.getElem?_setIfInBounds_self_of_lt hcs] at kS
          have i1 : (k : Int) < (e.t.kids.length : Int) := by omega
          have hNX : Hid (ptrs (R ++ (kidsP g e.t.kids U).take (k + 1)) = ptrs (R ++ (kidsP g e.t.kids U).take k) ++ [.pointer (some ⟨g, k * 3, none⟩)]) := Lib.hid (by
            have hl : k < (kidsP g e.t.kids U).length := by rw [kidsP_len]; exact hlt
            rw [List.take_succ_eq_append_getElem hl, ← List.append_assoc, ptrs_app _ [_], kidsP_at]
            rfl)
          have hws : w.heap.size + 2 ≤ wr.heap.size := by omega
          have HBL := Lib.hid hbl
          have HRW := Lib.hid hrows
          have HOW := Lib.hid hown
          clear hown hbl hrows rS
          go_wp2_with (at_builtin; refine wpList_append_own _ rfl _ _ 136 rfl (w.heap.size + 2) 135 j0 _ 1 8 Try.underlying136 hj0 hy0 hy1 hy2 rfl (by decide) _ (R.length + k) (ptrs (R ++ (kidsP g e.t.kids U).take k)) rfl (HOW.out.alloc _) ⟨wr.heap.size, 0, none⟩ 1 1 [.pointer (some ⟨g, k * 3, none⟩)] rfl rfl (ptr_news _ _) (by intro q hq; rw [List.mem_singleton] at hq; subst hq; rfl) (by unfold maxLen; omega) (by omega) (by simp; omega) ?_)
          intro v6 w6 hown6 hg6 _
          have FIN : Hid (w6.ownsRow (w.heap.size + 2) 135 1 v6 (R.length + (k + 1)) (ptrs (R ++ (kidsP g e.t.kids U).take (k + 1))) ∧ (∀ p cur, w.heap.size ≤ p → Row w4 p 47 cur → Row w6 p 47 cur) ∧ Below w.heap.size w4 w6 ∧ w2.heap.size < w6.heap.size) := Lib.hid (by
            have bb := Tx.below_grown (B := w.heap.size) (HBL.out.trans ((al1 wr (.cells #[.pointer (some ⟨g, k * 3, none⟩)] 135)).mono (by omega))) (HOW.out.alloc _) hg6 (by simp; omega) (by omega)
            refine ⟨by rw [hNX.out]; exact hown6, fun p cur hp hr => ?_, bb, by have := bb.size; omega⟩
            exact Tx.row_grown ((HRW.out p cur hp hr).alloc _) (HOW.out.alloc _) (by decide) hg6)
          clear hown6 hg6
          go_wp2
          go_roundw
          case rel => exact ⟨k + 1, by omega, by go_num, FIN.out⟩
          case measure => simp [intOf]; omega
        · have hks : k = e.t.kids.length := by omega
          subst hks
          rw [← kidsP_len g e.t.kids U, List.take_length, kidsP_len] at hown
          have FIN := Lib.hid (And.intro (HT.out.on (by omega) hbl hrows) hown)
          clear hown hrows hbl
          go_wp2
          go_roundg (costP (R ++ kidsP g e.t.kids U))
          case rel => exact ⟨_, FIN.out.1, by rw [List.length_append, kidsP_len]; exact FIN.out.2, hlt5, rfl⟩
          case measure => exact HC.out
end Go.Proofs.Ytiochjagolijfaa
