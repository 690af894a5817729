/- The draw of a text that a head comes to: l04Word, deeper. -/
import Derived.Test.YtonfiahihmcmlaaJWd6
namespace Go.Proofs.Ytonfiahihmcmlaa.Dr
open Go.RowKit
open Go.Proofs.Ytonfiahihmcmlaa

/-- what stands while the texts of a body are gathered -/
structure WdI (w : World) (p B : Nat) (g : Value) (q : Nat) (hd : ByteArray) (u v : Value) (ss : List ByteArray) (wx : World) : Prop where
  src : Src wx p B
  grw : w.grownBy wx (some p)
  gram : Row wx w.heap.size 25 #[g]
  box : Row wx q 49 #[.string hd, u]
  own : Sts wx w.heap.size v ss
  small : ∀ s ∈ ss, s.size ≤ 10

set_option maxRecDepth 100000 in
set_option maxHeartbeats 8000000 in
theorem word_succ (d : Nat) (hd : d ≤ 1000) (ih : WdC d) : WdC (d + 1) := by
  intro rs gv h lo hi p B w hs hp hr hh hl hbl hhm
  have HD : Hid ((((d + 1 : Nat)) : Int) - 1 = (d : Int)) := Lib.hid (by omega)
  generalize hdd : (((d + 1 : Nat)) : Int) = dd at HD ⊢
  have q0 : decide (dd ≤ 0) = false := decide_eq_false (by omega)
  have HW : Hid (IntKind.i64.wrap (dd - 1) = (d : Int)) := Lib.hid (by rw [HD.out]; exact IntWalk.i64_in _ (by omega))
  have dd1 : 1 ≤ dd := by omega
  have dd2 : dd ≤ 1001 := by omega
  clear hdd
  obtain ⟨j0, hj0, hy0, hy1, hy2⟩ := info_parts Try.infoInt
  obtain ⟨i0, hi0, hz0, hz1, hz2⟩ := info_parts Try.infoStr
  have hpl := hs.lt
  have HR := Lib.hid hr
  have HS := Lib.hid hs
  have HBL := Lib.hid hbl
  obtain ⟨A, c, rfl, hlc, hc, -⟩ := hr
  unfold maxLen at hc
  have B0 := al2 w (.cells #[.slice A rs.length c] 25) (.cells #[] 3)
  have RG := (Row.made w 25 #[.slice A rs.length c]).alloc (.cells #[] 3)
  have I0 : Itn ((w.alloc (.cells #[.slice A rs.length c] 25)).alloc (.cells #[] 3)) (w.heap.size + 1) (.slice (some ⟨w.heap.size + 1, 0, none⟩) 0 0) (rulesOf rs h 0) := by
    have := Itn.lit0 (w.alloc (.cells #[.slice A rs.length c] 25)) (base := w.heap.size + 1) (by simp)
    simpa [rulesOf] using this
  clear hs hbl
  go_enter Try.func159, Try.ntmps159
  go_wp2
  generalize (w.alloc (.cells #[.slice A rs.length c] 25)).alloc (.cells #[] 3) = w0 at B0 RG I0 ⊢
  go_loopw [10, 11] (fun x i wr => ∃ k : Nat, k ≤ rs.length ∧ i = .int .i64 (k : Int) ∧ Itn wr (w.heap.size + 1) x (rulesOf rs h k) ∧ Row wr w.heap.size 25 #[.slice A rs.length c] ∧ Below w.heap.size w wr) (fun _ i _ => rs.length - (intOf i).toNat)
  case atStart => exact ⟨0, by omega, rfl, I0, RG, B0⟩
  case round =>
    obtain ⟨k, hk, rfl, hI, hG, hbw⟩ := hrel
    have hsw := hbw.size
    have c0 := hG.cell 0
    simp at c0
    have hGl := hG.lt
    have HI := Lib.hid hI
    have HG := Lib.hid hG
    by_cases hlt : k < rs.length
    · have hVr := HR.out.below hbw hh
      obtain ⟨b, off, rfl, hb, hc1, hc2, hm, hr0, Bb, db, hr1, hbs⟩ := hVr.at hlt
      have k1 : (k : Int) < (rs.length : Int) := by omega
      have hll := rulesOf_len rs h k
      obtain ⟨Bz, dz, rfl⟩ := hI.shape
      clear hVr hI hG hbs hr1
      by_cases he : rs[k].head = h
      · have d1 : (rs[k].head.toList == h.toList) = true := by rw [list_eqH, decide_eq_true he]
        have HN := Lib.hid (rulesOf_t hlt he)
        clear he
        go_wp2_with (at_builtin; refine wpList_append_own _ rfl _ _ 251 rfl (w.heap.size + 1) 3 j0 _ 1 8 Try.underlying251 hj0 hy0 hy1 hy2 rfl (by decide) _ _ _ rfl (World.ownsRow.alloc HI.out _) ⟨wr.heap.size, 0, none⟩ 1 1 [.int .i64 (k : Int)] rfl rfl (by simpa using cell_one_new wr _ _) (one_int _) (by unfold maxLen; omega) (by omega) (by simp; omega) ?_)
        intro v1 w3 hown1 hg1 _
        have s1 : Itn w3 (w.heap.size + 1) v1 (rulesOf rs h (k + 1)) := by
          rw [HN.out]
          exact Itn.one _ (by simpa using hown1)
        have hG3 := Tx.row_grown (HG.out.alloc _) (World.ownsRow.alloc HI.out _) (by decide) hg1
        have b3 : Below w.heap.size w w3 := Tx.below_grown (hbw.alloc hsw _) (World.ownsRow.alloc HI.out _) hg1 (by simp; omega) (by omega)
        clear hown1 hg1
        go_wp2
        go_roundw
        case rel => exact ⟨k + 1, by omega, by go_num, s1, hG3, b3⟩
        case measure => simp [intOf]; omega
      · have d1 : (rs[k].head.toList == h.toList) = false := by rw [list_eqH, decide_eq_false he]
        have HN := Lib.hid (rulesOf_f hlt he)
        clear he
        go_wp2
        go_roundw
        case rel => exact ⟨k + 1, by omega, by go_num, by rw [HN.out]; exact HI.out, HG.out, hbw⟩
        case measure => simp [intOf]; omega
    · have HP0 : Hid (∀ i ∈ rulesOf rs h k, i < rs.length) := Lib.hid fun i hi => by have := rulesOf_lt hi; omega
      have hll := rulesOf_len rs h k
      have WP := Lib.hid (show WdP w p B (.slice A rs.length c) _ (rulesOf rs h k) wr from ⟨HS.out.only fun q hq => hbw.block q (by have := HS.out.1; omega), ⟨hbw.os, hbw.tape, hbw.output, hbw.size, fun q hq _ => hbw.block q hq⟩, HG.out, HI.out⟩)
      clear hI hG HI HG
      generalize rulesOf rs h k = L at HP0 WP hll ⊢
      by_cases h0 : L.length = 0
      · have q1 : ((L.length : Int) == 0) = true := by rw [h0]; rfl
        obtain ⟨Bz, dz, rfl⟩ := WP.out.nums.shape
        have FIN : Hid (DrawW w p B (.returned (.tuple #[.slice none 0 0, .bool false])) wr) := Lib.hid ⟨_, [], false, rfl, World.ownsRow_nil _ _ _ _, (fun h => by cases h), (fun s hs => by cases hs), WP.out.src, WP.out.grw⟩
        go_wp2
        exact bodyPost_ret (v := .tuple #[.slice none 0 0, .bool false]) (by simp [results, Try.results159, go_sem]) rfl FIN.out
      · have q1 : ((L.length : Int) == 0) = false := by rw [beq_eq_false_iff_ne]; omega
        obtain ⟨gl, cl, rfl, hgl1, hgl2, hl1, hl2, -⟩ := WP.out.nums.at (show 0 < L.length by omega)
        have hfirst : L[0] < rs.length := HP0.out _ (List.getElem_mem _)
        obtain ⟨b, off, rfl, hbhi, -, -, -⟩ := HR.out.at hfirst
        unfold maxLen at hl2
        have hcell : ∀ wx : World, WdP w p B (.slice (some ⟨b, off, none⟩) rs.length c) (.slice (some ⟨gl, 0, none⟩) L.length cl) L wx → ∀ i (hi : i < L.length), wx.cell? ⟨gl, i, none⟩ = some (.int .i64 (L[i] : Int)) := fun wx hx i hi => by
          obtain ⟨g', c', e, _, _, _, _, h9⟩ := hx.nums.at hi
          injection e with e1 _ _
          injection e1 with e1
          injection e1 with e1
          subst e1
          exact h9
        have HCL := Lib.hid hcell
        have hrule : ∀ wx : World, w.grownBy wx (some p) → ∀ j (hj : j < rs.length), wx.cell? ⟨b, off + j * 2, none⟩ = some (.string rs[j].head) ∧ ∃ Bb db, wx.cell? ⟨b, off + j * 2 + 1, none⟩ = some (.slice Bb rs[j].body.length db) ∧ Strs w lo hi (.slice Bb rs[j].body.length db) rs[j].body := fun wx hg j hj => by
          obtain ⟨h1, h2, h3, B1, d1, h4, h5⟩ := HR.out.cells hj
          have K := keeps_grown hg hp hh
          exact ⟨(K.cell (p := ⟨b, off + j * 2, none⟩) h1 h2).trans h3, B1, d1, (K.cell (p := ⟨b, off + j * 2 + 1, none⟩) h1 h2).trans h4, h5⟩
        have HRL := Lib.hid hrule
        have hpw : p < w.heap.size := hpl
        have lgw := WP.out.lt
        clear hcell hrule
        have S1 : Src wr.drew p B := WP.out.src.heap rfl
        have hS2 : ∀ o, Src (wr.alloc o).drew p B := fun o => ((WP.out.next (al1 wr o)).src).heap rfl
        have F1 : Hid (∀ w4, Only p wr.drew w4 → Src w4 p B → WdP w p B (.slice (some ⟨b, off, none⟩) rs.length c) (.slice (some ⟨gl, 0, none⟩) L.length cl) L w4) := Lib.hid fun w4 o s => WdP.only (wx := wr.drew) ⟨S1, grw_drew WP.out.grw, WP.out.gram, WP.out.nums⟩ o s hpw
        have F2 : Hid (∀ o w4, Only p (wr.alloc o).drew w4 → Src w4 p B → WdP w p B (.slice (some ⟨b, off, none⟩) rs.length c) (.slice (some ⟨gl, 0, none⟩) L.length cl) L w4) := Lib.hid fun o w4 h s => WdP.only (wx := (wr.alloc o).drew) ⟨hS2 o, grw_drew (WP.out.next (al1 wr o)).grw, (WP.out.next (al1 wr o)).gram, (WP.out.next (al1 wr o)).nums⟩ h s hpw
        have F3 : Hid (∀ w4, Only p (wr.alloc (.cells #[.string ⟨#[]⟩, .slice none 0 0] 49)).drew w4 → Row w4 wr.heap.size 49 #[.string ⟨#[]⟩, .slice none 0 0]) := Lib.hid fun w4 o => row_only (show Row (wr.alloc (.cells #[.string ⟨#[]⟩, .slice none 0 0] 49)).drew wr.heap.size _ _ from Row.made wr _ _) o (by have := WP.out.src.lt; omega)
        have L0 : (0 : Int) < (L.length : Int) := by omega
        have LB : Hid (∀ r : Int, ((L.length : Int) ≤ 1 → r = 0) → (1 < (L.length : Int) → 0 ≤ r ∧ r < (L.length : Int)) → ∃ k0 : Nat, r = (k0 : Int) ∧ k0 < L.length) := Lib.hid fun r hr0 hr1 => by
          by_cases h : (1 : Int) < (L.length : Int)
          · obtain ⟨a, b⟩ := hr1 h
            exact ⟨r.toNat, by omega, by omega⟩
          · exact ⟨0, hr0 (by omega), by omega⟩
        go_wp2
        go_cut [12] from 44 to 54 (fun s12 wx => ∃ q, s12 = .pointer (some ⟨q, 0, none⟩) ∧ WdB w p B lo hi rs (.slice (some ⟨b, off, none⟩) rs.length c) (.slice (some ⟨gl, 0, none⟩) L.length cl) L q wx)
        case first =>
          go_region_law (go_simp; go_at_call 74; refine (n_any _ p B (L.length : Int) (by first | exact S1 | exact hS2 _) (by omega)).mono ?_; rintro e w4 ⟨r, rfl, hr0, hr1, hs4, ho4⟩; obtain ⟨k0, rfl, hk0⟩ := LB.out r hr0 hr1; have P4 := (by first | exact F1.out _ ho4 hs4 | exact F2.out _ _ ho4 hs4 : WdP w p B (.slice (some ⟨b, off, none⟩) rs.length c) (.slice (some ⟨gl, 0, none⟩) L.length cl) L w4); have cG4 := P4.gram.cell 0; have cL4 := HCL.out w4 P4 k0 hk0; have hj0 := HP0.out _ (List.getElem_mem hk0); obtain ⟨cR0, Bb, db, cR1, hstb⟩ := HRL.out w4 P4.grw L[k0] hj0; simp at cG4; have k1 : (k0 : Int) < (L.length : Int) := (by omega); have j1 : ((L[k0] : Nat) : Int) < (rs.length : Int) := (by omega); have HP4 := Lib.hid P4; have lg4 := P4.lt; have hbw4 : b < w4.heap.size := (by have := P4.grw.size; omega); have hgw4 : gl < w4.heap.size := (by have := lt_of_cell cL4; exact this); (try (have RB4 := F3.out w4 ho4; have rb0 := RB4.cell 0; have rb1 := RB4.cell 1; have rf0 := RB4.free 0; have rf1 := RB4.free 1; simp at rb0 rb1)); clear hr0 hr1 hs4 ho4 P4)
          all_goals
            go_wp2_with fail
            go_meet
            refine ⟨_, rfl, ?_⟩
            first
              | exact ⟨HP4.out.next (al1 w4 _), HP4.out.lt, L[k0], hj0, Bb, db, Row.made w4 _ _, hstb⟩
              | exact ⟨(HP4.out.set RB4 lgw _ hpw).set (RB4.put 0 _) lgw _ hpw, lgw, L[k0], hj0, Bb, db, row_two RB4, hstb⟩
        case rest =>
          obtain ⟨q, rfl, hWB⟩ := hcut
          have HWB := Lib.hid hWB
          clear hWB F1 F2 F3 S1 hS2 LB
          go_upto_if 56 with fail
          go_cut [] from 55 to 66 (fun wx => WdB w p B lo hi rs (.slice (some ⟨b, off, none⟩) rs.length c) (.slice (some ⟨gl, 0, none⟩) L.length cl) L q wx)
          case first =>
            by_cases h2 : dd ≤ 2
            · have q2 : decide (dd ≤ 2) = true := decide_eq_true h2
              obtain ⟨P4, hq4, j, hj, Bb, db, RQ, hstb⟩ := HWB.out
              have HP4 := Lib.hid P4
              have hk0 : L.length - 1 < L.length := by omega
              have cG4 := P4.gram.cell 0
              have cL4 := HCL.out _ P4 (L.length - 1) hk0
              have hj0 := HP0.out _ (List.getElem_mem hk0)
              obtain ⟨cR0, B5, d5, cR1, hst5⟩ := HRL.out _ P4.grw L[L.length - 1] hj0
              simp at cG4
              have k1 : ((L.length - 1 : Nat) : Int) < (L.length : Int) := by omega
              have k2 : (L.length : Int) - 1 = ((L.length - 1 : Nat) : Int) := by omega
              have j1 : ((L[L.length - 1] : Nat) : Int) < (rs.length : Int) := by omega
              have rb0 := RQ.cell 0
              have rb1 := RQ.cell 1
              have rf0 := RQ.free 0
              have rf1 := RQ.free 1
              simp at rb0 rb1
              have HRQ := Lib.hid RQ
              clear P4 RQ hstb
              go_wp2
              go_region
              go_wp2_with fail
              go_meet
              exact ⟨((HP4.out.set HRQ.out hq4 _ hpw).set (HRQ.out.put 0 _) hq4 _ hpw).drew, hq4, L[L.length - 1], hj0, B5, d5, row_two HRQ.out, hst5⟩
            · have q2 : decide (dd ≤ 2) = false := decide_eq_false h2
              go_wp2_with fail
              go_meet
              exact HWB.out
          case rest =>
            obtain ⟨P9, hq9, j, hj, Bb, db, RQ, hst⟩ := hcut
            have hbn : rs[j].body.length ≤ 100 := HBL.out _ (List.getElem_mem hj)
            have A1 := al1 wc (.cells #[] 9)
            have P10 := P9.next A1
            have I10 := Lib.hid (show WdI w p B (.slice (some ⟨b, off, none⟩) rs.length c) q rs[j].head (.slice Bb rs[j].body.length db) (.slice (some ⟨wc.heap.size, 0, none⟩) 0 0) [] (wc.alloc (.cells #[] 9)) from ⟨P10.src, P10.grw, P10.gram, RQ.alloc _, Sts.nil wc (by have := P9.lt; omega), fun s hs => by cases hs⟩)
            have HST := Lib.hid hst
            have HSZ : Hid (∀ s ∈ rs[j].body, s.size ≤ maxLen) := Lib.hid (by obtain ⟨_, _, _, _, _, hz, _⟩ := hst; exact hz)
            clear P9 A1 P10 RQ hst HWB HCL HRL HP0 WP
            go_wp2
            generalize wc.alloc (.cells #[] 9) = w10 at I10 ⊢
            go_loopw [13, 14, 15, 16] (fun x i _ _ wv => ∃ (k : Nat) (ss : List ByteArray) (g1 c1 : Nat), k ≤ rs[j].body.length ∧ i = .int .i64 (k : Int) ∧ ss.length ≤ 12 * k ∧ x = .slice (some ⟨g1, 0, none⟩) ss.length c1 ∧ WdI w p B (.slice (some ⟨b, off, none⟩) rs.length c) q rs[j].head (.slice Bb rs[j].body.length db) x ss wv) (fun _ i _ _ _ => rs[j].body.length - (intOf i).toNat)
            case atStart => exact ⟨0, [], _, _, by omega, rfl, by simp, rfl, I10.out⟩
            case round =>
              rename World => wv
              obtain ⟨k, ss, g1, c1, hk, rfl, hsl, rfl, hI⟩ := hrel
              have HI := Lib.hid hI
              have cq0 := hI.box.cell 0
              have cq1 := hI.box.cell 1
              simp at cq0 cq1
              have cg0 := hI.gram.cell 0
              simp at cg0
              have lq := hI.box.lt
              have lg := hI.gram.lt
              have hgs := hI.grw.size
              have hown := World.ownsRow.lt hI.own
              have HOWN := Lib.hid hown
              clear hI hown
              by_cases hlt : k < rs[j].body.length
              · have hSv := HST.out.keep (keeps_grown HI.out.grw hp hh)
                have HSv := Lib.hid hSv
                obtain ⟨bb, offb, rfl, hbb, hd1, hd2, hcb⟩ := strs_at hSv hlt
                have HBP : Hid (bb ≠ p) := Lib.hid (by
                  obtain ⟨A7, c7, e7, _, _, _, h7⟩ := HST.out
                  obtain ⟨b8, o8, e8, h8, _, _⟩ := h7 (by omega)
                  injection e7 with e7 _ _
                  rw [← e7] at e8
                  injection e8 with e8
                  injection e8 with e8
                  omega)
                unfold maxLen at hd2
                have hsz := HSZ.out _ (List.getElem_mem hlt)
                have k1 : (k : Int) < (rs[j].body.length : Int) := by omega
                have hbv : bb < wv.heap.size := by omega
                clear hSv
                cases htk : tokB rs[j].body[k]
                · have HTK := Lib.hid htk
                  clear htk
                  go_wp2_with fail
                  refine (specIsToken_any _ wv hsz).mono ?_
                  rintro e w' ⟨rfl, rfl⟩
                  rw [HTK.out]
                  have I2 := Lib.hid (show WdI w p B (.slice (some ⟨b, off, none⟩) rs.length c) q rs[j].head (.slice (some ⟨bb, offb, none⟩) rs[j].body.length db) (.slice (some ⟨g1, 0, none⟩) ss.length c1) ss wv.drew from ⟨HI.out.src.heap rfl, grw_drew HI.out.grw, HI.out.gram, HI.out.box, HI.out.own, HI.out.small⟩)
                  have HR2 := Lib.hid (HR.out.keep (keeps_grown I2.out.grw hp hh))
                  have HJN : Hid (∀ w3 v3 s3 ok, Sts w3 wv.drew.heap.size v3 s3 → (ok = true → s3.length ≤ 12 ∧ ∃ g c, v3 = .slice (some ⟨g, 0, none⟩) s3.length c) → (∀ s ∈ s3, s.size ≤ 10) → Src w3 p B → wv.drew.grownBy w3 (some p) → WdI w p B (.slice (some ⟨b, off, none⟩) rs.length c) q rs[j].head (.slice (some ⟨bb, offb, none⟩) rs[j].body.length db) (.slice (some ⟨g1, 0, none⟩) ss.length c1) ss w3) := Lib.hid fun w3 v3 s3 ok _ _ _ hsr3 hg3 => by
                    have z2 : wv.drew.heap.size = wv.heap.size := rfl
                    exact ⟨hsr3, grw_trans I2.out.grw hg3, I2.out.gram.same (hg3.block _ (by omega) (fun e => by injection e with e; omega)), I2.out.box.same (hg3.block _ (by omega) (fun e => by injection e with e; omega)), Sts.same I2.out.own (fun g hg => by have := HOWN.out g hg; exact hg3.block g (by omega) (fun e => by injection e with e; omega)), I2.out.small⟩
                  have h2w : hi ≤ wv.drew.heap.size := Nat.le_trans hh I2.out.grw.size
                  go_wp2
                  have lqd : q < wv.drew.heap.size := lq
                  have lgd : w.heap.size < wv.drew.heap.size := lg
                  have lbd : bb < wv.drew.heap.size := hbv
                  have hqp : q ≠ p := by omega
                  have hgp : w.heap.size ≠ p := by omega
                  have hbp : bb ≠ p := HBP.out
                  go_region_held3 (fun w' => w'.cell? ⟨w.heap.size, 0, none⟩ = some (.slice (some ⟨b, off, none⟩) rs.length c) ∧ w'.cell? ⟨q, 1, none⟩ = some (.slice (some ⟨bb, offb, none⟩) rs[j].body.length db) ∧ w'.cell? ⟨bb, offb + k, none⟩ = some (.string rs[j].body[k]))
                    (first | go_keep | (refine ⟨?_, ?_, ?_⟩ <;> (rw [World.cell?_of_block (hg3.block _ (by first | exact lqd | exact lgd | exact lbd) (fun e => by injection e with e; first | exact hqp e | exact hgp e | exact hbp e))]; assumption)))
                    ((go_at_call 159; rw [HW.out]; refine (ih rs _ rs[j].body[k] lo hi p B wv.drew I2.out.src hp HR2.out h2w hl HBL.out hsz).mono ?_; rintro e w3 ⟨v3, s3, ok, rfl, hS3, hok, hsm3, hsr3, hg3⟩))
                  have I3 := Lib.hid (HJN.out w3 v3 s3 ok hS3 hok hsm3 hsr3 hg3)
                  clear HJN I2 HR2
                  cases ok with
                  | false =>
                    obtain ⟨B3, d3, rfl⟩ := hS3.shape
                    have FIN : Hid (DrawW w p B (.returned (.tuple #[.slice none 0 0, .bool false])) w3) := Lib.hid ⟨_, [], false, rfl, World.ownsRow_nil _ _ _ _, (fun h => by cases h), (fun s hs => by cases hs), I3.out.src, I3.out.grw⟩
                    clear hok hS3 hsm3 hsr3 hg3
                    go_wp2
                    exact bodyPost_ret (v := .tuple #[.slice none 0 0, .bool false]) (by simp [results, Try.results159, go_sem]) rfl FIN.out
                  | true =>
                    obtain ⟨h12, g3, c3, rfl⟩ := hok rfl
                    have HN3 := Lib.hid (sts_news hS3)
                    have HM3 := Lib.hid hsm3
                    have lw3 : w.heap.size ≤ w3.heap.size := I3.out.grw.size
                    clear hok hS3 hsm3 hsr3 hg3
                    go_wp2_with (at_builtin; refine wpList_append_own _ rfl _ _ 34 rfl w.heap.size 9 i0 (.string ByteArray.empty) 1 16 Try.underlying34 hi0 hz0 hz1 hz2 rfl (by decide) (.slice (some ⟨g1, 0, none⟩) ss.length c1) ss.length (ss.map Value.string) rfl I3.out.own ⟨g3, 0, none⟩ s3.length c3 (s3.map Value.string) rfl (by simp) HN3.out (strs_one _) (by unfold maxLen; omega) (by omega) (by omega) ?_)
                    intro v4 w4 hown4 hg4 hnil
                    have S4 := Sts.both hown4
                    have hn4 : v4 ≠ .slice none 0 0 := fun e => by first | exact hnil e | (have := (hnil.1 e).1; cases this)
                    obtain ⟨g4, c4, rfl⟩ := sts_some S4 hn4
                    have hown9 := World.ownsRow.lt I3.out.own
                    have I4 := Lib.hid (show WdI w p B (.slice (some ⟨b, off, none⟩) rs.length c) q rs[j].head (.slice (some ⟨bb, offb, none⟩) rs[j].body.length db) (.slice (some ⟨g4, 0, none⟩) (ss ++ s3).length c4) (ss ++ s3) w4 from
                      ⟨I3.out.src.only fun i hi => hg4.block i (by have := I3.out.src.1; have := I3.out.src.lt; omega) (fun e => by have := (hown9 _ e.symm).1; have := I3.out.src.1; omega), grw_own I3.out.grw hg4 (fun i hi => (hown9 _ hi).1), Tx.row_grown I3.out.gram I3.out.own (by decide) hg4, Tx.row_grown I3.out.box I3.out.own (by decide) hg4, S4, fun s hs => by
                        rw [List.mem_append] at hs
                        rcases hs with hs | hs
                        · exact I3.out.small s hs
                        · exact HM3.out s hs⟩)
                    have hlen4 : (ss ++ s3).length ≤ 12 * (k + 1) := by rw [List.length_append]; omega
                    generalize ss ++ s3 = s4 at I4 hlen4 ⊢
                    clear S4 hown4 hg4 hnil hn4 hown9
                    go_wp2
                    go_roundw
                    case rel => exact ⟨k + 1, s4, g4, c4, by omega, by go_num, hlen4, rfl, I4.out⟩
                    case measure => simp [intOf]; omega
                · have HTK := Lib.hid htk
                  have hs4 := tokB_size htk
                  clear htk
                  go_wp2_with fail
                  refine (specIsToken_any _ wv hsz).mono ?_
                  rintro e w' ⟨rfl, rfl⟩
                  rw [HTK.out]
                  have HN4 := Lib.hid hs4
                  have lwv : w.heap.size ≤ wv.heap.size := hgs
                  go_wp2_with (at_builtin; refine wpList_append_own _ rfl _ _ 34 rfl w.heap.size 9 i0 (.string ByteArray.empty) 1 16 Try.underlying34 hi0 hz0 hz1 hz2 rfl (by decide) (.slice (some ⟨g1, 0, none⟩) ss.length c1) ss.length (ss.map Value.string) rfl (World.ownsRow.alloc HI.out.own _) ⟨wv.heap.size, 0, none⟩ 1 1 [.string rs[j].body[k]] rfl rfl (cell_one_new _ _ _) (one_str _) (by unfold maxLen; omega) (by omega) (by simp; omega) ?_)
                  intro v4 w4 hown4 hg4 hnil
                  have S4 := Sts.one rs[j].body[k] hown4
                  have hn4 : v4 ≠ .slice none 0 0 := fun e => by first | exact hnil e | (have := (hnil.1 e).2; omega)
                  obtain ⟨g4, c4, rfl⟩ := sts_some S4 hn4
                  have hown9 := World.ownsRow.lt HI.out.own
                  have I4 := Lib.hid (show WdI w p B (.slice (some ⟨b, off, none⟩) rs.length c) q rs[j].head (.slice (some ⟨bb, offb, none⟩) rs[j].body.length db) (.slice (some ⟨g4, 0, none⟩) (ss ++ [rs[j].body[k]]).length c4) (ss ++ [rs[j].body[k]]) w4 from
                    ⟨HI.out.src.only fun i hi => (hg4.block i (by simp; have := HI.out.src.1; have := HI.out.src.lt; omega) (fun e => by have := (hown9 _ e.symm).1; have := HI.out.src.1; omega)).trans (Below.heap_alloc _ _ _ (by have := HI.out.src.1; have := HI.out.src.lt; omega)), grw_own (grw_alloc HI.out.grw _) hg4 (fun i hi => (hown9 _ hi).1), Tx.row_grown (HI.out.gram.alloc _) (World.ownsRow.alloc HI.out.own _) (by decide) hg4, Tx.row_grown (HI.out.box.alloc _) (World.ownsRow.alloc HI.out.own _) (by decide) hg4, S4, fun s hs => by
                      rw [List.mem_append, List.mem_singleton] at hs
                      rcases hs with hs | rfl
                      · exact HI.out.small s hs
                      · have := HN4.out; omega⟩)
                  have hlen4 : (ss ++ [rs[j].body[k]]).length ≤ 12 * (k + 1) := by rw [List.length_append]; simp; omega
                  generalize ss ++ [rs[j].body[k]] = s4 at I4 hlen4 ⊢
                  clear S4 hown4 hg4 hnil hn4 hown9
                  go_wp2
                  go_roundw
                  case rel => exact ⟨k + 1, s4, g4, c4, by omega, by go_num, hlen4, rfl, I4.out⟩
                  case measure => simp [intOf]; omega
              · by_cases h12 : ss.length ≤ 12
                · have d12 : decide ((ss.length : Int) ≤ 12) = true := decide_eq_true (by omega)
                  have FIN : Hid (DrawW w p B (.returned (.tuple #[.slice (some ⟨g1, 0, none⟩) ss.length c1, .bool true])) wv) := Lib.hid ⟨_, ss, true, rfl, HI.out.own, (fun _ => ⟨h12, g1, c1, rfl⟩), HI.out.small, HI.out.src, HI.out.grw⟩
                  go_wp2
                  exact bodyPost_ret (v := .tuple #[.slice (some ⟨g1, 0, none⟩) ss.length c1, .bool true]) (by simp [results, Try.results159, go_sem]) rfl FIN.out
                · have d12 : decide ((ss.length : Int) ≤ 12) = false := decide_eq_false (by omega)
                  have FIN : Hid (DrawW w p B (.returned (.tuple #[.slice (some ⟨g1, 0, none⟩) ss.length c1, .bool false])) wv) := Lib.hid ⟨_, ss, false, rfl, HI.out.own, (fun h => by cases h), HI.out.small, HI.out.src, HI.out.grw⟩
                  go_wp2
                  exact bodyPost_ret (v := .tuple #[.slice (some ⟨g1, 0, none⟩) ss.length c1, .bool false]) (by simp [results, Try.results159, go_sem]) rfl FIN.out
theorem word_any (d : Nat) (hd : d ≤ 1000) : WdC d := by
  induction d with
  | zero => exact word_zero
  | succ d ih => exact word_succ d (by omega) (ih (by omega))
end Go.Proofs.Ytonfiahihmcmlaa.Dr
