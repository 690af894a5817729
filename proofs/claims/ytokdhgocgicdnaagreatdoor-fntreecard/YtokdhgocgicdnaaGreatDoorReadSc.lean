/- The walk of the model's GramRead, once more: the rules that it hands back, and their bodies, can be grown further. Made by mkreadg.py. -/
import Derived.Test.YtokdhgocgicdnaaGreatDoorReadSb
import Derived.Test.YtokdhgocgicdnaaGreatDoorJFull
namespace Go.Proofs.YtokdhgocgicdnaaGreatDoor
open Go.RowKit

set_option maxRecDepth 100000 in
set_option maxHeartbeats 8000000 in
theorem specGramRead_grow (t : ByteArray) (w : World) (ht : t.size ≤ maxLen) :
    Calls Tryz.prog 67 #[.string t] w (MadeF w (readOut t)) := by
  unfold maxLen at ht
  obtain ⟨i0, hi0, hz0, hz1, hz2⟩ := info_parts Tryz.infoRule
  obtain ⟨j0, hj0, hy0, hy1, hy2⟩ := info_parts Tryz.infoStr
  by_cases h8 : 8000 < t.size
  · rw [readOut_big h8]
    go_enter Tryz.func67, Tryz.ntmps67
    go_wp2
    exact bodyPost_ret (v := .agg #[.slice none 0 0, .int .i64 2]) (by simp [results, Tryz.results67, go_sem]) rfl ⟨_, [], rfl, rfl, Full.nil _ _, al1 _ _⟩
  have hb := al2 w (.cells #[.slice none 0 0, .int .i64 0] 124) (.cells #[.slice none 0 0] 25)
  have R0 := (Row.made w 124 #[.slice none 0 0, .int .i64 0]).alloc (.cells #[.slice none 0 0] 25)
  have RG : Row ((w.alloc (.cells #[.slice none 0 0, .int .i64 0] 124)).alloc (.cells #[.slice none 0 0] 25)) (w.heap.size + 1) 25 #[.slice none 0 0] := by
    simpa using Row.made (w.alloc (.cells #[.slice none 0 0, .int .i64 0] 124)) 25 #[.slice none 0 0]
  have hpl := pieces_len 10 t
  have hpos : 0 < (pieces 10 t).length := by rw [pieces_length]; exact splitB_pos 10 _
  have HP : Hid (pieces 10 t ≠ []) := Lib.hid (List.length_pos_iff.1 hpos)
  have HLL := Lib.hid (linesOf_len t)
  have hsub : ((pieces 10 t).length : Int) - 1 = (((pieces 10 t).length - 1 : Nat) : Int) := by omega
  go_enter Tryz.func67, Tryz.ntmps67
  go_wp2_with fail
  refine (specSplit_any t 10 _ (by omega)).mono ?_
  rintro e w1 ⟨v, rfl, hs, b1⟩
  obtain ⟨gl, cap, curL, rfl, hgl0, hrowL, hlc, hc, hcc⟩ := hs.form HP.out
  have r1 := R0.below b1 (by simp; omega)
  have rG1 := RG.below b1 (by simp)
  have hb1 := hb.trans (b1.mono (by simp; omega))
  have z1 : w.heap.size + 1 + 1 ≤ w1.heap.size := by have := b1.size; simpa using this
  simp at hgl0
  have HCC := Lib.hid hcc
  have H0 := Lib.hid (And.intro rG1 (And.intro hrowL (And.intro r1 hb1)))
  unfold maxLen at hc
  clear hs b1 hcc r1 rG1 hb1 hrowL hb R0 RG
  go_wp2
  go_loopw [5, 6, 7, 8] (fun i _ _ _ wr => ∃ (k : Nat) (xs : List (RuleD × Value × Nat)) (v : Value), k ≤ (pieces 10 t).length - 1 ∧ k ≤ 21 ∧ i = .int .i64 (k : Int) ∧ xs.length = k ∧ xs.map (·.1) = takeTo t k ∧ Row wr (w.heap.size + 1) 25 #[v] ∧ Full wr (w.heap.size + 2) v xs ∧
    Row wr gl 9 curL ∧ Row wr w.heap.size 124 #[.slice none 0 0, .int .i64 0] ∧ Below w.heap.size w wr) (fun i _ _ _ _ => (pieces 10 t).length - 1 - (intOf i).toNat)
  case atStart => exact ⟨0, [], .slice none 0 0, by omega, by omega, rfl, rfl, rfl, H0.out.1, Full.nil _ _, H0.out.2.1, H0.out.2.2.1, H0.out.2.2.2⟩
  case round =>
    obtain ⟨k, xs, v, hk, hk21, rfl, hxl, hxt, rG, grw, rL, r0, hbw⟩ := hrel
    have hsw := hbw.size
    have HXL := Lib.hid hxl
    have HXT := Lib.hid hxt
    have hGl := rG.lt
    have hLl := rL.lt
    have h0l := r0.lt
    clear hxl hxt H0
    by_cases hlt : k < (pieces 10 t).length - 1
    · by_cases h20 : k ≤ 20
      · have hkp : k < (pieces 10 t).length := by omega
        have hkl : k < (linesOf t).length := by rw [HLL.out]; exact hlt
        have hck := (rL.cell k).trans (HCC.out k hkp)
        have eK := linesOf_at hkl hkp
        have hsk : (pieces 10 t)[k].size ≤ 1000000 := by have := piece_size (List.getElem_mem hkp); omega
        have HTS := Lib.hid (takeTo_succ hkl)
        generalize (pieces 10 t)[k] = line at hck eK hsk
        have HEK := Lib.hid eK
        have hpl2 := pieces_len 32 line
        have hpos2 : 0 < (pieces 32 line).length := by rw [pieces_length]; exact splitB_pos 32 _
        have HP2 : Hid (pieces 32 line ≠ []) := Lib.hid (List.length_pos_iff.1 hpos2)
        have HSZ : Hid (∀ s ∈ pieces 32 line, s.size ≤ maxLen) := Lib.hid (fun s hs => by have := piece_size hs; unfold maxLen; omega)
        clear eK
        go_wp2_with fail
        refine (specSplit_any line 32 _ hsk).mono ?_
        rintro e w2 ⟨vw, rfl, hs2, b2⟩
        obtain ⟨gw, capw, curW, rfl, hgw0, hrowW, hlcw, hcw, hccw⟩ := hs2.form HP2.out
        have HCW := Lib.hid hccw
        have hw0 := (hrowW.cell 0).trans (hccw 0 hpos2)
        have z2 := b2.size
        have A3 := al1 w2 (.cells #[.string (pieces 32 line)[0], .slice none 0 0] 45)
        have B3 := (hbw.trans (b2.mono hsw)).trans (A3.mono (by omega))
        have H3 := Lib.hid (And.intro ((rG.below b2 hGl).alloc (.cells #[.string (pieces 32 line)[0], .slice none 0 0] 45)) (And.intro ((grw.below b2).below A3) (And.intro ((rL.below b2 hLl).alloc (.cells #[.string (pieces 32 line)[0], .slice none 0 0] 45)) (And.intro ((r0.below b2 h0l).alloc (.cells #[.string (pieces 32 line)[0], .slice none 0 0] 45)) (And.intro B3 (And.intro (hrowW.alloc (.cells #[.string (pieces 32 line)[0], .slice none 0 0] 45)) (Row.made w2 45 #[.string (pieces 32 line)[0], .slice none 0 0])))))))
        have HOLD : Hid (∀ x ∈ xs, x.1.body ≠ [] → x.2.2 < w2.heap.size) := Lib.hid (fun x hx hn => by have := ((grw.2.1 x hx).2.2 hn).2; omega)
        have HVB : Hid (∀ g, v.ownBlock = some g → g < w2.heap.size) := Lib.hid (fun g hg => by have := (grw.1.lt g hg).2; omega)
        have hww : w.heap.size + 2 ≤ w2.heap.size := by omega
        have hgl2 : gl < w2.heap.size := by omega
        have hgwl := hrowW.lt
        unfold maxLen at hcw
        clear rG grw rL r0 b2 hs2 hccw hrowW A3 B3 hbw
        go_wp2
        go_loopw [8] (fun i wr' => ∃ (j : Nat) (bv : Value), 2 ≤ j ∧ (j ≤ (pieces 32 line).length ∨ j = 2) ∧ j ≤ 8 ∧ i = .int .i64 (j : Int) ∧ Sts wr' (w2.heap.size + 1) bv (bodyTo (pieces 32 line) j) ∧ Row wr' w2.heap.size 45 #[.string (pieces 32 line)[0], bv] ∧ Row wr' gw 9 curW ∧
          Row wr' (w.heap.size + 1) 25 #[v] ∧ Full wr' (w.heap.size + 2) v xs ∧ Row wr' gl 9 curL ∧ Row wr' w.heap.size 124 #[.slice none 0 0, .int .i64 0] ∧ Below w.heap.size w wr' ∧ w2.heap.size + 1 ≤ wr'.heap.size) (fun i _ => 8 - (intOf i).toNat)
        case atStart => exact ⟨2, .slice none 0 0, by omega, .inr rfl, by omega, rfl, by rw [bodyTo_two]; exact World.ownsRow_nil _ _ _ _, H3.out.2.2.2.2.2.2, H3.out.2.2.2.2.2.1, H3.out.1, H3.out.2.1, H3.out.2.2.1, H3.out.2.2.2.1, H3.out.2.2.2.2.1, by simp⟩
        case round =>
          obtain ⟨j, bv, hj2, hjl, hj8, rfl, stb, rR, rW, rG, grw, rL, r0, hbb, hzz⟩ := hrel
          have cR0 := rR.cell 0
          have cR1 := rR.cell 1
          have fR1 := rR.free 1
          simp at cR0 cR1
          clear H3
          by_cases hjp : j < (pieces 32 line).length
          · by_cases hj7 : j ≤ 7
            · have hcj := (rW.cell j).trans (HCW.out j hjp)
              have HBS := Lib.hid (bodyTo_succ hjp hj2)
              have hjI : (j : Int) < ((pieces 32 line).length : Int) := by omega
              cases hkw : keepW (pieces 32 line) (pieces 32 line)[j]
              · have hkw' : (pieces 32 line)[j] = ⟨#[126]⟩ ∧ ¬ 3 < (pieces 32 line).length := by
                  unfold keepW at hkw
                  simpa using hkw
                have dl := eq_lit hkw'.1
                have d3 : decide (3 < (pieces 32 line).length) = false := decide_eq_false hkw'.2
                have d3' : decide ((3 : Int) < ((pieces 32 line).length : Int)) = false := decide_eq_false (by have := hkw'.2; omega)
                have st2 : Sts wr (w2.heap.size + 1) bv (bodyTo (pieces 32 line) (j + 1)) := by
                  rw [HBS.out, if_neg (by rw [hkw]; decide), List.append_nil]; exact stb
                clear hkw hkw' stb
                go_wp2
                go_roundw
                case rel => exact ⟨j + 1, bv, by omega, .inl (by omega), by omega, by go_num, st2, rR, rW, rG, grw, rL, r0, hbb, hzz⟩
                case measure => simp [intOf]; omega
              · have HST : Hid (bodyTo (pieces 32 line) (j + 1) = bodyTo (pieces 32 line) j ++ [(pieces 32 line)[j]]) := Lib.hid (by rw [HBS.out, if_pos hkw])
                have hcase : ((pieces 32 line)[j].toList == [126]) = false ∨ ((pieces 32 line)[j].toList == [126]) = true ∧ 3 < (pieces 32 line).length := by
                  by_cases e : (pieces 32 line)[j] = ⟨#[126]⟩
                  · refine .inr ⟨eq_lit e, ?_⟩
                    unfold keepW at hkw
                    simpa [e] using hkw
                  · exact .inl (neq_lit e)
                have hbl := bodyTo_len (pieces 32 line) j
                have HRR := Lib.hid rR
                have HRW := Lib.hid rW
                have HRG := Lib.hid rG
                have HGR := Lib.hid grw
                have HRL := Lib.hid rL
                have HR0 := Lib.hid r0
                have hrl := rR.lt
                have hbs := hbb.size
                have hwl := rW.lt
                generalize hB : bodyTo (pieces 32 line) j = B at stb hbl HST
                have HSB := Lib.hid stb
                generalize hC : (pieces 32 line)[j] = cj at hcase hcj HST
                clear hB hkw rR rW rG grw rL r0 stb hC HBS
                rcases hcase with d1 | ⟨d1, d3⟩
                all_goals
                  go_wp2
                  go_region_law (refine step_append_lies _ (by rfl) _ _ _ (by rfl) (w2.heap.size + 1) 9 j0 _ 1 16 Tryz.underlying26 hj0 hy0 hy1 hy2 rfl (by omega) bv B.length (B.map Value.string) (by rfl) ((World.ownsRow.alloc HSB.out _).drew) ⟨wr.heap.size, 0, none⟩ 1 1 [.string cj] (by rfl) (by rfl) (World.news_of_block (cs := #[.string cj]) (t := 9) (fr := (0, 0)) (heap_alloc_new wr _)) (one_str _) (by omega) (by unfold maxLen; omega) (by omega) (by simp; omega) (wr.heap.size + 1) (by simp) ?_; intro gg capg w6 hown6 hg6 hat6 hlt6; have c6 : w6.cell? ⟨w2.heap.size, 1, none⟩ = some bv := (Tx.row_grown (HRR.out.alloc (.cells #[.string cj] 9)) (World.ownsRow.alloc HSB.out _) (by decide) ⟨hg6.os, hg6.tape, hg6.output, hg6.size, hg6.block⟩).cell 1; have f6 : w6.frozen? ⟨w2.heap.size, 1, none⟩ = false := (Tx.row_grown (HRR.out.alloc (.cells #[.string cj] 9)) (World.ownsRow.alloc HSB.out _) (by decide) ⟨hg6.os, hg6.tape, hg6.output, hg6.size, hg6.block⟩).free 1)
                  all_goals
                    have hg7 : (wr.alloc (.cells #[.string cj] 9)).grownBy w6 bv.ownBlock := ⟨hg6.os, hg6.tape, hg6.output, hg6.size, hg6.block⟩
                    have own4 := World.ownsRow.alloc HSB.out (.cells #[.string cj] 9)
                    have hlow : ∀ q, q < w2.heap.size → (w6.setCell ⟨w2.heap.size, 1, none⟩ (.slice (some ⟨gg, 0, none⟩) (B.length + 1) capg)).heap[q]? = wr.heap[q]? := fun q hq => by
                      rw [Below.heap_setCell _ _ _ _ (by show q ≠ w2.heap.size; omega), hg7.block q (by simp; omega) (fun e => by have := (own4.lt _ e.symm).1; omega), Below.heap_alloc _ _ _ (by omega)]
                    have zz6 : wr.heap.size + 1 ≤ w6.heap.size := by have := hg7.size; simpa using this
                    have st6 : Sts w6 (w2.heap.size + 1) (.slice (some ⟨gg, 0, none⟩) (B.length + 1) capg) (bodyTo (pieces 32 line) (j + 1)) := by rw [HST.out]; exact Sts.one cj hown6
                    have st7 : Sts (w6.setCell ⟨w2.heap.size, 1, none⟩ (.slice (some ⟨gg, 0, none⟩) (B.length + 1) capg)) (w2.heap.size + 1) (.slice (some ⟨gg, 0, none⟩) (B.length + 1) capg) (bodyTo (pieces 32 line) (j + 1)) := ownsRow_setCell_below st6 (by show w2.heap.size < w2.heap.size + 1; omega) _
                    have rR7 : Row (w6.setCell ⟨w2.heap.size, 1, none⟩ (.slice (some ⟨gg, 0, none⟩) (B.length + 1) capg)) w2.heap.size 45 #[.string (pieces 32 line)[0], .slice (some ⟨gg, 0, none⟩) (B.length + 1) capg] := by
                      simpa using (Tx.row_grown (HRR.out.alloc (.cells #[.string cj] 9)) own4 (by decide) hg7).put 1 (.slice (some ⟨gg, 0, none⟩) (B.length + 1) capg)
                    have rW7 := HRW.out.same (hlow gw (by omega))
                    have rG7 := HRG.out.same (hlow (w.heap.size + 1) (by omega))
                    have rL7 := HRL.out.same (hlow gl (by omega))
                    have r07 := HR0.out.same (hlow w.heap.size (by omega))
                    have gr7 := HGR.out.move (w' := w6.setCell ⟨w2.heap.size, 1, none⟩ (.slice (some ⟨gg, 0, none⟩) (B.length + 1) capg)) (by simp [World.setCell]; omega) (fun q hq => hlow q (HVB.out q hq)) (fun x hx hn => hlow _ (HOLD.out x hx hn))
                    have bb7 : Below w.heap.size w (w6.setCell ⟨w2.heap.size, 1, none⟩ (.slice (some ⟨gg, 0, none⟩) (B.length + 1) capg)) := (Tx.below_grown (hbb.trans ((al1 wr _).mono hbs)) own4 hg7 (by simp; omega) (by omega)).setCell (by show w.heap.size ≤ w2.heap.size; omega) _
                    have z7 : w2.heap.size + 1 ≤ (w6.setCell ⟨w2.heap.size, 1, none⟩ (.slice (some ⟨gg, 0, none⟩) (B.length + 1) capg)).heap.size := by simp [World.setCell]; omega
                    have H7 := Lib.hid (And.intro st7 (And.intro rR7 (And.intro rW7 (And.intro rG7 (And.intro gr7 (And.intro rL7 (And.intro r07 (And.intro bb7 z7))))))))
                    clear hg6 hg7 hown6 own4 hlow st6 st7 rR7 rW7 rG7 rL7 r07 gr7 bb7 z7 hat6 hlt6 c6 f6
                    go_wp2
                    go_roundw
                    case rel => exact ⟨j + 1, _, by omega, .inl (by omega), by omega, by go_num, H7.out.1, H7.out.2.1, H7.out.2.2.1, H7.out.2.2.2.1, H7.out.2.2.2.2.1, H7.out.2.2.2.2.2.1, H7.out.2.2.2.2.2.2.1, H7.out.2.2.2.2.2.2.2.1, H7.out.2.2.2.2.2.2.2.2⟩
                    case measure => simp [intOf]; omega
            · have d7 : decide ((j : Int) ≤ 7) = false := decide_eq_false (by omega)
              have HBD : Hid (bodyTo (pieces 32 line) j = (takeR line.data.toList).body) := Lib.hid (by rw [takeR_body]; exact bodyTo_all (.inr (by omega)) hj8)
              have HRU : Hid ((⟨(pieces 32 line)[0], bodyTo (pieces 32 line) j⟩ : RuleD) = takeR (linesOf t)[k]) := Lib.hid (by
                rw [← HEK.out, HBD.out, ← takeR_head line hpos2])
              have hps0 : (pieces 32 line)[0].size ≤ maxLen := HSZ.out _ (List.getElem_mem hpos2)
              obtain ⟨gu, ou, hgu⟩ := stb.own (fun s hs => HSZ.out s (bodyTo_mem hs))
              have HOU := Lib.hid ou
              have HGU := Lib.hid hgu
              have hrl := rR.lt
              have hbs := hbb.size
              have HSTB := Lib.hid stb
              obtain ⟨Au, cu, rfl, -⟩ := ou
              have cG := rG.cell 0
              simp at cG
              have HRG := Lib.hid rG
              have HGR := Lib.hid grw
              have HRL := Lib.hid rL
              have HR0 := Lib.hid r0
              have hxk : xs.length ≤ 21 := by rw [HXL.out]; omega
              have HNW := Lib.hid (World.news_of_block (w := wr.alloc (.cells #[.string (pieces 32 line)[0], .slice Au (bodyTo (pieces 32 line) j).length cu] 45)) (B := wr.heap.size) (cs := #[.string (pieces 32 line)[0], .slice Au (bodyTo (pieces 32 line) j).length cu]) (t := 45) (fr := (0, 0)) (heap_alloc_new wr _))
              clear stb rR rW rG grw rL r0 hgu
              go_wp2_with (at_builtin; refine wpList_append_own _ rfl _ _ 23 rfl (w.heap.size + 2) 45 i0 _ 2 40 Tryz.underlying23 hi0 hz0 hz1 hz2 rfl (by decide) v xs.length (flatX xs) rfl (World.ownsRow.alloc HGR.out.1 _) ⟨wr.heap.size, 0, none⟩ 1 1 [.string (pieces 32 line)[0], .slice Au (bodyTo (pieces 32 line) j).length cu] rfl rfl HNW.out (two_one _ _ _ _) (by unfold maxLen; omega) (by omega) (by simp; omega) ?_)
              intro v' w5 hown5 hg5 _
              have A4 := al1 wr (.cells #[.string (pieces 32 line)[0], .slice Au (bodyTo (pieces 32 line) j).length cu] 45)
              have G4 := HGR.out.below A4
              have G5 := G4.snoc (r := ⟨(pieces 32 line)[0], bodyTo (pieces 32 line) j⟩) (u := .slice Au (bodyTo (pieces 32 line) j).length cu) (g := gu) hown5 hg5 (HOU.out.keep fun hn => A4.block _ (HGU.out hn).2) hps0 (fun hn => by have := HGU.out hn; simp; omega) (fun hn x hx hxn => by have := HGU.out hn; have := HOLD.out x hx hxn; omega) (fun hn => Sts.lower (World.ownsRow.alloc HSTB.out _) (by omega))
              have rG5 := Tx.row_grown (HRG.out.alloc _) G4.1 (by decide) hg5
              have rL5 := Tx.row_grown (HRL.out.alloc _) G4.1 (by decide) hg5
              have r05 := Tx.row_grown (HR0.out.alloc _) G4.1 (by decide) hg5
              have B5 : Below w.heap.size w w5 := Tx.below_grown (hbb.trans (A4.mono hbs)) G4.1 hg5 (by simp; omega) (by omega)
              obtain ⟨gv, cv, rfl, -⟩ := hown5.form (by omega)
              have c5 := rG5.cell 0
              have f5 := rG5.free 0
              simp at c5
              have G6 := G5.away (p := ⟨w.heap.size + 1, 0, none⟩) rG5 (by decide) (by decide) (.slice (some ⟨gv, 0, none⟩) (xs.length + 1) cv)
              have rG6 : Row (w5.setCell ⟨w.heap.size + 1, 0, none⟩ (.slice (some ⟨gv, 0, none⟩) (xs.length + 1) cv)) (w.heap.size + 1) 25 #[.slice (some ⟨gv, 0, none⟩) (xs.length + 1) cv] := by simpa using rG5.put 0 (.slice (some ⟨gv, 0, none⟩) (xs.length + 1) cv)
              have rL6 := rL5.away (p := ⟨w.heap.size + 1, 0, none⟩) (by show gl ≠ w.heap.size + 1; omega) (.slice (some ⟨gv, 0, none⟩) (xs.length + 1) cv)
              have r06 := r05.away (p := ⟨w.heap.size + 1, 0, none⟩) (by show w.heap.size ≠ w.heap.size + 1; omega) (.slice (some ⟨gv, 0, none⟩) (xs.length + 1) cv)
              have B6 := B5.setCell (p := ⟨w.heap.size + 1, 0, none⟩) (by show w.heap.size ≤ w.heap.size + 1; omega) (.slice (some ⟨gv, 0, none⟩) (xs.length + 1) cv)
              have H6 := Lib.hid (And.intro rG6 (And.intro G6 (And.intro rL6 (And.intro r06 B6))))
              clear rG5 rL5 r05 B5 G5 G4 A4 hown5 hg5 rG6 rL6 r06 B6 G6
              go_wp2
              go_roundw
              case rel => exact ⟨k + 1, _, _, by omega, by omega, by go_num, by rw [List.length_append, HXL.out]; rfl, by rw [List.map_append, HXT.out, HTS.out, ← HRU.out]; rfl, H6.out.1, H6.out.2.1, H6.out.2.2.1, H6.out.2.2.2.1, H6.out.2.2.2.2⟩
              case measure => simp [intOf]; omega
          · have HBD : Hid (bodyTo (pieces 32 line) j = (takeR line.data.toList).body) := Lib.hid (by
              rw [takeR_body]
              exact bodyTo_all (.inl (by omega)) hj8)
            have HRU : Hid ((⟨(pieces 32 line)[0], bodyTo (pieces 32 line) j⟩ : RuleD) = takeR (linesOf t)[k]) := Lib.hid (by
              rw [← HEK.out, HBD.out, ← takeR_head line hpos2])
            have hps0 : (pieces 32 line)[0].size ≤ maxLen := HSZ.out _ (List.getElem_mem hpos2)
            obtain ⟨gu, ou, hgu⟩ := stb.own (fun s hs => HSZ.out s (bodyTo_mem hs))
            have HOU := Lib.hid ou
            have HGU := Lib.hid hgu
            have hrl := rR.lt
            have hbs := hbb.size
            have HSTB := Lib.hid stb
            obtain ⟨Au, cu, rfl, -⟩ := ou
            have cG := rG.cell 0
            simp at cG
            have HRG := Lib.hid rG
            have HGR := Lib.hid grw
            have HRL := Lib.hid rL
            have HR0 := Lib.hid r0
            have hxk : xs.length ≤ 21 := by rw [HXL.out]; omega
            have HNW := Lib.hid (World.news_of_block (w := wr.alloc (.cells #[.string (pieces 32 line)[0], .slice Au (bodyTo (pieces 32 line) j).length cu] 45)) (B := wr.heap.size) (cs := #[.string (pieces 32 line)[0], .slice Au (bodyTo (pieces 32 line) j).length cu]) (t := 45) (fr := (0, 0)) (heap_alloc_new wr _))
            clear stb rR rW rG grw rL r0 hgu
            go_wp2_with (at_builtin; refine wpList_append_own _ rfl _ _ 23 rfl (w.heap.size + 2) 45 i0 _ 2 40 Tryz.underlying23 hi0 hz0 hz1 hz2 rfl (by decide) v xs.length (flatX xs) rfl (World.ownsRow.alloc HGR.out.1 _) ⟨wr.heap.size, 0, none⟩ 1 1 [.string (pieces 32 line)[0], .slice Au (bodyTo (pieces 32 line) j).length cu] rfl rfl HNW.out (two_one _ _ _ _) (by unfold maxLen; omega) (by omega) (by simp; omega) ?_)
            intro v' w5 hown5 hg5 _
            have A4 := al1 wr (.cells #[.string (pieces 32 line)[0], .slice Au (bodyTo (pieces 32 line) j).length cu] 45)
            have G4 := HGR.out.below A4
            have G5 := G4.snoc (r := ⟨(pieces 32 line)[0], bodyTo (pieces 32 line) j⟩) (u := .slice Au (bodyTo (pieces 32 line) j).length cu) (g := gu) hown5 hg5 (HOU.out.keep fun hn => A4.block _ (HGU.out hn).2) hps0 (fun hn => by have := HGU.out hn; simp; omega) (fun hn x hx hxn => by have := HGU.out hn; have := HOLD.out x hx hxn; omega) (fun hn => Sts.lower (World.ownsRow.alloc HSTB.out _) (by omega))
            have rG5 := Tx.row_grown (HRG.out.alloc _) G4.1 (by decide) hg5
            have rL5 := Tx.row_grown (HRL.out.alloc _) G4.1 (by decide) hg5
            have r05 := Tx.row_grown (HR0.out.alloc _) G4.1 (by decide) hg5
            have B5 : Below w.heap.size w w5 := Tx.below_grown (hbb.trans (A4.mono hbs)) G4.1 hg5 (by simp; omega) (by omega)
            obtain ⟨gv, cv, rfl, -⟩ := hown5.form (by omega)
            have c5 := rG5.cell 0
            have f5 := rG5.free 0
            simp at c5
            have G6 := G5.away (p := ⟨w.heap.size + 1, 0, none⟩) rG5 (by decide) (by decide) (.slice (some ⟨gv, 0, none⟩) (xs.length + 1) cv)
            have rG6 : Row (w5.setCell ⟨w.heap.size + 1, 0, none⟩ (.slice (some ⟨gv, 0, none⟩) (xs.length + 1) cv)) (w.heap.size + 1) 25 #[.slice (some ⟨gv, 0, none⟩) (xs.length + 1) cv] := by simpa using rG5.put 0 (.slice (some ⟨gv, 0, none⟩) (xs.length + 1) cv)
            have rL6 := rL5.away (p := ⟨w.heap.size + 1, 0, none⟩) (by show gl ≠ w.heap.size + 1; omega) (.slice (some ⟨gv, 0, none⟩) (xs.length + 1) cv)
            have r06 := r05.away (p := ⟨w.heap.size + 1, 0, none⟩) (by show w.heap.size ≠ w.heap.size + 1; omega) (.slice (some ⟨gv, 0, none⟩) (xs.length + 1) cv)
            have B6 := B5.setCell (p := ⟨w.heap.size + 1, 0, none⟩) (by show w.heap.size ≤ w.heap.size + 1; omega) (.slice (some ⟨gv, 0, none⟩) (xs.length + 1) cv)
            have H6 := Lib.hid (And.intro rG6 (And.intro G6 (And.intro rL6 (And.intro r06 B6))))
            clear rG5 rL5 r05 B5 G5 G4 A4 hown5 hg5 rG6 rL6 r06 B6 G6
            go_wp2
            go_roundw
            case rel => exact ⟨k + 1, _, _, by omega, by omega, by go_num, by rw [List.length_append, HXL.out]; rfl, by rw [List.map_append, HXT.out, HTS.out, ← HRU.out]; rfl, H6.out.1, H6.out.2.1, H6.out.2.2.1, H6.out.2.2.2.1, H6.out.2.2.2.2⟩
            case measure => simp [intOf]; omega
      · have d20 : decide ((k : Int) ≤ 20) = false := decide_eq_false (by omega)
        have htake : takeTo t k = takeAll t.data.toList := takeTo_all (.inr (by omega)) (by omega)
        have HTA := Lib.hid (HXT.out.trans htake)
        obtain ⟨rs, hrs⟩ : ∃ rs, rs = takeAll t.data.toList := ⟨_, rfl⟩
        have own : OwnR wr (w.heap.size + 2) wr.heap.size v rs := by rw [hrs, ← HTA.out]; exact grw.done
        have HOW := Lib.hid own
        have HGW := Lib.hid grw
        have HRS := Lib.hid hrs
        obtain ⟨Av, cv, rfl, -⟩ := own
        have cG := rG.cell 0
        simp at cG
        have HRG := Lib.hid rG
        have HR0 := Lib.hid r0
        clear rG grw rL htake hrs
        by_cases ht0 : t = ⟨#[]⟩
        · have HNO := Lib.hid (read_no (t := t) h8 (fun h => h.1 (by rw [ht0])))
          subst ht0
          have c0 := r0.cell 0
          have c1 := r0.cell 1
          have f0 := r0.free 0
          have f1 := r0.free 1
          simp at c0 c1
          clear r0
          go_wp2
          exact bodyPost_ret (v := .agg #[.slice none 0 0, .int .i64 3]) (by simp [results, Tryz.results67, go_sem, c0, c1]) rfl (by rw [HNO.out]; exact ⟨_, [], rfl, rfl, Full.nil _ _, (hbw.setCell (Nat.le_refl _) _).setCell (Nat.le_refl _) _⟩)
        · have hne : t.data.toList ≠ [] := fun e => ht0 (ba_eq e)
          have dt := neq_lit (l := []) ht0
          clear r0
          by_cases hok : t.data.toList ≠ [] ∧ gramB (takeAll t.data.toList) = true ∧ Tx.textT (takeAll t.data.toList) = t.data.toList
          · have HY := Lib.hid (read_yes (t := t) h8 hne hok.2.1 hok.2.2)
            have hgt : gramT rs = t := by rw [HRS.out]; exact gramT_is hok.2.1 hok.2.2
            have dg : ((gramT rs).toList == t.toList) = true := by rw [list_eqH, decide_eq_true hgt]
            clear hgt hok hne
            go_wp2_with fail
            refine (specGramText_any rs _ _ _ _ HOW.out.rules (Nat.le_refl _)).mono ?_
            rintro e w2 ⟨rfl, b2⟩
            have r2 := HR0.out.below b2 h0l
            have c0 := r2.cell 0
            have c1 := r2.cell 1
            have f0 := r2.free 0
            have f1 := r2.free 1
            have cG2 := (HRG.out.below b2 hGl).cell 0
            simp at c0 c1 cG2
            have HB2 := Lib.hid (hbw.trans (b2.mono hsw))
            have HO2 := Lib.hid (HGW.out.below b2)
            have z2 := b2.size
            clear r2 b2
            go_wp2
            refine bodyPost_ret (v := .agg #[.slice Av rs.length cv, .int .i64 0]) (by simp [results, Tryz.results67, go_sem, c0, c1]) rfl ?_
            rw [HY.out, ← HRS.out]
            refine ⟨_, xs, rfl, HTA.out.trans HRS.out.symm, ?_, (HB2.out.setCell (Nat.le_refl _) _).setCell (Nat.le_refl _) _⟩
            exact ((HO2.out.put (by show w.heap.size < _; omega) _).put (by show w.heap.size < _; omega) _).lower (by omega)
          · have HNO := Lib.hid (read_no (t := t) h8 hok)
            have hgt : gramT rs ≠ t := by rw [HRS.out]; exact gramT_not hne hok
            have dg : ((gramT rs).toList == t.toList) = false := by rw [list_eqH, decide_eq_false hgt]
            clear hgt hok hne
            go_wp2_with fail
            refine (specGramText_any rs _ _ _ _ HOW.out.rules (Nat.le_refl _)).mono ?_
            rintro e w2 ⟨rfl, b2⟩
            have r2 := HR0.out.below b2 h0l
            have c0 := r2.cell 0
            have c1 := r2.cell 1
            have f0 := r2.free 0
            have f1 := r2.free 1
            simp at c0 c1
            have HB2 := Lib.hid (hbw.trans (b2.mono hsw))
            clear r2 b2
            go_wp2
            exact bodyPost_ret (v := .agg #[.slice none 0 0, .int .i64 3]) (by simp [results, Tryz.results67, go_sem, c0, c1]) rfl (by rw [HNO.out]; exact ⟨_, [], rfl, rfl, Full.nil _ _, (HB2.out.setCell (Nat.le_refl _) _).setCell (Nat.le_refl _) _⟩)
    · have htake : takeTo t k = takeAll t.data.toList := takeTo_all (.inl (by rw [HLL.out]; omega)) (by omega)
      have HTA := Lib.hid (HXT.out.trans htake)
      obtain ⟨rs, hrs⟩ : ∃ rs, rs = takeAll t.data.toList := ⟨_, rfl⟩
      have own : OwnR wr (w.heap.size + 2) wr.heap.size v rs := by rw [hrs, ← HTA.out]; exact grw.done
      have HOW := Lib.hid own
      have HGW := Lib.hid grw
      have HRS := Lib.hid hrs
      obtain ⟨Av, cv, rfl, -⟩ := own
      have cG := rG.cell 0
      simp at cG
      have HRG := Lib.hid rG
      have HR0 := Lib.hid r0
      clear rG grw rL htake hrs
      by_cases ht0 : t = ⟨#[]⟩
      · have HNO := Lib.hid (read_no (t := t) h8 (fun h => h.1 (by rw [ht0])))
        subst ht0
        have c0 := r0.cell 0
        have c1 := r0.cell 1
        have f0 := r0.free 0
        have f1 := r0.free 1
        simp at c0 c1
        clear r0
        go_wp2
        exact bodyPost_ret (v := .agg #[.slice none 0 0, .int .i64 3]) (by simp [results, Tryz.results67, go_sem, c0, c1]) rfl (by rw [HNO.out]; exact ⟨_, [], rfl, rfl, Full.nil _ _, (hbw.setCell (Nat.le_refl _) _).setCell (Nat.le_refl _) _⟩)
      · have hne : t.data.toList ≠ [] := fun e => ht0 (ba_eq e)
        have dt := neq_lit (l := []) ht0
        clear r0
        by_cases hok : t.data.toList ≠ [] ∧ gramB (takeAll t.data.toList) = true ∧ Tx.textT (takeAll t.data.toList) = t.data.toList
        · have HY := Lib.hid (read_yes (t := t) h8 hne hok.2.1 hok.2.2)
          have hgt : gramT rs = t := by rw [HRS.out]; exact gramT_is hok.2.1 hok.2.2
          have dg : ((gramT rs).toList == t.toList) = true := by rw [list_eqH, decide_eq_true hgt]
          clear hgt hok hne
          go_wp2_with fail
          refine (specGramText_any rs _ _ _ _ HOW.out.rules (Nat.le_refl _)).mono ?_
          rintro e w2 ⟨rfl, b2⟩
          have r2 := HR0.out.below b2 h0l
          have c0 := r2.cell 0
          have c1 := r2.cell 1
          have f0 := r2.free 0
          have f1 := r2.free 1
          have cG2 := (HRG.out.below b2 hGl).cell 0
          simp at c0 c1 cG2
          have HB2 := Lib.hid (hbw.trans (b2.mono hsw))
          have HO2 := Lib.hid (HGW.out.below b2)
          have z2 := b2.size
          clear r2 b2
          go_wp2
          refine bodyPost_ret (v := .agg #[.slice Av rs.length cv, .int .i64 0]) (by simp [results, Tryz.results67, go_sem, c0, c1]) rfl ?_
          rw [HY.out, ← HRS.out]
          refine ⟨_, xs, rfl, HTA.out.trans HRS.out.symm, ?_, (HB2.out.setCell (Nat.le_refl _) _).setCell (Nat.le_refl _) _⟩
          exact ((HO2.out.put (by show w.heap.size < _; omega) _).put (by show w.heap.size < _; omega) _).lower (by omega)
        · have HNO := Lib.hid (read_no (t := t) h8 hok)
          have hgt : gramT rs ≠ t := by rw [HRS.out]; exact gramT_not hne hok
          have dg : ((gramT rs).toList == t.toList) = false := by rw [list_eqH, decide_eq_false hgt]
          clear hgt hok hne
          go_wp2_with fail
          refine (specGramText_any rs _ _ _ _ HOW.out.rules (Nat.le_refl _)).mono ?_
          rintro e w2 ⟨rfl, b2⟩
          have r2 := HR0.out.below b2 h0l
          have c0 := r2.cell 0
          have c1 := r2.cell 1
          have f0 := r2.free 0
          have f1 := r2.free 1
          simp at c0 c1
          have HB2 := Lib.hid (hbw.trans (b2.mono hsw))
          clear r2 b2
          go_wp2
          exact bodyPost_ret (v := .agg #[.slice none 0 0, .int .i64 3]) (by simp [results, Tryz.results67, go_sem, c0, c1]) rfl (by rw [HNO.out]; exact ⟨_, [], rfl, rfl, Full.nil _ _, (HB2.out.setCell (Nat.le_refl _) _).setCell (Nat.le_refl _) _⟩)
end Go.Proofs.YtokdhgocgicdnaaGreatDoor
