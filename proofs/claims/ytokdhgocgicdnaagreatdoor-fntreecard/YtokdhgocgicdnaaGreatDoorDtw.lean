/- The draw of a tree of a symbol: l05TreeOf. -/
import Derived.Test.YtokdhgocgicdnaaGreatDoorJDtp
import Derived.Test.YtokdhgocgicdnaaGreatDoorJWd5
import Derived.Test.YtokdhgocgicdnaaGreatDoorJHeadsS
import Derived.Deep.RegionHeld3
import Derived.Deep.RegionLaw
namespace Go.Proofs.YtokdhgocgicdnaaGreatDoor.Dr
open Go.RowKit
open Go.Proofs.YtokdhgocgicdnaaGreatDoor

theorem Tryz.infoTreeD : (Tryz.prog.info? 29).map (fun i => (i.zero, i.size, i.bytes)) = some (some (.agg #[.int .i64 0, .string ByteArray.empty, .slice none 0 0]), 3, 48) := by kernel_rfl
theorem tree3_one (r : Int) (s : ByteArray) (A : Option Addr) (n c : Nat) : ∀ u ∈ [Value.int .i64 r, .string s, .slice A n c], u.oneCell' = true := by
  intro u hu
  simp only [List.mem_cons, List.not_mem_nil, or_false] at hu
  rcases hu with rfl | rfl | rfl <;> rfl
def DtC (d : Nat) : Prop := ∀ (rs : List RuleD) (gv : Value) (sym : ByteArray) (lo hi p B : Nat) (w : World), Src w p B → p < lo → Rules w lo hi gv rs → hi ≤ w.heap.size → rs.length ≤ 100 → (∀ r ∈ rs, r.body.length ≤ 5) → sym.size ≤ maxLen →
  Calls Tryz.prog 28 #[.pointer (some ⟨p, 0, none⟩), .agg #[gv], .string sym, .int .i64 (d : Int)] w (DrawTr w p B (bulkM d))

set_option maxRecDepth 100000 in
set_option maxHeartbeats 8000000 in
theorem treeOf_step (d : Nat) (hd : d ≤ 1000) (ih : ∀ e, e + 1 = d → DtC e) : DtC d := by
  intro rs gv sym lo hi p B w hs hp hr hh hl hbl hsz
  have hbm := bulkM_pos d
  have HM := Lib.hid hbm
  have HDD : Hid (((d : Nat) : Int) = (d : Int)) := Lib.hid rfl
  generalize hdd : ((d : Nat) : Int) = dd at HDD ⊢
  have dd0 : 0 ≤ dd := by omega
  have dd2 : dd ≤ 1000 := by omega
  obtain ⟨j0, hj0, hy0, hy1, hy2⟩ := info_parts Tryz.infoInt
  obtain ⟨i0, hi0, hz0, hz1, hz2⟩ := info_parts Tryz.infoTreeD
  have hpl := hs.lt
  have HR := Lib.hid hr
  have HS := Lib.hid hs
  have HBL := Lib.hid hbl
  have HSZ := Lib.hid hsz
  obtain ⟨A, c, rfl, hlc, hc, -⟩ := hr
  unfold maxLen at hc
  have B0 := al2 w (.cells #[.slice A rs.length c] 25) (.cells #[.int .i64 0, .string ⟨#[]⟩, .slice none 0 0] 29)
  have RG0 := (Row.made w 25 #[.slice A rs.length c]).alloc (.cells #[.int .i64 0, .string ⟨#[]⟩, .slice none 0 0] 29)
  have RR0 : Row ((w.alloc (.cells #[.slice A rs.length c] 25)).alloc (.cells #[.int .i64 0, .string ⟨#[]⟩, .slice none 0 0] 29)) (w.heap.size + 1) 29 #[.int .i64 0, .string ⟨#[]⟩, .slice none 0 0] := by
    have := Row.made (w.alloc (.cells #[.slice A rs.length c] 25)) 29 #[.int .i64 0, .string ⟨#[]⟩, .slice none 0 0]
    simpa using this
  have Z0 : Hid (((w.alloc (.cells #[.slice A rs.length c] 25)).alloc (.cells #[.int .i64 0, .string ⟨#[]⟩, .slice none 0 0] 29)).heap.size = w.heap.size + 2) := Lib.hid (by simp)
  have HB0 := Lib.hid B0
  have HRG0 := Lib.hid RG0
  have HRR0 := Lib.hid RR0
  clear hs hbl hsz B0 RG0 RR0 hbm
  go_enter Tryz.func28, Tryz.ntmps28
  go_wp2_with fail
  refine (specIsToken_any sym _ HSZ.out).mono ?_
  rintro e w' ⟨rfl, rfl⟩
  have hS0 : Src ((w.alloc (.cells #[.slice A rs.length c] 25)).alloc (.cells #[.int .i64 0, .string ⟨#[]⟩, .slice none 0 0] 29)) p B := HS.out.only fun q hq => HB0.out.block q (by have := HS.out.1; omega)
  have hG0 : w.grownBy ((w.alloc (.cells #[.slice A rs.length c] 25)).alloc (.cells #[.int .i64 0, .string ⟨#[]⟩, .slice none 0 0] 29)) (some p) := ⟨HB0.out.os, HB0.out.tape, HB0.out.output, HB0.out.size, fun q hq _ => HB0.out.block q hq⟩
  have HS0 := Lib.hid hS0
  have HG0 := Lib.hid hG0
  clear hS0 hG0
  generalize (w.alloc (.cells #[.slice A rs.length c] 25)).alloc (.cells #[.int .i64 0, .string ⟨#[]⟩, .slice none 0 0] 29) = w1 at HB0 HRG0 HRR0 Z0 HS0 HG0 ⊢
  have z1 := Z0.out
  cases htk : tokB sym
  rotate_left
  · have h4 := tokB_size htk
    clear htk
    have c0 := HRR0.out.cell 0
    have c1 := HRR0.out.cell 1
    have c2 := HRR0.out.cell 2
    have f0 := HRR0.out.free 0
    have f1 := HRR0.out.free 1
    have f2 := HRR0.out.free 2
    simp at c0 c1 c2
    have R9 := set3_row HRR0.out (.int .i64 (-1)) (.string sym) (.slice none 0 0)
    have d0 := R9.cell 0
    have d1 := R9.cell 1
    have d2 := R9.cell 2
    simp at d0 d1 d2
    have FIN := Lib.hid (DrawTr.leaf (w := w) h4 HM.out (set3_src HS0.out (by omega) (.int .i64 (-1)) (.string sym) (.slice none 0 0)) (set3_grw (b := w.heap.size + 1) HG0.out (by omega) (.int .i64 (-1)) (.string sym) (.slice none 0 0)))
    clear R9
    go_wp2
    exact bodyPost_ret (v := .tuple #[.agg #[.int .i64 (-1), .string sym, .slice none 0 0], .bool true]) (by simp [results, Tryz.results28, go_sem, d0, d1, d2]) rfl FIN.out
  clear htk
  have I0 : Itn (w1.alloc (.cells #[] 3)) (w.heap.size + 2) (.slice (some ⟨w1.heap.size, 0, none⟩) 0 0) (rulesOf rs sym 0) := by
    have := Itn.lit0 w1 (base := w.heap.size + 2) (by omega)
    simpa [rulesOf] using this
  have A1 := al1 w1 (.cells #[] 3)
  have RG := HRG0.out.below A1 (by omega)
  have RR := HRR0.out.below A1 (by omega)
  have B1 := HB0.out.trans (A1.mono (by omega))
  clear A1 HRG0 HRR0 HB0 HS0 HG0
  go_wp2
  rw [z1] at I0
  generalize w1.alloc (.cells #[] 3) = w2 at I0 RG RR B1 ⊢
  go_loopw [10, 11] (fun x i wr => ∃ k : Nat, k ≤ rs.length ∧ i = .int .i64 (k : Int) ∧ Itn wr (w.heap.size + 2) x (rulesOf rs sym k) ∧ Row wr w.heap.size 25 #[.slice A rs.length c] ∧ Row wr (w.heap.size + 1) 29 #[.int .i64 0, .string ⟨#[]⟩, .slice none 0 0] ∧ Below w.heap.size w wr) (fun _ i _ => rs.length - (intOf i).toNat)
  case atStart => exact ⟨0, by omega, rfl, I0, RG, RR, B1⟩
  case round =>
    obtain ⟨k, hk, rfl, hI, hG, hT, hbw⟩ := hrel
    have hsw := hbw.size
    have g0 := hG.cell 0
    simp at g0
    have hGl := hG.lt
    have hTl := hT.lt
    have HI := Lib.hid hI
    have HG := Lib.hid hG
    have HT := Lib.hid hT
    by_cases hlt : k < rs.length
    · have hVr := HR.out.below hbw hh
      obtain ⟨b, off, rfl, hb, hc1, hc2, hm, hr0, Bb, db, hr1, hbs⟩ := hVr.at hlt
      have k1 : (k : Int) < (rs.length : Int) := by omega
      have hll := rulesOf_len rs sym k
      obtain ⟨Bz, dz, rfl⟩ := hI.shape
      clear hVr hI hG hT hbs hr1
      by_cases he : rs[k].head = sym
      · have d1 : (rs[k].head.toList == sym.toList) = true := by rw [list_eqH, decide_eq_true he]
        have HN := Lib.hid (rulesOf_t hlt he)
        clear he
        go_wp2_with (at_builtin; refine wpList_append_own _ rfl _ _ 94 rfl (w.heap.size + 2) 3 j0 _ 1 8 Tryz.underlying94 hj0 hy0 hy1 hy2 rfl (by decide) _ _ _ rfl (World.ownsRow.alloc HI.out _) ⟨wr.heap.size, 0, none⟩ 1 1 [.int .i64 (k : Int)] rfl rfl (by simpa using cell_one_new wr _ _) (one_int _) (by unfold maxLen; omega) (by omega) (by simp; omega) ?_)
        intro v1 w3 hown1 hg1 _
        have s1 : Itn w3 (w.heap.size + 2) v1 (rulesOf rs sym (k + 1)) := by
          rw [HN.out]
          exact Itn.one _ (by simpa using hown1)
        have hG3 := Tx.row_grown (HG.out.alloc _) (World.ownsRow.alloc HI.out _) (by decide) hg1
        have hT3 := Tx.row_grown (HT.out.alloc _) (World.ownsRow.alloc HI.out _) (by decide) hg1
        have b3 : Below w.heap.size w w3 := Tx.below_grown (hbw.alloc hsw _) (World.ownsRow.alloc HI.out _) hg1 (by simp; omega) (by omega)
        clear hown1 hg1
        go_wp2
        go_roundw
        case rel => exact ⟨k + 1, by omega, by go_num, s1, hG3, hT3, b3⟩
        case measure => simp [intOf]; omega
      · have d1 : (rs[k].head.toList == sym.toList) = false := by rw [list_eqH, decide_eq_false he]
        have HN := Lib.hid (rulesOf_f hlt he)
        clear he
        go_wp2
        go_roundw
        case rel => exact ⟨k + 1, by omega, by go_num, by rw [HN.out]; exact HI.out, HG.out, HT.out, hbw⟩
        case measure => simp [intOf]; omega
    · have HP0 : Hid (∀ i ∈ rulesOf rs sym k, i < rs.length) := Lib.hid fun i hi => by have := rulesOf_lt hi; omega
      have hll := rulesOf_len rs sym k
      have HS2 : Hid (Src wr p B) := Lib.hid (HS.out.only fun q hq => hbw.block q (by have := HS.out.1; omega))
      have HG2 : Hid (w.grownBy wr (some p)) := Lib.hid ⟨hbw.os, hbw.tape, hbw.output, hbw.size, fun q hq _ => hbw.block q hq⟩
      generalize rulesOf rs sym k = L at HP0 HI hI hll ⊢
      have c0 := hT.cell 0
      have c1 := hT.cell 1
      have c2 := hT.cell 2
      have f0 := hT.free 0
      have f1 := hT.free 1
      have f2 := hT.free 2
      simp at c0 c1 c2
      obtain ⟨Bz, dz, rfl⟩ := hI.shape
      by_cases hq : dd ≤ 0 ∨ L.length = 0
      · have R9 := set3_row HT.out (.int .i64 0) (.string ⟨#[]⟩) (.slice none 0 0)
        have d0 := R9.cell 0
        have d1 := R9.cell 1
        have d2 := R9.cell 2
        simp at d0 d1 d2
        have FIN := Lib.hid (DrawTr.zero (w := w) (bulkM d) (set3_src HS2.out (by omega) (.int .i64 0) (.string ⟨#[]⟩) (.slice none 0 0)) (set3_grw (b := w.heap.size + 1) HG2.out (by omega) (.int .i64 0) (.string ⟨#[]⟩) (.slice none 0 0)))
        clear hI hG hT R9
        by_cases h1 : dd ≤ 0
        · have q1 : decide (dd ≤ 0) = true := decide_eq_true h1
          go_wp2
          exact bodyPost_ret (v := .tuple #[.agg #[.int .i64 0, .string ⟨#[]⟩, .slice none 0 0], .bool false]) (by simp [results, Tryz.results28, go_sem, d0, d1, d2]) rfl FIN.out
        · have q1 : decide (dd ≤ 0) = false := decide_eq_false h1
          have h0 : L.length = 0 := by omega
          have q2 : ((L.length : Int) == 0) = true := by rw [h0]; rfl
          go_wp2
          exact bodyPost_ret (v := .tuple #[.agg #[.int .i64 0, .string ⟨#[]⟩, .slice none 0 0], .bool false]) (by simp [results, Tryz.results28, go_sem, d0, d1, d2]) rfl FIN.out
      · have q1 : decide (dd ≤ 0) = false := decide_eq_false (by omega)
        have q2 : ((L.length : Int) == 0) = false := by rw [beq_eq_false_iff_ne]; omega
        clear c0 c1 c2 f0 f1 f2
        obtain ⟨gl, cl, e9, hgl1, hgl2, hl1, hl2, -⟩ := hI.at (show 0 < L.length by omega)
        injection e9 with e9 _ e10
        subst e9 e10
        unfold maxLen at hl2
        have L0 : (0 : Int) < (L.length : Int) := by omega
        have LB : Hid (∀ r : Int, ((L.length : Int) ≤ 1 → r = 0) → (1 < (L.length : Int) → 0 ≤ r ∧ r < (L.length : Int)) → ∃ k0 : Nat, r = (k0 : Int) ∧ k0 < L.length) := Lib.hid fun r hr0 hr1 => by
          by_cases h : (1 : Int) < (L.length : Int)
          · obtain ⟨a, b⟩ := hr1 h
            exact ⟨r.toNat, by omega, by omega⟩
          · exact ⟨0, hr0 (by omega), by omega⟩
        go_wp2_with fail
        refine (n_any wr p B (L.length : Int) HS2.out (by omega)).mono ?_
        rintro e w4 ⟨r, rfl, hr0, hr1, hs4, ho4⟩
        obtain ⟨k0, rfl, hk0⟩ := LB.out r hr0 hr1
        have HCL : Hid (∀ i (hi : i < L.length), w4.cell? ⟨gl, i, none⟩ = some (.int .i64 (L[i] : Int))) := Lib.hid fun i hi => by
          obtain ⟨g', c', e, _, _, _, _, h9⟩ := hI.at hi
          injection e with e1 _ _
          injection e1 with e1
          injection e1 with e1
          subst e1
          exact (ho4.cell (q := ⟨gl, i, none⟩) (by show gl ≠ p; omega)).trans h9
        have HG4 := Lib.hid (row_only HG.out ho4 (by omega))
        have HT4 := Lib.hid (row_only HT.out ho4 (by omega))
        have HS4 := Lib.hid hs4
        have HW4 := Lib.hid (grw_trans HG2.out ho4.grown)
        have cL := HCL.out k0 hk0
        have k1 : ((k0 : Nat) : Int) < (L.length : Int) := by omega
        have HZ4 : Hid (w.heap.size + 2 ≤ w4.heap.size) := Lib.hid (by have := ho4.size; omega)
        clear hr0 hr1 hs4 ho4 LB hI hG hT HI HG HT HS2 HG2 g0
        go_upto_if 57 with fail
        go_cut [12] from 56 to 63 (fun s12 wx => ∃ j, j < rs.length ∧ s12 = .int .i64 ((j : Nat) : Int) ∧ wx = w4)
        case first =>
          by_cases h2 : dd ≤ 2
          · have q3 : decide (dd ≤ 2) = true := decide_eq_true h2
            have hk9 : L.length - 1 < L.length := by omega
            have cL9 := HCL.out (L.length - 1) hk9
            have hj9 := HP0.out _ (List.getElem_mem hk9)
            have k9 : ((L.length - 1 : Nat) : Int) < (L.length : Int) := by omega
            have k2 : (L.length : Int) - 1 = ((L.length - 1 : Nat) : Int) := by omega
            go_wp2
            go_meet
            exact ⟨L[L.length - 1], hj9, rfl, rfl⟩
          · have q3 : decide (dd ≤ 2) = false := decide_eq_false h2
            go_wp2
            go_meet
            exact ⟨L[k0], HP0.out _ (List.getElem_mem hk0), rfl, rfl⟩
        case rest =>
          obtain ⟨j, hj, rfl, rfl⟩ := hcut
          clear cL HCL k1 HP0
          obtain ⟨e, he⟩ : ∃ e, e + 1 = d := ⟨d - 1, by omega⟩
          have IH := Lib.hid (ih e he)
          have HED : Hid (dd - 1 = (e : Int)) := Lib.hid (by omega)
          have HEW : Hid (IntKind.i64.wrap (dd - 1) = (e : Int)) := Lib.hid (by rw [HED.out]; exact IntWalk.i64_in _ (by omega))
          have HBU : Hid (bulkM d = 5 + 5 * bulkM e) := Lib.hid (by rw [← he]; rfl)
          clear he ih hdd
          have j1 : ((j : Nat) : Int) < (rs.length : Int) := by omega
          obtain ⟨b, off, rfl, hbhi, -, -, -⟩ := HR.out.at hj
          obtain ⟨hb1, hb2, -, Bb, db, hcr1, hstb⟩ := HR.out.cells hj
          have HST := Lib.hid hstb
          have hbn : rs[j].body.length ≤ 5 := HBL.out _ (List.getElem_mem hj)
          have HSB : Hid (∀ s ∈ rs[j].body, s.size ≤ maxLen) := Lib.hid (by obtain ⟨_, _, _, _, _, hz, _⟩ := hstb; exact hz)
          have HCR : Hid (∀ wx : World, w.grownBy wx (some p) → wx.cell? ⟨b, off + j * 2 + 1, none⟩ = some (.slice Bb rs[j].body.length db)) := Lib.hid fun wx hg => ((keeps_grown hg hp hh).cell (p := ⟨b, off + j * 2 + 1, none⟩) hb1 hb2).trans hcr1
          have hpw : p < w.heap.size := hpl
          have A5 := al1 wc (.cells #[.int .i64 (j : Int), .string ⟨#[]⟩, .slice none 0 0] 29)
          have T5 : TrI w p B (.slice (some ⟨b, off, none⟩) rs.length c) wc.heap.size (j : Int) (.slice none 0 0) [] (wc.alloc (.cells #[.int .i64 (j : Int), .string ⟨#[]⟩, .slice none 0 0] 29)) :=
            ⟨HS4.out.only fun k hk => A5.block k (by have := HS4.out.1; have := HS4.out.lt; omega), grw_alloc HW4.out _, HG4.out.alloc _, HT4.out.alloc _, (by have := HZ4.out; omega), Row.made wc _ _, KidsX.nil _ _⟩
          have HT5 := Lib.hid T5
          clear A5 T5 hstb hcr1 HS4 HW4 HG4 HT4 HZ4
          go_wp2
          generalize wc.alloc (.cells #[.int .i64 (j : Int), .string ⟨#[]⟩, .slice none 0 0] 29) = w5 at HT5 ⊢
          generalize wc.heap.size = q at HT5 ⊢
          go_loopw [14, 15, 16] (fun i _ _ wv => ∃ (k : Nat) (xs : List (TreeD × Value)) (kv : Value), k ≤ rs[j].body.length ∧ i = .int .i64 (k : Int) ∧ xs.length = k ∧ bulkTs (xs.map (·.1)) ≤ k * (1 + bulkM e) ∧ TrI w p B (.slice (some ⟨b, off, none⟩) rs.length c) q (j : Int) kv xs wv) (fun i _ _ _ => rs[j].body.length - (intOf i).toNat)
          case atStart => exact ⟨0, [], _, by omega, rfl, rfl, by simp [bulkTs], HT5.out⟩
          case round =>
            rename World => wv
            obtain ⟨k, xs, kv, hk, rfl, hxl, hbk, hT⟩ := hrel
            obtain ⟨Ak, dk, rfl⟩ := hT.kids.shape
            have HI := Lib.hid hT
            have HBK := Lib.hid hbk
            have cg0 := hT.gram.cell 0
            simp at cg0
            have cR := HCR.out wv hT.grw
            have lq := hT.box.lt
            have lg := hT.gram.lt
            have hqb := hT.qb
            have hgs := hT.grw.size
            have HOW := Lib.hid (fun b e => KidsX.own (g := b) hT.kids e)
            have HXL := Lib.hid hxl
            clear hT hbk hxl
            by_cases hlt : k < rs[j].body.length
            · have hSv := HST.out.keep (keeps_grown HI.out.grw hp hh)
              obtain ⟨bb, offb, rfl, hbb, hd1, hd2, hcb⟩ := strs_at hSv hlt
              have HBP : Hid (bb ≠ p) := Lib.hid (by
                obtain ⟨A7, c7, e7, _, _, _, h7⟩ := HST.out
                obtain ⟨b8, o8, e8, h8, _, _⟩ := h7 (by omega)
                injection e7 with e7 _ _
                rw [← e7] at e8
                injection e8 with e8
                injection e8 with e8
                omega)
              unfold maxLen at hd2
              have hsz := HSB.out _ (List.getElem_mem hlt)
              have k1 : (k : Int) < (rs[j].body.length : Int) := by omega
              have hbv : bb < wv.heap.size := by omega
              have T0 := Lib.hid HI.out.drew
              have T1 := Lib.hid (fun o => (HI.out.next (al1 wv o) hpw).drew)
              have HC : Hid (∀ wx : World, Src wx p B → w.grownBy wx (some p) → Calls Tryz.prog 28 #[.pointer (some ⟨p, 0, none⟩), .agg #[.slice (some ⟨b, off, none⟩) rs.length c], .string rs[j].body[k], .int .i64 (e : Int)] wx (DrawTr wx p B (bulkM e))) :=
                Lib.hid fun wx hs9 hg9 => IH.out rs _ rs[j].body[k] lo hi p B wx hs9 hp (HR.out.keep (keeps_grown hg9 hp hh)) (Nat.le_trans hh hg9.size) hl HBL.out hsz
              clear hSv
              go_wp2
              go_cut [15, 16] from 77 to 93 (fun s15 s16 wx => ∃ q2 t u ok lo2, s15 = .pointer (some ⟨q2, 0, none⟩) ∧ s16 = .bool ok ∧ TopOk t ∧ bulkT t ≤ bulkM e ∧ TrI w p B (.slice (some ⟨b, off, none⟩) rs.length c) q (j : Int) (.slice Ak xs.length dk) xs wx ∧ Row wx q2 29 #[.int .i64 t.rule, .string t.tok, u] ∧ Kd true wx lo2 wx.heap.size u t.kids ∧ wv.heap.size ≤ lo2)
              case first =>
                have hbp : bb ≠ p := HBP.out
                have HB3 : Hid (∀ w3 : World, (wv.alloc (.cells #[.int .i64 0, .string ⟨#[]⟩, .slice none 0 0] 29)).drew.grownBy w3 (some p) → Row w3 wv.heap.size 29 #[.int .i64 0, .string ⟨#[]⟩, .slice none 0 0]) := Lib.hid fun w3 g => (show Row (wv.alloc (.cells #[.int .i64 0, .string ⟨#[]⟩, .slice none 0 0] 29)).drew wv.heap.size _ _ from Row.made wv _ _).same (g.block _ (by simp) (fun e => by injection e with e; omega))
                have HG0 : Hid (∀ (w3 : World) (o : Obj), Src w3 p B → wv.drew.grownBy w3 (some p) → TrI w p B (.slice (some ⟨b, off, none⟩) rs.length c) q (j : Int) (.slice Ak xs.length dk) xs (w3.alloc o)) := Lib.hid fun w3 o s g => (T0.out.grown s g hpw).next (al1 w3 o) hpw
                have HK0 : Hid (∀ (w3 : World) (o : Obj) (u : Value) (t : TreeD), KidsR w3 wv.drew.heap.size u t.kids → Kd true (w3.alloc o) wv.heap.size (w3.alloc o).heap.size u t.kids) := Lib.hid fun w3 o u t h => (h.kd.under (al1 w3 o) (Nat.le_refl _)).more (Nat.le_refl _) (by simp)
                have HG1 : Hid (∀ (w3 : World) (o : Obj) (x y z : Value), Src w3 p B → (wv.alloc o).drew.grownBy w3 (some p) → TrI w p B (.slice (some ⟨b, off, none⟩) rs.length c) q (j : Int) (.slice Ak xs.length dk) xs (((w3.setCell ⟨wv.heap.size, 0, none⟩ x).setCell ⟨wv.heap.size, 1, none⟩ y).setCell ⟨wv.heap.size, 2, none⟩ z)) := Lib.hid fun w3 o x y z s g =>
                  HI.out.grown (set3_src s (by omega) x y z) (set3_grw (grw_trans (grw_drew (grw_alloc (grw_refl p wv) o)) g) (Nat.le_refl _) x y z) hpw
                have HK1 : Hid (∀ (w3 : World) (o : Obj) (x y z u : Value) (t : TreeD), KidsR w3 (wv.alloc o).drew.heap.size u t.kids → Kd true (((w3.setCell ⟨wv.heap.size, 0, none⟩ x).setCell ⟨wv.heap.size, 1, none⟩ y).setCell ⟨wv.heap.size, 2, none⟩ z) (wv.heap.size + 1) (((w3.setCell ⟨wv.heap.size, 0, none⟩ x).setCell ⟨wv.heap.size, 1, none⟩ y).setCell ⟨wv.heap.size, 2, none⟩ z).heap.size u t.kids) := Lib.hid fun w3 o x y z u t h => by
                  have e : (wv.alloc o).drew.heap.size = wv.heap.size + 1 := by show (wv.alloc o).heap.size = _; simp
                  have h' := h.kd
                  rw [e] at h'
                  rw [set3_size]
                  exact h'.keep fun k h1 _ => set3_heap _ _ _ _ _ _ (by omega)
                have hgp : w.heap.size ≠ p := by omega
                have lbw : b < wv.heap.size := by omega
                have hbq : b ≠ p := by omega
                have lgd : w.heap.size < wv.drew.heap.size := lg
                have lbd : bb < wv.drew.heap.size := hbv
                have lcd : b < wv.drew.heap.size := by show b < wv.heap.size; omega
                have cg1 : wv.drew.cell? ⟨w.heap.size, 0, none⟩ = some (.slice (some ⟨b, off, none⟩) rs.length c) := cg0
                have cR1 : wv.drew.cell? ⟨b, off + j * 2 + 1, none⟩ = some (.slice (some ⟨bb, offb, none⟩) rs[j].body.length db) := cR
                have cb1 : wv.drew.cell? ⟨bb, offb + k, none⟩ = some (.string rs[j].body[k]) := hcb
                go_region_law (go_simp; go_at_call 28; rw [HEW.out]; refine (HC.out _ (by first | exact T0.out.src | exact (T1.out _).src) (by first | exact T0.out.grw | exact (T1.out _).grw)).mono ?_; rintro e3 w3 ⟨t, u, ok, rfl, ht, hb, hK, hs3, hg3⟩; obtain ⟨Au, du, rfl⟩ := hK.shape; (try (have RB := HB3.out _ hg3; have rb0 := RB.cell 0; have rb1 := RB.cell 1; have rb2 := RB.cell 2; have rf0 := RB.free 0; have rf1 := RB.free 1; have rf2 := RB.free 2; simp at rb0 rb1 rb2)); unfold trV)
                all_goals
                  go_wp2_with fail
                  go_meet
                  first
                    | exact ⟨w3.heap.size, t, _, ok, wv.heap.size, rfl, rfl, ht, hb, HG0.out w3 _ hs3 hg3, Row.made w3 _ _, HK0.out w3 _ _ t hK, Nat.le_refl _⟩
                    | exact ⟨wv.heap.size, t, _, ok, wv.heap.size + 1, rfl, rfl, ht, hb, HG1.out w3 _ _ _ _ hs3 hg3, set3_row (HB3.out _ hg3) _ _ _, HK1.out w3 _ _ _ _ _ t hK, Nat.le_succ _⟩
              case rest =>
                obtain ⟨q2, t, u, ok, lo2, rfl, rfl, ht, hb, hT2, RX, hKd, hlo⟩ := hcut
                obtain ⟨Au, cu, Uu, rfl, -⟩ := hKd.parts
                rename World => wy
                have HT2 := Lib.hid hT2
                have HX := Lib.hid RX
                have HKD := Lib.hid hKd
                have HTT := Lib.hid ht
                have HB := Lib.hid hb
                have lq2 := RX.lt
                have r0 := hT2.res.cell 0
                have r1 := hT2.res.cell 1
                have r2 := hT2.res.cell 2
                have f0 := hT2.res.free 0
                have f1 := hT2.res.free 1
                have f2 := hT2.res.free 2
                simp at r0 r1 r2
                clear hT2 hKd ht hb hgs hcb
                cases ok with
                | false =>
                  have R9 := set3_row HT2.out.res (.int .i64 0) (.string ⟨#[]⟩) (.slice none 0 0)
                  have d0 := R9.cell 0
                  have d1 := R9.cell 1
                  have d2 := R9.cell 2
                  simp at d0 d1 d2
                  have FIN := Lib.hid (DrawTr.zero (w := w) (bulkM d) (set3_src HT2.out.src (by omega) (.int .i64 0) (.string ⟨#[]⟩) (.slice none 0 0)) (set3_grw (b := w.heap.size + 1) HT2.out.grw (by omega) (.int .i64 0) (.string ⟨#[]⟩) (.slice none 0 0)))
                  clear R9 RX
                  go_wp2
                  exact bodyPost_ret (v := .tuple #[.agg #[.int .i64 0, .string ⟨#[]⟩, .slice none 0 0], .bool false]) (by simp [results, Tryz.results28, go_sem, d0, d1, d2]) rfl FIN.out
                | true =>
                  have x0 := RX.cell 0
                  have x1 := RX.cell 1
                  have x2 := RX.cell 2
                  simp at x0 x1 x2
                  have b2 := HT2.out.box.cell 2
                  have bf2 := HT2.out.box.free 2
                  simp at b2
                  have lqy := HT2.out.box.lt
                  have hx5 : xs.length ≤ 5 := by have := HXL.out; omega
                  clear RX r0 r1 r2 f0 f1 f2
                  go_wp2_with (at_builtin; refine wpList_append_lies _ rfl _ _ 27 rfl (q + 1) 29 i0 _ 3 48 Tryz.underlying27 hi0 hz0 hz1 hz2 rfl (by decide) (.slice Ak xs.length dk) xs.length (flatT xs) rfl (World.ownsRow.alloc HT2.out.kids.1 _) ⟨wy.heap.size, 0, none⟩ 1 1 [.int .i64 t.rule, .string t.tok, .slice Au t.kids.length cu] rfl rfl (World.news_of_block (cs := #[.int .i64 t.rule, .string t.tok, .slice Au t.kids.length cu]) (t := 29) (fr := (0, 0)) (heap_alloc_new _ _)) (tree3_one _ _ _ _ _) (by omega) (by unfold maxLen; omega) (by omega) (by simp; omega) (wy.heap.size + 1) (by simp) ?_)
                  intro g9 cap9 w9 hown9 hg9 hl9 hlt9
                  have A6 := al1 wy (.cells #[.int .i64 t.rule, .string t.tok, .slice Au t.kids.length cu] 29)
                  have HT6 := HT2.out.next A6 hpw
                  have HK6 := HKD.out.under A6 (Nat.le_refl _)
                  have z6 : (wy.alloc (.cells #[.int .i64 t.rule, .string t.tok, .slice Au t.kids.length cu] 29)).heap.size = wy.heap.size + 1 := by simp
                  have P9 := Lib.hid (HT6.push (x := t) hpw HTT.out HK6 (by omega) (by omega) (fun b e => .inl (by have := HOW.out b e; omega)) hown9 hg9 (by rw [z6]; exact hl9))
                  have R9 := HT6.box.same (hg9.block q HT6.box.lt (fun e => by have := HOW.out _ e.symm; omega))
                  have b9 := R9.cell 2
                  have bf9 := R9.free 2
                  simp at b9
                  have HBK9 : Hid (bulkTs ((xs ++ [(t, Value.slice Au t.kids.length cu)]).map (·.1)) ≤ (k + 1) * (1 + bulkM e)) := Lib.hid (by
                    have e9 : (xs ++ [(t, Value.slice Au t.kids.length cu)]).map (·.1) = xs.map (·.1) ++ [t] := by rw [List.map_append]; rfl
                    rw [e9, bulkTs_snoc, Nat.succ_mul]
                    have := HBK.out
                    have := HB.out
                    omega)
                  have HL9 : Hid ((xs ++ [(t, Value.slice Au t.kids.length cu)]).length = k + 1) := Lib.hid (by rw [List.length_append, HXL.out]; rfl)
                  clear A6 HT6 HK6 z6 R9 hown9 hg9 hl9
                  go_wp2
                  go_roundw
                  case rel => exact ⟨k + 1, _, _, by omega, by go_num, HL9.out, HBK9.out, P9.out⟩
                  case measure => simp [intOf]; omega
            · have hkl : k = rs[j].body.length := by omega
              have FIN := Lib.hid (TrI.fin (n := bulkM d) HI.out hpw (by omega) (by
                have h1 := HBK.out
                have h2 := HBU.out
                have h3 : k * (1 + bulkM e) ≤ 5 * (1 + bulkM e) := Nat.mul_le_mul_right _ (by omega)
                omega))
              have c0 := HI.out.box.cell 0
              have c1 := HI.out.box.cell 1
              have c2 := HI.out.box.cell 2
              have r0 := HI.out.res.cell 0
              have r1 := HI.out.res.cell 1
              have r2 := HI.out.res.cell 2
              have f0 := HI.out.res.free 0
              have f1 := HI.out.res.free 1
              have f2 := HI.out.res.free 2
              simp at c0 c1 c2 r0 r1 r2
              have R9 := set3_row HI.out.res (.int .i64 (j : Int)) (.string ⟨#[]⟩) (.slice Ak xs.length dk)
              have d0 := R9.cell 0
              have d1 := R9.cell 1
              have d2 := R9.cell 2
              simp at d0 d1 d2
              clear R9
              go_wp2
              exact bodyPost_ret (v := .tuple #[.agg #[.int .i64 (j : Int), .string ⟨#[]⟩, .slice Ak xs.length dk], .bool true]) (by simp [results, Tryz.results28, go_sem, d0, d1, d2]) rfl FIN.out
theorem treeOf_any (d : Nat) (hd : d ≤ 1000) : DtC d := by
  induction d with
  | zero => exact treeOf_step 0 hd fun e h => by omega
  | succ d ih => exact treeOf_step (d + 1) hd fun e h => by obtain rfl : e = d := by omega
                                                            exact ih (by omega)
end Go.Proofs.YtokdhgocgicdnaaGreatDoor.Dr
