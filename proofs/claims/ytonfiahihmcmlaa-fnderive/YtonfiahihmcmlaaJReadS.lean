import Derived.Test.YtonfiahihmcmlaaJGrow
import Derived.Test.YtonfiahihmcmlaaToc
import Derived.Deep.AppendLies
/- The program's readGram and GramRead. -/
namespace Go.Proofs.Ytonfiahihmcmlaa
open Go.RowKit
open Tx (bs)

/-- a grammar that a call has made of a text, or none -/
def MadeG (w : World) (o : Option (List RuleD)) (e : Ending) (w' : World) : Prop :=
  Below w.heap.size w w' ∧ match o with
    | none => e = .returned (.tuple #[.agg #[.slice none 0 0], .bool false])
    | some rs => ∃ v, e = .returned (.tuple #[.agg #[v], .bool true]) ∧ OwnR w' w.heap.size w'.heap.size v rs
theorem MadeG.no {w w' : World} {o : Option (List RuleD)} {e : Ending} (h : o = none) (hb : Below w.heap.size w w') (he : e = .returned (.tuple #[.agg #[.slice none 0 0], .bool false])) : MadeG w o e w' := by subst h; exact ⟨hb, he⟩
theorem MadeG.yes {w w' : World} {o : Option (List RuleD)} {rs : List RuleD} {v : Value} (h : o = some rs) (hb : Below w.heap.size w w') (ho : OwnR w' w.heap.size w'.heap.size v rs) : MadeG w o (.returned (.tuple #[.agg #[v], .bool true])) w' := by subst h; exact ⟨hb, v, rfl, ho⟩

theorem two_new (w : World) (a b : Value) : ∀ j u, [a, b][j]? = some u → ((w.alloc (.cells #[a, b] 49)).alloc (.cells #[a, b] 49)).cell? ((⟨w.heap.size + 1, 0, none⟩ : Addr).add j) = some u := by
  have e : (w.alloc (.cells #[a, b] 49)).heap.size = w.heap.size + 1 := by simp
  rw [← e]
  exact World.news_of_block (cs := #[a, b]) (t := 49) (fr := (0, 0)) (heap_alloc_new _ _)
theorem two_one (s : ByteArray) (A : Option Addr) (n c : Nat) : ∀ u ∈ [Value.string s, .slice A n c], u.oneCell' = true := by
  intro u hu
  simp only [List.mem_cons, List.not_mem_nil, or_false] at hu
  rcases hu with rfl | rfl <;> rfl

set_option maxRecDepth 100000 in
set_option maxHeartbeats 8000000 in
theorem readGram_any (t : ByteArray) (w : World) (ht : t.size ≤ 1000000) :
    Calls Try.prog 77 #[.string t] w (MadeG w (parseT t.data.toList)) := by
  obtain ⟨i0, hi0, hz0, hz1, hz2⟩ := info_parts Try.infoRule
  have hb := al1 w (.cells #[.slice none 0 0] 25)
  have R0 := Row.made w 25 #[.slice none 0 0]
  have hpl := pieces_len 10 t
  have hpos : 0 < (pieces 10 t).length := by rw [pieces_length]; exact splitB_pos 10 _
  have HP : Hid (pieces 10 t ≠ []) := Lib.hid (List.length_pos_iff.1 hpos)
  have hl1 : (pieces 10 t).length - 1 < (pieces 10 t).length := by omega
  have hll := linesOf_len t
  have HLL := Lib.hid hll
  clear hll
  go_enter Try.func77, Try.ntmps77
  go_wp2_with fail
  refine (implCutAt_any t 10 _ ht (by decide)).mono ?_
  rintro e w1 ⟨v, rfl, hs, b1⟩
  obtain ⟨g, cap, cur, rfl, hg, hrow, hlc, hc, hcc⟩ := hs.form HP.out
  have R1 := R0.below b1 (by simp)
  have c0 := R1.cell 0
  have f0 := R1.free 0
  simp at c0 hg
  have hb1 := hb.trans (b1.mono (by simp))
  have hlt1 : w.heap.size < w1.heap.size := by have := b1.size; simp at this; omega
  have hgl := hrow.lt
  have hlast := (hrow.cell ((pieces 10 t).length - 1)).trans (hcc ((pieces 10 t).length - 1) hl1)
  have eL := last_at (t := t) hl1
  have HRW := Lib.hid hrow
  have HCC := Lib.hid hcc
  have HR1 := Lib.hid R1
  have HB1 := Lib.hid hb1
  clear hs b1 R1 hrow hcc hb1 hb R0
  unfold maxLen at hc
  have hsub : ((pieces 10 t).length : Int) - 1 = (((pieces 10 t).length - 1 : Nat) : Int) := by omega
  generalize hL : (pieces 10 t)[(pieces 10 t).length - 1] = sL at hlast eL
  clear hL
  by_cases h0 : sL = ⟨#[]⟩
  · have HLA : Hid ((splitB 10 t.data.toList).getLastD [] = []) := Lib.hid (by rw [← eL, h0])
    subst h0
    clear eL
    go_wp2
    go_loopw [8, 9, 10, 26] (fun _ _ _ i wr => ∃ (k : Nat) (xs : List (RuleD × Value × Nat)) (v : Value), k ≤ (pieces 10 t).length - 1 ∧ i = .int .i64 (k : Int) ∧ xs.length = k ∧ readAll ((linesOf t).take k) = some (xs.map (·.1)) ∧ Row wr w1.heap.size 25 #[v] ∧ Grow wr (w.heap.size + 1) v xs ∧
      Row wr g 9 cur ∧ Row wr w.heap.size 25 #[.slice none 0 0] ∧ Below w.heap.size w wr) (fun _ _ _ i _ => (pieces 10 t).length - 1 - (intOf i).toNat)
    case atStart => exact ⟨0, [], .slice none 0 0, by omega, rfl, rfl, by simp [readAll], Row.made _ _ _, Grow.nil _ _, HRW.out.alloc _, HR1.out.alloc _, HB1.out.trans ((al1 _ _).mono HB1.out.size)⟩
    case round =>
      obtain ⟨k, xs, v, hk, rfl, hxl, hra, rG, grw, rL, r0, hbw⟩ := hrel
      have hsw := hbw.size
      have HXL := Lib.hid hxl
      have HRA := Lib.hid hra
      have hGl := rG.lt
      have hLl := rL.lt
      have h0l := r0.lt
      clear hxl hra
      by_cases hlt : k < (pieces 10 t).length - 1
      · have hkp : k < (pieces 10 t).length := by omega
        have hkl : k < (linesOf t).length := by rw [HLL.out]; exact hlt
        have hck := (rL.cell k).trans (HCC.out k hkp)
        have eK := linesOf_at hkl hkp
        have hsk : (pieces 10 t)[k].size ≤ 1000000 := by have := piece_size (List.getElem_mem hkp); omega
        generalize (pieces 10 t)[k] = line at hck eK hsk
        cases hr : readR line.data.toList with
        | none =>
          have HN := Lib.hid (parse_bad (readAll_bad hkl (by rw [← eK]; exact hr)))
          have HRR := Lib.hid hr
          clear hr eK
          go_wp2_with fail
          refine (readRule_none line _ hsk HRR.out).mono ?_
          rintro e w2 ⟨rfl, b2⟩
          have r2 := r0.below b2 h0l
          have c2 := r2.cell 0
          have f2 := r2.free 0
          simp at c2
          have hb2 := hbw.trans (b2.mono hsw)
          have hlt2 : w.heap.size < w2.heap.size := by have := b2.size; omega
          have HB2 := Lib.hid hb2
          clear rG grw rL r0 b2 r2 hb2
          go_wp2
          exact bodyPost_ret (v := .tuple #[.agg #[.slice none 0 0], .bool false]) (by simp [results, Try.results77, go_sem, c2, hlt2]) rfl (MadeG.no HN.out ((HB2.out.setCell (Nat.le_refl _) _).alloc (by simp [World.setCell]; omega) _) rfl)
        | some r =>
          have HRR := Lib.hid hr
          have HRS : Hid (readAll ((linesOf t).take (k + 1)) = some ((xs.map (·.1)) ++ [r])) := Lib.hid (by
            rw [List.take_succ_eq_append_getElem hkl, ← eK]
            exact readAll_snoc HRA.out hr)
          have hhd : r.head.size ≤ maxLen := by
            obtain ⟨_, _, q3, _⟩ := readR_some hr
            have h1 := splitB_pos 32 line.data.toList
            have h2 : r.head ∈ pieces 32 line := by
              rw [q3, List.getElem?_eq_getElem h1]
              exact List.mem_map_of_mem (List.getElem_mem h1)
            have := piece_size h2
            unfold maxLen; omega
          clear hr eK
          go_wp2_with fail
          refine (readRule_some line r _ hsk HRR.out).mono ?_
          rintro e w2 ⟨u, gu, rfl, ou, hgu, b2⟩
          have rG2 := rG.below b2 hGl
          have rL2 := rL.below b2 hLl
          have r02 := r0.below b2 h0l
          have grw2 := grw.below b2
          have hb2 := hbw.trans (b2.mono hsw)
          have z2 := b2.size
          have HD : Hid (r.body ≠ [] → ∀ x ∈ xs, x.1.body ≠ [] → x.2.2 ≠ gu) := Lib.hid (fun hn x hx hxn => by
            have := (grw.2.1 x hx).2.2 hxn
            have := hgu hn
            omega)
          have HOU := Lib.hid ou
          obtain ⟨Au, cu, rfl, -⟩ := ou
          have cG := rG2.cell 0
          have fG := rG2.free 0
          simp at cG
          have hxk : xs.length ≤ 1000001 := by rw [HXL.out]; omega
          have HG2 := Lib.hid grw2
          have HrG := Lib.hid rG2
          have HrL := Lib.hid rL2
          have Hr0 := Lib.hid r02
          have HB2 := Lib.hid hb2
          have hsz2 : w.heap.size < w2.heap.size := by omega
          have hsz2' : w1.heap.size < w2.heap.size := by omega
          have HNW := Lib.hid (two_new w2 (.string r.head) (.slice Au r.body.length cu))
          clear rG grw rL r0 b2 rG2 rL2 r02 grw2 hbw
          go_wp2_with (at_builtin; refine wpList_append_own _ rfl _ _ 23 rfl (w.heap.size + 1) 49 i0 _ 2 40 Try.underlying23 hi0 hz0 hz1 hz2 rfl (by decide) v xs.length (flatX xs) rfl (World.ownsRow.alloc (World.ownsRow.alloc HG2.out.1 _) _) ⟨w2.heap.size + 1, 0, none⟩ 1 1 [.string r.head, .slice Au r.body.length cu] rfl rfl HNW.out (two_one _ _ _ _) (by unfold maxLen; omega) (by omega) (by simp; omega) ?_)
          intro v' w5 hown5 hg5 _
          have A4 := al2 w2 (.cells #[.string r.head, .slice Au r.body.length cu] 49) (.cells #[.string r.head, .slice Au r.body.length cu] 49)
          have G4 := HG2.out.below A4
          have G5 := G4.snoc (r := r) (u := .slice Au r.body.length cu) (g := gu) hown5 hg5 (HOU.out.keep fun hn => A4.block _ (hgu hn).2) hhd (fun hn => by have := hgu hn; simp; omega) HD.out
          have rG5 := Tx.row_grown ((HrG.out.alloc _).alloc _) G4.1 (by decide) hg5
          have rL5 := Tx.row_grown ((HrL.out.alloc _).alloc _) G4.1 (by decide) hg5
          have r05 := Tx.row_grown ((Hr0.out.alloc _).alloc _) G4.1 (by decide) hg5
          have B5 : Below w.heap.size w w5 := Tx.below_grown (HB2.out.trans (A4.mono HB2.out.size)) G4.1 hg5 (by simp; omega) (by omega)
          obtain ⟨gv, cv, rfl, -⟩ := hown5.form (by omega)
          have c5 := rG5.cell 0
          have f5 := rG5.free 0
          simp at c5
          have G6 := G5.away (p := ⟨w1.heap.size, 0, none⟩) rG5 (by decide) (by decide) (.slice (some ⟨gv, 0, none⟩) (xs.length + 1) cv)
          have rG6 : Row (w5.setCell ⟨w1.heap.size, 0, none⟩ (.slice (some ⟨gv, 0, none⟩) (xs.length + 1) cv)) w1.heap.size 25 #[.slice (some ⟨gv, 0, none⟩) (xs.length + 1) cv] := by simpa using rG5.put 0 (.slice (some ⟨gv, 0, none⟩) (xs.length + 1) cv)
          have rL6 := rL5.away (p := ⟨w1.heap.size, 0, none⟩) (by show g ≠ w1.heap.size; omega) (.slice (some ⟨gv, 0, none⟩) (xs.length + 1) cv)
          have r06 := r05.away (p := ⟨w1.heap.size, 0, none⟩) (by show w.heap.size ≠ w1.heap.size; omega) (.slice (some ⟨gv, 0, none⟩) (xs.length + 1) cv)
          have B6 := B5.setCell (p := ⟨w1.heap.size, 0, none⟩) (by show w.heap.size ≤ w1.heap.size; omega) (.slice (some ⟨gv, 0, none⟩) (xs.length + 1) cv)
          have H6 := Lib.hid (And.intro rG6 (And.intro G6 (And.intro rL6 (And.intro r06 B6))))
          clear rG5 rL5 r05 B5 G5 G4 A4 hown5 hg5 rG6 rL6 r06 B6 G6
          go_wp2
          go_roundw
          case rel => exact ⟨k + 1, _, _, by omega, by go_num, by rw [List.length_append, HXL.out]; rfl, by rw [HRS.out, List.map_append]; rfl, H6.out.1, H6.out.2.1, H6.out.2.2.1, H6.out.2.2.2.1, H6.out.2.2.2.2⟩
          case measure => simp [intOf]; omega
      · have hkl : (linesOf t).take k = linesOf t := List.take_of_length_le (by rw [HLL.out]; omega)
        obtain ⟨rs, hrs⟩ : ∃ rs, rs = xs.map (·.1) := ⟨_, rfl⟩
        have HRW' : Hid (readAll (linesOf t) = some rs) := Lib.hid (by rw [← hkl, hrs]; exact HRA.out)
        have own : OwnR wr (w.heap.size + 1) wr.heap.size v rs := by rw [hrs]; exact grw.done
        have HOW := Lib.hid own
        clear hrs hkl grw HRA HXL
        obtain ⟨Av, cv, rfl, -⟩ := own
        have cG := rG.cell 0
        simp at cG
        have HrG := Lib.hid rG
        have Hr0 := Lib.hid r0
        clear rL
        cases hq : gramB rs
        · have HN := Lib.hid (parse_wrong HRW'.out hq)
          have HQ := Lib.hid hq
          clear hq rG r0
          go_wp2_with fail
          refine (implGramRight_any rs _ _ _ _ HOW.out.rules (Nat.le_refl _)).mono ?_
          rintro e w2 ⟨rfl, b2⟩
          rw [HQ.out]
          have r2 := Hr0.out.below b2 h0l
          have c2 := r2.cell 0
          have f2 := r2.free 0
          simp at c2
          have HB2 := Lib.hid (hbw.trans (b2.mono hsw))
          clear r2 b2
          go_wp2
          exact bodyPost_ret (v := .tuple #[.agg #[.slice none 0 0], .bool false]) (by simp [results, Try.results77, go_sem, c2]) rfl (MadeG.no HN.out (HB2.out.setCell (Nat.le_refl _) _) rfl)
        · have HY := Lib.hid (parse_right HLA.out HRW'.out hq)
          have HQ := Lib.hid hq
          clear hq rG r0
          go_wp2_with fail
          refine (implGramRight_any rs _ _ _ _ HOW.out.rules (Nat.le_refl _)).mono ?_
          rintro e w2 ⟨rfl, b2⟩
          rw [HQ.out]
          have r2 := Hr0.out.below b2 h0l
          have c2 := r2.cell 0
          have f2 := r2.free 0
          have cG2 := (HrG.out.below b2 hGl).cell 0
          simp at c2 cG2
          have hb2 := hbw.trans (b2.mono hsw)
          have HB2 := Lib.hid hb2
          have o2 := HOW.out.keep (Keeps.below b2 (Nat.le_refl _))
          have z2 := b2.size
          have HO2 := Lib.hid o2
          clear r2 b2 hb2 o2
          go_wp2
          refine bodyPost_ret (v := .tuple #[.agg #[.slice Av rs.length cv], .bool true]) (by simp [results, Try.results77, go_sem, c2]) rfl (MadeG.yes HY.out (HB2.out.setCell (Nat.le_refl _) _) ?_)
          have hk := HO2.out.keep (w' := w2.setCell ⟨w.heap.size, 0, none⟩ (.slice Av rs.length cv)) (fun j h1 h2 => Below.heap_setCell _ _ _ _ (by show j ≠ w.heap.size; omega))
          exact hk.more (by omega) (by simp [World.setCell]; omega)
  · have HN := Lib.hid (parse_last (t := t) (by rw [← eL]; exact fun e => h0 (ba_eq e)))
    have d0 := neq_lit (l := []) h0
    go_wp2
    exact bodyPost_ret (v := .tuple #[.agg #[.slice none 0 0], .bool false]) (by simp [results, Try.results77, go_sem, c0]) rfl (MadeG.no HN.out (HB1.out.setCell (Nat.le_refl _) _) rfl)
end Go.Proofs.Ytonfiahihmcmlaa

/- The program's GramRead. -/
namespace Go.Proofs.Ytonfiahihmcmlaa
open Go.RowKit

/-- what a text is read as, and its code -/
def readOut (t : ByteArray) : List RuleD × Int := if 8000 < t.size then ([], 2) else match parseT t.data.toList with | none => ([], 3) | some rs => (rs, 0)
theorem readOut_big {t : ByteArray} (h : 8000 < t.size) : readOut t = ([], 2) := if_pos h
theorem readOut_none {t : ByteArray} (h : ¬ 8000 < t.size) (hp : parseT t.data.toList = none) : readOut t = ([], 3) := by unfold readOut; rw [if_neg h, hp]
theorem readOut_some {t : ByteArray} {rs : List RuleD} (h : ¬ 8000 < t.size) (hp : parseT t.data.toList = some rs) : readOut t = (rs, 0) := by unfold readOut; rw [if_neg h, hp]
/-- a grammar and a code that a call has made, in memory of its own -/
def MadeO (w : World) (o : List RuleD × Int) (e : Ending) (w' : World) : Prop := ∃ v, e = .returned (.agg #[v, .int .i64 o.2]) ∧ OwnR w' w.heap.size w'.heap.size v o.1 ∧ Below w.heap.size w w'
theorem OwnR.nil (w : World) (lo hi : Nat) : OwnR w lo hi (.slice none 0 0) [] := ⟨none, 0, rfl, Nat.le_refl _, by unfold maxLen; omega, fun h => by simp at h⟩

set_option maxRecDepth 100000 in
set_option maxHeartbeats 2000000 in
theorem implGramRead_any (t : ByteArray) (w : World) (ht : t.size ≤ maxLen) :
    Calls Try.prog 14 #[.string t] w (MadeO w (readOut t)) := by
  unfold maxLen at ht
  have hb := al1 w (.cells #[.slice none 0 0, .int .i64 0] 30)
  by_cases h8 : 8000 < t.size
  · rw [readOut_big h8]
    go_enter Try.func14, Try.ntmps14
    go_wp2
    exact bodyPost_ret (v := .agg #[.slice none 0 0, .int .i64 2]) (by simp [results, Try.results14, go_sem]) rfl ⟨_, rfl, OwnR.nil _ _ _, al1 _ _⟩
  · have R0 := Row.made w 30 #[.slice none 0 0, .int .i64 0]
    cases hp : parseT t.data.toList with
    | none =>
      rw [readOut_none h8 hp]
      have HP := Lib.hid hp
      clear hp
      go_enter Try.func14, Try.ntmps14
      go_wp2_with fail
      refine (readGram_any t _ (by omega)).mono ?_
      rintro e w1 ⟨b1, he⟩
      rw [HP.out] at he
      subst he
      have r1 := R0.below b1 (by simp)
      have c0 := r1.cell 0
      have c1 := r1.cell 1
      have f0 := r1.free 0
      have f1 := r1.free 1
      simp at c0 c1
      have hb1 := hb.trans (b1.mono (by simp))
      have hlt1 : w.heap.size < w1.heap.size := by have := b1.size; simp at this; omega
      have HB1 := Lib.hid hb1
      clear r1 b1 hb1
      go_wp2
      exact bodyPost_ret (v := .agg #[.slice none 0 0, .int .i64 3]) (by simp [results, Try.results14, go_sem, c0, c1, hlt1]) rfl ⟨_, rfl, OwnR.nil _ _ _, ((HB1.out.setCell (Nat.le_refl _) _).setCell (Nat.le_refl _) _).alloc (by simp [World.setCell]; omega) _⟩
    | some rs =>
      rw [readOut_some h8 hp]
      have HP := Lib.hid hp
      clear hp
      go_enter Try.func14, Try.ntmps14
      go_wp2_with fail
      refine (readGram_any t _ (by omega)).mono ?_
      rintro e w1 ⟨b1, he⟩
      rw [HP.out] at he
      obtain ⟨v, rfl, own⟩ := he
      have r1 := R0.below b1 (by simp)
      have c0 := r1.cell 0
      have c1 := r1.cell 1
      have f0 := r1.free 0
      have f1 := r1.free 1
      simp at c0 c1
      have hb1 := hb.trans (b1.mono (by simp))
      have hlt1 : w.heap.size < w1.heap.size := by have := b1.size; simp at this; omega
      have HB1 := Lib.hid hb1
      have own' : OwnR w1 (w.heap.size + 1) w1.heap.size v rs := by simpa using own
      have HO := Lib.hid own'
      obtain ⟨A, c, rfl, -⟩ := own
      clear r1 b1 hb1 own'
      go_wp2
      refine bodyPost_ret (v := .agg #[.slice A rs.length c, .int .i64 0]) (by simp [results, Try.results14, go_sem, c0, c1, hlt1]) rfl ⟨_, rfl, ?_, ((HB1.out.setCell (Nat.le_refl _) _).setCell (Nat.le_refl _) _).alloc (by simp [World.setCell]; omega) _⟩
      have hk := HO.out.keep (w' := ((w1.setCell ⟨w.heap.size, 0, none⟩ (.slice A rs.length c)).setCell ⟨w.heap.size, 1, none⟩ (.int .i64 0)).alloc (.cells #[.slice A rs.length c] 25)) (fun j h1 h2 => by
        rw [Below.heap_alloc _ _ _ (by simp [World.setCell]; exact h2), Below.heap_setCell _ _ _ _ (by show j ≠ w.heap.size; omega), Below.heap_setCell _ _ _ _ (by show j ≠ w.heap.size; omega)])
      exact hk.more (by omega) (by simp [World.setCell])
end Go.Proofs.Ytonfiahihmcmlaa

/- The model's GramRead: its lines and words, as lists. -/
namespace Go.Proofs.Ytonfiahihmcmlaa
open Go.RowKit
open Tx (bs)

/-- the model's test of a word -/
def keepW (ps : List ByteArray) (s : ByteArray) : Bool := decide (s ≠ ⟨#[126]⟩) || decide (3 < ps.length)
/-- the body as far as the k-th word -/
def bodyTo (ps : List ByteArray) (k : Nat) : List ByteArray := ((ps.take k).drop 2).filter (keepW ps)
theorem bodyTo_two (ps : List ByteArray) : bodyTo ps 2 = [] := by
  unfold bodyTo
  rw [List.drop_eq_nil_of_le (List.length_take_le _ _)]
  rfl
theorem bodyTo_succ {ps : List ByteArray} {k : Nat} (h : k < ps.length) (h2 : 2 ≤ k) : bodyTo ps (k + 1) = bodyTo ps k ++ (if keepW ps ps[k] = true then [ps[k]] else []) := by
  unfold bodyTo
  rw [List.take_succ_eq_append_getElem h, List.drop_append_of_le_length (by simp; omega), List.filter_append]
  congr 1
  simp only [List.filter_cons, List.filter_nil]
theorem bodyTo_len (ps : List ByteArray) (k : Nat) : (bodyTo ps k).length ≤ k := by
  unfold bodyTo
  have h1 := List.length_filter_le (keepW ps) ((ps.take k).drop 2)
  have h2 : (ps.take k).length ≤ k := List.length_take_le _ _
  rw [List.length_drop] at h1
  omega
theorem bodyTo_mem {ps : List ByteArray} {k : Nat} {s : ByteArray} (h : s ∈ bodyTo ps k) : s ∈ ps := by
  unfold bodyTo at h
  exact List.mem_of_mem_take (List.mem_of_mem_drop (List.mem_filter.1 h).1)
theorem bodyTo_all {ps : List ByteArray} {k : Nat} (h' : ps.length ≤ k ∨ k = 8) (h8 : k ≤ 8) : bodyTo ps k = bodyTo ps 8 := by
  rcases h' with h' | h'
  · unfold bodyTo
    rw [List.take_of_length_le h', List.take_of_length_le (by omega)]
  · rw [h']
theorem takeR_body (t : ByteArray) : (takeR t.data.toList).body = bodyTo (pieces 32 t) 8 := by
  unfold takeR bodyTo pieces
  simp only
  rw [← List.map_take, ← List.map_drop, List.filter_map]
  congr 1
  apply List.filter_congr
  intro x _
  unfold keepW
  simp only [Function.comp_apply, List.length_map]
  congr 1
  rw [Bool.eq_iff_iff]
  simp only [decide_eq_true_eq]
  constructor
  · exact fun h e => h (Tx.bs_inj (a := x) (b := [126]) e)
  · exact fun h e => h (by rw [e]; rfl)
theorem takeR_head (t : ByteArray) (h : 0 < (pieces 32 t).length) : (takeR t.data.toList).head = (pieces 32 t)[0] := by
  refine (ba_eq ?_).symm
  rw [pieces_at h]
  rfl
/-- the rules of the first k lines -/
def takeTo (t : ByteArray) (k : Nat) : List RuleD := ((linesOf t).take k).map takeR
theorem takeTo_succ {t : ByteArray} {k : Nat} (h : k < (linesOf t).length) : takeTo t (k + 1) = takeTo t k ++ [takeR (linesOf t)[k]] := by
  unfold takeTo; rw [List.take_succ_eq_append_getElem h, List.map_append]; rfl
theorem takeTo_all {t : ByteArray} {k : Nat} (h' : (linesOf t).length ≤ k ∨ k = 21) (h8 : k ≤ 21) : takeTo t k = takeAll t.data.toList := by
  unfold takeTo takeAll
  rcases h' with h' | h'
  · unfold linesOf at h' ⊢
    rw [List.take_of_length_le h', List.take_of_length_le (by omega)]
  · rw [h']; rfl
theorem read_yes {t : ByteArray} (h8 : ¬ 8000 < t.size) (h0 : t.data.toList ≠ []) (hg : gramB (takeAll t.data.toList) = true) (hx : Tx.textT (takeAll t.data.toList) = t.data.toList) : readOut t = (takeAll t.data.toList, 0) := by
  rcases read_same (t := t.data.toList) with ⟨_, _, _, h⟩ | ⟨h, _⟩
  · exact readOut_some h8 h
  · exact absurd ⟨h0, hg, hx⟩ h
theorem read_no {t : ByteArray} (h8 : ¬ 8000 < t.size) (hn : ¬ (t.data.toList ≠ [] ∧ gramB (takeAll t.data.toList) = true ∧ Tx.textT (takeAll t.data.toList) = t.data.toList)) : readOut t = ([], 3) := by
  rcases read_same (t := t.data.toList) with ⟨h1, h2, h3, _⟩ | ⟨_, h⟩
  · exact absurd ⟨h1, h2, h3⟩ hn
  · exact readOut_none h8 h
end Go.Proofs.Ytonfiahihmcmlaa
