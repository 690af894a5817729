import Derived.Test.YtcgmnpfeiiomgaaJTob
import Derived.Deep.AppendLies
/- What came in, laid anew, on: toRuleS, toGram. -/
namespace Go.Proofs.Ytcgmnpfeiiomgaa
open Go.RowKit

theorem Try.infoRule : (Try.prog.info? 47).map (fun i => (i.zero, i.size, i.bytes)) = some (some (.agg #[.string ByteArray.empty, .slice none 0 0]), 2, 40) := by kernel_rfl

/-- k of the rules are laid in block g, their bodies in blocks behind it -/
def BuildR (w : World) (g : Nat) (rs : List RuleD) (k : Nat) : Prop :=
  ∃ (cur : Array Value) (G : Nat → Nat), Row w g 47 cur ∧ cur.size = rs.length * 2 ∧
    (∀ i (h : i < rs.length), i < k → cur[i * 2]? = some (.string rs[i].head) ∧ ∃ u, cur[i * 2 + 1]? = some u ∧ OwnS w (G i) u rs[i].body ∧ g < G i ∧ G i < w.heap.size) ∧
    ∀ i j, i < j → j < k → G i < G j
theorem BuildR.start (w : World) (rs : List RuleD) (z : Array Value) : BuildR (w.alloc (.cells (madeCells z (rs.length * 2)) 47)) w.heap.size rs 0 :=
  ⟨_, fun _ => 0, Row.made w _ _, size_madeCells _ _, fun _ _ h => by omega, fun _ _ _ h => by omega⟩
theorem BuildR.row {w : World} {g k : Nat} {rs : List RuleD} (h : BuildR w g rs k) : ∃ cur, Row w g 47 cur ∧ cur.size = rs.length * 2 := by
  obtain ⟨cur, G, h1, h2, _⟩ := h
  exact ⟨cur, h1, h2⟩
theorem BuildR.step {w w1 : World} {g k gb : Nat} {rs : List RuleD} {u : Value} (h : BuildR w g rs k) (hk : k < rs.length) (hb : Below w.heap.size w w1) (ho : OwnS w1 gb u rs[k].body) (h1 : w.heap.size ≤ gb) (h2 : gb < w1.heap.size) :
    BuildR ((w1.setCell ⟨g, k * 2, none⟩ (.string rs[k].head)).setCell ⟨g, k * 2 + 1, none⟩ u) g rs (k + 1) := by
  obtain ⟨cur, G, hr, hs, hc, hG⟩ := h
  have hgl := hr.lt
  have r1 := ((hr.below hb hgl).put (k * 2) (.string rs[k].head)).put (k * 2 + 1) u
  have hsz : ((w1.setCell ⟨g, k * 2, none⟩ (.string rs[k].head)).setCell ⟨g, k * 2 + 1, none⟩ u).heap.size = w1.heap.size := by simp [World.setCell]
  have hot : ∀ p, p ≠ g → ((w1.setCell ⟨g, k * 2, none⟩ (.string rs[k].head)).setCell ⟨g, k * 2 + 1, none⟩ u).heap[p]? = w1.heap[p]? := fun p hp => by
    rw [Below.heap_setCell _ _ _ _ (by exact hp), Below.heap_setCell _ _ _ _ (by exact hp)]
  refine ⟨_, fun i => if i = k then gb else G i, r1, by simp [hs], fun i hi hik => ?_, fun i j hij hj => ?_⟩
  · by_cases e : i = k
    · subst e
      refine ⟨?_, u, ?_, ?_, ?_, ?_⟩
      · rw [Array.getElem?_setIfInBounds_ne (by omega), Array.getElem?_setIfInBounds_self_of_lt (by omega)]
      · rw [Array.getElem?_setIfInBounds_self_of_lt (by simp; omega)]
      · simp only [if_true]
        exact ho.keep fun _ => hot gb (by omega)
      · simp only [if_true]; omega
      · simp only [if_true]; rw [hsz]; exact h2
    · obtain ⟨a1, v, a2, a3, a4, a5⟩ := hc i hi (by omega)
      refine ⟨?_, v, ?_, ?_, ?_, ?_⟩
      · rw [Array.getElem?_setIfInBounds_ne (by omega), Array.getElem?_setIfInBounds_ne (by omega)]; exact a1
      · rw [Array.getElem?_setIfInBounds_ne (by omega), Array.getElem?_setIfInBounds_ne (by omega)]; exact a2
      · simp only [if_neg e]
        exact a3.keep fun _ => (hot _ (by omega)).trans (hb.block _ a5)
      · simp only [if_neg e]; exact a4
      · simp only [if_neg e]; rw [hsz]; have := hb.size; omega
  · by_cases e : j = k
    · have hi : ¬ i = k := by omega
      simp only [if_neg hi, if_pos e]
      obtain ⟨_, _, _, _, _, a5⟩ := hc i (by omega) (by omega)
      omega
    · have hi : ¬ i = k := by omega
      simp only [if_neg hi, if_neg e]
      exact hG i j hij (by omega)
theorem BuildR.done {w : World} {g lo : Nat} {rs : List RuleD} (h : BuildR w g rs rs.length) (hl : lo ≤ g) (hm : rs.length ≤ maxLen) (hh : ∀ i (h : i < rs.length), rs[i].head.size ≤ maxLen) : OwnR w lo w.heap.size (.slice (some ⟨g, 0, none⟩) rs.length rs.length) rs := by
  obtain ⟨cur, G, hr, hs, hc, hG⟩ := h
  refine ⟨_, _, rfl, Nat.le_refl _, hm, fun _ => ⟨g, cur, G, rfl, hl, hr.lt, hr, fun i hi => ?_, fun i j hi hj _ _ => ?_⟩⟩
  · obtain ⟨a1, v, a2, a3, a4, a5⟩ := hc i hi hi
    exact ⟨hh i hi, a1, v, a2, a3, fun _ => ⟨by omega, a5⟩⟩
  · have := hG i j hi hj; omega

theorem bulk_body {rs : List RuleD} {k : Nat} (h : k < rs.length) : rs[k].body.length ≤ bulkR rs := by
  have h1 := rulesTo_succ rs k h
  have h2 := rulesTo_le rs (k + 1)
  unfold bulkS at h1
  omega
theorem bulk_len (rs : List RuleD) : rs.length ≤ bulkR rs := by unfold bulkR; omega

end Go.Proofs.Ytcgmnpfeiiomgaa

/- The program's readGram and GramRead. -/
namespace Go.Proofs.Ytcgmnpfeiiomgaa
open Go.RowKit
open Tx (bs)

/-- a grammar that a call has made of a text, or none -/
def MadeG (w : World) (o : Option (List RuleD)) (e : Ending) (w' : World) : Prop :=
  Below w.heap.size w w' ∧ match o with
    | none => e = .returned (.tuple #[.agg #[.slice none 0 0], .bool false])
    | some rs => ∃ v, e = .returned (.tuple #[.agg #[v], .bool true]) ∧ OwnR w' w.heap.size w'.heap.size v rs
theorem MadeG.no {w w' : World} {o : Option (List RuleD)} {e : Ending} (h : o = none) (hb : Below w.heap.size w w') (he : e = .returned (.tuple #[.agg #[.slice none 0 0], .bool false])) : MadeG w o e w' := by subst h; exact ⟨hb, he⟩
theorem MadeG.yes {w w' : World} {o : Option (List RuleD)} {rs : List RuleD} {v : Value} (h : o = some rs) (hb : Below w.heap.size w w') (ho : OwnR w' w.heap.size w'.heap.size v rs) : MadeG w o (.returned (.tuple #[.agg #[v], .bool true])) w' := by subst h; exact ⟨hb, v, rfl, ho⟩

theorem two_new (w : World) (a b : Value) : ∀ j u, [a, b][j]? = some u → ((w.alloc (.cells #[a, b] 47)).alloc (.cells #[a, b] 47)).cell? ((⟨w.heap.size + 1, 0, none⟩ : Addr).add j) = some u := by
  have e : (w.alloc (.cells #[a, b] 47)).heap.size = w.heap.size + 1 := by simp
  rw [← e]
  exact World.news_of_block (cs := #[a, b]) (t := 47) (fr := (0, 0)) (heap_alloc_new _ _)
theorem two_one (s : ByteArray) (A : Option Addr) (n c : Nat) : ∀ u ∈ [Value.string s, .slice A n c], u.oneCell' = true := by
  intro u hu
  simp only [List.mem_cons, List.not_mem_nil, or_false] at hu
  rcases hu with rfl | rfl <;> rfl

set_option maxRecDepth 100000 in
set_option maxHeartbeats 8000000 in
theorem readGram_any (t : ByteArray) (w : World) (ht : t.size ≤ 1000000) :
    Calls Try.prog 82 #[.string t] w (MadeG w (parseT t.data.toList)) := by
  obtain ⟨i0, hi0, hz0, hz1, hz2⟩ := info_parts Try.infoRule
  have hb := al1 w (.cells #[.slice none 0 0] 25)
  have R0 := Row.made w 25 #[.slice none 0 0]
  have hpl := pieces_len 10 t
  have hpos : 0 < (pieces 10 t).length := by rw [pieces_length]; exact splitB_pos 10 _
  have HP : Hid (pieces 10 t ≠ []) := Lib.hid (List.length_pos_iff.1 hpos)
  have hl1 : (pieces 10 t).length - 1 < (pieces 10 t).length := by omega
  have hll := linesOf_len t
  have HLL := Lib.hid hll
  clear hll
  go_enter Try.func82, Try.ntmps82
  go_wp2_with fail
  refine (implCutAt_any t 10 _ ht (by decide)).mono ?_
  rintro e w1 ⟨v, rfl, hs, b1⟩
  obtain ⟨g, cap, cur, rfl, hg, hrow, hlc, hc, hcc⟩ := hs.form HP.out
  have R1 := R0.below b1 (by simp)
  have c0 := R1.cell 0
  have f0 := R1.free 0
  simp at c0 hg
  have hb1 := hb.trans (b1.mono (by simp))
  have hlt1 : w.heap.size < w1.heap.size := by have := b1.size; simp at this; omega
  have hgl := hrow.lt
  have hlast := (hrow.cell ((pieces 10 t).length - 1)).trans (hcc ((pieces 10 t).length - 1) hl1)
  have eL := last_at (t := t) hl1
  have HRW := Lib.hid hrow
  have HCC := Lib.hid hcc
  have HR1 := Lib.hid R1
  have HB1 := Lib.hid hb1
  clear hs b1 R1 hrow hcc hb1 hb R0
  unfold maxLen at hc
  have hsub : ((pieces 10 t).length : Int) - 1 = (((pieces 10 t).length - 1 : Nat) : Int) := by omega
  generalize hL : (pieces 10 t)[(pieces 10 t).length - 1] = sL at hlast eL
  clear hL
  by_cases h0 : sL = ⟨#[]⟩
  · have HLA : Hid ((splitB 10 t.data.toList).getLastD [] = []) := Lib.hid (by rw [← eL, h0])
    subst h0
    clear eL
    go_wp2
    go_loopw [8, 9, 10, 26] (fun _ _ _ i wr => ∃ (k : Nat) (xs : List (RuleD × Value × Nat)) (v : Value), k ≤ (pieces 10 t).length - 1 ∧ i = .int .i64 (k : Int) ∧ xs.length = k ∧ readAll ((linesOf t).take k) = some (xs.map (·.1)) ∧ Row wr w1.heap.size 25 #[v] ∧ Grow wr (w.heap.size + 1) v xs ∧
      Row wr g 9 cur ∧ Row wr w.heap.size 25 #[.slice none 0 0] ∧ Below w.heap.size w wr) (fun _ _ _ i _ => (pieces 10 t).length - 1 - (intOf i).toNat)
    case atStart => exact ⟨0, [], .slice none 0 0, by omega, rfl, rfl, by simp [readAll], Row.made _ _ _, Grow.nil _ _, HRW.out.alloc _, HR1.out.alloc _, HB1.out.trans ((al1 _ _).mono HB1.out.size)⟩
    case round =>
      obtain ⟨k, xs, v, hk, rfl, hxl, hra, rG, grw, rL, r0, hbw⟩ := hrel
      have hsw := hbw.size
      have HXL := Lib.hid hxl
      have HRA := Lib.hid hra
      have hGl := rG.lt
      have hLl := rL.lt
      have h0l := r0.lt
      clear hxl hra
      by_cases hlt : k < (pieces 10 t).length - 1
      · have hkp : k < (pieces 10 t).length := by omega
        have hkl : k < (linesOf t).length := by rw [HLL.out]; exact hlt
        have hck := (rL.cell k).trans (HCC.out k hkp)
        have eK := linesOf_at hkl hkp
        have hsk : (pieces 10 t)[k].size ≤ 1000000 := by have := piece_size (List.getElem_mem hkp); omega
        generalize (pieces 10 t)[k] = line at hck eK hsk
        cases hr : readR line.data.toList with
        | none =>
          have HN := Lib.hid (parse_bad (readAll_bad hkl (by rw [← eK]; exact hr)))
          have HRR := Lib.hid hr
          clear hr eK
          go_wp2_with fail
          refine (readRule_none line _ hsk HRR.out).mono ?_
          rintro e w2 ⟨rfl, b2⟩
          have r2 := r0.below b2 h0l
          have c2 := r2.cell 0
          have f2 := r2.free 0
          simp at c2
          have hb2 := hbw.trans (b2.mono hsw)
          have hlt2 : w.heap.size < w2.heap.size := by have := b2.size; omega
          have HB2 := Lib.hid hb2
          clear rG grw rL r0 b2 r2 hb2
          go_wp2
          exact bodyPost_ret (v := .tuple #[.agg #[.slice none 0 0], .bool false]) (by simp [results, Try.results82, go_sem, c2, hlt2]) rfl (MadeG.no HN.out ((HB2.out.setCell (Nat.le_refl _) _).alloc (by simp [World.setCell]; omega) _) rfl)
        | some r =>
          have HRR := Lib.hid hr
          have HRS : Hid (readAll ((linesOf t).take (k + 1)) = some ((xs.map (·.1)) ++ [r])) := Lib.hid (by
            rw [List.take_succ_eq_append_getElem hkl, ← eK]
            exact readAll_snoc HRA.out hr)
          have hhd : r.head.size ≤ maxLen := by
            obtain ⟨_, _, q3, _⟩ := readR_some hr
            have h1 := splitB_pos 32 line.data.toList
            have h2 : r.head ∈ pieces 32 line := by
              rw [q3, List.getElem?_eq_getElem h1]
              exact List.mem_map_of_mem (List.getElem_mem h1)
            have := piece_size h2
            unfold maxLen; omega
          clear hr eK
          go_wp2_with fail
          refine (readRule_some line r _ hsk HRR.out).mono ?_
          rintro e w2 ⟨u, gu, rfl, ou, hgu, b2⟩
          have rG2 := rG.below b2 hGl
          have rL2 := rL.below b2 hLl
          have r02 := r0.below b2 h0l
          have grw2 := grw.below b2
          have hb2 := hbw.trans (b2.mono hsw)
          have z2 := b2.size
          have HD : Hid (r.body ≠ [] → ∀ x ∈ xs, x.1.body ≠ [] → x.2.2 ≠ gu) := Lib.hid (fun hn x hx hxn => by
            have := (grw.2.1 x hx).2.2 hxn
            have := hgu hn
            omega)
          have HOU := Lib.hid ou
          obtain ⟨Au, cu, rfl, -⟩ := ou
          have cG := rG2.cell 0
          have fG := rG2.free 0
          simp at cG
          have hxk : xs.length ≤ 1000001 := by rw [HXL.out]; omega
          have HG2 := Lib.hid grw2
          have HrG := Lib.hid rG2
          have HrL := Lib.hid rL2
          have Hr0 := Lib.hid r02
          have HB2 := Lib.hid hb2
          have hsz2 : w.heap.size < w2.heap.size := by omega
          have hsz2' : w1.heap.size < w2.heap.size := by omega
          have HNW := Lib.hid (two_new w2 (.string r.head) (.slice Au r.body.length cu))
          clear rG grw rL r0 b2 rG2 rL2 r02 grw2 hbw
          go_wp2_with (at_builtin; refine wpList_append_own _ rfl _ _ 23 rfl (w.heap.size + 1) 47 i0 _ 2 40 Try.underlying23 hi0 hz0 hz1 hz2 rfl (by decide) v xs.length (flatX xs) rfl (World.ownsRow.alloc (World.ownsRow.alloc HG2.out.1 _) _) ⟨w2.heap.size + 1, 0, none⟩ 1 1 [.string r.head, .slice Au r.body.length cu] rfl rfl HNW.out (two_one _ _ _ _) (by unfold maxLen; omega) (by omega) (by simp; omega) ?_)
          intro v' w5 hown5 hg5 _
          have A4 := al2 w2 (.cells #[.string r.head, .slice Au r.body.length cu] 47) (.cells #[.string r.head, .slice Au r.body.length cu] 47)
          have G4 := HG2.out.below A4
          have G5 := G4.snoc (r := r) (u := .slice Au r.body.length cu) (g := gu) hown5 hg5 (HOU.out.keep fun hn => A4.block _ (hgu hn).2) hhd (fun hn => by have := hgu hn; simp; omega) HD.out
          have rG5 := Tx.row_grown ((HrG.out.alloc _).alloc _) G4.1 (by decide) hg5
          have rL5 := Tx.row_grown ((HrL.out.alloc _).alloc _) G4.1 (by decide) hg5
          have r05 := Tx.row_grown ((Hr0.out.alloc _).alloc _) G4.1 (by decide) hg5
          have B5 : Below w.heap.size w w5 := Tx.below_grown (HB2.out.trans (A4.mono HB2.out.size)) G4.1 hg5 (by simp; omega) (by omega)
          obtain ⟨gv, cv, rfl, -⟩ := hown5.form (by omega)
          have c5 := rG5.cell 0
          have f5 := rG5.free 0
          simp at c5
          have G6 := G5.away (p := ⟨w1.heap.size, 0, none⟩) rG5 (by decide) (by decide) (.slice (some ⟨gv, 0, none⟩) (xs.length + 1) cv)
          have rG6 : Row (w5.setCell ⟨w1.heap.size, 0, none⟩ (.slice (some ⟨gv, 0, none⟩) (xs.length + 1) cv)) w1.heap.size 25 #[.slice (some ⟨gv, 0, none⟩) (xs.length + 1) cv] := by simpa using rG5.put 0 (.slice (some ⟨gv, 0, none⟩) (xs.length + 1) cv)
          have rL6 := rL5.away (p := ⟨w1.heap.size, 0, none⟩) (by show g ≠ w1.heap.size; omega) (.slice (some ⟨gv, 0, none⟩) (xs.length + 1) cv)
          have r06 := r05.away (p := ⟨w1.heap.size, 0, none⟩) (by show w.heap.size ≠ w1.heap.size; omega) (.slice (some ⟨gv, 0, none⟩) (xs.length + 1) cv)
          have B6 := B5.setCell (p := ⟨w1.heap.size, 0, none⟩) (by show w.heap.size ≤ w1.heap.size; omega) (.slice (some ⟨gv, 0, none⟩) (xs.length + 1) cv)
          have H6 := Lib.hid (And.intro rG6 (And.intro G6 (And.intro rL6 (And.intro r06 B6))))
          clear rG5 rL5 r05 B5 G5 G4 A4 hown5 hg5 rG6 rL6 r06 B6 G6
          go_wp2
          go_roundw
          case rel => exact ⟨k + 1, _, _, by omega, by go_num, by rw [List.length_append, HXL.out]; rfl, by rw [HRS.out, List.map_append]; rfl, H6.out.1, H6.out.2.1, H6.out.2.2.1, H6.out.2.2.2.1, H6.out.2.2.2.2⟩
          case measure => simp [intOf]; omega
      · have hkl : (linesOf t).take k = linesOf t := List.take_of_length_le (by rw [HLL.out]; omega)
        obtain ⟨rs, hrs⟩ : ∃ rs, rs = xs.map (·.1) := ⟨_, rfl⟩
        have HRW' : Hid (readAll (linesOf t) = some rs) := Lib.hid (by rw [← hkl, hrs]; exact HRA.out)
        have own : OwnR wr (w.heap.size + 1) wr.heap.size v rs := by rw [hrs]; exact grw.done
        have HOW := Lib.hid own
        clear hrs hkl grw HRA HXL
        obtain ⟨Av, cv, rfl, -⟩ := own
        have cG := rG.cell 0
        simp at cG
        have HrG := Lib.hid rG
        have Hr0 := Lib.hid r0
        clear rL
        cases hq : gramB rs
        · have HN := Lib.hid (parse_wrong HRW'.out hq)
          have HQ := Lib.hid hq
          clear hq rG r0
          go_wp2_with fail
          refine (implGramRight_any rs _ _ _ _ HOW.out.rules (Nat.le_refl _)).mono ?_
          rintro e w2 ⟨rfl, b2⟩
          rw [HQ.out]
          have r2 := Hr0.out.below b2 h0l
          have c2 := r2.cell 0
          have f2 := r2.free 0
          simp at c2
          have HB2 := Lib.hid (hbw.trans (b2.mono hsw))
          clear r2 b2
          go_wp2
          exact bodyPost_ret (v := .tuple #[.agg #[.slice none 0 0], .bool false]) (by simp [results, Try.results82, go_sem, c2]) rfl (MadeG.no HN.out (HB2.out.setCell (Nat.le_refl _) _) rfl)
        · have HY := Lib.hid (parse_right HLA.out HRW'.out hq)
          have HQ := Lib.hid hq
          clear hq rG r0
          go_wp2_with fail
          refine (implGramRight_any rs _ _ _ _ HOW.out.rules (Nat.le_refl _)).mono ?_
          rintro e w2 ⟨rfl, b2⟩
          rw [HQ.out]
          have r2 := Hr0.out.below b2 h0l
          have c2 := r2.cell 0
          have f2 := r2.free 0
          have cG2 := (HrG.out.below b2 hGl).cell 0
          simp at c2 cG2
          have hb2 := hbw.trans (b2.mono hsw)
          have HB2 := Lib.hid hb2
          have o2 := HOW.out.keep (Keeps.below b2 (Nat.le_refl _))
          have z2 := b2.size
          have HO2 := Lib.hid o2
          clear r2 b2 hb2 o2
          go_wp2
          refine bodyPost_ret (v := .tuple #[.agg #[.slice Av rs.length cv], .bool true]) (by simp [results, Try.results82, go_sem, c2]) rfl (MadeG.yes HY.out (HB2.out.setCell (Nat.le_refl _) _) ?_)
          have hk := HO2.out.keep (w' := w2.setCell ⟨w.heap.size, 0, none⟩ (.slice Av rs.length cv)) (fun j h1 h2 => Below.heap_setCell _ _ _ _ (by show j ≠ w.heap.size; omega))
          exact hk.more (by omega) (by simp [World.setCell]; omega)
  · have HN := Lib.hid (parse_last (t := t) (by rw [← eL]; exact fun e => h0 (ba_eq e)))
    have d0 := neq_lit (l := []) h0
    go_wp2
    exact bodyPost_ret (v := .tuple #[.agg #[.slice none 0 0], .bool false]) (by simp [results, Try.results82, go_sem, c0]) rfl (MadeG.no HN.out (HB1.out.setCell (Nat.le_refl _) _) rfl)
end Go.Proofs.Ytcgmnpfeiiomgaa
