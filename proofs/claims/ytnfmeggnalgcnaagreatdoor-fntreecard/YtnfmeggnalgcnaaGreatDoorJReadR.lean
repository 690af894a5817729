import Derived.Test.YtnfmeggnalgcnaaGreatDoorJTxt
import Derived.Test.YtnfmeggnalgcnaaGreatDoorJHeadsS
import Derived.Test.YtnfmeggnalgcnaaGreatDoorJCutJ
/- The model's text of a grammar: l02Text, GramText. -/
namespace Go.Proofs.YtnfmeggnalgcnaaGreatDoor
open Go.RowKit
open Tx (Bts bv bs textT lineT symsT Short)

theorem ret_strT {a b : ByteArray} (h : a = b) : Ending.returned (.string a) = .returned (.string b) := by rw [h]

set_option maxRecDepth 100000 in
set_option maxHeartbeats 4000000 in
theorem specText_any (rs : List RuleD) (v : Value) (lo hi : Nat) (w : World) (h : Rules w lo hi v rs) (hh : hi ≤ w.heap.size) (hlen : rs.length ≤ 20) (hshort : ∀ i (h : i < rs.length), Short rs[i]) :
    Calls Tryz.prog 93 #[.agg #[v]] w fun e w' => e = .returned (.string (bs (textT rs))) ∧ Below w.heap.size w w' := by
  obtain ⟨i0, hi0, hz0, hz1, hz2⟩ := info_parts Tx.infoB
  obtain ⟨A, c, rfl, hlc, hc, hcell⟩ := h
  unfold maxLen at hc
  have HC := Lib.hid hcell
  have HSH := Lib.hid hshort
  clear hcell hshort
  go_enter Tryz.func93, Tryz.ntmps93
  go_wp2
  go_loopw [3, 4, 5, 6] (fun x i _ _ wr => ∃ (k : Nat), k ≤ rs.length ∧ i = .int .i64 k ∧ Bts wr (w.heap.size + 1) x (textT (rs.take k)) ∧ Row wr w.heap.size 25 #[.slice A rs.length c] ∧ Below w.heap.size w wr) (fun _ i _ _ _ => rs.length - (intOf i).toNat)
  case atStart => exact ⟨0, by omega, rfl, by simpa [textT] using Tx.Bts.nil (w.alloc (.cells #[.slice A rs.length c] 25)) (base := w.heap.size + 1) (by simp), (Row.made _ _ _).alloc _, al2 _ _ _⟩
  case round =>
    obtain ⟨k, hk, rfl, hbts, hrow, hbw⟩ := hrel
    have hsw := hbw.size
    have hc0 := hrow.cell 0
    simp at hc0
    have hwl := hrow.lt
    have HW := Lib.hid hrow
    clear hrow
    by_cases hlt : k < rs.length
    · obtain ⟨b, off, rfl, _, hbh, hcc⟩ := HC.out (by omega)
      obtain ⟨hhs, hd0, u, hd1, hst⟩ := hcc k hlt
      have hd0' := (hbw.cell (p := ⟨b, off + k * 2, none⟩) (by show b < _; omega)).trans hd0
      have hd1' := (hbw.cell (p := ⟨b, off + k * 2 + 1, none⟩) (by show b < _; omega)).trans hd1
      obtain ⟨sh1, sh2, sh3⟩ := HSH.out k hlt
      have HS := Lib.hid hst
      clear hcc hd0 hd1
      obtain ⟨A', c', rfl, -⟩ := hst
      have ha := al1 wr (.cells #[.string rs[k].head, .slice A' rs[k].body.length c'] 45)
      have hR := Row.made wr 45 #[.string rs[k].head, .slice A' rs[k].body.length c']
      have htl := Tx.textT_len HSH.out k hk
      have hap : (rs[k].head ++ ⟨#[32, 45, 62]⟩ : ByteArray).size ≤ 7 := by rw [ByteArray.size_append]; show _ + 3 ≤ 7; omega
      have HSH3 := Lib.hid sh3
      clear sh3
      go_wp2_with (at_builtin; refine Lib.wpList_append_own_string _ rfl _ _ 22 9 rfl (w.heap.size + 1) 5 i0 Tryz.underlying22 Tryz.underlying9 hi0 hz0 hz1 hz2 _ _ _ rfl (World.ownsRow.alloc hbts _) (rs[k].head ++ ⟨#[32, 45, 62]⟩) rfl (by unfold maxLen; omega) (by omega) (by simp; omega) ?_)
      intro v1 w1 hown1 hg1 _
      have r1 : Row w1 wr.heap.size 45 #[.string rs[k].head, .slice A' rs[k].body.length c'] := Tx.row_grown hR (World.ownsRow.alloc hbts _) (by decide) hg1
      have q1 : Row w1 w.heap.size 25 #[.slice (some ⟨b, off, none⟩) rs.length c] := Tx.row_grown (HW.out.alloc _) (World.ownsRow.alloc hbts _) (by decide) hg1
      have hb1 : Below w.heap.size w w1 := Tx.below_grown (hbw.trans (ha.mono hsw)) (World.ownsRow.alloc hbts _) hg1 (by simp; omega) (by omega)
      have t1 : Bts w1 (w.heap.size + 1) v1 (textT (rs.take k) ++ (rs[k].head.data.toList ++ [32, 45, 62])) := by
        have := Tx.Bts.str (l := textT (rs.take k)) (s := rs[k].head ++ ⟨#[32, 45, 62]⟩) (by rw [ByteArray.size_append]; rfl) hown1
        exact this.to (by rw [Tx.bs_app]; rfl)
      clear hown1 hg1 hbts hR ha hbw hsw hc0 hd0' hd1'
      generalize hl1 : textT (rs.take k) ++ (rs[k].head.data.toList ++ [32, 45, 62]) = l1 at t1
      have HL1 := Lib.hid hl1
      have hll : l1.length ≤ 40 * k + 7 := by
        rw [← hl1]
        have : (rs[k].head.data.toList).length = rs[k].head.size := rfl
        simp only [List.length_append, List.length_cons, List.length_nil]; omega
      clear hl1
      go_wp2
      go_loopw [3, 6] (fun x i wr' => ∃ (j : Nat), j ≤ rs[k].body.length ∧ i = .int .i64 j ∧ Bts wr' (w.heap.size + 1) x (l1 ++ symsT (rs[k].body.take j)) ∧ Row wr' wr.heap.size 45 #[.string rs[k].head, .slice A' rs[k].body.length c'] ∧ Row wr' w.heap.size 25 #[.slice (some ⟨b, off, none⟩) rs.length c] ∧ Below w.heap.size w wr') (fun _ i _ => rs[k].body.length - (intOf i).toNat)
      case atStart => exact ⟨0, by omega, rfl, t1.to (by simp [symsT]), r1, q1, hb1⟩
      case round =>
        obtain ⟨j, hj, rfl, tb, rb, qb, hbb⟩ := hrel
        clear t1 r1 q1 hb1
        have e1 := rb.cell 1
        simp at e1
        have hsb := hbb.size
        have HSL := Tx.symsT_len HSH3.out j hj
        by_cases hjl : j < rs[k].body.length
        · obtain ⟨_, _, e0, _, _, _, hcellb⟩ := HS.out
          injection e0 with e01 _ e02
          subst e01 e02
          obtain ⟨b1, off1, rfl, _, hbh1, hcc1⟩ := hcellb (by omega)
          have hcb := (hbb.cell (p := ⟨b1, off1 + j, none⟩) (by show b1 < _; omega)).trans (hcc1 j hjl)
          have h4 := HSH3.out j hjl
          have hap2 : (⟨#[32]⟩ ++ rs[k].body[j] : ByteArray).size ≤ 5 := by rw [ByteArray.size_append]; show 1 + _ ≤ 5; omega
          clear hcellb hcc1
          generalize hl2 : l1 ++ symsT (rs[k].body.take j) = l2 at tb
          have hll2 : l2.length ≤ 40 * k + 7 + 5 * j := by rw [← hl2, List.length_append]; omega
          have HL2 := Lib.hid hl2
          clear hl2
          go_wp2_with (at_builtin; refine Lib.wpList_append_own_string _ rfl _ _ 22 9 rfl (w.heap.size + 1) 5 i0 Tryz.underlying22 Tryz.underlying9 hi0 hz0 hz1 hz2 _ _ _ rfl tb (⟨#[32]⟩ ++ rs[k].body[j]) rfl (by unfold maxLen; omega) (by omega) (by have := rb.lt; have := qb.lt; omega) ?_)
          intro v2 w2 hown2 hg2 _
          have r2 := Tx.row_grown rb tb (by decide) hg2
          have q2 := Tx.row_grown qb tb (by decide) hg2
          have hb2 : Below w.heap.size w w2 := Tx.below_grown hbb tb hg2 hsb (by omega)
          have t2 : Bts w2 (w.heap.size + 1) v2 (l1 ++ symsT (rs[k].body.take (j + 1))) := by
            have := Tx.Bts.str (l := l2) (s := ⟨#[32]⟩ ++ rs[k].body[j]) (by rw [ByteArray.size_append]; rfl) hown2
            exact this.to (by rw [← HL2.out, Tx.bs_app, Tx.symsT_take _ _ hjl, List.append_assoc]; rfl)
          clear hown2 hg2 tb rb qb hbb
          go_wp2
          go_roundw
          case rel => exact ⟨j + 1, by omega, by go_num, t2, r2, q2, hb2⟩
          case measure => simp [intOf]; omega
        · have hjk : j = rs[k].body.length := by omega
          subst hjk
          rw [List.take_length] at tb
          have HT := Lib.hid (Tx.textT_take rs k hlt)
          by_cases h0 : rs[k].body.length = 0
          · have hnil : rs[k].body = [] := List.eq_nil_of_length_eq_zero h0
            have d0 : ((rs[k].body.length : Int) == 0) = true := by rw [beq_iff_eq]; omega
            have HX := Lib.hid (Tx.lineT_none (l := textT (rs.take k)) hnil)
            rw [hnil] at tb
            generalize hl2 : l1 ++ symsT [] = l2 at tb
            have hll2 : l2.length ≤ 40 * k + 7 := by rw [← hl2]; simpa [symsT] using hll
            have HL2 := Lib.hid hl2
            clear hnil h0 hl2
            go_wp2_with (at_builtin; refine Lib.wpList_append_own_string _ rfl _ _ 22 9 rfl (w.heap.size + 1) 5 i0 Tryz.underlying22 Tryz.underlying9 hi0 hz0 hz1 hz2 _ _ _ rfl tb ⟨#[32, 126]⟩ rfl (by unfold maxLen; show _ + 2 ≤ _; omega) (by show _ + 2 ≤ _; omega) (by have := rb.lt; have := qb.lt; omega) ?_)
            intro v2 w2 hown2 hg2 _
            have q2 := Tx.row_grown qb tb (by decide) hg2
            have hb2 : Below w.heap.size w w2 := Tx.below_grown hbb tb hg2 hsb (by omega)
            have t2 : Bts w2 (w.heap.size + 1) v2 (l2 ++ [32, 126]) := Tx.Bts.str (l := l2) (s := ⟨#[32, 126]⟩) rfl hown2
            have hsz2 := hb2.size
            have hq2 := q2.lt
            generalize hl3 : l2 ++ [32, 126] = l3 at t2
            have hll3 : l3.length ≤ 40 * k + 9 := by rw [← hl3, List.length_append]; simp only [List.length_cons, List.length_nil]; omega
            have HL3 := Lib.hid hl3
            clear hown2 hg2 tb rb qb hbb hl3
            go_wp2_with (at_builtin; refine wpList_append_own _ rfl _ _ 22 rfl (w.heap.size + 1) 5 i0 (.int .u8 0) 1 1 Tryz.underlying22 hi0 hz0 hz1 hz2 rfl (by decide) _ _ _ rfl (World.ownsRow.alloc t2 _) ⟨w2.heap.size, 0, none⟩ 1 1 [.int .u8 10] rfl rfl (cell_one_new _ _ _) (Tx.one_cell _) (by unfold maxLen; omega) (by omega) (by simp; omega) ?_)
            intro v3 w3 hown3 hg3 _
            have q3 := Tx.row_grown (q2.alloc _) (World.ownsRow.alloc t2 _) (by decide) hg3
            have hb3 : Below w.heap.size w w3 := Tx.below_grown (hb2.trans ((al1 w2 _).mono hsz2)) (World.ownsRow.alloc t2 _) hg3 (by simp; omega) (by omega)
            have t3 : Bts w3 (w.heap.size + 1) v3 (textT (rs.take (k + 1))) := (Tx.Bts.one 10 hown3).to (by rw [HT.out, ← HX.out, HL1.out, HL2.out, HL3.out])
            clear hown3 hg3 t2 q2
            go_wp2
            go_roundw
            case rel => exact ⟨k + 1, by omega, by go_num, t3, q3, hb3⟩
            case measure => simp [intOf]; omega
          · have hne : rs[k].body ≠ [] := fun e => h0 (by rw [e]; rfl)
            have d0 : ((rs[k].body.length : Int) == 0) = false := by rw [beq_eq_false_iff_ne]; omega
            have HX := Lib.hid (Tx.lineT_some (l := textT (rs.take k)) hne)
            have hsl := Tx.symsT_len HSH3.out rs[k].body.length (Nat.le_refl _)
            rw [List.take_length] at hsl
            generalize hl2 : l1 ++ symsT rs[k].body = l2 at tb
            have hll2 : l2.length ≤ 40 * k + 40 := by rw [← hl2, List.length_append]; omega
            have HL2 := Lib.hid hl2
            have hq2 := qb.lt
            clear hl2 hne rb
            go_wp2_with (at_builtin; refine wpList_append_own _ rfl _ _ 22 rfl (w.heap.size + 1) 5 i0 (.int .u8 0) 1 1 Tryz.underlying22 hi0 hz0 hz1 hz2 rfl (by decide) _ _ _ rfl (World.ownsRow.alloc tb _) ⟨_, 0, none⟩ 1 1 [.int .u8 10] rfl rfl (cell_one_new _ _ _) (Tx.one_cell _) (by unfold maxLen; omega) (by omega) (by simp; omega) ?_)
            intro v3 w3 hown3 hg3 _
            have q3 := Tx.row_grown (qb.alloc _) (World.ownsRow.alloc tb _) (by decide) hg3
            have hb3 : Below w.heap.size w w3 := Tx.below_grown (hbb.trans ((al1 _ _).mono hsb)) (World.ownsRow.alloc tb _) hg3 (by simp; omega) (by omega)
            have t3 : Bts w3 (w.heap.size + 1) v3 (textT (rs.take (k + 1))) := (Tx.Bts.one 10 hown3).to (by rw [HT.out, ← HX.out, HL1.out, HL2.out])
            clear hown3 hg3 tb qb
            go_wp2
            go_roundw
            case rel => exact ⟨k + 1, by omega, by go_num, t3, q3, hb3⟩
            case measure => simp [intOf]; omega
    · have hks : k = rs.length := by omega
      subst hks
      rw [List.take_length] at hbts
      have hcv := hbts.conv
      clear hbts
      go_wp2
      go_ret
      exact ⟨rfl, hbw⟩

/-- the text of a right grammar -/
def gramT (rs : List RuleD) : ByteArray := if gramB rs = true then bs (textT rs) else bs []
theorem gramT_t {rs : List RuleD} (h : gramB rs = true) : gramT rs = bs (textT rs) := if_pos h
theorem gramT_f {rs : List RuleD} (h : gramB rs = false) : gramT rs = bs [] := if_neg (by rw [h]; decide)

set_option maxHeartbeats 1000000 in
theorem specGramText_any (rs : List RuleD) (v : Value) (lo hi : Nat) (w : World) (h : Rules w lo hi v rs) (hh : hi ≤ w.heap.size) :
    Calls Tryz.prog 78 #[.agg #[v]] w fun e w' => e = .returned (.string (gramT rs)) ∧ Below w.heap.size w w' := by
  have HV := Lib.hid h
  obtain ⟨A, c, rfl, -⟩ := h
  have hb := al1 w (.cells #[.slice A rs.length c] 25)
  have R0 := Row.made w 25 #[.slice A rs.length c]
  cases hq : gramB rs
  · rw [gramT_f hq]
    have HQ := Lib.hid hq
    clear hq
    go_enter Tryz.func78, Tryz.ntmps78
    go_wp2_with fail
    refine (specGramRight_any rs _ lo hi _ (HV.out.below hb hh) (by simp; omega)).mono ?_
    rintro e w1 ⟨rfl, b1⟩
    rw [HQ.out]
    go_wp2
    go_ret
    exact ⟨rfl, hb.trans (b1.mono (by simp))⟩
  · rw [gramT_t hq]
    have HQ := Lib.hid hq
    clear hq
    go_enter Tryz.func78, Tryz.ntmps78
    go_wp2_with fail
    refine (specGramRight_any rs _ lo hi _ (HV.out.below hb hh) (by simp; omega)).mono ?_
    rintro e w1 ⟨rfl, b1⟩
    rw [HQ.out]
    have c1 := (R0.below b1 (by simp)).cell 0
    simp at c1
    have hb1 := hb.trans (b1.mono (by simp))
    have z1 := hb1.size
    have hg := (gramB_iff rs).1 HQ.out
    have HG := Lib.hid hg
    clear hg
    go_wp2_with fail
    refine (specText_any rs _ lo hi _ (HV.out.below hb1 hh) (by omega) HG.out.2.1 (fun i hi => Tx.short_of (HG.out.2.2 i hi))).mono ?_
    rintro e w2 ⟨rfl, b2⟩
    go_wp2
    go_ret
    exact ⟨rfl, hb1.trans (b2.mono z1)⟩
end Go.Proofs.YtnfmeggnalgcnaaGreatDoor

/- The program's readRule. -/
namespace Go.Proofs.YtnfmeggnalgcnaaGreatDoor
open Go.RowKit
open Tx (bs)

theorem piece_size {m : UInt8} {t : ByteArray} {s : ByteArray} (h : s ∈ pieces m t) : s.size ≤ t.size := by
  have key : ∀ (l cur : List UInt8) (x : List UInt8), x ∈ splitGo m cur l → x.length ≤ cur.length + l.length := by
    intro l
    induction l with
    | nil => intro cur x hx; simp [splitGo] at hx; subst hx; simp
    | cons c l ih =>
      intro cur x hx
      unfold splitGo at hx
      split at hx
      · rw [List.mem_cons] at hx
        rcases hx with rfl | hx
        · simp
        · have := ih [] x hx; simp at this ⊢; omega
      · have := ih (cur ++ [c]) x hx; simp at this ⊢; omega
  unfold pieces at h
  obtain ⟨x, hx, rfl⟩ := List.mem_map.1 h
  have := key _ _ _ hx
  rw [Tx.bs_size]
  have e : t.data.toList.length = t.size := rfl
  simp only [List.length_nil] at this
  omega
theorem Sts.form {w : World} {base : Nat} {v : Value} {ss : List ByteArray} (h : Sts w base v ss) (hn : ss ≠ []) : ∃ g cap cur, v = .slice (some ⟨g, 0, none⟩) ss.length cap ∧ base ≤ g ∧ Row w g 9 cur ∧ ss.length ≤ cap ∧ cap ≤ maxLen ∧ ∀ i (h : i < ss.length), cur[i]? = some (.string ss[i]) := by
  rcases h.2 with ⟨rfl, h0⟩ | ⟨g, cap, cur, rfl, hb, hh, hc, hm, hs, ht⟩
  · exact absurd (List.eq_nil_of_length_eq_zero h0) hn
  · refine ⟨g, cap, cur, rfl, hb, hh, hc, hm, fun i hi => ?_⟩
    have h1 : (cur.toList.take (ss.length * 1))[i]? = some (.string ss[i]) := by rw [ht, List.getElem?_map, List.getElem?_eq_getElem hi]; rfl
    rw [List.getElem?_take_of_lt (by omega)] at h1
    rw [← Array.getElem?_toList]
    exact h1
theorem pieces_at {m : UInt8} {t : ByteArray} {i : Nat} (h : i < (pieces m t).length) : (pieces m t)[i].data.toList = (splitB m t.data.toList)[i]?.getD [] := by
  unfold pieces at h ⊢
  rw [List.length_map] at h
  rw [List.getElem_map, List.getElem?_eq_getElem h]; rfl
theorem pieces_length (m : UInt8) (t : ByteArray) : (pieces m t).length = (splitB m t.data.toList).length := by unfold pieces; rw [List.length_map]
theorem pieces_drop (m : UInt8) (t : ByteArray) (k : Nat) : (pieces m t).drop k = ((splitB m t.data.toList).drop k).map bs := by unfold pieces; rw [List.map_drop]

theorem neq_lit {s : ByteArray} {l : List UInt8} (h : s ≠ ⟨l.toArray⟩) : (s.toList == l) = false := by
  have := list_eqH s ⟨l.toArray⟩
  rw [decide_eq_false h, ByteArray.toList_eq ⟨l.toArray⟩] at this
  exact this
theorem eq_lit {s : ByteArray} {l : List UInt8} (h : s = ⟨l.toArray⟩) : (s.toList == l) = true := by
  have := list_eqH s ⟨l.toArray⟩
  rw [decide_eq_true h, ByteArray.toList_eq ⟨l.toArray⟩] at this
  exact this

/-- what a line that is read says of its words -/
theorem readR_some {l : List UInt8} {r : RuleD} (h : readR l = some r) : 3 ≤ (splitB 32 l).length ∧ (splitB 32 l)[1]?.getD [] = [45, 62] ∧ r.head = bs ((splitB 32 l)[0]?.getD []) ∧
    r.body = if 3 < (splitB 32 l).length ∨ (splitB 32 l)[2]?.getD [] ≠ [126] then ((splitB 32 l).drop 2).map bs else [] := by
  unfold readR at h
  simp only at h
  split at h
  · cases h
  · rename_i hn
    injection h with h
    subst h
    refine ⟨by
      have : ¬ (splitB 32 l).length < 3 := fun e => hn (.inl e)
      omega, ?_, rfl, rfl⟩
    by_cases e : (splitB 32 l)[1]?.getD [] = [45, 62]
    · exact e
    · exact absurd (.inr e) hn
theorem ba_eq {a b : ByteArray} (h : a.data.toList = b.data.toList) : a = b := ByteArray.ext (Array.ext' h)

theorem drop_own {W : World} {g cap : Nat} {cur : Array Value} {ps bd : List ByteArray} (hb : bd = ps.drop 2) (h3 : 3 ≤ ps.length) (hlc : ps.length ≤ cap) (hc : cap ≤ maxLen) (hsz : ∀ s ∈ ps, s.size ≤ maxLen) (hr : Row W g 9 cur)
    (hcc : ∀ i (h : i < ps.length), cur[i]? = some (.string ps[i])) : OwnS W g (.slice (some ⟨g, 2, none⟩) (ps.length - 2) (cap - 2)) bd := by
  subst hb
  refine ⟨_, cap - 2, by rw [List.length_drop], by rw [List.length_drop]; omega, by omega, fun s hs => hsz s (List.mem_of_mem_drop hs), fun _ => ⟨2, cur, rfl, hr, fun i hi => ?_⟩⟩
  rw [List.length_drop] at hi
  rw [hcc (2 + i) (by omega), List.getElem_drop]
/-- a rule that a call has made of a line -/
def MadeR (w : World) (r : RuleD) (e : Ending) (w' : World) : Prop := ∃ u g, e = .returned (.tuple #[.agg #[.string r.head, u], .bool true]) ∧ OwnS w' g u r.body ∧ (r.body ≠ [] → w.heap.size < g ∧ g < w'.heap.size) ∧ Below w.heap.size w w'

end Go.Proofs.YtnfmeggnalgcnaaGreatDoor
