import Derived.Test.YtonfiahihmcmlaaJCutI
/- The walks of Tokens, the program's and the model's. -/
namespace Go.Proofs.Ytonfiahihmcmlaa
open Go.RowKit Go.Maps

def addTok (acc : List ByteArray) (s : ByteArray) : List ByteArray := if tokB s = true then addSym acc s else acc
def toksIn (acc : List ByteArray) (body : List ByteArray) : List ByteArray := body.foldl addTok acc
def toksTo (rs : List RuleD) (k : Nat) : List ByteArray := (rs.take k).foldl (fun acc r => toksIn acc r.body) []
/-- the tokens of a right grammar -/
def toksOf (rs : List RuleD) : List ByteArray := if gramB rs = true then toksTo rs rs.length else []
theorem addTok_t {acc : List ByteArray} {s : ByteArray} (h : tokB s = true) : addTok acc s = addSym acc s := if_pos h
theorem addTok_f {acc : List ByteArray} {s : ByteArray} (h : tokB s = false) : addTok acc s = acc := if_neg (by rw [h]; decide)
theorem toksIn_succ {acc body : List ByteArray} {j : Nat} (h : j < body.length) : toksIn acc (body.take (j + 1)) = addTok (toksIn acc (body.take j)) body[j] := by
  unfold toksIn; rw [List.take_succ_eq_append_getElem h, List.foldl_append]; rfl
theorem toksTo_succ {rs : List RuleD} {k : Nat} (h : k < rs.length) : toksTo rs (k + 1) = toksIn (toksTo rs k) rs[k].body := by
  unfold toksTo; rw [List.take_succ_eq_append_getElem h, List.foldl_append]; rfl
/-- tokens alone, none twice -/
def Toks (acc : List ByteArray) : Prop := acc.Nodup ∧ ∀ s ∈ acc, tokB s = true
theorem Toks.add {acc : List ByteArray} (h : Toks acc) (s : ByteArray) : Toks (addTok acc s) := by
  unfold addTok
  split
  · rename_i ht
    refine ⟨addSym_nodup h.1, fun t hm => ?_⟩
    rcases mem_addSym hm with hm | hm
    · exact h.2 t hm
    · rw [hm]; exact ht
  · exact h
theorem Toks.into {acc : List ByteArray} (h : Toks acc) (body : List ByteArray) : Toks (toksIn acc body) := by
  unfold toksIn
  induction body generalizing acc with
  | nil => exact h
  | cons s l ih => exact ih (h.add s)
theorem Toks.to (rs : List RuleD) (k : Nat) : Toks (toksTo rs k) := by
  unfold toksTo
  have : ∀ (l : List RuleD) (acc : List ByteArray), Toks acc → Toks (l.foldl (fun acc r => toksIn acc r.body) acc) := by
    intro l
    induction l with
    | nil => exact fun acc h => h
    | cons r l ih => exact fun acc h => ih _ (h.into r.body)
  exact this _ _ ⟨by simp, by simp⟩
theorem addTok_len (acc : List ByteArray) (s : ByteArray) : (addTok acc s).length ≤ acc.length + 1 := by
  unfold addTok
  split
  · exact addSym_len acc s
  · omega
theorem toksIn_len (acc body : List ByteArray) : (toksIn acc body).length ≤ acc.length + body.length := by
  unfold toksIn
  induction body generalizing acc with
  | nil => simp
  | cons s l ih =>
    have h1 := ih (addTok acc s)
    have h2 := addTok_len acc s
    simp only [List.foldl_cons, List.length_cons]
    omega
theorem toksTo_len {rs : List RuleD} (h : ∀ i (h : i < rs.length), rs[i].body.length ≤ 5) (k : Nat) (hk : k ≤ rs.length) : (toksTo rs k).length ≤ 5 * k := by
  induction k with
  | zero => simp [toksTo]
  | succ k ih =>
    rw [toksTo_succ (by omega)]
    have h1 := toksIn_len (toksTo rs k) rs[k].body
    have h2 := ih (by omega)
    have h3 := h k (by omega)
    omega
theorem body5 {rs : List RuleD} (h : gramB rs = true) : ∀ i (h : i < rs.length), rs[i].body.length ≤ 5 := fun i hi => ((ruleB_iff _).1 (((gramB_iff rs).1 h).2.2 i hi)).2.1
theorem toksOf_len (rs : List RuleD) : (toksOf rs).length ≤ 1000 := by
  unfold toksOf
  split
  · rename_i h
    have := toksTo_len (body5 h) rs.length (Nat.le_refl _)
    have := ((gramB_iff rs).1 h).2.1
    omega
  · simp
theorem toksOf_t {rs : List RuleD} (h : gramB rs = true) : toksOf rs = toksTo rs rs.length := if_pos h
theorem toksOf_f {rs : List RuleD} (h : gramB rs = false) : toksOf rs = [] := if_neg (by rw [h]; decide)
theorem Toks.size {acc : List ByteArray} (h : Toks acc) : ∀ s ∈ acc, s.size ≤ 1000000 := fun s hs => by have := tokB_size (h.2 s hs); omega
theorem Toks.sizeM {acc : List ByteArray} (h : Toks acc) : ∀ s ∈ acc, s.size ≤ maxLen := fun s hs => by have := tokB_size (h.2 s hs); unfold maxLen; omega

set_option maxRecDepth 100000 in
set_option maxHeartbeats 4000000 in
theorem implTokens_any (rs : List RuleD) (v : Value) (lo hi : Nat) (w : World) (h : Rules w lo hi v rs) (hh : hi ≤ w.heap.size) :
    Calls Try.prog 23 #[.agg #[v]] w (MadeS w (toksOf rs)) := by
  have HV := Lib.hid h
  obtain ⟨A, c, rfl, hlc, hc, hcell⟩ := h
  unfold maxLen at hc
  have HC := Lib.hid hcell
  clear hcell
  have hb := al1 w (.cells #[.slice A rs.length c] 25)
  have R0 := Row.made w 25 #[.slice A rs.length c]
  cases hq : gramB rs
  · rw [toksOf_f hq]
    have HQ := Lib.hid hq
    clear hq
    go_enter Try.func23, Try.ntmps23
    go_wp2_with fail
    refine (implGramRight_any rs _ lo hi _ (HV.out.below hb hh) (by simp; omega)).mono ?_
    rintro e w1 ⟨rfl, b1⟩
    rw [HQ.out]
    go_wp2
    go_ret
    exact ⟨_, 0, rfl, OwnS.nil _ _, fun hn => absurd rfl hn, hb.trans (b1.mono (by simp))⟩
  · rw [toksOf_t hq]
    have HG := Lib.hid ((gramB_iff rs).1 hq)
    have HB5 := Lib.hid (body5 hq)
    have HQ := Lib.hid hq
    have hl20 := HG.out.2.1
    clear hq
    go_enter Try.func23, Try.ntmps23
    go_wp2_with fail
    refine (implGramRight_any rs _ lo hi _ (HV.out.below hb hh) (by simp; omega)).mono ?_
    rintro e w1 ⟨rfl, b1⟩
    rw [HQ.out]
    have hb1 := hb.trans (b1.mono (by simp))
    have z1 : w.heap.size + 1 ≤ w1.heap.size := by have := b1.size; simpa using this
    have R1 := R0.below b1 (by simp)
    clear b1 R0 hb
    go_wp2_with fail
    refine (newSymbolList_any _).mono ?_
    rintro e w2 ⟨b, rfl, hn2, hbl, hbl2, b2⟩
    have hb2 := hb1.trans (b2.mono (by omega))
    have z2 := b2.size
    have c2 := (R1.below b2 (by omega)).cell 0
    simp at c2
    have N3 : Nums (w2.alloc (.cells #[.map (some b)] 103)) b [] := hn2.keep (Below.heap_alloc _ _ _ hbl2)
    have R3 := Row.made w2 103 #[.map (some b)]
    have hb3 := hb2.trans ((al1 w2 (.cells #[.map (some b)] 103)).mono hb2.size)
    have hlt2 : w.heap.size < w2.heap.size := by omega
    clear hn2 R1 hb1 b2
    go_wp2
    go_loopw [5, 7, 15] (fun _ _ i wr => ∃ (k : Nat), k ≤ rs.length ∧ i = .int .i64 k ∧ Nums wr b (toksTo rs k) ∧ Row wr w2.heap.size 103 #[.map (some b)] ∧ Below w.heap.size w wr) (fun _ _ i _ => rs.length - (intOf i).toNat)
    case atStart => exact ⟨0, by omega, rfl, N3, R3, hb3⟩
    case round =>
      obtain ⟨k, hk, rfl, hnum, hrow, hbw⟩ := hrel
      have hsw := hbw.size
      have hwl := hrow.lt
      have hnl := hnum.lt
      have hln := toksTo_len HB5.out k hk
      clear N3 R3 hb3 hb2
      by_cases hlt : k < rs.length
      · obtain ⟨b0, off, rfl, _, hbh, hcc⟩ := HC.out (by omega)
        obtain ⟨hhs, hc0, u, hc1, hst⟩ := hcc k hlt
        have hc0' := (hbw.cell (p := ⟨b0, off + k * 2, none⟩) (by show b0 < _; omega)).trans hc0
        have hc1' := (hbw.cell (p := ⟨b0, off + k * 2 + 1, none⟩) (by show b0 < _; omega)).trans hc1
        obtain ⟨A', c', rfl, hlc', hc', hsz', hcell'⟩ := hst
        have HC' := Lib.hid hcell'
        have HZ' := Lib.hid hsz'
        unfold maxLen at hc'
        clear hcc hc0 hc1 hcell' hsz'
        have ha := al1 wr (.cells #[.string rs[k].head, .slice A' rs[k].body.length c'] 49)
        have HSU := Lib.hid (toksTo_succ hlt)
        have h5 := HB5.out k hlt
        have N4 : Nums (wr.alloc (.cells #[.string rs[k].head, .slice A' rs[k].body.length c'] 49)) b (toksTo rs k) := hnum.below ha hnl
        have R4 := hrow.alloc (.cells #[.string rs[k].head, .slice A' rs[k].body.length c'] 49)
        have B4 := hbw.trans (ha.mono hsw)
        clear hrow hnum hbw
        go_wp2
        go_loopw [7, 22] (fun _ i wr' => ∃ (j : Nat), j ≤ rs[k].body.length ∧ i = .int .i64 j ∧ Nums wr' b (toksIn (toksTo rs k) (rs[k].body.take j)) ∧ Row wr' w2.heap.size 103 #[.map (some b)] ∧ Below w.heap.size w wr') (fun _ i _ => rs[k].body.length - (intOf i).toNat)
        case atStart => exact ⟨0, by omega, rfl, by simpa [toksIn] using N4, R4, B4⟩
        case round =>
          obtain ⟨j, hj, rfl, hnum, hrow, hbb⟩ := hrel
          have hsb := hbb.size
          have hnl2 := hnum.lt
          have hrl2 := hrow.lt
          have HT := Lib.hid ((Toks.to rs k).into (rs[k].body.take j))
          have hl2 := toksIn_len (toksTo rs k) (rs[k].body.take j)
          have hl3 : (rs[k].body.take j).length ≤ j := List.length_take_le _ _
          clear N4 R4 B4
          by_cases hjl : j < rs[k].body.length
          · obtain ⟨b1, off1, rfl, _, hbh1, hcc1⟩ := HC'.out (by omega)
            have hcb := (hbb.cell (p := ⟨b1, off1 + j, none⟩) (by show b1 < _; omega)).trans (hcc1 j hjl)
            have hsj := HZ'.out _ (List.getElem_mem hjl)
            have HSI := Lib.hid (toksIn_succ (acc := toksTo rs k) hjl)
            clear hcc1
            cases ht : tokB rs[k].body[j]
            · have HTK := Lib.hid ht
              have HAT := Lib.hid (addTok_f (acc := toksIn (toksTo rs k) (rs[k].body.take j)) ht)
              clear ht
              go_wp2_with fail
              refine (implIsToken_any _ _).mono ?_
              rintro e w5 ⟨rfl, b5⟩
              rw [HTK.out]
              have N5 := hnum.below b5 hnl2
              have R5 := hrow.below b5 hrl2
              have B5 := hbb.trans (b5.mono hsb)
              rw [← HAT.out, ← HSI.out] at N5
              clear hnum hrow b5
              go_wp2
              go_roundw
              case rel => exact ⟨j + 1, by omega, by go_num, N5, R5, B5⟩
              case measure => simp [intOf]; omega
            · have HTK := Lib.hid ht
              have HAT := Lib.hid (addTok_t (acc := toksIn (toksTo rs k) (rs[k].body.take j)) ht)
              clear ht
              go_wp2_with fail
              refine (implIsToken_any _ _).mono ?_
              rintro e w5 ⟨rfl, b5⟩
              rw [HTK.out]
              have N5 := hnum.below b5 hnl2
              have R5 := hrow.below b5 hrl2
              have B5 := hbb.trans (b5.mono hsb)
              have z5 := b5.size
              have r5 := R5.cell 0
              simp at r5
              clear hnum hrow b5
              go_wp2_with fail
              refine (number_any b (toksIn (toksTo rs k) (rs[k].body.take j)) rs[k].body[j] _ N5 HT.out.1 hsj (by omega)).mono ?_
              rintro e w6 ⟨rfl, N6, g6⟩
              have R6 : Row w6 w2.heap.size 103 #[.map (some b)] := R5.same (g6.block _ R5.lt (by simp; omega))
              have B6 : Below w.heap.size w w6 := B5.grown g6 (by omega) (fun q hq => by injection hq with hq; omega)
              rw [← HAT.out, ← HSI.out] at N6
              clear N5 R5 g6
              go_wp2
              go_roundw
              case rel => exact ⟨j + 1, by omega, by go_num, N6, R6, B6⟩
              case measure => simp [intOf]; omega
          · have hjk : j = rs[k].body.length := by omega
            subst hjk
            rw [List.take_length] at hnum
            rw [← HSU.out] at hnum
            go_wp2
            go_roundw
            case rel => exact ⟨k + 1, by omega, by go_num, hnum, hrow, hbb⟩
            case measure => simp [intOf]; omega
      · have hks : k = rs.length := by omega
        subst hks
        have hr0 := hrow.cell 0
        simp at hr0
        have HT := Lib.hid (Toks.to rs rs.length)
        clear hrow
        go_wp2_with fail
        refine (told_any b (toksTo rs rs.length) _ hnum HT.out.1 (by omega) HT.out.size).mono ?_
        rintro e w6 ⟨u, g, rfl, o6, h61, h62, b6⟩
        go_wp2
        go_ret
        exact ⟨u, g, rfl, o6, fun _ => ⟨by omega, h62⟩, hbw.trans (b6.mono hsw)⟩
end Go.Proofs.Ytonfiahihmcmlaa

/- The walk of the model's Tokens. -/
namespace Go.Proofs.Ytonfiahihmcmlaa
open Go.RowKit

set_option maxRecDepth 100000 in
set_option maxHeartbeats 4000000 in
theorem specTokens_any (rs : List RuleD) (v : Value) (lo hi : Nat) (w : World) (h : Rules w lo hi v rs) (hh : hi ≤ w.heap.size) :
    Calls Try.prog 24 #[.agg #[v]] w (MadeS w (toksOf rs)) := by
  obtain ⟨i0, hi0, hz0, hz1, hz2⟩ := info_parts Try.infoStr
  have HV := Lib.hid h
  obtain ⟨A, c, rfl, hlc, hc, hcell⟩ := h
  unfold maxLen at hc
  have HC := Lib.hid hcell
  clear hcell
  have hb := al2 w (.cells #[.slice A rs.length c] 25) (.cells #[] 9)
  have R0 := (Row.made w 25 #[.slice A rs.length c]).alloc (.cells #[] 9)
  have S0 : Sts ((w.alloc (.cells #[.slice A rs.length c] 25)).alloc (.cells #[] 9)) (w.heap.size + 1) (.slice (some ⟨w.heap.size + 1, 0, none⟩) 0 0) [] := by
    simpa using Sts.nil (w.alloc (.cells #[.slice A rs.length c] 25)) (base := w.heap.size + 1) (by simp)
  cases hq : gramB rs
  · rw [toksOf_f hq]
    have HQ := Lib.hid hq
    clear hq
    go_enter Try.func24, Try.ntmps24
    go_wp2_with fail
    refine (specGramRight_any rs _ lo hi _ (HV.out.below hb hh) (by simp; omega)).mono ?_
    rintro e w1 ⟨rfl, b1⟩
    rw [HQ.out]
    go_wp2
    go_ret
    exact ⟨_, 0, rfl, ⟨_, 0, rfl, Nat.le_refl _, by unfold maxLen; omega, by simp, fun h => by simp at h⟩, fun hn => absurd rfl hn, hb.trans (b1.mono (by simp; omega))⟩
  · rw [toksOf_t hq]
    have HG := Lib.hid ((gramB_iff rs).1 hq)
    have HB5 := Lib.hid (body5 hq)
    have HQ := Lib.hid hq
    have hl20 := HG.out.2.1
    clear hq
    go_enter Try.func24, Try.ntmps24
    go_wp2_with fail
    refine (specGramRight_any rs _ lo hi _ (HV.out.below hb hh) (by simp; omega)).mono ?_
    rintro e w1 ⟨rfl, b1⟩
    rw [HQ.out]
    have R1 := R0.below b1 (by simp; omega)
    have hb1 := hb.trans (b1.mono (by simp; omega))
    have z1 : w.heap.size + 1 + 1 ≤ w1.heap.size := by have := b1.size; simpa using this
    have S1 : Sts w1 (w.heap.size + 1) (.slice (some ⟨w.heap.size + 1, 0, none⟩) 0 0) [] := World.ownsRow.kept S0 (row := none) ⟨b1.os, b1.tape, b1.output, b1.size, fun k hk _ => b1.block k hk⟩ (.inr (by simp [Value.ownBlock]))
    clear b1 R0 S0 hb
    go_wp2
    go_loopw [3, 4, 5, 6] (fun x i _ _ wr => ∃ (k : Nat), k ≤ rs.length ∧ i = .int .i64 k ∧ Sts wr (w.heap.size + 1) x (toksTo rs k) ∧ Row wr w.heap.size 25 #[.slice A rs.length c] ∧ Below w.heap.size w wr) (fun _ i _ _ _ => rs.length - (intOf i).toNat)
    case atStart => exact ⟨0, by omega, rfl, S1, R1, hb1⟩
    case round =>
      obtain ⟨k, hk, rfl, hsts, hrow, hbw⟩ := hrel
      have hln := toksTo_len HB5.out k hk
      clear S1 R1 hb1
      by_cases hlt : k < rs.length
      · obtain ⟨b0, off, rfl, _, hbh, hcc⟩ := HC.out (by omega)
        obtain ⟨hhs, hd0, u, hd1, hst⟩ := hcc k hlt
        obtain ⟨A', c', rfl, hlc', hc', hsz', hcell'⟩ := hst
        have HC' := Lib.hid hcell'
        have HZ' := Lib.hid hsz'
        have HSU := Lib.hid (toksTo_succ hlt)
        have h5 := HB5.out k hlt
        have HD1 := Lib.hid hd1
        unfold maxLen at hc'
        clear hcc hd0 hd1 hcell' hsz'
        have c0 := hrow.cell 0
        simp at c0
        go_wp2
        go_loopw [3, 5, 6] (fun x i _ wr' => ∃ (j : Nat), j ≤ rs[k].body.length ∧ i = .int .i64 j ∧ Sts wr' (w.heap.size + 1) x (toksIn (toksTo rs k) (rs[k].body.take j)) ∧ Row wr' w.heap.size 25 #[.slice (some ⟨b0, off, none⟩) rs.length c] ∧ Below w.heap.size w wr') (fun _ i _ _ => rs[k].body.length - (intOf i).toNat)
        case atStart => exact ⟨0, by omega, rfl, by simpa [toksIn] using hsts, hrow, hbw⟩
        case round =>
          obtain ⟨j, hj, rfl, stb, rwb, hbb⟩ := hrel
          have hsb := hbb.size
          have hrl := rwb.lt
          have HT := Lib.hid ((Toks.to rs k).into (rs[k].body.take j))
          have hl2 := toksIn_len (toksTo rs k) (rs[k].body.take j)
          have hl3 : (rs[k].body.take j).length ≤ j := List.length_take_le _ _
          have e0 := rwb.cell 0
          simp at e0
          have e1 := (hbb.cell (p := ⟨b0, off + k * 2 + 1, none⟩) (by show b0 < _; omega)).trans HD1.out
          have HRB := Lib.hid rwb
          clear hsts hrow hbw c0 rwb
          by_cases hjl : j < rs[k].body.length
          · obtain ⟨b1, off1, rfl, _, hbh1, hcc1⟩ := HC'.out (by omega)
            have hcb := (hbb.cell (p := ⟨b1, off1 + j, none⟩) (by show b1 < _; omega)).trans (hcc1 j hjl)
            have hsj := HZ'.out _ (List.getElem_mem hjl)
            have HSI := Lib.hid (toksIn_succ (acc := toksTo rs k) hjl)
            clear hcc1
            cases ht : tokB rs[k].body[j]
            · have HTK := Lib.hid ht
              have HAT := Lib.hid (addTok_f (acc := toksIn (toksTo rs k) (rs[k].body.take j)) ht)
              clear ht
              go_wp2_with fail
              refine (specIsToken_any _ _ hsj).mono ?_
              rintro e w5 ⟨rfl, rfl⟩
              rw [HTK.out]
              rw [← HAT.out, ← HSI.out] at stb
              go_wp2
              go_roundw
              case rel => exact ⟨j + 1, by omega, by go_num, stb, HRB.out, hbb⟩
              case measure => simp [intOf]; omega
            · have HTK := Lib.hid ht
              have HAT := Lib.hid (addTok_t (acc := toksIn (toksTo rs k) (rs[k].body.take j)) ht)
              clear ht
              cases hin : inB (toksIn (toksTo rs k) (rs[k].body.take j)) rs[k].body[j]
              · have HI := Lib.hid hin
                have HA := Lib.hid (addSym_out hin)
                clear hin
                go_wp2_with fail
                refine (specIsToken_any _ _ hsj).mono ?_
                rintro e w5 ⟨rfl, rfl⟩
                rw [HTK.out]
                go_wp2_with fail
                refine (specIn_any _ (toksIn (toksTo rs k) (rs[k].body.take j)) rs[k].body[j] _ _ _ (stb.strs HT.out.sizeM)).mono ?_
                rintro e w5 ⟨rfl, rfl⟩
                rw [HI.out]
                generalize hL : toksIn (toksTo rs k) (rs[k].body.take j) = L at *
                have HL := Lib.hid hL
                clear hL
                go_wp2_with (at_builtin; refine wpList_append_own _ rfl _ _ 34 rfl (w.heap.size + 1) 9 i0 (.string ByteArray.empty) 1 16 Try.underlying34 hi0 hz0 hz1 hz2 rfl (by decide) _ _ _ rfl (World.ownsRow.alloc stb _) ⟨_, 0, none⟩ 1 1 [.string rs[k].body[j]] rfl rfl (cell_one_new _ _ _) (one_str _) (by unfold maxLen; omega) (by omega) (by simp; omega) ?_)
                intro v1 w6 hown1 hg1 _
                have s1 : Sts w6 (w.heap.size + 1) v1 (toksIn (toksTo rs k) (rs[k].body.take (j + 1))) := by
                  rw [HSI.out, HAT.out, HA.out]
                  exact Sts.one _ hown1
                have q1 := Tx.row_grown (HRB.out.alloc _) (World.ownsRow.alloc stb _) (by decide) hg1
                have hb6 : Below w.heap.size w w6 := Tx.below_grown (hbb.trans ((al1 _ _).mono hsb)) (World.ownsRow.alloc stb _) hg1 (by simp; omega) (by omega)
                clear hown1 hg1 stb
                go_wp2
                go_roundw
                case rel => exact ⟨j + 1, by omega, by go_num, s1, q1, hb6⟩
                case measure => simp [intOf]; omega
              · have HI := Lib.hid hin
                have HA := Lib.hid (addSym_in hin)
                clear hin
                go_wp2_with fail
                refine (specIsToken_any _ _ hsj).mono ?_
                rintro e w5 ⟨rfl, rfl⟩
                rw [HTK.out]
                go_wp2_with fail
                refine (specIn_any _ (toksIn (toksTo rs k) (rs[k].body.take j)) rs[k].body[j] _ _ _ (stb.strs HT.out.sizeM)).mono ?_
                rintro e w5 ⟨rfl, rfl⟩
                rw [HI.out]
                rw [← HA.out, ← HAT.out, ← HSI.out] at stb
                go_wp2
                go_roundw
                case rel => exact ⟨j + 1, by omega, by go_num, stb, HRB.out, hbb⟩
                case measure => simp [intOf]; omega
          · have hjk : j = rs[k].body.length := by omega
            subst hjk
            rw [List.take_length] at stb
            rw [← HSU.out] at stb
            go_wp2
            go_roundw
            case rel => exact ⟨k + 1, by omega, by go_num, stb, HRB.out, hbb⟩
            case measure => simp [intOf]; omega
      · have hks : k = rs.length := by omega
        subst hks
        obtain ⟨g, ho, hg⟩ := hsts.own (Toks.to rs rs.length).sizeM
        have c0 := hrow.cell 0
        simp at c0
        clear hsts hrow
        go_wp2
        go_ret
        exact ⟨_, g, rfl, ho, fun hn => by have := hg hn; omega, hbw⟩
end Go.Proofs.Ytonfiahihmcmlaa
