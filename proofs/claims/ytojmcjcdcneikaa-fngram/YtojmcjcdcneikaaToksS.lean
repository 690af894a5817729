/- The walk of the model's Tokens. -/
import Derived.Test.YtojmcjcdcneikaaToks
namespace Go.Proofs.Ytojmcjcdcneikaa
open Go.RowKit

set_option maxRecDepth 100000 in
set_option maxHeartbeats 4000000 in
theorem specTokens_any (rs : List RuleD) (v : Value) (lo hi : Nat) (w : World) (h : Rules w lo hi v rs) (hh : hi ≤ w.heap.size) :
    Calls Try.prog 24 #[.agg #[v]] w (MadeS w (toksOf rs)) := by
  obtain ⟨i0, hi0, hz0, hz1, hz2⟩ := info_parts Try.infoStr
  have HV := Lib.hid h
  obtain ⟨A, c, rfl, hlc, hc, hcell⟩ := h
  unfold maxLen at hc
  have HC := Lib.hid hcell
  clear hcell
  have hb := al2 w (.cells #[.slice A rs.length c] 25) (.cells #[] 9)
  have R0 := (Row.made w 25 #[.slice A rs.length c]).alloc (.cells #[] 9)
  have S0 : Sts ((w.alloc (.cells #[.slice A rs.length c] 25)).alloc (.cells #[] 9)) (w.heap.size + 1) (.slice (some ⟨w.heap.size + 1, 0, none⟩) 0 0) [] := by
    simpa using Sts.nil (w.alloc (.cells #[.slice A rs.length c] 25)) (base := w.heap.size + 1) (by simp)
  cases hq : gramB rs
  · rw [toksOf_f hq]
    have HQ := Lib.hid hq
    clear hq
    go_enter Try.func24, Try.ntmps24
    go_wp2_with fail
    refine (specGramRight_any rs _ lo hi _ (HV.out.below hb hh) (by simp; omega)).mono ?_
    rintro e w1 ⟨rfl, b1⟩
    rw [HQ.out]
    go_wp2
    go_ret
    exact ⟨_, 0, rfl, ⟨_, 0, rfl, Nat.le_refl _, by unfold maxLen; omega, by simp, fun h => by simp at h⟩, fun hn => absurd rfl hn, hb.trans (b1.mono (by simp; omega))⟩
  · rw [toksOf_t hq]
    have HG := Lib.hid ((gramB_iff rs).1 hq)
    have HB5 := Lib.hid (body5 hq)
    have HQ := Lib.hid hq
    have hl20 := HG.out.2.1
    clear hq
    go_enter Try.func24, Try.ntmps24
    go_wp2_with fail
    refine (specGramRight_any rs _ lo hi _ (HV.out.below hb hh) (by simp; omega)).mono ?_
    rintro e w1 ⟨rfl, b1⟩
    rw [HQ.out]
    have R1 := R0.below b1 (by simp; omega)
    have hb1 := hb.trans (b1.mono (by simp; omega))
    have z1 : w.heap.size + 1 + 1 ≤ w1.heap.size := by have := b1.size; simpa using this
    have S1 : Sts w1 (w.heap.size + 1) (.slice (some ⟨w.heap.size + 1, 0, none⟩) 0 0) [] := World.ownsRow.kept S0 (row := none) ⟨b1.os, b1.tape, b1.output, b1.size, fun k hk _ => b1.block k hk⟩ (.inr (by simp [Value.ownBlock]))
    clear b1 R0 S0 hb
    go_wp2
    go_loopw [3, 4, 5, 6] (fun x i _ _ wr => ∃ (k : Nat), k ≤ rs.length ∧ i = .int .i64 k ∧ Sts wr (w.heap.size + 1) x (toksTo rs k) ∧ Row wr w.heap.size 25 #[.slice A rs.length c] ∧ Below w.heap.size w wr) (fun _ i _ _ _ => rs.length - (intOf i).toNat)
    case atStart => exact ⟨0, by omega, rfl, S1, R1, hb1⟩
    case round =>
      obtain ⟨k, hk, rfl, hsts, hrow, hbw⟩ := hrel
      have hln := toksTo_len HB5.out k hk
      clear S1 R1 hb1
      by_cases hlt : k < rs.length
      · obtain ⟨b0, off, rfl, _, hbh, hcc⟩ := HC.out (by omega)
        obtain ⟨hhs, hd0, u, hd1, hst⟩ := hcc k hlt
        obtain ⟨A', c', rfl, hlc', hc', hsz', hcell'⟩ := hst
        have HC' := Lib.hid hcell'
        have HZ' := Lib.hid hsz'
        have HSU := Lib.hid (toksTo_succ hlt)
        have h5 := HB5.out k hlt
        have HD1 := Lib.hid hd1
        unfold maxLen at hc'
        clear hcc hd0 hd1 hcell' hsz'
        have c0 := hrow.cell 0
        simp at c0
        go_wp2
        go_loopw [3, 5, 6] (fun x i _ wr' => ∃ (j : Nat), j ≤ rs[k].body.length ∧ i = .int .i64 j ∧ Sts wr' (w.heap.size + 1) x (toksIn (toksTo rs k) (rs[k].body.take j)) ∧ Row wr' w.heap.size 25 #[.slice (some ⟨b0, off, none⟩) rs.length c] ∧ Below w.heap.size w wr') (fun _ i _ _ => rs[k].body.length - (intOf i).toNat)
        case atStart => exact ⟨0, by omega, rfl, by simpa [toksIn] using hsts, hrow, hbw⟩
        case round =>
          obtain ⟨j, hj, rfl, stb, rwb, hbb⟩ := hrel
          have hsb := hbb.size
          have hrl := rwb.lt
          have HT := Lib.hid ((Toks.to rs k).into (rs[k].body.take j))
          have hl2 := toksIn_len (toksTo rs k) (rs[k].body.take j)
          have hl3 : (rs[k].body.take j).length ≤ j := List.length_take_le _ _
          have e0 := rwb.cell 0
          simp at e0
          have e1 := (hbb.cell (p := ⟨b0, off + k * 2 + 1, none⟩) (by show b0 < _; omega)).trans HD1.out
          have HRB := Lib.hid rwb
          clear hsts hrow hbw c0 rwb
          by_cases hjl : j < rs[k].body.length
          · obtain ⟨b1, off1, rfl, _, hbh1, hcc1⟩ := HC'.out (by omega)
            have hcb := (hbb.cell (p := ⟨b1, off1 + j, none⟩) (by show b1 < _; omega)).trans (hcc1 j hjl)
            have hsj := HZ'.out _ (List.getElem_mem hjl)
            have HSI := Lib.hid (toksIn_succ (acc := toksTo rs k) hjl)
            clear hcc1
            cases ht : tokB rs[k].body[j]
            · have HTK := Lib.hid ht
              have HAT := Lib.hid (addTok_f (acc := toksIn (toksTo rs k) (rs[k].body.take j)) ht)
              clear ht
              go_wp2_with fail
              refine (specIsToken_any _ _ hsj).mono ?_
              rintro e w5 ⟨rfl, rfl⟩
              rw [HTK.out]
              rw [← HAT.out, ← HSI.out] at stb
              go_wp2
              go_roundw
              case rel => exact ⟨j + 1, by omega, by go_num, stb, HRB.out, hbb⟩
              case measure => simp [intOf]; omega
            · have HTK := Lib.hid ht
              have HAT := Lib.hid (addTok_t (acc := toksIn (toksTo rs k) (rs[k].body.take j)) ht)
              clear ht
              cases hin : inB (toksIn (toksTo rs k) (rs[k].body.take j)) rs[k].body[j]
              · have HI := Lib.hid hin
                have HA := Lib.hid (addSym_out hin)
                clear hin
                go_wp2_with fail
                refine (specIsToken_any _ _ hsj).mono ?_
                rintro e w5 ⟨rfl, rfl⟩
                rw [HTK.out]
                go_wp2_with fail
                refine (specIn_any _ (toksIn (toksTo rs k) (rs[k].body.take j)) rs[k].body[j] _ _ _ (stb.strs HT.out.sizeM)).mono ?_
                rintro e w5 ⟨rfl, rfl⟩
                rw [HI.out]
                generalize hL : toksIn (toksTo rs k) (rs[k].body.take j) = L at *
                have HL := Lib.hid hL
                clear hL
                go_wp2_with (at_builtin; refine wpList_append_own _ rfl _ _ 34 rfl (w.heap.size + 1) 9 i0 (.string ByteArray.empty) 1 16 Try.underlying34 hi0 hz0 hz1 hz2 rfl (by decide) _ _ _ rfl (World.ownsRow.alloc stb _) ⟨_, 0, none⟩ 1 1 [.string rs[k].body[j]] rfl rfl (cell_one_new _ _ _) (one_str _) (by unfold maxLen; omega) (by omega) (by simp; omega) ?_)
                intro v1 w6 hown1 hg1 _
                have s1 : Sts w6 (w.heap.size + 1) v1 (toksIn (toksTo rs k) (rs[k].body.take (j + 1))) := by
                  rw [HSI.out, HAT.out, HA.out]
                  exact Sts.one _ hown1
                have q1 := Tx.row_grown (HRB.out.alloc _) (World.ownsRow.alloc stb _) (by decide) hg1
                have hb6 : Below w.heap.size w w6 := Tx.below_grown (hbb.trans ((al1 _ _).mono hsb)) (World.ownsRow.alloc stb _) hg1 (by simp; omega) (by omega)
                clear hown1 hg1 stb
                go_wp2
                go_roundw
                case rel => exact ⟨j + 1, by omega, by go_num, s1, q1, hb6⟩
                case measure => simp [intOf]; omega
              · have HI := Lib.hid hin
                have HA := Lib.hid (addSym_in hin)
                clear hin
                go_wp2_with fail
                refine (specIsToken_any _ _ hsj).mono ?_
                rintro e w5 ⟨rfl, rfl⟩
                rw [HTK.out]
                go_wp2_with fail
                refine (specIn_any _ (toksIn (toksTo rs k) (rs[k].body.take j)) rs[k].body[j] _ _ _ (stb.strs HT.out.sizeM)).mono ?_
                rintro e w5 ⟨rfl, rfl⟩
                rw [HI.out]
                rw [← HA.out, ← HAT.out, ← HSI.out] at stb
                go_wp2
                go_roundw
                case rel => exact ⟨j + 1, by omega, by go_num, stb, HRB.out, hbb⟩
                case measure => simp [intOf]; omega
          · have hjk : j = rs[k].body.length := by omega
            subst hjk
            rw [List.take_length] at stb
            rw [← HSU.out] at stb
            go_wp2
            go_roundw
            case rel => exact ⟨k + 1, by omega, by go_num, stb, HRB.out, hbb⟩
            case measure => simp [intOf]; omega
      · have hks : k = rs.length := by omega
        subst hks
        obtain ⟨g, ho, hg⟩ := hsts.own (Toks.to rs rs.length).sizeM
        have c0 := hrow.cell 0
        simp at c0
        clear hsts hrow
        go_wp2
        go_ret
        exact ⟨_, g, rfl, ho, fun hn => by have := hg hn; omega, hbw⟩
end Go.Proofs.Ytojmcjcdcneikaa
