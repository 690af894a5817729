import Derived.Test.YtonfiahihmcmlaaJCutI
import Derived.Test.YtonfiahihmcmlaaJTxt
import Derived.Test.YtonfiahihmcmlaaJRightb
/- The program's cutAt: what a range over runes cuts is what a cut at bytes cuts. -/
namespace Go.Proofs.Ytonfiahihmcmlaa
open Go.RowKit
open Tx (bs)

/-- behind the first byte of a rune of more than one stand bytes that are no ASCII -/
theorem decode_cont (s : ByteArray) (i k : Nat) (h1 : 1 ≤ k) (h2 : k < (Utf8.decode s i).2) : i + k < s.size ∧ 128 ≤ (s.get! (i + k)).toNat := by
  have c : ∀ j, (decide (i + j < s.size) && (s.get! (i + j)).toNat / 64 == 2) = true → i + j < s.size ∧ 128 ≤ (s.get! (i + j)).toNat := fun j hj => by
    rw [Bool.and_eq_true, decide_eq_true_eq, beq_iff_eq] at hj
    exact ⟨hj.1, by omega⟩
  unfold Utf8.decode at h2
  simp only at h2
  split at h2
  · simp at h2; omega
  · split at h2
    · rename_i hc
      rw [Bool.and_eq_true] at hc
      split at h2
      · simp at h2
        obtain rfl : k = 1 := by omega
        exact c 1 hc.2
      · simp at h2; omega
    · split at h2
      · rename_i hc
        rw [Bool.and_eq_true, Bool.and_eq_true] at hc
        split at h2
        · simp at h2
          have : k = 1 ∨ k = 2 := by omega
          rcases this with rfl | rfl
          · exact c 1 hc.1.2
          · exact c 2 hc.2
        · simp at h2; omega
      · split at h2
        · rename_i hc
          rw [Bool.and_eq_true, Bool.and_eq_true, Bool.and_eq_true] at hc
          split at h2
          · simp at h2
            have : k = 1 ∨ k = 2 ∨ k = 3 := by omega
            rcases this with rfl | rfl | rfl
            · exact c 1 hc.1.1.2
            · exact c 2 hc.1.2
            · exact c 3 hc.2
          · simp at h2; omega
        · simp at h2; omega
theorem get_is {s : ByteArray} {i : Nat} (h : i < s.size) : s.get! i = s[i] := by
  simp [ByteArray.get!, getElem!_pos, h]
  rfl
theorem CutAt.skip {m : UInt8} {t : ByteArray} {out : List ByteArray} {f i : Nat} (h : CutAt m t out f i) (n : Nat) (hn : ∀ j, j < n → ∃ h : i + j < t.size, t[i + j] ≠ m) : CutAt m t out f (i + n) := by
  induction n with
  | zero => exact h
  | succ n ih =>
    obtain ⟨h1, h2⟩ := hn n (by omega)
    have := (ih (fun j hj => hn j (by omega))).miss h1 h2
    rwa [Nat.add_assoc] at this
/-- a rune that is no ASCII is no mark, and holds none -/
theorem CutAt.rune {m : UInt8} {t : ByteArray} {out : List ByteArray} {f i : Nat} (h : CutAt m t out f i) (hm : m.toNat < 128) (hi : i < t.size) (hh : 128 ≤ t[i].toNat) : CutAt m t out f (i + (Utf8.decode t i).2) := by
  refine h.skip _ fun j hj => ?_
  rcases Nat.eq_zero_or_pos j with rfl | hp
  · exact ⟨hi, fun e => by simp only [Nat.add_zero] at e; rw [e] at hh; omega⟩
  · obtain ⟨h1, h2⟩ := decode_cont t i j hp hj
    refine ⟨h1, fun e => ?_⟩
    rw [get_is h1, e] at h2
    omega

set_option maxRecDepth 100000 in
set_option maxHeartbeats 4000000 in
theorem implCutAt_any (t : ByteArray) (m : UInt8) (w : World) (ht : t.size ≤ 1000000) (hm : m.toNat < 128) :
    Calls Try.prog 128 #[.string t, .int .i32 (m.toNat : Int)] w fun e w' => ∃ v, e = .returned v ∧ Sts w' (w.heap.size + 1) v (pieces m t) ∧ Below w.heap.size w w' := by
  obtain ⟨i0, hi0, hz0, hz1, hz2⟩ := info_parts Try.infoStr
  go_enter Try.func128, Try.ntmps128
  go_wp2
  go_loopw [5, 6, 7, 8] (fun x f _ _ wr => ∃ (n pos : Nat) (out : List ByteArray), f = .int .i64 (n : Int) ∧ CutAt m t out n pos ∧ Sts wr (w.heap.size + 1) x out ∧ wr.heap[w.heap.size]? = some (.stringIter t pos) ∧ Below w.heap.size w wr) (fun _ _ _ _ wr => t.size - wr.iterPos w.heap.size)
  case atStart => exact ⟨0, 0, [], rfl, CutAt.start m t, World.ownsRow_nil _ _ _ _, World.iter_heap w t 0, al1 _ _⟩
  case round =>
    obtain ⟨n, pos, out, rfl, hcut, hsts, hit, hbw⟩ := hrel
    obtain ⟨hnk, hkt⟩ := hcut.size
    have hol := hcut.len
    have hsw := hbw.size
    have hrl : w.heap.size < wr.heap.size := (Array.getElem?_eq_some_iff.1 hit).1
    have HIT := Lib.hid hit
    by_cases hp : pos < t.size
    · by_cases ha : t[pos].toNat < 128
      · have hnx : ∀ ty, (Instr.next (.pointer (some ⟨w.heap.size, 0, none⟩)) true ty).run Try.prog wr = _ := fun ty => Lib.run_next_ascii_at wr w.heap.size t pos ty hit hp ha
        have hs1 : Sts (wr.iterAt w.heap.size t (pos + 1)) (w.heap.size + 1) _ out := ownsRow_iterAt hsts (Nat.lt_succ_self _) t (pos + 1)
        have hi1 := Lib.iterAt_heap wr w.heap.size t pos (pos + 1) hit
        have hb1 := Lib.below_iterAt hbw (k := w.heap.size) (Nat.le_refl _) t (pos + 1)
        have hz1' : (wr.iterAt w.heap.size t (pos + 1)).heap.size = wr.heap.size := Lib.iterAt_size _ _ _ _
        by_cases he : t[pos] = m
        · have HC := Lib.hid (hcut.hit hp he)
          have d1 : ((t[pos].toNat : Int) == (m.toNat : Int)) = true := by rw [he]; simp
          have HI1 := Lib.hid hi1
          have HZ1 := Lib.hid hz1'
          clear hcut he hit hi1 hz1' hsts
          go_wp2_with fail
          refine (Tx.cutText_any t n pos _ ht hnk hkt).mono ?_
          rintro e w1 ⟨rfl, b1⟩
          have hs2 : Sts w1 (w.heap.size + 1) _ out := World.ownsRow.kept hs1 (row := none) ⟨b1.os, b1.tape, b1.output, b1.size, fun k hk _ => b1.block k hk⟩ (by
            rcases hs1.2 with ⟨rfl, _⟩ | ⟨g, cap, cur, rfl, _⟩
            · exact .inl rfl
            · exact .inr (by simp [Value.ownBlock]))
          have hi2 : w1.heap[w.heap.size]? = some (.stringIter t (pos + 1)) := (b1.block _ (by rw [HZ1.out]; exact hrl)).trans HI1.out
          have z1 : wr.heap.size ≤ w1.heap.size := by have := b1.size; rw [HZ1.out] at this; exact this
          have hb2 := hb1.trans (b1.mono (by rw [HZ1.out]; exact hsw))
          have HI2 := Lib.hid hi2
          clear hs1 hb1 hi2 b1 hnx
          go_wp2_with (at_builtin; refine wpList_append_own _ rfl _ _ 34 rfl (w.heap.size + 1) 9 i0 (.string ByteArray.empty) 1 16 Try.underlying34 hi0 hz0 hz1 hz2 rfl (by decide) _ _ _ rfl (World.ownsRow.alloc hs2 _) ⟨w1.heap.size, 0, none⟩ 1 1 [.string (t.extract n pos)] rfl rfl (cell_one_new _ _ _) (one_str _) (by unfold maxLen; omega) (by omega) (by simp; omega) ?_)
          intro v1 w2 hown1 hg1 _
          have s1 : Sts w2 (w.heap.size + 1) v1 (out ++ [t.extract n pos]) := Sts.one _ hown1
          have hb3 : Below w.heap.size w w2 := Tx.below_grown (hb2.trans ((al1 w1 _).mono hb2.size)) (World.ownsRow.alloc hs2 _) hg1 (by simp; omega) (by omega)
          have hi3 : w2.heap[w.heap.size]? = some (.stringIter t (pos + 1)) := by
            rw [hg1.block _ (by simp; omega) (fun e => by have := (World.ownsRow.lt hs2 _ e.symm).1; omega), Below.heap_alloc _ _ _ (by omega)]
            exact HI2.out
          have HI3 := Lib.hid hi3
          clear hown1 hg1 hs2 hi3
          go_wp2
          go_roundw
          case rel => exact ⟨pos + 1, pos + 1, _, by go_num, HC.out, s1, HI3.out, hb3⟩
          case measure => rw [iterPos_of HI3.out, iterPos_of HIT.out]; omega
        · have HC := Lib.hid (hcut.miss hp he)
          have d1 : ((t[pos].toNat : Int) == (m.toNat : Int)) = false := by
            rw [beq_eq_false_iff_ne]
            intro e
            exact he (UInt8.toNat_inj.1 (by omega))
          have HI1 := Lib.hid hi1
          clear hcut he hit hi1 hz1' hsts
          go_wp2
          go_roundw
          case rel => exact ⟨n, pos + 1, out, rfl, HC.out, hs1, HI1.out, hb1⟩
          case measure => rw [iterPos_of HI1.out, iterPos_of HIT.out]; omega
      · have hd := decode_high t pos hp (by omega)
        have hnx : ∀ ty, (Instr.next (.pointer (some ⟨w.heap.size, 0, none⟩)) true ty).run Try.prog wr = _ := fun ty => Lib.run_next_any_at wr w.heap.size t pos ty hit hp
        have HC := Lib.hid (hcut.rune hm hp (by omega))
        have hs1 : Sts (wr.iterAt w.heap.size t (pos + (Utf8.decode t pos).2)) (w.heap.size + 1) _ out := ownsRow_iterAt hsts (Nat.lt_succ_self _) t _
        have hi1 := Lib.iterAt_heap wr w.heap.size t pos (pos + (Utf8.decode t pos).2) hit
        have hb1 := Lib.below_iterAt hbw (k := w.heap.size) (Nat.le_refl _) t (pos + (Utf8.decode t pos).2)
        have d1 : (((Utf8.decode t pos).1 : Int) == (m.toNat : Int)) = false := by rw [beq_eq_false_iff_ne]; omega
        have HI1 := Lib.hid hi1
        clear hcut hit hi1 hsts
        go_wp2
        go_roundw
        case rel => exact ⟨n, _, out, rfl, HC.out, hs1, HI1.out, hb1⟩
        case measure => rw [iterPos_of HI1.out, iterPos_of HIT.out]; omega
    · have hnx : ∀ ty, (Instr.next (.pointer (some ⟨w.heap.size, 0, none⟩)) true ty).run Try.prog wr = _ := fun ty => Lib.run_next_end_at wr w.heap.size t pos ty hit hp
      have hks : pos = t.size := by omega
      subst hks
      have HD := Lib.hid hcut.done
      clear hcut hit
      go_wp2_with fail
      refine (Tx.cutText_any t n t.size _ ht hnk (Nat.le_refl _)).mono ?_
      rintro e w1 ⟨rfl, b1⟩
      have hs2 : Sts w1 (w.heap.size + 1) _ out := World.ownsRow.kept hsts (row := none) ⟨b1.os, b1.tape, b1.output, b1.size, fun k hk _ => b1.block k hk⟩ (by
        rcases hsts.2 with ⟨rfl, _⟩ | ⟨g, cap, cur, rfl, _⟩
        · exact .inl rfl
        · exact .inr (by simp [Value.ownBlock]))
      have hb2 := hbw.trans (b1.mono hsw)
      have z1 := b1.size
      clear hsts b1 hnx
      go_wp2_with (at_builtin; refine wpList_append_own _ rfl _ _ 34 rfl (w.heap.size + 1) 9 i0 (.string ByteArray.empty) 1 16 Try.underlying34 hi0 hz0 hz1 hz2 rfl (by decide) _ _ _ rfl (World.ownsRow.alloc hs2 _) ⟨w1.heap.size, 0, none⟩ 1 1 [.string (t.extract n t.size)] rfl rfl (cell_one_new _ _ _) (one_str _) (by unfold maxLen; omega) (by omega) (by simp; omega) ?_)
      intro v1 w2 hown1 hg1 _
      have s1 : Sts w2 (w.heap.size + 1) v1 (pieces m t) := by
        rw [← HD.out]
        exact Sts.one _ hown1
      have hb3 : Below w.heap.size w w2 := Tx.below_grown (hb2.trans ((al1 w1 _).mono hb2.size)) (World.ownsRow.alloc hs2 _) hg1 (by simp; omega) (by omega)
      clear hown1 hg1 hs2
      go_wp2
      go_ret
      exact ⟨_, rfl, s1, hb3⟩
end Go.Proofs.Ytonfiahihmcmlaa

/- The model's text of a grammar: l02Text, GramText. -/
namespace Go.Proofs.Ytonfiahihmcmlaa
open Go.RowKit
open Tx (Bts bv bs textT lineT symsT Short)

theorem ret_strT {a b : ByteArray} (h : a = b) : Ending.returned (.string a) = .returned (.string b) := by rw [h]

set_option maxRecDepth 100000 in
set_option maxHeartbeats 4000000 in
theorem specText_any (rs : List RuleD) (v : Value) (lo hi : Nat) (w : World) (h : Rules w lo hi v rs) (hh : hi ≤ w.heap.size) (hlen : rs.length ≤ 20) (hshort : ∀ i (h : i < rs.length), Short rs[i]) :
    Calls Try.prog 79 #[.agg #[v]] w fun e w' => e = .returned (.string (bs (textT rs))) ∧ Below w.heap.size w w' := by
  obtain ⟨i0, hi0, hz0, hz1, hz2⟩ := info_parts Tx.infoB
  obtain ⟨A, c, rfl, hlc, hc, hcell⟩ := h
  unfold maxLen at hc
  have HC := Lib.hid hcell
  have HSH := Lib.hid hshort
  clear hcell hshort
  go_enter Try.func79, Try.ntmps79
  go_wp2
  go_loopw [3, 4, 5, 6] (fun x i _ _ wr => ∃ (k : Nat), k ≤ rs.length ∧ i = .int .i64 k ∧ Bts wr (w.heap.size + 1) x (textT (rs.take k)) ∧ Row wr w.heap.size 25 #[.slice A rs.length c] ∧ Below w.heap.size w wr) (fun _ i _ _ _ => rs.length - (intOf i).toNat)
  case atStart => exact ⟨0, by omega, rfl, by simpa [textT] using Tx.Bts.nil (w.alloc (.cells #[.slice A rs.length c] 25)) (base := w.heap.size + 1) (by simp), (Row.made _ _ _).alloc _, al2 _ _ _⟩
  case round =>
    obtain ⟨k, hk, rfl, hbts, hrow, hbw⟩ := hrel
    have hsw := hbw.size
    have hc0 := hrow.cell 0
    simp at hc0
    have hwl := hrow.lt
    have HW := Lib.hid hrow
    clear hrow
    by_cases hlt : k < rs.length
    · obtain ⟨b, off, rfl, _, hbh, hcc⟩ := HC.out (by omega)
      obtain ⟨hhs, hd0, u, hd1, hst⟩ := hcc k hlt
      have hd0' := (hbw.cell (p := ⟨b, off + k * 2, none⟩) (by show b < _; omega)).trans hd0
      have hd1' := (hbw.cell (p := ⟨b, off + k * 2 + 1, none⟩) (by show b < _; omega)).trans hd1
      obtain ⟨sh1, sh2, sh3⟩ := HSH.out k hlt
      have HS := Lib.hid hst
      clear hcc hd0 hd1
      obtain ⟨A', c', rfl, -⟩ := hst
      have ha := al1 wr (.cells #[.string rs[k].head, .slice A' rs[k].body.length c'] 49)
      have hR := Row.made wr 49 #[.string rs[k].head, .slice A' rs[k].body.length c']
      have htl := Tx.textT_len HSH.out k hk
      have hap : (rs[k].head ++ ⟨#[32, 45, 62]⟩ : ByteArray).size ≤ 7 := by rw [ByteArray.size_append]; show _ + 3 ≤ 7; omega
      have HSH3 := Lib.hid sh3
      clear sh3
      go_wp2_with (at_builtin; refine Lib.wpList_append_own_string _ rfl _ _ 22 9 rfl (w.heap.size + 1) 5 i0 Try.underlying22 Try.underlying9 hi0 hz0 hz1 hz2 _ _ _ rfl (World.ownsRow.alloc hbts _) (rs[k].head ++ ⟨#[32, 45, 62]⟩) rfl (by unfold maxLen; omega) (by omega) (by simp; omega) ?_)
      intro v1 w1 hown1 hg1 _
      have r1 : Row w1 wr.heap.size 49 #[.string rs[k].head, .slice A' rs[k].body.length c'] := Tx.row_grown hR (World.ownsRow.alloc hbts _) (by decide) hg1
      have q1 : Row w1 w.heap.size 25 #[.slice (some ⟨b, off, none⟩) rs.length c] := Tx.row_grown (HW.out.alloc _) (World.ownsRow.alloc hbts _) (by decide) hg1
      have hb1 : Below w.heap.size w w1 := Tx.below_grown (hbw.trans (ha.mono hsw)) (World.ownsRow.alloc hbts _) hg1 (by simp; omega) (by omega)
      have t1 : Bts w1 (w.heap.size + 1) v1 (textT (rs.take k) ++ (rs[k].head.data.toList ++ [32, 45, 62])) := by
        have := Tx.Bts.str (l := textT (rs.take k)) (s := rs[k].head ++ ⟨#[32, 45, 62]⟩) (by rw [ByteArray.size_append]; rfl) hown1
        exact this.to (by rw [Tx.bs_app]; rfl)
      clear hown1 hg1 hbts hR ha hbw hsw hc0 hd0' hd1'
      generalize hl1 : textT (rs.take k) ++ (rs[k].head.data.toList ++ [32, 45, 62]) = l1 at t1
      have HL1 := Lib.hid hl1
      have hll : l1.length ≤ 40 * k + 7 := by
        rw [← hl1]
        have : (rs[k].head.data.toList).length = rs[k].head.size := rfl
        simp only [List.length_append, List.length_cons, List.length_nil]; omega
      clear hl1
      go_wp2
      go_loopw [3, 6] (fun x i wr' => ∃ (j : Nat), j ≤ rs[k].body.length ∧ i = .int .i64 j ∧ Bts wr' (w.heap.size + 1) x (l1 ++ symsT (rs[k].body.take j)) ∧ Row wr' wr.heap.size 49 #[.string rs[k].head, .slice A' rs[k].body.length c'] ∧ Row wr' w.heap.size 25 #[.slice (some ⟨b, off, none⟩) rs.length c] ∧ Below w.heap.size w wr') (fun _ i _ => rs[k].body.length - (intOf i).toNat)
      case atStart => exact ⟨0, by omega, rfl, t1.to (by simp [symsT]), r1, q1, hb1⟩
      case round =>
        obtain ⟨j, hj, rfl, tb, rb, qb, hbb⟩ := hrel
        clear t1 r1 q1 hb1
        have e1 := rb.cell 1
        simp at e1
        have hsb := hbb.size
        have HSL := Tx.symsT_len HSH3.out j hj
        by_cases hjl : j < rs[k].body.length
        · obtain ⟨_, _, e0, _, _, _, hcellb⟩ := HS.out
          injection e0 with e01 _ e02
          subst e01 e02
          obtain ⟨b1, off1, rfl, _, hbh1, hcc1⟩ := hcellb (by omega)
          have hcb := (hbb.cell (p := ⟨b1, off1 + j, none⟩) (by show b1 < _; omega)).trans (hcc1 j hjl)
          have h4 := HSH3.out j hjl
          have hap2 : (⟨#[32]⟩ ++ rs[k].body[j] : ByteArray).size ≤ 5 := by rw [ByteArray.size_append]; show 1 + _ ≤ 5; omega
          clear hcellb hcc1
          generalize hl2 : l1 ++ symsT (rs[k].body.take j) = l2 at tb
          have hll2 : l2.length ≤ 40 * k + 7 + 5 * j := by rw [← hl2, List.length_append]; omega
          have HL2 := Lib.hid hl2
          clear hl2
          go_wp2_with (at_builtin; refine Lib.wpList_append_own_string _ rfl _ _ 22 9 rfl (w.heap.size + 1) 5 i0 Try.underlying22 Try.underlying9 hi0 hz0 hz1 hz2 _ _ _ rfl tb (⟨#[32]⟩ ++ rs[k].body[j]) rfl (by unfold maxLen; omega) (by omega) (by have := rb.lt; have := qb.lt; omega) ?_)
          intro v2 w2 hown2 hg2 _
          have r2 := Tx.row_grown rb tb (by decide) hg2
          have q2 := Tx.row_grown qb tb (by decide) hg2
          have hb2 : Below w.heap.size w w2 := Tx.below_grown hbb tb hg2 hsb (by omega)
          have t2 : Bts w2 (w.heap.size + 1) v2 (l1 ++ symsT (rs[k].body.take (j + 1))) := by
            have := Tx.Bts.str (l := l2) (s := ⟨#[32]⟩ ++ rs[k].body[j]) (by rw [ByteArray.size_append]; rfl) hown2
            exact this.to (by rw [← HL2.out, Tx.bs_app, Tx.symsT_take _ _ hjl, List.append_assoc]; rfl)
          clear hown2 hg2 tb rb qb hbb
          go_wp2
          go_roundw
          case rel => exact ⟨j + 1, by omega, by go_num, t2, r2, q2, hb2⟩
          case measure => simp [intOf]; omega
        · have hjk : j = rs[k].body.length := by omega
          subst hjk
          rw [List.take_length] at tb
          have HT := Lib.hid (Tx.textT_take rs k hlt)
          by_cases h0 : rs[k].body.length = 0
          · have hnil : rs[k].body = [] := List.eq_nil_of_length_eq_zero h0
            have d0 : ((rs[k].body.length : Int) == 0) = true := by rw [beq_iff_eq]; omega
            have HX := Lib.hid (Tx.lineT_none (l := textT (rs.take k)) hnil)
            rw [hnil] at tb
            generalize hl2 : l1 ++ symsT [] = l2 at tb
            have hll2 : l2.length ≤ 40 * k + 7 := by rw [← hl2]; simpa [symsT] using hll
            have HL2 := Lib.hid hl2
            clear hnil h0 hl2
            go_wp2_with (at_builtin; refine Lib.wpList_append_own_string _ rfl _ _ 22 9 rfl (w.heap.size + 1) 5 i0 Try.underlying22 Try.underlying9 hi0 hz0 hz1 hz2 _ _ _ rfl tb ⟨#[32, 126]⟩ rfl (by unfold maxLen; show _ + 2 ≤ _; omega) (by show _ + 2 ≤ _; omega) (by have := rb.lt; have := qb.lt; omega) ?_)
            intro v2 w2 hown2 hg2 _
            have q2 := Tx.row_grown qb tb (by decide) hg2
            have hb2 : Below w.heap.size w w2 := Tx.below_grown hbb tb hg2 hsb (by omega)
            have t2 : Bts w2 (w.heap.size + 1) v2 (l2 ++ [32, 126]) := Tx.Bts.str (l := l2) (s := ⟨#[32, 126]⟩) rfl hown2
            have hsz2 := hb2.size
            have hq2 := q2.lt
            generalize hl3 : l2 ++ [32, 126] = l3 at t2
            have hll3 : l3.length ≤ 40 * k + 9 := by rw [← hl3, List.length_append]; simp only [List.length_cons, List.length_nil]; omega
            have HL3 := Lib.hid hl3
            clear hown2 hg2 tb rb qb hbb hl3
            go_wp2_with (at_builtin; refine wpList_append_own _ rfl _ _ 22 rfl (w.heap.size + 1) 5 i0 (.int .u8 0) 1 1 Try.underlying22 hi0 hz0 hz1 hz2 rfl (by decide) _ _ _ rfl (World.ownsRow.alloc t2 _) ⟨w2.heap.size, 0, none⟩ 1 1 [.int .u8 10] rfl rfl (cell_one_new _ _ _) (Tx.one_cell _) (by unfold maxLen; omega) (by omega) (by simp; omega) ?_)
            intro v3 w3 hown3 hg3 _
            have q3 := Tx.row_grown (q2.alloc _) (World.ownsRow.alloc t2 _) (by decide) hg3
            have hb3 : Below w.heap.size w w3 := Tx.below_grown (hb2.trans ((al1 w2 _).mono hsz2)) (World.ownsRow.alloc t2 _) hg3 (by simp; omega) (by omega)
            have t3 : Bts w3 (w.heap.size + 1) v3 (textT (rs.take (k + 1))) := (Tx.Bts.one 10 hown3).to (by rw [HT.out, ← HX.out, HL1.out, HL2.out, HL3.out])
            clear hown3 hg3 t2 q2
            go_wp2
            go_roundw
            case rel => exact ⟨k + 1, by omega, by go_num, t3, q3, hb3⟩
            case measure => simp [intOf]; omega
          · have hne : rs[k].body ≠ [] := fun e => h0 (by rw [e]; rfl)
            have d0 : ((rs[k].body.length : Int) == 0) = false := by rw [beq_eq_false_iff_ne]; omega
            have HX := Lib.hid (Tx.lineT_some (l := textT (rs.take k)) hne)
            have hsl := Tx.symsT_len HSH3.out rs[k].body.length (Nat.le_refl _)
            rw [List.take_length] at hsl
            generalize hl2 : l1 ++ symsT rs[k].body = l2 at tb
            have hll2 : l2.length ≤ 40 * k + 40 := by rw [← hl2, List.length_append]; omega
            have HL2 := Lib.hid hl2
            have hq2 := qb.lt
            clear hl2 hne rb
            go_wp2_with (at_builtin; refine wpList_append_own _ rfl _ _ 22 rfl (w.heap.size + 1) 5 i0 (.int .u8 0) 1 1 Try.underlying22 hi0 hz0 hz1 hz2 rfl (by decide) _ _ _ rfl (World.ownsRow.alloc tb _) ⟨_, 0, none⟩ 1 1 [.int .u8 10] rfl rfl (cell_one_new _ _ _) (Tx.one_cell _) (by unfold maxLen; omega) (by omega) (by simp; omega) ?_)
            intro v3 w3 hown3 hg3 _
            have q3 := Tx.row_grown (qb.alloc _) (World.ownsRow.alloc tb _) (by decide) hg3
            have hb3 : Below w.heap.size w w3 := Tx.below_grown (hbb.trans ((al1 _ _).mono hsb)) (World.ownsRow.alloc tb _) hg3 (by simp; omega) (by omega)
            have t3 : Bts w3 (w.heap.size + 1) v3 (textT (rs.take (k + 1))) := (Tx.Bts.one 10 hown3).to (by rw [HT.out, ← HX.out, HL1.out, HL2.out])
            clear hown3 hg3 tb qb
            go_wp2
            go_roundw
            case rel => exact ⟨k + 1, by omega, by go_num, t3, q3, hb3⟩
            case measure => simp [intOf]; omega
    · have hks : k = rs.length := by omega
      subst hks
      rw [List.take_length] at hbts
      have hcv := hbts.conv
      clear hbts
      go_wp2
      go_ret
      exact ⟨rfl, hbw⟩

/-- the text of a right grammar -/
def gramT (rs : List RuleD) : ByteArray := if gramB rs = true then bs (textT rs) else bs []
theorem gramT_t {rs : List RuleD} (h : gramB rs = true) : gramT rs = bs (textT rs) := if_pos h
theorem gramT_f {rs : List RuleD} (h : gramB rs = false) : gramT rs = bs [] := if_neg (by rw [h]; decide)

set_option maxHeartbeats 1000000 in
theorem specGramText_any (rs : List RuleD) (v : Value) (lo hi : Nat) (w : World) (h : Rules w lo hi v rs) (hh : hi ≤ w.heap.size) :
    Calls Try.prog 18 #[.agg #[v]] w fun e w' => e = .returned (.string (gramT rs)) ∧ Below w.heap.size w w' := by
  have HV := Lib.hid h
  obtain ⟨A, c, rfl, -⟩ := h
  have hb := al1 w (.cells #[.slice A rs.length c] 25)
  have R0 := Row.made w 25 #[.slice A rs.length c]
  cases hq : gramB rs
  · rw [gramT_f hq]
    have HQ := Lib.hid hq
    clear hq
    go_enter Try.func18, Try.ntmps18
    go_wp2_with fail
    refine (specGramRight_any rs _ lo hi _ (HV.out.below hb hh) (by simp; omega)).mono ?_
    rintro e w1 ⟨rfl, b1⟩
    rw [HQ.out]
    go_wp2
    go_ret
    exact ⟨rfl, hb.trans (b1.mono (by simp))⟩
  · rw [gramT_t hq]
    have HQ := Lib.hid hq
    clear hq
    go_enter Try.func18, Try.ntmps18
    go_wp2_with fail
    refine (specGramRight_any rs _ lo hi _ (HV.out.below hb hh) (by simp; omega)).mono ?_
    rintro e w1 ⟨rfl, b1⟩
    rw [HQ.out]
    have c1 := (R0.below b1 (by simp)).cell 0
    simp at c1
    have hb1 := hb.trans (b1.mono (by simp))
    have z1 := hb1.size
    have hg := (gramB_iff rs).1 HQ.out
    have HG := Lib.hid hg
    clear hg
    go_wp2_with fail
    refine (specText_any rs _ lo hi _ (HV.out.below hb1 hh) (by omega) HG.out.2.1 (fun i hi => Tx.short_of (HG.out.2.2 i hi))).mono ?_
    rintro e w2 ⟨rfl, b2⟩
    go_wp2
    go_ret
    exact ⟨rfl, hb1.trans (b2.mono z1)⟩
end Go.Proofs.Ytonfiahihmcmlaa
