/- The program's cutAt: what a range over runes cuts is what a cut at bytes cuts. -/
import Derived.Test.YtojmcjcdcneikaaCutI
namespace Go.Proofs.Ytojmcjcdcneikaa
open Go.RowKit
open Tx (bs)

/-- behind the first byte of a rune of more than one stand bytes that are no ASCII -/
theorem decode_cont (s : ByteArray) (i k : Nat) (h1 : 1 ≤ k) (h2 : k < (Utf8.decode s i).2) : i + k < s.size ∧ 128 ≤ (s.get! (i + k)).toNat := by
  have c : ∀ j, (decide (i + j < s.size) && (s.get! (i + j)).toNat / 64 == 2) = true → i + j < s.size ∧ 128 ≤ (s.get! (i + j)).toNat := fun j hj => by
    rw [Bool.and_eq_true, decide_eq_true_eq, beq_iff_eq] at hj
    exact ⟨hj.1, by omega⟩
  unfold Utf8.decode at h2
  simp only at h2
  split at h2
  · simp at h2; omega
  · split at h2
    · rename_i hc
      rw [Bool.and_eq_true] at hc
      split at h2
      · simp at h2
        obtain rfl : k = 1 := by omega
        exact c 1 hc.2
      · simp at h2; omega
    · split at h2
      · rename_i hc
        rw [Bool.and_eq_true, Bool.and_eq_true] at hc
        split at h2
        · simp at h2
          have : k = 1 ∨ k = 2 := by omega
          rcases this with rfl | rfl
          · exact c 1 hc.1.2
          · exact c 2 hc.2
        · simp at h2; omega
      · split at h2
        · rename_i hc
          rw [Bool.and_eq_true, Bool.and_eq_true, Bool.and_eq_true] at hc
          split at h2
          · simp at h2
            have : k = 1 ∨ k = 2 ∨ k = 3 := by omega
            rcases this with rfl | rfl | rfl
            · exact c 1 hc.1.1.2
            · exact c 2 hc.1.2
            · exact c 3 hc.2
          · simp at h2; omega
        · simp at h2; omega
theorem get_is {s : ByteArray} {i : Nat} (h : i < s.size) : s.get! i = s[i] := by
  simp [ByteArray.get!, getElem!_pos, h]
  rfl
theorem CutAt.skip {m : UInt8} {t : ByteArray} {out : List ByteArray} {f i : Nat} (h : CutAt m t out f i) (n : Nat) (hn : ∀ j, j < n → ∃ h : i + j < t.size, t[i + j] ≠ m) : CutAt m t out f (i + n) := by
  induction n with
  | zero => exact h
  | succ n ih =>
    obtain ⟨h1, h2⟩ := hn n (by omega)
    have := (ih (fun j hj => hn j (by omega))).miss h1 h2
    rwa [Nat.add_assoc] at this
/-- a rune that is no ASCII is no mark, and holds none -/
theorem CutAt.rune {m : UInt8} {t : ByteArray} {out : List ByteArray} {f i : Nat} (h : CutAt m t out f i) (hm : m.toNat < 128) (hi : i < t.size) (hh : 128 ≤ t[i].toNat) : CutAt m t out f (i + (Utf8.decode t i).2) := by
  refine h.skip _ fun j hj => ?_
  rcases Nat.eq_zero_or_pos j with rfl | hp
  · exact ⟨hi, fun e => by simp only [Nat.add_zero] at e; rw [e] at hh; omega⟩
  · obtain ⟨h1, h2⟩ := decode_cont t i j hp hj
    refine ⟨h1, fun e => ?_⟩
    rw [get_is h1, e] at h2
    omega

set_option maxRecDepth 100000 in
set_option maxHeartbeats 4000000 in
theorem implCutAt_any (t : ByteArray) (m : UInt8) (w : World) (ht : t.size ≤ 1000000) (hm : m.toNat < 128) :
    Calls Try.prog 70 #[.string t, .int .i32 (m.toNat : Int)] w fun e w' => ∃ v, e = .returned v ∧ Sts w' (w.heap.size + 1) v (pieces m t) ∧ Below w.heap.size w w' := by
  obtain ⟨i0, hi0, hz0, hz1, hz2⟩ := info_parts Try.infoStr
  go_enter Try.func70, Try.ntmps70
  go_wp2
  go_loopw [5, 6, 7, 8] (fun x f _ _ wr => ∃ (n pos : Nat) (out : List ByteArray), f = .int .i64 (n : Int) ∧ CutAt m t out n pos ∧ Sts wr (w.heap.size + 1) x out ∧ wr.heap[w.heap.size]? = some (.stringIter t pos) ∧ Below w.heap.size w wr) (fun _ _ _ _ wr => t.size - wr.iterPos w.heap.size)
  case atStart => exact ⟨0, 0, [], rfl, CutAt.start m t, World.ownsRow_nil _ _ _ _, World.iter_heap w t 0, al1 _ _⟩
  case round =>
    obtain ⟨n, pos, out, rfl, hcut, hsts, hit, hbw⟩ := hrel
    obtain ⟨hnk, hkt⟩ := hcut.size
    have hol := hcut.len
    have hsw := hbw.size
    have hrl : w.heap.size < wr.heap.size := (Array.getElem?_eq_some_iff.1 hit).1
    have HIT := Lib.hid hit
    by_cases hp : pos < t.size
    · by_cases ha : t[pos].toNat < 128
      · have hnx : ∀ ty, (Instr.next (.pointer (some ⟨w.heap.size, 0, none⟩)) true ty).run Try.prog wr = _ := fun ty => Lib.run_next_ascii_at wr w.heap.size t pos ty hit hp ha
        have hs1 : Sts (wr.iterAt w.heap.size t (pos + 1)) (w.heap.size + 1) _ out := ownsRow_iterAt hsts (Nat.lt_succ_self _) t (pos + 1)
        have hi1 := Lib.iterAt_heap wr w.heap.size t pos (pos + 1) hit
        have hb1 := Lib.below_iterAt hbw (k := w.heap.size) (Nat.le_refl _) t (pos + 1)
        have hz1' : (wr.iterAt w.heap.size t (pos + 1)).heap.size = wr.heap.size := Lib.iterAt_size _ _ _ _
        by_cases he : t[pos] = m
        · have HC := Lib.hid (hcut.hit hp he)
          have d1 : ((t[pos].toNat : Int) == (m.toNat : Int)) = true := by rw [he]; simp
          have HI1 := Lib.hid hi1
          have HZ1 := Lib.hid hz1'
          clear hcut he hit hi1 hz1' hsts
          go_wp2_with fail
          refine (Tx.cutText_any t n pos _ ht hnk hkt).mono ?_
          rintro e w1 ⟨rfl, b1⟩
          have hs2 : Sts w1 (w.heap.size + 1) _ out := World.ownsRow.kept hs1 (row := none) ⟨b1.os, b1.tape, b1.output, b1.size, fun k hk _ => b1.block k hk⟩ (by
            rcases hs1.2 with ⟨rfl, _⟩ | ⟨g, cap, cur, rfl, _⟩
            · exact .inl rfl
            · exact .inr (by simp [Value.ownBlock]))
          have hi2 : w1.heap[w.heap.size]? = some (.stringIter t (pos + 1)) := (b1.block _ (by rw [HZ1.out]; exact hrl)).trans HI1.out
          have z1 : wr.heap.size ≤ w1.heap.size := by have := b1.size; rw [HZ1.out] at this; exact this
          have hb2 := hb1.trans (b1.mono (by rw [HZ1.out]; exact hsw))
          have HI2 := Lib.hid hi2
          clear hs1 hb1 hi2 b1 hnx
          go_wp2_with (at_builtin; refine wpList_append_own _ rfl _ _ 34 rfl (w.heap.size + 1) 9 i0 (.string ByteArray.empty) 1 16 Try.underlying34 hi0 hz0 hz1 hz2 rfl (by decide) _ _ _ rfl (World.ownsRow.alloc hs2 _) ⟨w1.heap.size, 0, none⟩ 1 1 [.string (t.extract n pos)] rfl rfl (cell_one_new _ _ _) (one_str _) (by unfold maxLen; omega) (by omega) (by simp; omega) ?_)
          intro v1 w2 hown1 hg1 _
          have s1 : Sts w2 (w.heap.size + 1) v1 (out ++ [t.extract n pos]) := Sts.one _ hown1
          have hb3 : Below w.heap.size w w2 := Tx.below_grown (hb2.trans ((al1 w1 _).mono hb2.size)) (World.ownsRow.alloc hs2 _) hg1 (by simp; omega) (by omega)
          have hi3 : w2.heap[w.heap.size]? = some (.stringIter t (pos + 1)) := by
            rw [hg1.block _ (by simp; omega) (fun e => by have := (World.ownsRow.lt hs2 _ e.symm).1; omega), Below.heap_alloc _ _ _ (by omega)]
            exact HI2.out
          have HI3 := Lib.hid hi3
          clear hown1 hg1 hs2 hi3
          go_wp2
          go_roundw
          case rel => exact ⟨pos + 1, pos + 1, _, by go_num, HC.out, s1, HI3.out, hb3⟩
          case measure => rw [iterPos_of HI3.out, iterPos_of HIT.out]; omega
        · have HC := Lib.hid (hcut.miss hp he)
          have d1 : ((t[pos].toNat : Int) == (m.toNat : Int)) = false := by
            rw [beq_eq_false_iff_ne]
            intro e
            exact he (UInt8.toNat_inj.1 (by omega))
          have HI1 := Lib.hid hi1
          clear hcut he hit hi1 hz1' hsts
          go_wp2
          go_roundw
          case rel => exact ⟨n, pos + 1, out, rfl, HC.out, hs1, HI1.out, hb1⟩
          case measure => rw [iterPos_of HI1.out, iterPos_of HIT.out]; omega
      · have hd := decode_high t pos hp (by omega)
        have hnx : ∀ ty, (Instr.next (.pointer (some ⟨w.heap.size, 0, none⟩)) true ty).run Try.prog wr = _ := fun ty => Lib.run_next_any_at wr w.heap.size t pos ty hit hp
        have HC := Lib.hid (hcut.rune hm hp (by omega))
        have hs1 : Sts (wr.iterAt w.heap.size t (pos + (Utf8.decode t pos).2)) (w.heap.size + 1) _ out := ownsRow_iterAt hsts (Nat.lt_succ_self _) t _
        have hi1 := Lib.iterAt_heap wr w.heap.size t pos (pos + (Utf8.decode t pos).2) hit
        have hb1 := Lib.below_iterAt hbw (k := w.heap.size) (Nat.le_refl _) t (pos + (Utf8.decode t pos).2)
        have d1 : (((Utf8.decode t pos).1 : Int) == (m.toNat : Int)) = false := by rw [beq_eq_false_iff_ne]; omega
        have HI1 := Lib.hid hi1
        clear hcut hit hi1 hsts
        go_wp2
        go_roundw
        case rel => exact ⟨n, _, out, rfl, HC.out, hs1, HI1.out, hb1⟩
        case measure => rw [iterPos_of HI1.out, iterPos_of HIT.out]; omega
    · have hnx : ∀ ty, (Instr.next (.pointer (some ⟨w.heap.size, 0, none⟩)) true ty).run Try.prog wr = _ := fun ty => Lib.run_next_end_at wr w.heap.size t pos ty hit hp
      have hks : pos = t.size := by omega
      subst hks
      have HD := Lib.hid hcut.done
      clear hcut hit
      go_wp2_with fail
      refine (Tx.cutText_any t n t.size _ ht hnk (Nat.le_refl _)).mono ?_
      rintro e w1 ⟨rfl, b1⟩
      have hs2 : Sts w1 (w.heap.size + 1) _ out := World.ownsRow.kept hsts (row := none) ⟨b1.os, b1.tape, b1.output, b1.size, fun k hk _ => b1.block k hk⟩ (by
        rcases hsts.2 with ⟨rfl, _⟩ | ⟨g, cap, cur, rfl, _⟩
        · exact .inl rfl
        · exact .inr (by simp [Value.ownBlock]))
      have hb2 := hbw.trans (b1.mono hsw)
      have z1 := b1.size
      clear hsts b1 hnx
      go_wp2_with (at_builtin; refine wpList_append_own _ rfl _ _ 34 rfl (w.heap.size + 1) 9 i0 (.string ByteArray.empty) 1 16 Try.underlying34 hi0 hz0 hz1 hz2 rfl (by decide) _ _ _ rfl (World.ownsRow.alloc hs2 _) ⟨w1.heap.size, 0, none⟩ 1 1 [.string (t.extract n t.size)] rfl rfl (cell_one_new _ _ _) (one_str _) (by unfold maxLen; omega) (by omega) (by simp; omega) ?_)
      intro v1 w2 hown1 hg1 _
      have s1 : Sts w2 (w.heap.size + 1) v1 (pieces m t) := by
        rw [← HD.out]
        exact Sts.one _ hown1
      have hb3 : Below w.heap.size w w2 := Tx.below_grown (hb2.trans ((al1 w1 _).mono hb2.size)) (World.ownsRow.alloc hs2 _) hg1 (by simp; omega) (by omega)
      clear hown1 hg1 hs2
      go_wp2
      go_ret
      exact ⟨_, rfl, s1, hb3⟩
end Go.Proofs.Ytojmcjcdcneikaa
