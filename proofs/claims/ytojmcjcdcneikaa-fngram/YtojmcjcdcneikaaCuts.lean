/- The walks of l01Split, cutText and cutAt: both cut a text into the same pieces. -/
import Derived.Test.YtojmcjcdcneikaaSplitb
import Derived.Test.YtojmcjcdcneikaaHeadsS
import Derived.Laws.CopyOwn
import Derived.Lib.BufferWrite
import Derived.Lib.OthersKept
import Derived.Deep.OwnRows
namespace Go.Proofs.Ytojmcjcdcneikaa
open Go.RowKit
open Tx (Bts bv bs)

/-- the pieces of a text -/
def pieces (m : UInt8) (t : ByteArray) : List ByteArray := (splitB m t.data.toList).map bs
theorem pieces_len (m : UInt8) (t : ByteArray) : (pieces m t).length ≤ t.size + 1 := by
  unfold pieces; rw [List.length_map]; exact splitB_len m t.data.toList
/-- where a cut stands: these pieces are laid, from there on up to here nothing is cut -/
def CutAt (m : UInt8) (t : ByteArray) (out : List ByteArray) (from_ i : Nat) : Prop :=
  from_ ≤ i ∧ i ≤ t.size ∧ (out.map fun s => s.data.toList) ++ splitGo m ((t.data.toList.take i).drop from_) (t.data.toList.drop i) = splitB m t.data.toList
theorem CutAt.start (m : UInt8) (t : ByteArray) : CutAt m t [] 0 0 := ⟨Nat.le_refl _, Nat.zero_le _, by simp [splitB]⟩
theorem drop_at {t : ByteArray} {i : Nat} (h : i < t.size) : t.data.toList.drop i = t[i] :: t.data.toList.drop (i + 1) := by
  rw [List.drop_eq_getElem_cons (by simpa using h)]; rfl
theorem take_at {t : ByteArray} {f i : Nat} (h : i < t.size) (hf : f ≤ i) : (t.data.toList.take (i + 1)).drop f = (t.data.toList.take i).drop f ++ [t[i]] := by
  rw [List.take_succ_eq_append_getElem (by simpa using h), List.drop_append_of_le_length (by simp; omega)]; rfl
theorem CutAt.miss {m : UInt8} {t : ByteArray} {out : List ByteArray} {f i : Nat} (h : CutAt m t out f i) (hi : i < t.size) (hne : t[i] ≠ m) : CutAt m t out f (i + 1) := by
  obtain ⟨h1, h2, h3⟩ := h
  refine ⟨by omega, by omega, ?_⟩
  rw [← h3, drop_at hi, splitGo_miss hne, take_at hi h1]
theorem piece_at (t : ByteArray) (f i : Nat) : (t.extract f i).data.toList = (t.data.toList.take i).drop f := by
  simp [ByteArray.data_extract, List.extract_eq_take_drop, List.drop_take]
theorem CutAt.hit {m : UInt8} {t : ByteArray} {out : List ByteArray} {f i : Nat} (h : CutAt m t out f i) (hi : i < t.size) (he : t[i] = m) : CutAt m t (out ++ [t.extract f i]) (i + 1) (i + 1) := by
  obtain ⟨h1, h2, h3⟩ := h
  refine ⟨Nat.le_refl _, by omega, ?_⟩
  rw [← h3, drop_at hi, he, splitGo_hit, List.map_append]
  simp only [List.map_cons, List.map_nil, piece_at]
  have e : (t.data.toList.take (i + 1)).drop (i + 1) = [] := List.drop_eq_nil_of_le (List.length_take_le _ _)
  rw [e, List.append_assoc]
  rfl
theorem CutAt.done {m : UInt8} {t : ByteArray} {out : List ByteArray} {f : Nat} (h : CutAt m t out f t.size) : out ++ [t.extract f t.size] = pieces m t := by
  obtain ⟨h1, h2, h3⟩ := h
  have e1 : t.data.toList.drop t.size = [] := List.drop_eq_nil_of_le (by show t.data.toList.length ≤ t.size; exact Nat.le_refl _)
  rw [e1] at h3
  unfold pieces
  rw [← h3, List.map_append, List.map_map]
  have e2 : out.map (bs ∘ fun s => s.data.toList) = out := by
    conv => rhs; rw [← List.map_id out]
    rfl
  rw [e2]
  simp only [splitGo, List.map_cons, List.map_nil]
  rw [← piece_at]
  rfl
theorem CutAt.len {m : UInt8} {t : ByteArray} {out : List ByteArray} {f i : Nat} (h : CutAt m t out f i) : out.length ≤ t.size := by
  obtain ⟨h1, h2, h3⟩ := h
  have h4 := congrArg List.length h3
  have h5 := splitB_len m t.data.toList
  have h6 := List.length_pos_iff.2 (splitGo_ne m ((t.data.toList.take i).drop f) (t.data.toList.drop i))
  rw [List.length_append, List.length_map] at h4
  have h7 : t.data.toList.length = t.size := rfl
  omega
theorem CutAt.size {m : UInt8} {t : ByteArray} {out : List ByteArray} {f i : Nat} (h : CutAt m t out f i) : f ≤ i ∧ i ≤ t.size := ⟨h.1, h.2.1⟩
theorem ext_size (t : ByteArray) (f i : Nat) : (t.extract f i).size ≤ t.size := by rw [ByteArray.size_extract]; omega

set_option maxRecDepth 100000 in
set_option maxHeartbeats 2000000 in
theorem specSplit_any (t : ByteArray) (m : UInt8) (w : World) (ht : t.size ≤ 1000000) :
    Calls Try.prog 51 #[.string t, .int .u8 (m.toNat : Int)] w fun e w' => ∃ v, e = .returned v ∧ Sts w' w.heap.size v (pieces m t) ∧ Below w.heap.size w w' := by
  obtain ⟨i0, hi0, hz0, hz1, hz2⟩ := info_parts Try.infoStr
  go_enter Try.func51, Try.ntmps51
  go_wp2
  go_loopw [5, 6, 7] (fun x f i wr => ∃ (n k : Nat) (out : List ByteArray), f = .int .i64 (n : Int) ∧ i = .int .i64 (k : Int) ∧ CutAt m t out n k ∧ Sts wr w.heap.size x out ∧ Below w.heap.size w wr) (fun _ _ i _ => t.size - (intOf i).toNat)
  case atStart => exact ⟨0, 0, [], rfl, rfl, CutAt.start m t, Sts.nil w (Nat.le_refl _), al1 _ _⟩
  case round =>
    obtain ⟨n, k, out, rfl, rfl, hcut, hsts, hbw⟩ := hrel
    obtain ⟨hnk, hkt⟩ := hcut.size
    have hol := hcut.len
    have hsw := hbw.size
    by_cases hlt : k < t.size
    · by_cases he : t[k] = m
      · have HC := Lib.hid (hcut.hit hlt he)
        have d1 : ((t[k].toNat : Int) == (m.toNat : Int)) = true := by rw [he]; simp
        clear hcut he
        go_wp2_with (at_builtin; refine wpList_append_own _ rfl _ _ 34 rfl w.heap.size 9 i0 (.string ByteArray.empty) 1 16 Try.underlying34 hi0 hz0 hz1 hz2 rfl (by decide) _ _ _ rfl (World.ownsRow.alloc hsts _) ⟨wr.heap.size, 0, none⟩ 1 1 [.string (t.extract n k)] rfl rfl (cell_one_new _ _ _) (one_str _) (by unfold maxLen; omega) (by omega) (by simp; omega) ?_)
        intro v1 w1 hown1 hg1 _
        have s1 : Sts w1 w.heap.size v1 (out ++ [t.extract n k]) := Sts.one _ hown1
        have hb1 : Below w.heap.size w w1 := Tx.below_grown (hbw.trans ((al1 wr _).mono hsw)) (World.ownsRow.alloc hsts _) hg1 (by simp; omega) (Nat.le_refl _)
        clear hown1 hg1 hsts
        go_wp2
        go_roundw
        case rel => exact ⟨k + 1, k + 1, _, by go_num, by go_num, HC.out, s1, hb1⟩
        case measure => simp [intOf]; omega
      · have HC := Lib.hid (hcut.miss hlt he)
        have d1 : ((t[k].toNat : Int) == (m.toNat : Int)) = false := by
          rw [beq_eq_false_iff_ne]
          intro e
          exact he (UInt8.toNat_inj.1 (by omega))
        clear hcut he
        go_wp2
        go_roundw
        case rel => exact ⟨n, k + 1, out, rfl, by go_num, HC.out, hsts, hbw⟩
        case measure => simp [intOf]; omega
    · have hks : k = t.size := by omega
      subst hks
      have HD := Lib.hid hcut.done
      clear hcut
      go_wp2_with (at_builtin; refine wpList_append_own _ rfl _ _ 34 rfl w.heap.size 9 i0 (.string ByteArray.empty) 1 16 Try.underlying34 hi0 hz0 hz1 hz2 rfl (by decide) _ _ _ rfl (World.ownsRow.alloc hsts _) ⟨wr.heap.size, 0, none⟩ 1 1 [.string (t.extract n t.size)] rfl rfl (cell_one_new _ _ _) (one_str _) (by unfold maxLen; omega) (by omega) (by simp; omega) ?_)
      intro v1 w1 hown1 hg1 _
      have s1 : Sts w1 w.heap.size v1 (pieces m t) := by
        rw [← HD.out]
        exact Sts.one _ hown1
      have hb1 : Below w.heap.size w w1 := Tx.below_grown (hbw.trans ((al1 wr _).mono hsw)) (World.ownsRow.alloc hsts _) hg1 (by simp; omega) (Nat.le_refl _)
      clear hown1 hg1 hsts
      go_wp2
      go_ret
      exact ⟨_, rfl, s1, hb1⟩
end Go.Proofs.Ytojmcjcdcneikaa
