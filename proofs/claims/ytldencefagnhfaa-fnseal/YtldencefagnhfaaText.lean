/- The walks of joinTexts, cutText and PutText. -/
import Derived.Test.YtldencefagnhfaaPut
import Derived.Test.YtldencefagnhfaaMem
namespace Go.Proofs.Ytldencefagnhfaa
open Go.RowKit

theorem Try.sizeB : (Try.prog.info? 5).map (·.size) = some 1 := by kernel_rfl
theorem madeList (n : Nat) : madeCells #[Value.int .u8 0] n = (List.replicate n (Value.int .u8 0)).toArray := by
  have := toList_madeCells_one (.int .u8 0) n
  rw [← this]

theorem convert_block {w : World} {g : Nat} {l : List UInt8} (hm : l.length ≤ maxLen) (h : w.heap[g]? = some (.cells (l.map bv).toArray 5 (0, 0))) :
    (convert 22 9 (.slice (some ⟨g, 0, none⟩) l.length l.length)).run Try.prog w = .ok (.string (bs l)) w := by
  have h2 := owns_of_block (base := 0) (Nat.zero_le _) (by simpa using hm) h
  simp only [List.length_map] at h2
  exact convert_own h2

theorem join_conv {w : World} {g n : Nat} {L : List Value} {l : List UInt8} (hT : Hid (L = l.map bv)) (hC : Hid (l.length = n)) (hg : Hid (w.heap[g]? = some (.cells L.toArray 5 (0, 0)))) (hn : n ≤ 9223372036854775807) :
    (convert 22 9 (.slice (some ⟨g, 0, none⟩) n n)).run Try.prog w = .ok (.string (bs l)) w := by
  have h := hg.out
  rw [hT.out] at h
  have h2 := convert_block (by rw [hC.out]; unfold maxLen; omega) h
  rw [hC.out] at h2
  exact h2

theorem join_str {w : World} {g n : Nat} {L : List Value} (t : ByteArray) (hT : Hid (L = t.data.toList.map bv)) (hC : Hid (t.data.toList.length = n)) (hg : Hid (w.heap[g]? = some (.cells L.toArray 5 (0, 0)))) (hn : n ≤ 9223372036854775807) :
    (convert 22 9 (.slice (some ⟨g, 0, none⟩) n n)).run Try.prog w = .ok (.string t) w := join_conv hT hC hg hn

set_option maxRecDepth 100000 in
set_option maxHeartbeats 1000000 in
theorem joinTexts_some (a b : ByteArray) (w : World) (ha : a.size ≤ 1000000) (hb : b.size ≤ 1000000) (hne : ¬ b = ByteArray.empty) :
    Calls Try.prog 33 #[.string a, .string b] w fun e w' => e = .returned (.string (bs (a.data.toList ++ b.data.toList))) ∧ Below w.heap.size w w' := by
  have hmk := run_make_row' (P := Try.prog) 22 5 (.int .u8 0) 1 Try.underlying22 Try.infoB rfl .i64 .i64 (a.size + b.size) (by omega) (by omega)
  rw [show ((a.size + b.size : Nat) : Int) = (a.size : Int) + (b.size : Int) by omega] at hmk
  have HML := Lib.hid (madeList (a.size + b.size))
  have HL : Hid ((a.data.toList.map bv).length = a.size ∧ (b.data.toList.map bv).length = b.size) := Lib.hid ⟨by rw [List.length_map]; rfl, by rw [List.length_map]; rfl⟩
  have HT : Hid (splice (splice (List.replicate (a.size + b.size) (Value.int .u8 0)) 0 (a.data.toList.map bv)) a.size (b.data.toList.map bv) = (a.data.toList ++ b.data.toList).map bv) := Lib.hid (by
    have := splice_two (List.replicate (a.size + b.size) (Value.int .u8 0)) (a.data.toList.map bv) (b.data.toList.map bv) (by rw [HL.out.1, HL.out.2]; simp)
    rw [HL.out.1] at this; rw [this, List.map_append])
  have HS : Hid ((splice (List.replicate (a.size + b.size) (Value.int .u8 0)) 0 (a.data.toList.map bv)).length = a.size + b.size) := Lib.hid (by rw [length_splice _ _ _ (by rw [HL.out.1]; simp)]; simp)
  have HC : Hid ((a.data.toList ++ b.data.toList).length = a.size + b.size) := Lib.hid (by rw [List.length_append]; rfl)
  go_enter Try.func33, Try.ntmps33
  go_wp2_with (first | (with_reducible refine wpList_copy_str (o := ⟨some 15, _, _, _, _, _⟩) rfl (.tmp 13) (.tmp 14) 22 9 rfl 5 Try.underlying22 Try.sizeB _ _ _ a rfl rfl w.heap.size 0 (List.replicate (a.size + b.size) (.int .u8 0)) 5 (by rw [HML.out]; exact heap_alloc_new w _) (by omega) (fun _ => rfl) (by simp) w.heap.size w ((Below.refl _ _).alloc (Nat.le_refl _) _) (Nat.le_refl _) ?_; intro w1 hg1 hb1) | (with_reducible refine wpList_copy_str (o := ⟨some 20, _, _, _, _, _⟩) rfl (.tmp 18) (.tmp 19) 22 9 rfl 5 Try.underlying22 Try.sizeB _ _ _ b rfl rfl w.heap.size a.size _ 5 hg1.out (Nat.le_refl _) (fun _ => rfl) (by rw [HS.out]; exact Nat.le_refl _) w.heap.size w hb1 (Nat.le_refl _) ?_; intro w2 hg2 hb2; have hcv := join_conv HT HC hg2 (by omega)))
  go_ret
  exact ⟨rfl, hb2⟩

set_option maxRecDepth 100000 in
set_option maxHeartbeats 1000000 in
theorem joinTexts_none (a : ByteArray) (w : World) (ha : a.size ≤ 1000000) :
    Calls Try.prog 33 #[.string a, .string ByteArray.empty] w fun e w' => e = .returned (.string a) ∧ Below w.heap.size w w' := by
  have hmk := run_make_row' (P := Try.prog) 22 5 (.int .u8 0) 1 Try.underlying22 Try.infoB rfl .i64 .i64 a.size (by omega) (by omega)
  have HML := Lib.hid (madeList a.size)
  have HL : Hid ((a.data.toList.map bv).length = a.size) := Lib.hid (by rw [List.length_map]; rfl)
  have HT : Hid (splice (splice (List.replicate a.size (Value.int .u8 0)) 0 (a.data.toList.map bv)) 0 (ByteArray.empty.data.toList.map bv) = a.data.toList.map bv) := Lib.hid (by
    rw [splice_whole (List.replicate a.size (Value.int .u8 0)) (a.data.toList.map bv) (by rw [HL.out]; simp), show ByteArray.empty.data.toList = [] from rfl]; simp [splice])
  have HC : Hid (a.data.toList.length = a.size) := Lib.hid rfl
  go_enter Try.func33, Try.ntmps33
  go_wp2_with (first | (with_reducible refine wpList_copy_str (o := ⟨some 15, _, _, _, _, _⟩) rfl (.tmp 13) (.tmp 14) 22 9 rfl 5 Try.underlying22 Try.sizeB _ _ _ a rfl rfl w.heap.size 0 (List.replicate a.size (.int .u8 0)) 5 (by rw [HML.out]; exact heap_alloc_new w _) (by omega) (fun _ => rfl) (by simp) w.heap.size w ((Below.refl _ _).alloc (Nat.le_refl _) _) (Nat.le_refl _) ?_; intro w1 hg1 hb1) | (with_reducible refine wpList_copy_str (o := ⟨some 20, _, _, _, _, _⟩) rfl (.tmp 18) (.tmp 19) 22 9 rfl 5 Try.underlying22 Try.sizeB _ _ _ ByteArray.empty rfl rfl w.heap.size 0 _ 5 hg1.out (Nat.le_refl _) (fun h => absurd h (by simp)) (by simp) w.heap.size w hb1 (Nat.le_refl _) ?_; intro w2 hg2 hb2; have hcv := join_conv HT HC hg2 (by omega)))
  go_ret
  exact ⟨rfl, hb2⟩

theorem joinTexts_any (a b : ByteArray) (w : World) (ha : a.size ≤ 1000000) (hb : b.size ≤ 1000000) :
    Calls Try.prog 33 #[.string a, .string b] w fun e w' => e = .returned (.string (bs (a.data.toList ++ b.data.toList))) ∧ Below w.heap.size w w' := by
  by_cases h : b = ByteArray.empty
  · subst h
    have : bs (a.data.toList ++ ByteArray.empty.data.toList) = a := by rw [show ByteArray.empty.data.toList = [] from rfl, List.append_nil]; rfl
    rw [this]
    exact joinTexts_none a w ha
  · exact joinTexts_some a b w ha hb h

/-- what both PutTexts hand back -/
def putT (s : ByteArray) : ByteArray := if 8000 < s.size then bs [] else bs (putN s.size ++ s.data.toList)
theorem putT_long {s : ByteArray} (h : 8000 < s.size) : putT s = bs [] := if_pos h
theorem putT_short {s : ByteArray} (h : ¬ 8000 < s.size) : putT s = bs (putN s.size ++ s.data.toList) := if_neg h
theorem putN_size (n : Int) : (bs (putN n)).size ≤ 11 := by rw [bs_size]; exact (putF_length 10 (foldN n)).2
theorem app_bs (l : List UInt8) (s : ByteArray) : bs l ++ s = bs (l ++ s.data.toList) := ByteArray.mk_append_mk l s.data.toList

set_option maxHeartbeats 1000000 in
theorem implPutText_any (s : ByteArray) (w : World) (hs : s.size ≤ maxLen) :
    Calls Try.prog 23 #[.string s] w fun e w' => e = .returned (.string (putT s)) ∧ Below w.heap.size w w' := by
  unfold maxLen at hs
  by_cases h : 8000 < s.size
  · rw [putT_long h]
    go_enter Try.func23, Try.ntmps23
    go_wp2
    go_ret
    exact ⟨rfl, Below.refl _ _⟩
  · rw [putT_short h]
    have hp := putN_size s.size
    go_enter Try.func23, Try.ntmps23
    go_wp2_with fail
    refine (implPutNum_any _ _ (by omega) (by omega)).mono ?_
    rintro e w1 ⟨rfl, hb1⟩
    go_wp2_with fail
    refine (joinTexts_any _ _ _ (by omega) (by omega)).mono ?_
    rintro e w2 ⟨rfl, hb2⟩
    go_wp2
    go_ret
    exact ⟨rfl, hb1.trans (hb2.mono hb1.size)⟩

set_option maxHeartbeats 1000000 in
theorem specPutText_any (s : ByteArray) (w : World) (hs : s.size ≤ maxLen) :
    Calls Try.prog 22 #[.string s] w fun e w' => e = .returned (.string (putT s)) ∧ Below w.heap.size w w' := by
  unfold maxLen at hs
  by_cases h : 8000 < s.size
  · rw [putT_long h]
    go_enter Try.func22, Try.ntmps22
    go_wp2
    go_ret
    exact ⟨rfl, Below.refl _ _⟩
  · rw [putT_short h]
    have hp := putN_size s.size
    go_enter Try.func22, Try.ntmps22
    go_wp2_with fail
    refine (specPutNum_any _ _ (by omega) (by omega)).mono ?_
    rintro e w1 ⟨rfl, hb1⟩
    go_wp2
    go_ret
    exact ⟨put_str (app_bs _ _), hb1⟩

set_option maxRecDepth 100000 in
set_option maxHeartbeats 1000000 in
theorem cutText_any (s : ByteArray) (i j : Nat) (w : World) (hs : s.size ≤ 1000000) (hij : i ≤ j) (hj : j ≤ s.size) :
    Calls Try.prog 37 #[.string s, .int .i64 (i : Int), .int .i64 (j : Int)] w fun e w' => e = .returned (.string (s.extract i j)) ∧ Below w.heap.size w w' := by
  have hmk := run_make_row' (P := Try.prog) 22 5 (.int .u8 0) 1 Try.underlying22 Try.infoB rfl .i64 .i64 (j - i) (by omega) (by omega)
  rw [show ((j - i : Nat) : Int) = (j : Int) - (i : Int) by omega] at hmk
  have he : (s.extract i j).size = j - i := by rw [ByteArray.size_extract]; omega
  have HE := Lib.hid he
  have HML := Lib.hid (madeList (j - i))
  have HL : Hid (((s.extract i j).data.toList.map bv).length = j - i) := Lib.hid (by rw [List.length_map]; exact he)
  have HT : Hid (splice (List.replicate (j - i) (Value.int .u8 0)) 0 ((s.extract i j).data.toList.map bv) = (s.extract i j).data.toList.map bv) := Lib.hid (splice_whole _ _ (by rw [HL.out]; simp))
  have HC : Hid ((s.extract i j).data.toList.length = j - i) := Lib.hid he
  clear he
  go_enter Try.func37, Try.ntmps37
  go_wp2_with (with_reducible refine wpList_copy_str (o := ⟨some 17, _, _, _, _, _⟩) rfl (.tmp 12) (.tmp 16) 22 9 rfl 5 Try.underlying22 Try.sizeB _ _ _ (s.extract i j) rfl rfl w.heap.size 0 (List.replicate (j - i) (.int .u8 0)) 5 (by rw [HML.out]; exact heap_alloc_new w _) (by rw [HE.out]; exact Nat.le_refl _) (fun _ => rfl) (by rw [HE.out]; simp) w.heap.size w ((Below.refl _ _).alloc (Nat.le_refl _) _) (Nat.le_refl _) ?_; intro w1 hg1 hb1; have hcv := join_str (s.extract i j) HT HC hg1 (by omega))
  go_ret
  exact ⟨rfl, hb1⟩

theorem cutText_int (s : ByteArray) (i j : Int) (w : World) (hs : s.size ≤ 1000000) (hi : 0 ≤ i) (hij : i ≤ j) (hj : j ≤ s.size) :
    Calls Try.prog 37 #[.string s, .int .i64 i, .int .i64 j] w fun e w' => e = .returned (.string (s.extract i.toNat j.toNat)) ∧ Below w.heap.size w w' := by
  obtain ⟨n, rfl⟩ := Int.eq_ofNat_of_zero_le hi
  obtain ⟨m, rfl⟩ := Int.eq_ofNat_of_zero_le (show 0 ≤ j by omega)
  simp only [Int.toNat_natCast]
  exact cutText_any s n m w hs (by omega) (by omega)

end Go.Proofs.Ytldencefagnhfaa
