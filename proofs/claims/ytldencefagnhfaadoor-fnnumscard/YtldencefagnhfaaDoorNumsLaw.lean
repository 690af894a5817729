/- The walk of the law FnNums. -/
import Derived.Test.YtldencefagnhfaaDoorNumDraw
import Derived.Test.YtldencefagnhfaaDoorBack
import Derived.Test.YtldencefagnhfaaDoorSpecText
import Derived.Test.YtldencefagnhfaaDoorRowb
import Derived.Laws.StructEq
namespace Go.Proofs.YtldencefagnhfaaDoor
open Go Go.RowKit

theorem list_eqb (a b : ByteArray) : (a.toList == b.toList) = decide (a = b) := by
  rw [Bool.eq_iff_iff]; simp [ByteArray.toList_eq]
  constructor
  · intro h; exact ByteArray.ext h
  · intro h; rw [h]
theorem size_bs_put {n : Int} (h1 : -9223372036854775808 ≤ n) (h2 : n ≤ 9223372036854775807) : 1 ≤ (bs (putN n)).size ∧ (bs (putN n)).size ≤ 10 := putN_len h1 h2
/-- GetNum amid others -/
theorem getNum_back {n : Int} (h1 : -9223372036854775808 ≤ n) (h2 : n ≤ 9223372036854775807) (w : World) (hl : Laid w) :
    Calls Tryd.prog 9 #[.string (⟨#[120, 121]⟩ ++ bs (putN n) ++ ⟨#[122]⟩), .int .i64 2] w fun e w' => e = .returned (.agg #[.int .i64 n, .int .i64 ((bs (putN n)).size + 2), .int .i64 0]) ∧ Below w.heap.size w w' := by
  have hlen := putN_len h1 h2
  have e : (⟨#[120, 121]⟩ ++ bs (putN n) ++ ⟨#[122]⟩ : ByteArray) = bs ([120, 121] ++ putN n ++ [122]) := by
    have a1 := ByteArray.mk_append_mk [120, 121] (putN n)
    have a2 := ByteArray.mk_append_mk ([120, 121] ++ putN n) [122]
    show (ByteArray.mk [120, 121].toArray ++ ByteArray.mk (putN n).toArray) ++ ByteArray.mk [122].toArray = _
    rw [a1, a2]; rfl
  have hsz : (bs ([120, 121] ++ putN n ++ [122])).size = (putN n).length + 3 := by rw [bs_size]; simp
  have hb := num_back h1 h2 [120, 121] [122] (by omega)
  rw [e]
  have := implGetNum_any (bs ([120, 121] ++ putN n ++ [122])) 2 w (by unfold maxLen; omega) (by omega) (by omega) hl
  have hb' : numOf (bs ([120, 121] ++ putN n ++ [122])) 2 = (n, ((2 + (putN n).length : Nat) : Int), 0) := hb
  rw [hb'] at this
  have e2 : (((2 + (putN n).length : Nat) : Int)) = ((bs (putN n)).size : Int) + 2 := by rw [bs_size]; omega
  simp only [nout, e2] at this
  exact this
/-- GetNum cut off -/
theorem getNum_cut {n : Int} (h1 : -9223372036854775808 ≤ n) (h2 : n ≤ 9223372036854775807) (w : World) (hl : Laid w) :
    Calls Tryd.prog 9 #[.string ((bs (putN n)).extract 0 ((bs (putN n)).size - 1)), .int .i64 0] w fun e w' => e = .returned (.agg #[.int .i64 0, .int .i64 0, .int .i64 4]) ∧ Below w.heap.size w w' := by
  have hlen := putN_len h1 h2
  have e : (bs (putN n)).extract 0 ((bs (putN n)).size - 1) = bs ((putN n).take ((putN n).length - 1)) := ext_bs (by rw [Lib.extract_data, bs_data]; simp [bs_size])
  rw [e]
  have hsz : (bs ((putN n).take ((putN n).length - 1))).size ≤ 10 := by rw [bs_size, List.length_take]; omega
  have := implGetNum_any (bs ((putN n).take ((putN n).length - 1))) 0 w (by unfold maxLen; omega) (by omega) (by omega) hl
  rw [num_cut h1 h2 _ rfl] at this
  simp only [nout] at this
  exact this
theorem putT_size {u : ByteArray} (h : ¬ 8000 < u.size) : (putT u).size = (putN u.size).length + u.size := by rw [putT_short h, bs_size, List.length_append]; rfl
theorem putT_ne {u : ByteArray} (h : ¬ 8000 < u.size) : (putT u).toList.isEmpty = false := by
  have h1 := putT_size h
  have h2 := (putF_length 10 (foldN u.size)).1
  have h3 : (putT u).data.toList.length = (putT u).size := rfl
  have h4 : (putN u.size).length = (putF 10 (foldN u.size)).length := rfl
  rw [ByteArray.toList_eq]
  cases hq : (putT u).data.toList with
  | nil => rw [hq] at h3; simp at h3; omega
  | cons x l => rfl
/-- GetText behind another byte -/
theorem getText_back {u : ByteArray} (h : ¬ 8000 < u.size) (h2 : (putT u).size + 1 ≤ 8000) (w : World) (hl : Laid w) :
    Calls Tryd.prog 13 #[.string (⟨#[120]⟩ ++ putT u), .int .i64 1] w fun e w' => e = .returned (.agg #[.string u, .int .i64 ((putT u).size + 1), .int .i64 0]) ∧ Below w.heap.size w w' := by
  have hz := putT_size h
  have e : (⟨#[120]⟩ ++ putT u : ByteArray) = bs ([120] ++ putN u.size ++ u.data.toList) := by
    rw [putT_short h]
    have a1 := ByteArray.mk_append_mk [120] (putN u.size ++ u.data.toList)
    show (ByteArray.mk [120].toArray ++ ByteArray.mk (putN u.size ++ u.data.toList).toArray) = _
    rw [a1, List.append_assoc]; rfl
  have hsz : (bs ([120] ++ putN u.size ++ u.data.toList)).size = 1 + (putN u.size).length + u.size := by rw [bs_size, List.length_append, List.length_append]; rfl
  rw [e]
  have := implGetText_any (bs ([120] ++ putN u.size ++ u.data.toList)) 1 w (by unfold maxLen; omega) (by omega) (by omega) hl
  rw [text_back u 120 (by omega)] at this
  have e2 : ((((putN u.size).length + u.size + 1 : Nat) : Int)) = ((putT u).size : Int) + 1 := by rw [hz]; omega
  simp only [txo, e2] at this
  exact this
/-- GetText cut off -/
theorem getText_cut {u : ByteArray} (h : ¬ 8000 < u.size) (h2 : (putT u).size + 1 ≤ 8000) (w : World) (hl : Laid w) :
    Calls Tryd.prog 13 #[.string ((putT u).extract 0 ((putT u).size - 1)), .int .i64 0] w fun e w' => e = .returned (.agg #[.string (bs []), .int .i64 0, .int .i64 4]) ∧ Below w.heap.size w w' := by
  have hz := putT_size h
  have e : (putT u).extract 0 ((putT u).size - 1) = bs ((putN u.size ++ u.data.toList).take ((putN u.size).length + u.size - 1)) := ext_bs (by
    rw [Lib.extract_data, hz, putT_short h, bs_data]; simp)
  rw [e]
  have hsz : (bs ((putN u.size ++ u.data.toList).take ((putN u.size).length + u.size - 1))).size ≤ 8000 := by rw [bs_size, List.length_take]; omega
  have := implGetText_any (bs ((putN u.size ++ u.data.toList).take ((putN u.size).length + u.size - 1))) 0 w (by unfold maxLen; omega) (by omega) (by omega) hl
  rw [text_cut u (by omega) _ rfl] at this
  simp only [txo] at this
  exact this
theorem fieldN (a b c : Int) (w : World) : (Instr.field 26 (.agg #[.int .i64 a, .int .i64 b, .int .i64 c]) 2).run Tryd.prog w = .ok (.int .i64 c) w := by kernel_rfl
theorem fieldT (t : ByteArray) (b c : Int) (w : World) : (Instr.field 31 (.agg #[.string t, .int .i64 b, .int .i64 c]) 2).run Tryd.prog w = .ok (.int .i64 c) w := by kernel_rfl
end Go.Proofs.YtldencefagnhfaaDoor
namespace Go.Proofs.YtldencefagnhfaaDoor.fnNums
open Go Go.RowKit

set_option maxRecDepth 100000 in
set_option maxHeartbeats 1000000 in
theorem walk (a0 : Option Addr) (len0 cap0 : Nat) (z0 : List Int) (a1 : Option Addr) (len1 cap1 : Nat) (z1 : List Int) (w : World) (r0 : IsRow .u8 w a0 len0 cap0 z0) (r1 : IsRow .u8 w a1 len1 cap1 z1) (hl : Laid w) :
    Calls Tryd.prog 3 #[.slice a0 len0 cap0, .slice a1 len1 cap1] w fun e w' => e = .returned (.bool true) ∧ Below w.heap.size w w' := by
  have B0 := Lib.hid r0.bytes
  have B1 := Lib.hid r1.bytes
  have HL := Lib.hid hl
  clear r0 r1 hl
  by_cases h0 : (1048576 : Int) < (len0 : Int)
  · go_enter Tryd.func3, Tryd.ntmps3
    go_wp2
    go_ret
    exact ⟨rfl, Below.refl _ _⟩
  by_cases h1 : (1048576 : Int) < (len1 : Int)
  · go_enter Tryd.func3, Tryd.ntmps3
    go_wp2
    go_ret
    exact ⟨rfl, Below.refl _ _⟩
  have d0 : decide ((1048576 : Int) < (len0 : Int)) = false := decide_eq_false h0
  have d1 : decide ((1048576 : Int) < (len1 : Int)) = false := decide_eq_false h1
  go_enter Tryd.func3, Tryd.ntmps3
  go_wp2_with fail
  refine (drawPutNum_any w a0 len0 cap0 B0.out (by omega)).mono ?_
  rintro e w1 ⟨n, rfl, ⟨hn0, hn1⟩, hb1⟩
  have HN := Lib.hid (And.intro hn0 hn1)
  obtain ⟨hz0, hz1⟩ := size_bs_put hn0 hn1
  clear hn0 hn1
  go_wp2_with fail
  refine (implPutNum_any _ _ HN.out.1 HN.out.2).mono ?_
  rintro e w2 ⟨rfl, hb2'⟩
  have hb2 := hb1.trans (hb2'.mono hb1.size)
  clear hb2' hb1
  go_wp2_with fail
  refine (specPutNum_any _ _ HN.out.1 HN.out.2).mono ?_
  rintro e w3 ⟨rfl, hb3'⟩
  have hb3 := hb2.trans (hb3'.mono hb2.size)
  clear hb3' hb2
  have G := Lib.hid (fun w => getNum_back HN.out.1 HN.out.2 w)
  have C := Lib.hid (fun w => getNum_cut HN.out.1 HN.out.2 w)
  have d2 : decide (((bs (putN n)).size : Int) < 1) = false := decide_eq_false (by omega)
  have d3 : decide ((10 : Int) < ((bs (putN n)).size : Int)) = false := decide_eq_false (by omega)
  go_wp2_with fail
  refine (G.out _ (HL.out.later hb3 HL.out.lt)).mono ?_
  rintro e w4 ⟨rfl, hb4'⟩
  have hb4 := hb3.trans (hb4'.mono hb3.size)
  clear hb4' hb3
  go_wp2_with fail
  refine (C.out _ ((HL.out.later hb4 HL.out.lt).alloc _)).mono ?_
  rintro e w5 ⟨rfl, hb5'⟩
  have hb5 := (hb4.alloc hb4.size (.cells #[.int .i64 n, .int .i64 ((bs (putN n)).size + 2), .int .i64 0] 26)).trans (hb5'.mono (by have := hb4.size; rw [World.size_alloc]; omega))
  have hfld := fieldN
  clear hb5' hb4 G C
  go_wp2_with fail
  refine (drawPutText_any _ a1 len1 cap1 (B1.out.later hb5) (by omega)).mono ?_
  rintro e w6 ⟨u, rfl, hu, hb6'⟩
  have hb6 := hb5.trans (hb6'.mono hb5.size)
  clear hb6' hb5 hfld
  go_wp2_with fail
  refine (implPutText_any _ _ (by unfold maxLen; omega)).mono ?_
  rintro e w7 ⟨rfl, hb7'⟩
  have hb7 := hb6.trans (hb7'.mono hb6.size)
  clear hb7' hb6
  go_wp2_with fail
  refine (specPutText_any _ _ (by unfold maxLen; omega)).mono ?_
  rintro e w8 ⟨rfl, hb8'⟩
  have hb8 := hb7.trans (hb8'.mono hb7.size)
  clear hb8' hb7
  by_cases hlong : 8000 < u.size
  · have HP := Lib.hid (putT_long hlong)
    have he : (putT u).toList.isEmpty = true := by rw [HP.out, ByteArray.toList_eq]; rfl
    go_wp2_with fail
    refine (specPutText_any _ _ (by unfold maxLen; omega)).mono ?_
    rintro e w9 ⟨rfl, hb9'⟩
    have hb9 := hb8.trans (hb9'.mono hb8.size)
    go_wp2
    go_ret
    exact ⟨rfl, hb9⟩
  · have he := putT_ne hlong
    have hpu : (putT u).size ≤ 8011 := by
      have h1 := putT_size hlong
      have h2 := (putF_length 10 (foldN u.size)).2
      have h4 : (putN u.size).length = (putF 10 (foldN u.size)).length := rfl
      omega
    by_cases hbig : (8000 : Int) < ((putT u).size : Int) + 1
    · have d4 : decide ((8000 : Int) < ((putT u).size : Int) + 1) = true := decide_eq_true hbig
      go_wp2
      go_ret
      exact ⟨rfl, hb8⟩
    · have d4 : decide ((8000 : Int) < ((putT u).size : Int) + 1) = false := decide_eq_false hbig
      have hps : 1 ≤ (putT u).size := by
        have h1 := putT_size hlong
        have h2 := (putF_length 10 (foldN u.size)).1
        have h4 : (putN u.size).length = (putF 10 (foldN u.size)).length := rfl
        omega
      have G := Lib.hid (fun w => getText_back hlong (by omega) w)
      have C := Lib.hid (fun w => getText_cut hlong (by omega) w)
      go_wp2_with fail
      refine (G.out _ (HL.out.later hb8 HL.out.lt)).mono ?_
      rintro e w9 ⟨rfl, hb9'⟩
      have hb9 := hb8.trans (hb9'.mono hb8.size)
      clear hb9' hb8
      go_wp2_with fail
      refine (C.out _ (HL.out.later hb9 HL.out.lt)).mono ?_
      rintro e w10 ⟨rfl, hb10'⟩
      have hb10 := hb9.trans (hb10'.mono hb9.size)
      have hfld := fieldT
      clear hb10' hb9
      go_wp2
      go_ret
      exact ⟨rfl, hb10⟩
end Go.Proofs.YtldencefagnhfaaDoor.fnNums
