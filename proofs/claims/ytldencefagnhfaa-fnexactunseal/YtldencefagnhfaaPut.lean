/- The walks of PutNum: the program's and the model's hand back the same bytes, putN of the number. -/
import Derived.Test.YtldencefagnhfaaNum
import Derived.WalkKit
import Derived.WalkSpells
import Derived.WalkLawsBesides
import Derived.Lib.Hide
import Derived.Laws.BytesArg
namespace Go.Proofs.Ytldencefagnhfaa
open Go.RowKit

theorem put_int {k : IntKind} {a b : Int} (h : a = b) : Ending.returned (.int k a) = .returned (.int k b) := by rw [h]
theorem put_str {a b : ByteArray} (h : a = b) : Ending.returned (.string a) = .returned (.string b) := by rw [h]
theorem put_val {k : IntKind} {a b : Int} (h : a = b) : Value.int k a = .int k b := by rw [h]

theorem wrapFold (n : Int) (h1 : -9223372036854775808 ≤ n) (h2 : n < 0) : IntKind.u64.wrap (IntKind.u64.wrap n * 2) = ((18446744073709551616 + 2 * n).toNat : Int) := by
  rw [IntKind.wrap_u64, IntKind.wrap_u64]; omega

set_option maxHeartbeats 400000 in
theorem foldSpec_any (n : Int) (w : World) (h1 : -9223372036854775808 ≤ n) (h2 : n ≤ 9223372036854775807) :
    Calls Try.prog 40 #[.int .i64 n] w fun e w' => e = .returned (.int .u64 (foldN n : Nat)) ∧ w = w' := by
  by_cases hn : n < 0
  · go_enter Try.func40, Try.ntmps40
    go_wp2
    go_ret
    exact ⟨put_int (by unfold foldN; rw [if_pos hn]; omega), rfl⟩
  · go_enter Try.func40, Try.ntmps40
    go_wp2
    go_ret
    exact ⟨put_int (by unfold foldN; rw [if_neg (by omega)]; omega), rfl⟩

set_option maxHeartbeats 400000 in
theorem foldImpl_any (n : Int) (w : World) (h1 : -9223372036854775808 ≤ n) (h2 : n ≤ 9223372036854775807) :
    Calls Try.prog 41 #[.int .i64 n] w fun e w' => e = .returned (.int .u64 (foldN n : Nat)) ∧ w = w' := by
  by_cases hn : n < 0
  · have HW := Lib.hid (wrapFold n h1 hn)
    have HN := Lib.hid (not64 (18446744073709551616 + 2 * n).toNat (by omega))
    go_enter Try.func41, Try.ntmps41
    go_wp2
    go_ret
    exact ⟨put_int (by rw [HW.out, HN.out]; unfold foldN; rw [if_pos hn]; omega), rfl⟩
  · go_enter Try.func41, Try.ntmps41
    go_wp2
    go_ret
    exact ⟨put_int (by unfold foldN; rw [if_neg (by omega)]; omega), rfl⟩

theorem Try.infoB : (Try.prog.info? 5).map (fun i => (i.zero, i.size, i.bytes)) = some (some (.int .u8 0), 1, 1) := by kernel_rfl

/-- 'string(b)' of a row of the call's own -/
theorem convert_own {w : World} {base : Nat} {v : Value} {l : List UInt8} (h : w.ownsRow base 5 1 v l.length (l.map bv)) :
    (convert 22 9 v).run Try.prog w = .ok (.string (bs l)) w := by
  rcases h.2 with ⟨rfl, h0⟩ | ⟨g, cap, cur, rfl, hb, hh, hc, hm, hs, ht⟩
  · obtain rfl : l = [] := List.eq_nil_of_length_eq_zero h0
    exact run_convert_bytes_nil w 22 5 Try.underlying22 Try.underlying5 0 0 9 Try.underlying9
  · exact run_convert_bytes_back w 22 9 5 ⟨g, 0, none⟩ cap l Try.underlying22 Try.underlying5 Try.underlying9 (fun j hj => by
      refine h.cells (g := g) rfl j _ ?_
      rw [List.getElem?_map, List.getElem?_eq_getElem hj]; rfl)

theorem own_snoc {w : World} {base n : Nat} {v : Value} {l : List UInt8} {b : UInt8} {c : Int} (hc : c = (b.toNat : Int)) (hn : n = l.length)
    (h : w.ownsRow base 5 1 v (n + 1) (l.map bv ++ [.int .u8 c])) : w.ownsRow base 5 1 v (l ++ [b]).length ((l ++ [b]).map bv) := by
  subst hc hn; simpa [bv] using h

theorem or128' (y : Nat) : bits .or .u8 ((y : Int) % 128) 128 = (y : Int) % 128 + 128 := by
  have e := or128 (y % 128) (by omega)
  have h : ((y % 128 : Nat) : Int) = (y : Int) % 128 := by omega
  rw [h] at e; rw [e]; omega
theorem one_cell {k : IntKind} (c : Int) : ∀ u ∈ [Value.int k c], u.oneCell' = true := by
  intro u hu
  rw [List.mem_singleton] at hu; subst hu; rfl
theorem grow_step {W wr w1 : World} {v : Value} {n : Nat} {xs : List Value} {o : Obj} (hbel : Below W.heap.size W wr) (hown : wr.ownsRow W.heap.size 5 1 v n xs)
    (hg : (wr.alloc o).grownBy w1 v.ownBlock) : Below W.heap.size W w1 :=
  (hbel.alloc hbel.size o).grown hg (by have := hbel.size; simp; omega) (fun k hk => (hown.lt k hk).1)
theorem make10 : ∀ w : World, (Instr.makeSlice 22 (.int .i64 0) (.int .i64 10)).run Try.prog w = .ok (.slice (some ⟨w.heap.size, 0, none⟩) 0 10) (w.alloc (.cells (madeCells #[.int .u8 0] 10) 5)) := fun _ => by kernel_rfl

set_option maxRecDepth 100000 in
set_option maxHeartbeats 1000000 in
theorem specPutNum_any (n : Int) (w : World) (h1 : -9223372036854775808 ≤ n) (h2 : n ≤ 9223372036854775807) :
    Calls Try.prog 20 #[.int .i64 n] w fun e w' => e = .returned (.string (bs (putN n))) ∧ Below w.heap.size w w' := by
  obtain ⟨i0, hi, hz0, hz1, hz2⟩ := info_parts Try.infoB
  have hu := foldN_lt h1 h2
  have HP : Hid (putN n = putU (foldN n)) := Lib.hid rfl
  go_enter Try.func20, Try.ntmps20
  go_wp2_with (go_at_call 40; refine (foldSpec_any _ _ h1 h2).mono ?_; rintro e w' ⟨rfl, rfl⟩)
  generalize foldN n = u at *
  go_loopw [3, 4] (fun x v wr => ∃ y f : Nat, ∃ l : List UInt8, x = .int .u64 (y : Int) ∧ y < 18446744073709551616 ∧ PutAt u y f l ∧ wr.ownsRow w.heap.size 5 1 v l.length (l.map bv) ∧ Below w.heap.size w wr) (fun x _ _ => (intOf x).toNat)
  case atStart => exact ⟨u, 10, [], rfl, hu, PutAt.start hu, World.ownsRow_lit w #[] 0 (Nat.le_refl _) (by unfold maxLen; omega) rfl, (Below.refl _ _).alloc (Nat.le_refl _) _⟩
  case round =>
    obtain ⟨y, f, l, rfl, hy, hat, hown, hbel⟩ := hrel
    by_cases hc : 128 ≤ y
    · obtain ⟨g, hf, hat'⟩ := hat.go hc
      have HF := Lib.hid hf
      have HAT := Lib.hid hat'
      have HL := Lib.hid hat.1
      have hB := byte_hi y
      have HB := Lib.hid hB
      clear hf hat' hat hB
      have hll : l.length ≤ 10 := by have := HL.out; omega
      have hsz := hbel.size
      go_wp2_with (at_builtin; refine wpList_append_own _ rfl _ _ 22 rfl w.heap.size 5 i0 (.int .u8 0) 1 1 Try.underlying22 hi hz0 hz1 hz2 rfl (by decide) _ _ _ rfl (hown.alloc _) ⟨wr.heap.size, 0, none⟩ 1 1 [.int .u8 ((y : Int) % 128 + 128)] rfl rfl (cell_one_new _ _ _) (one_cell _) (by unfold maxLen; omega) (by omega) (by simp; omega) ?_)
      intro v' w1 hown' hgrow _
      have hbel' := grow_step hbel hown hgrow
      have hown2 := own_snoc (b := UInt8.ofNat (y % 128 + 128)) (by rw [HB.out]; omega) rfl hown'
      have HOWN := Lib.hid hown2
      clear hown' hgrow hown hown2
      go_wp2
      go_roundw
      case rel => exact ⟨y / 128, g, _, by go_num, by omega, HAT.out, HOWN.out, hbel'⟩
      case measure => simp [intOf]; omega
    · have hB := byte_lo (show y < 128 by omega)
      have HB := Lib.hid hB
      have HS := Lib.hid (hat.stop (by omega))
      have HL := Lib.hid hat.1
      have hll : l.length ≤ 10 := by have := HL.out; omega
      have hsz := hbel.size
      clear hB hat
      go_wp2_with (at_builtin; refine wpList_append_own _ rfl _ _ 22 rfl w.heap.size 5 i0 (.int .u8 0) 1 1 Try.underlying22 hi hz0 hz1 hz2 rfl (by decide) _ _ _ rfl (hown.alloc _) ⟨wr.heap.size, 0, none⟩ 1 1 [.int .u8 (y : Int)] rfl rfl (cell_one_new _ _ _) (one_cell _) (by unfold maxLen; omega) (by omega) (by simp; omega) ?_)
      intro v' w1 hown' hgrow _
      have hbel' := grow_step hbel hown hgrow
      have hown2 := own_snoc (b := UInt8.ofNat y) (by rw [HB.out]) rfl hown'
      have hcv := convert_own hown2
      clear hown' hgrow hown hown2
      go_wp2
      go_ret
      exact ⟨put_str (by rw [HP.out, HS.out]), hbel'⟩
set_option maxRecDepth 100000 in
set_option maxHeartbeats 1000000 in
theorem implPutNum_any (n : Int) (w : World) (h1 : -9223372036854775808 ≤ n) (h2 : n ≤ 9223372036854775807) :
    Calls Try.prog 21 #[.int .i64 n] w fun e w' => e = .returned (.string (bs (putN n))) ∧ Below w.heap.size w w' := by
  obtain ⟨i0, hi, hz0, hz1, hz2⟩ := info_parts Try.infoB
  have hu := foldN_lt h1 h2
  have HP : Hid (putN n = putU (foldN n)) := Lib.hid rfl
  have hmk := make10
  go_enter Try.func21, Try.ntmps21
  go_wp2_with (go_at_call 41; refine (foldImpl_any _ _ h1 h2).mono ?_; rintro e w' ⟨rfl, rfl⟩)
  generalize foldN n = u at *
  clear hmk
  go_loopw [3, 4] (fun v x wr => ∃ y f : Nat, ∃ l : List UInt8, x = .int .u64 (y : Int) ∧ y < 18446744073709551616 ∧ PutAt u y f l ∧ wr.ownsRow w.heap.size 5 1 v l.length (l.map bv) ∧ Below w.heap.size w wr) (fun _ x _ => (intOf x).toNat)
  case atStart => exact ⟨u, 10, [], rfl, hu, PutAt.start hu, World.ownsRow_made w _ 10 (Nat.le_refl _) (by unfold maxLen; omega) (by simp [madeCells]), (Below.refl _ _).alloc (Nat.le_refl _) _⟩
  case round =>
    obtain ⟨y, f, l, rfl, hy, hat, hown, hbel⟩ := hrel
    by_cases hc : 128 ≤ y
    · obtain ⟨g, hf, hat'⟩ := hat.go hc
      have HF := Lib.hid hf
      have HAT := Lib.hid hat'
      have HL := Lib.hid hat.1
      have hB := byte_hi y
      have HB := Lib.hid hB
      clear hf hat' hat hB
      have hll : l.length ≤ 10 := by have := HL.out; omega
      have hsz := hbel.size
      have ha : bits .and .u64 (y : Int) 127 = (y : Int) % 128 := by rw [and127 y hy]; omega
      have ho : bits .or .u8 ((y : Int) % 128) 128 = (y : Int) % 128 + 128 := or128' y
      go_wp2_with (at_builtin; refine wpList_append_own _ rfl _ _ 22 rfl w.heap.size 5 i0 (.int .u8 0) 1 1 Try.underlying22 hi hz0 hz1 hz2 rfl (by decide) _ _ _ rfl (hown.alloc _) ⟨wr.heap.size, 0, none⟩ 1 1 [.int .u8 ((y : Int) % 128 + 128)] rfl rfl (cell_one_new _ _ _) (one_cell _) (by unfold maxLen; omega) (by omega) (by simp; omega) ?_)
      intro v' w1 hown' hgrow _
      have hbel' := grow_step hbel hown hgrow
      have hown2 := own_snoc (b := UInt8.ofNat (y % 128 + 128)) (by rw [HB.out]; omega) rfl hown'
      have HOWN := Lib.hid hown2
      clear hown' hgrow hown hown2 ha ho
      go_wp2
      go_roundw
      case rel => exact ⟨y / 128, g, _, by go_num, by omega, HAT.out, HOWN.out, hbel'⟩
      case measure => simp [intOf]; omega
    · have hB := byte_lo (show y < 128 by omega)
      have HB := Lib.hid hB
      have HS := Lib.hid (hat.stop (by omega))
      have HL := Lib.hid hat.1
      have hll : l.length ≤ 10 := by have := HL.out; omega
      have hsz := hbel.size
      clear hB hat
      go_wp2_with (at_builtin; refine wpList_append_own _ rfl _ _ 22 rfl w.heap.size 5 i0 (.int .u8 0) 1 1 Try.underlying22 hi hz0 hz1 hz2 rfl (by decide) _ _ _ rfl (hown.alloc _) ⟨wr.heap.size, 0, none⟩ 1 1 [.int .u8 (y : Int)] rfl rfl (cell_one_new _ _ _) (one_cell _) (by unfold maxLen; omega) (by omega) (by simp; omega) ?_)
      intro v' w1 hown' hgrow _
      have hbel' := grow_step hbel hown hgrow
      have hown2 := own_snoc (b := UInt8.ofNat y) (by rw [HB.out]) rfl hown'
      have hcv := convert_own hown2
      clear hown' hgrow hown hown2
      go_wp2
      go_ret
      exact ⟨put_str (by rw [HP.out, HS.out]), hbel'⟩

end Go.Proofs.Ytldencefagnhfaa
