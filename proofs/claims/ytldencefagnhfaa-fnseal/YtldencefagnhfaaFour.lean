/- The walks of crcText and l01Four: the four bytes of a CRC, the lowest first. -/
import Derived.Test.YtldencefagnhfaaText
namespace Go.Proofs.Ytldencefagnhfaa
open Go.RowKit

def four (n : Nat) : List UInt8 := [UInt8.ofNat n, UInt8.ofNat (n / 256), UInt8.ofNat (n / 65536), UInt8.ofNat (n / 16777216)]
def fourCells (n k : Nat) : Array Value := #[if 0 < k then bv (UInt8.ofNat n) else .int .u8 0, if 1 < k then bv (UInt8.ofNat (n / 256)) else .int .u8 0, if 2 < k then bv (UInt8.ofNat (n / 65536)) else .int .u8 0, if 3 < k then bv (UInt8.ofNat (n / 16777216)) else .int .u8 0]
theorem fourCells_end (n : Nat) : fourCells n 4 = ((four n).map bv).toArray := rfl
theorem byteOf (n : Nat) : ((UInt8.ofNat n).toNat : Int) = (n : Int) % 256 := by simp

theorem heap_set {w : World} {g i : Nat} {t : TypeId} {cs : Array Value} (h : w.heap[g]? = some (.cells cs t (0, 0))) (u : Value) : (w.setCell ⟨g, i, none⟩ u).heap[g]? = some (.cells (cs.setIfInBounds i u) t (0, 0)) := by
  simp [World.setCell, Array.getElem?_modify, h]
theorem heap_cell {w : World} {g : Nat} {t : TypeId} {cs : Array Value} (h : w.heap[g]? = some (.cells cs t (0, 0))) (i : Nat) : w.cell? ⟨g, i, none⟩ = cs[i]? := cell_of_row w g i cs t (0, 0) h
theorem heap_free {w : World} {g : Nat} {t : TypeId} {cs : Array Value} (h : w.heap[g]? = some (.cells cs t (0, 0))) (i : Nat) : w.frozen? ⟨g, i, none⟩ = false := by
  simp [World.frozen?, h]

theorem four_vals (n : Nat) (hn : n < 4294967296) : ((four n).map bv).toArray = #[.int .u8 ((n : Int) % 256), .int .u8 ((n : Int) / 256 % 256), .int .u8 ((n : Int) / 65536 % 256), .int .u8 ((n : Int) / 16777216)] := by
  simp only [four, List.map, bv, byteOf]
  rw [show ((n / 16777216 : Nat) : Int) % 256 = (n : Int) / 16777216 by omega]; rfl
theorem four_conv (n : Nat) (w : World) (hn : n < 4294967296) :
    (convert 22 9 (.slice (some ⟨w.heap.size, 0, none⟩) 4 4)).run Try.prog (w.alloc (.cells #[.int .u8 ((n : Int) % 256), .int .u8 ((n : Int) / 256 % 256), .int .u8 ((n : Int) / 65536 % 256), .int .u8 ((n : Int) / 16777216)] 5)) = .ok (.string (bs (four n))) (w.alloc (.cells #[.int .u8 ((n : Int) % 256), .int .u8 ((n : Int) / 256 % 256), .int .u8 ((n : Int) / 65536 % 256), .int .u8 ((n : Int) / 16777216)] 5)) := by
  rw [← four_vals n hn]
  exact convert_block (l := four n) (by unfold maxLen; simp [four]) (heap_alloc_new w _)

theorem four0 (n : Nat) : (fourCells n 0).setIfInBounds 0 (.int .u8 ((n : Int) % 256)) = fourCells n 1 := by rw [← byteOf]; rfl
theorem four1 (n : Nat) : (fourCells n 1).setIfInBounds 1 (.int .u8 ((n : Int) / 256 % 256)) = fourCells n 2 := by
  rw [show (n : Int) / 256 % 256 = ((n / 256 : Nat) : Int) % 256 by omega, ← byteOf]; rfl
theorem four2 (n : Nat) : (fourCells n 2).setIfInBounds 2 (.int .u8 ((n : Int) / 65536 % 256)) = fourCells n 3 := by
  rw [show (n : Int) / 65536 % 256 = ((n / 65536 : Nat) : Int) % 256 by omega, ← byteOf]; rfl
theorem four3 (n : Nat) (hn : n < 4294967296) : (fourCells n 3).setIfInBounds 3 (.int .u8 ((n : Int) / 16777216)) = fourCells n 4 := by
  rw [show (n : Int) / 16777216 = ((n / 16777216 : Nat) : Int) % 256 by omega, ← byteOf]; rfl
theorem four_step {w : World} {g k : Nat} {t : TypeId} {cs cs' : Array Value} {u : Value} (h : w.heap[g]? = some (.cells cs t (0, 0))) (e : cs.setIfInBounds k u = cs') : (w.setCell ⟨g, k, none⟩ u).heap[g]? = some (.cells cs' t (0, 0)) := by
  rw [heap_set h, e]

set_option maxRecDepth 100000 in
set_option maxHeartbeats 1000000 in
theorem l01Four_any (n : Nat) (w : World) (hn : n < 4294967296) :
    Calls Try.prog 35 #[.int .i64 (n : Int)] w fun e w' => e = .returned (.string (bs (four n))) ∧ Below w.heap.size w w' := by
  have hcv := four_conv n w hn
  go_enter Try.func35, Try.ntmps35
  go_wp2
  go_ret
  exact ⟨rfl, (Below.refl _ _).alloc (Nat.le_refl _) _⟩

theorem make4 : ∀ w : World, (Instr.makeSlice 22 (.int .i64 4) (.int .i64 4)).run Try.prog w = .ok (.slice (some ⟨w.heap.size, 0, none⟩) 4 4) (w.alloc (.cells #[.int .u8 0, .int .u8 0, .int .u8 0, .int .u8 0] 5)) := fun _ => by kernel_rfl

set_option maxRecDepth 100000 in
set_option maxHeartbeats 1000000 in
theorem crcText_any (n : Nat) (w : World) (hn : n < 4294967296) :
    Calls Try.prog 34 #[.int .i64 (n : Int)] w fun e w' => e = .returned (.string (bs (four n))) ∧ Below w.heap.size w w' := by
  have hmk := make4
  go_enter Try.func34, Try.ntmps34
  go_wp2
  go_loopw [4, 8] (fun _ i wr => ∃ k : Nat, k ≤ 4 ∧ i = .int .i64 k ∧ wr.heap[w.heap.size]? = some (.cells (fourCells n k) 5 (0, 0)) ∧ Below w.heap.size w wr) (fun _ i _ => 4 - (intOf i).toNat)
  case atStart => exact ⟨0, by omega, rfl, heap_alloc_new w _, (Below.refl _ _).alloc (Nat.le_refl _) _⟩
  case round =>
    obtain ⟨k, hk, rfl, hg, hb⟩ := hrel
    rcases (show k = 0 ∨ k = 1 ∨ k = 2 ∨ k = 3 ∨ k = 4 by omega) with rfl | rfl | rfl | rfl | rfl
    · have hc : wr.cell? ⟨w.heap.size, 0, none⟩ = some (.int .u8 0) := (heap_cell hg 0).trans rfl
      have hf := heap_free hg 0
      have HG := Lib.hid hg
      clear hg
      go_wp2
      go_roundw
      case rel => exact ⟨1, by omega, rfl, four_step HG.out (four0 n), hb.setCell (Nat.le_refl _) _⟩
      case measure => simp [intOf]
    · have hc : wr.cell? ⟨w.heap.size, 1, none⟩ = some (.int .u8 0) := (heap_cell hg 1).trans rfl
      have hf := heap_free hg 1
      have HG := Lib.hid hg
      clear hg
      go_wp2
      go_roundw
      case rel => exact ⟨2, by omega, rfl, four_step HG.out (four1 n), hb.setCell (Nat.le_refl _) _⟩
      case measure => simp [intOf]
    · have hc : wr.cell? ⟨w.heap.size, 2, none⟩ = some (.int .u8 0) := (heap_cell hg 2).trans rfl
      have hf := heap_free hg 2
      have HG := Lib.hid hg
      clear hg
      go_wp2
      go_roundw
      case rel => exact ⟨3, by omega, rfl, four_step HG.out (four2 n), hb.setCell (Nat.le_refl _) _⟩
      case measure => simp [intOf]
    · have hc : wr.cell? ⟨w.heap.size, 3, none⟩ = some (.int .u8 0) := (heap_cell hg 3).trans rfl
      have hf := heap_free hg 3
      have HG := Lib.hid hg
      clear hg
      go_wp2
      go_roundw
      case rel => exact ⟨4, by omega, rfl, four_step HG.out (four3 n hn), hb.setCell (Nat.le_refl _) _⟩
      case measure => simp [intOf]
    · rw [fourCells_end] at hg
      have hcv := convert_block (l := four n) (by unfold maxLen; simp [four]) hg
      rw [show (four n).length = 4 from rfl] at hcv
      clear hg
      go_wp2
      go_ret
      exact ⟨rfl, hb⟩
end Go.Proofs.Ytldencefagnhfaa
