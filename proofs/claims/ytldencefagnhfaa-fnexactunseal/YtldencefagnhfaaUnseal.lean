/- The walks of Unseal, the program's and the model's, and of eqTextOut. -/
import Derived.Test.YtldencefagnhfaaSeal
import Derived.Deep.RegionWith
namespace Go.Proofs.Ytldencefagnhfaa
open Go.RowKit

/-- a TextOut as a value -/
def tout (t : ByteArray) (at_ code : Int) : Value := .agg #[.string t, .int .i64 at_, .int .i64 code]
def tcut (s : ByteArray) : ByteArray := s.extract 0 (s.size - 4)
def unsealOf (s : ByteArray) : ByteArray × Int :=
  if 8000 < s.size then (bs [], 2) else if s.size < 4 then (bs [], 4) else if sealOf (tcut s) = s then (tcut s, 0) else (bs [], 5)

theorem list_eq_iff (a b : ByteArray) : (a.toList == b.toList) = decide (a = b) := by
  rw [Bool.eq_iff_iff]; simp [ByteArray.toList_eq]
  constructor
  · intro h; exact ByteArray.ext h
  · intro h; rw [h]

/-- the cells of a struct of three that the call itself has laid, behind calls that made memory -/
theorem three_kept {w w2 : World} {t : TypeId} {x y z : Value} (hb : Below (w.heap.size + 1) (w.alloc (.cells #[x, y, z] t)) w2) :
    (w2.cell? ⟨w.heap.size, 0, none⟩ = some x ∧ w2.cell? ⟨w.heap.size, 1, none⟩ = some y ∧ w2.cell? ⟨w.heap.size, 2, none⟩ = some z) ∧
    (w2.frozen? ⟨w.heap.size, 0, none⟩ = false ∧ w2.frozen? ⟨w.heap.size, 1, none⟩ = false ∧ w2.frozen? ⟨w.heap.size, 2, none⟩ = false) ∧ w.heap.size < w2.heap.size := by
  have h : w2.heap[w.heap.size]? = some (.cells #[x, y, z] t (0, 0)) := (hb.block _ (by omega)).trans (heap_alloc_new w _)
  exact ⟨⟨heap_cell h 0, heap_cell h 1, heap_cell h 2⟩, ⟨heap_free h 0, heap_free h 1, heap_free h 2⟩, by have := hb.size; simp at this; omega⟩
theorem below_two {w w1 w2 : World} {o : Obj} (h1 : Below (w.heap.size + 1) (w.alloc o) w1) (h2 : Below w1.heap.size w1 w2) : Below (w.heap.size + 1) (w.alloc o) w2 :=
  h1.trans (h2.mono (by have := h1.size; simp at this; omega))
theorem below_three {w w2 : World} {o : Obj} {x y z : Value} (hb : Below (w.heap.size + 1) (w.alloc o) w2) :
    Below w.heap.size w (((w2.setCell ⟨w.heap.size, 0, none⟩ x).setCell ⟨w.heap.size, 1, none⟩ y).setCell ⟨w.heap.size, 2, none⟩ z) :=
  (((((Below.refl _ _).alloc (Nat.le_refl _) _).trans (hb.mono (by omega))).setCell (Nat.le_refl _) _).setCell (Nat.le_refl _) _).setCell (Nat.le_refl _) _
theorem below_undrew {w w2 : World} {o : Obj} (h : Below (w.alloc o).drew.heap.size (w.alloc o).drew w2) : Below (w.heap.size + 1) (w.alloc o) w2 := by
  have e : (w.alloc o).drew.heap.size = w.heap.size + 1 := by simp
  rw [e] at h; exact ⟨h.os, h.tape, h.output, h.size, h.block⟩
theorem below_step {w w1 : World} {o : Obj} (hb : Below (w.heap.size + 1) (w.alloc o) w1) : Below w.heap.size w w1 := ((Below.refl _ _).alloc (Nat.le_refl _) _).trans (hb.mono (by omega))

set_option maxRecDepth 100000 in
set_option maxHeartbeats 1000000 in
theorem implUnseal_any (s : ByteArray) (w : World) (hs : s.size ≤ maxLen) :
    Calls Try.prog 15 #[.string s] w fun e w' => e = .returned (tout (unsealOf s).1 0 (unsealOf s).2) ∧ Below w.heap.size w w' := by
  unfold maxLen at hs
  by_cases h1 : 8000 < s.size
  · have HU : Hid (unsealOf s = (bs [], 2)) := Lib.hid (if_pos h1)
    rw [HU.out]
    go_enter Try.func15, Try.ntmps15
    go_wp2
    exact bodyPost_ret (v := tout (bs []) 0 2) (by simp [results, Try.results15, go_sem, tout, bs]) rfl ⟨rfl, (Below.refl _ _).alloc (Nat.le_refl _) _⟩
  by_cases h2 : s.size < 4
  · have HU : Hid (unsealOf s = (bs [], 4)) := Lib.hid (by unfold unsealOf; rw [if_neg h1, if_pos h2])
    rw [HU.out]
    go_enter Try.func15, Try.ntmps15
    go_wp2
    exact bodyPost_ret (v := tout (bs []) 0 4) (by simp [results, Try.results15, go_sem, tout, bs]) rfl ⟨rfl, (Below.refl _ _).alloc (Nat.le_refl _) _⟩
  have ht : (tcut s).size = s.size - 4 := by unfold tcut; rw [ByteArray.size_extract]; omega
  have HT := Lib.hid ht
  have HC : Hid (s.extract 0 (s.size - 4) = tcut s) := Lib.hid rfl
  by_cases h3 : sealOf (tcut s) = s
  · have HU : Hid (unsealOf s = (tcut s, 0)) := Lib.hid (by unfold unsealOf; rw [if_neg h1, if_neg h2, if_pos h3])
    rw [HU.out]
    have hq : ((sealOf (tcut s)).toList == s.toList) = true := by rw [list_eq_iff, decide_eq_true h3]
    clear h3 ht
    go_enter Try.func15, Try.ntmps15
    go_wp2_with fail
    refine (cutText_int _ _ _ _ (by omega) (by omega) (by omega) (by omega)).mono ?_
    rintro e w1 ⟨rfl, hb1⟩
    rw [show ((s.size : Int) - 4).toNat = s.size - 4 by omega, show (0 : Int).toNat = 0 from rfl, HC.out]
    rw [World.size_alloc] at hb1
    go_wp2_with fail
    refine (implSeal_any _ _ (by rw [HT.out]; unfold maxLen; omega)).mono ?_
    rintro e w2 ⟨rfl, hb2⟩
    have hb := below_two hb1 hb2
    obtain ⟨⟨c0, c1, c2⟩, ⟨f0, f1, f2⟩, _⟩ := three_kept hb
    go_wp2
    exact bodyPost_ret (v := tout (tcut s) 0 0) (by simp [results, Try.results15, go_sem, tout, c0, c1, c2]) rfl ⟨rfl, below_three hb⟩
  · have HU : Hid (unsealOf s = (bs [], 5)) := Lib.hid (by unfold unsealOf; rw [if_neg h1, if_neg h2, if_neg h3])
    rw [HU.out]
    have hq : ((sealOf (tcut s)).toList == s.toList) = false := by rw [list_eq_iff, decide_eq_false h3]
    clear h3 ht
    go_enter Try.func15, Try.ntmps15
    go_wp2_with fail
    refine (cutText_int _ _ _ _ (by omega) (by omega) (by omega) (by omega)).mono ?_
    rintro e w1 ⟨rfl, hb1⟩
    rw [show ((s.size : Int) - 4).toNat = s.size - 4 by omega, show (0 : Int).toNat = 0 from rfl, HC.out]
    rw [World.size_alloc] at hb1
    go_wp2_with fail
    refine (implSeal_any _ _ (by rw [HT.out]; unfold maxLen; omega)).mono ?_
    rintro e w2 ⟨rfl, hb2⟩
    have hb := below_two hb1 hb2
    obtain ⟨⟨c0, c1, c2⟩, ⟨f0, f1, f2⟩, _⟩ := three_kept hb
    go_wp2
    exact bodyPost_ret (v := tout (bs []) 0 5) (by simp [results, Try.results15, go_sem, tout, bs, c0, c1, c2]) rfl ⟨rfl, below_three hb⟩

theorem seal_iff (s : ByteArray) (h1 : ¬ 8000 < s.size) (h2 : ¬ s.size < 4) : (sealOf (tcut s) = s) ↔ bs (four (crcOf 0 (tcut s).data.toList)) = s.extract (s.size - 4) s.size := by
  have ht : (tcut s).size = s.size - 4 := by unfold tcut; rw [ByteArray.size_extract]; omega
  have hd : s.data.toList = (tcut s).data.toList ++ (s.extract (s.size - 4) s.size).data.toList := by
    unfold tcut
    rw [Lib.extract_data, Lib.extract_data]
    have hn : s.data.toList.length = s.size := rfl
    simp only [List.drop_zero, Nat.sub_zero]
    rw [List.take_of_length_le (l := s.data.toList.drop (s.size - 4)) (by rw [List.length_drop]; omega), List.take_append_drop]
  rw [sealOf_short (by omega)]
  constructor
  · intro h
    have h' := congrArg (fun b => b.data.toList) h
    simp only [bs_data] at h'
    rw [hd] at h'
    have h3 := List.append_cancel_left h'
    rw [h3]; rfl
  · intro h
    have h' := congrArg (fun b => b.data.toList) h
    simp only [bs_data] at h'
    rw [h', ← hd]; rfl

set_option maxRecDepth 100000 in
set_option maxHeartbeats 1000000 in
theorem specUnseal_any (s : ByteArray) (w : World) (hs : s.size ≤ maxLen) :
    Calls Try.prog 27 #[.string s] w fun e w' => e = .returned (tout (unsealOf s).1 0 (unsealOf s).2) ∧ Below w.heap.size w w' := by
  unfold maxLen at hs
  by_cases h1 : 8000 < s.size
  · have HU : Hid (unsealOf s = (bs [], 2)) := Lib.hid (if_pos h1)
    rw [HU.out]
    go_enter Try.func27, Try.ntmps27
    go_wp2
    exact bodyPost_ret (v := tout (bs []) 0 2) (by simp [results, Try.results27, go_sem, tout, bs]) rfl ⟨rfl, (Below.refl _ _).alloc (Nat.le_refl _) _⟩
  by_cases h2 : s.size < 4
  · have HU : Hid (unsealOf s = (bs [], 4)) := Lib.hid (by unfold unsealOf; rw [if_neg h1, if_pos h2])
    rw [HU.out]
    go_enter Try.func27, Try.ntmps27
    go_wp2
    exact bodyPost_ret (v := tout (bs []) 0 4) (by simp [results, Try.results27, go_sem, tout, bs]) rfl ⟨rfl, (Below.refl _ _).alloc (Nat.le_refl _) _⟩
  have ht : (tcut s).size = s.size - 4 := by unfold tcut; rw [ByteArray.size_extract]; omega
  have HT := Lib.hid ht
  have HC : Hid (s.extract 0 (s.size - 4) = tcut s) := Lib.hid rfl
  have hiff := seal_iff s h1 h2
  have hl := crcOf_lt (show 0 < 4294967296 by omega) (tcut s).data.toList
  by_cases h3 : sealOf (tcut s) = s
  · have HU : Hid (unsealOf s = (tcut s, 0)) := Lib.hid (by unfold unsealOf; rw [if_neg h1, if_neg h2, if_pos h3])
    rw [HU.out]
    have hq : ((bs (four (crcOf 0 (tcut s).data.toList))).toList == (s.extract (s.size - 4) s.size).toList) = true := by rw [list_eq_iff, decide_eq_true (hiff.1 h3)]
    clear h3 ht hiff
    go_enter Try.func27, Try.ntmps27
    go_wp2
    rw [HC.out]
    have k1 : IntKind.i64.wrap ((s.size : Int) - 4) = (s.size : Int) - 4 := IntWalk.i64_in _ (by omega)
    have k2 : (0 : Int) ≤ (s.size : Int) - 4 := by omega
    have k3 : ((s.size : Int) - 4).toNat = s.size - 4 := by omega
    have k4 : (s.size : Int) - 4 ≤ (s.size : Int) := by omega
    go_region_with (first | (go_at_call 36; refine (l01Crc_any 0 _ _ (by omega) (by rw [HT.out]; unfold maxLen; omega)).mono ?_; rintro e w' ⟨rfl, rfl⟩) | (go_at_call 35; refine (l01Four_any _ _ hl).mono ?_; rintro e w2 ⟨rfl, hb2⟩))
    have hb := below_undrew hb2
    obtain ⟨⟨c0, c1, c2⟩, ⟨f0, f1, f2⟩, _⟩ := three_kept hb
    clear k1 k2 k3 k4 hb2
    go_wp2
    exact bodyPost_ret (v := tout (tcut s) 0 0) (by simp [results, Try.results27, go_sem, tout, c0, c1, c2]) rfl ⟨rfl, below_three hb⟩
  · have HU : Hid (unsealOf s = (bs [], 5)) := Lib.hid (by unfold unsealOf; rw [if_neg h1, if_neg h2, if_neg h3])
    rw [HU.out]
    have hq : ((bs (four (crcOf 0 (tcut s).data.toList))).toList == (s.extract (s.size - 4) s.size).toList) = false := by rw [list_eq_iff, decide_eq_false (fun h => h3 (hiff.2 h))]
    clear h3 ht hiff
    go_enter Try.func27, Try.ntmps27
    go_wp2
    rw [HC.out]
    have k1 : IntKind.i64.wrap ((s.size : Int) - 4) = (s.size : Int) - 4 := IntWalk.i64_in _ (by omega)
    have k2 : (0 : Int) ≤ (s.size : Int) - 4 := by omega
    have k3 : ((s.size : Int) - 4).toNat = s.size - 4 := by omega
    have k4 : (s.size : Int) - 4 ≤ (s.size : Int) := by omega
    go_region_with (first | (go_at_call 36; refine (l01Crc_any 0 _ _ (by omega) (by rw [HT.out]; unfold maxLen; omega)).mono ?_; rintro e w' ⟨rfl, rfl⟩) | (go_at_call 35; refine (l01Four_any _ _ hl).mono ?_; rintro e w2 ⟨rfl, hb2⟩))
    have hb := below_undrew hb2
    obtain ⟨⟨c0, c1, c2⟩, ⟨f0, f1, f2⟩, _⟩ := three_kept hb
    clear k1 k2 k3 k4 hb2
    go_wp2
    exact bodyPost_ret (v := tout (bs []) 0 5) (by simp [results, Try.results27, go_sem, tout, bs, c0, c1, c2]) rfl ⟨rfl, below_three hb⟩

set_option maxHeartbeats 400000 in
theorem eqTextOut_same (t : ByteArray) (a c : Int) (w : World) :
    Calls Try.prog 28 #[tout t a c, tout t a c] w fun e w' => e = .returned (.bool true) ∧ Below w.heap.size w w' := by
  unfold tout
  go_enter Try.func28, Try.ntmps28
  go_wp2
  go_ret
  exact ⟨rfl, ((Below.refl _ _).alloc (Nat.le_refl _) _).alloc (by simp) _⟩
end Go.Proofs.Ytldencefagnhfaa
