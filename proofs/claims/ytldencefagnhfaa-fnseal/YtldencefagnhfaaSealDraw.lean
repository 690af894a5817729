/- The walks of lwAt, DrawSeal and DrawCrcMore. -/
import Derived.Test.YtldencefagnhfaaSrcb
import Derived.Test.YtldencefagnhfaaSeal
namespace Go.Proofs.Ytldencefagnhfaa
open Go.RowKit

def LwAt (w : World) (most : Int) (e : Ending) (w' : World) : Prop := ∃ r : Int, e = .returned (.int .i64 r) ∧ 0 ≤ r ∧ (1 < most → r < most) ∧ (most ≤ 1 → r = 0) ∧ w = w'
set_option maxHeartbeats 1000000 in
theorem lwAt_any (w : World) (a : Option Addr) (len cap : Nat) (i : Nat) (most : Int) (hb : IsBytes w w.heap.size a len) (hl : len ≤ 1048576) (hi : i ≤ 1) (hm : most ≤ 9223372036854775807) :
    Calls Try.prog 14 #[.slice a len cap, .int .i64 (i : Int), .int .i64 most] w (LwAt w most) := by
  by_cases h1 : most ≤ 1
  · go_enter Try.func14, Try.ntmps14
    go_wp2
    go_ret
    exact ⟨0, rfl, by omega, fun h => absurd h (by omega), fun _ => rfl, rfl⟩
  by_cases h2 : len = 0
  · subst h2
    go_enter Try.func14, Try.ntmps14
    go_wp2
    go_ret
    exact ⟨0, rfl, by omega, fun h => by omega, fun _ => rfl, rfl⟩
  rcases hb with hz | ⟨b, off, rfl, hbB, hcell⟩
  · exact absurd hz h2
  have hk : i % len < len := Nat.mod_lt _ (by omega)
  obtain ⟨x, hx, hcx⟩ := hcell (i % len) hk
  have hr1 := Int.emod_nonneg (x : Int) (show most ≠ 0 by omega)
  have hr2 := Int.emod_lt_of_pos (x : Int) (show 0 < most by omega)
  have HR := Lib.hid (And.intro hr1 hr2)
  have hd : decide (most ≤ 1) = false := decide_eq_false h1
  have hq : ((len : Int) == 0) = false := by simp; omega
  have hi1 : (0 : Int) ≤ (i : Int) % (len : Int) := by omega
  have hi2 : (i : Int) % (len : Int) < (len : Int) := by omega
  have hi3 : ((i : Int) % (len : Int)).toNat = i % len := by omega
  clear hcell hr1 hr2
  go_enter Try.func14, Try.ntmps14
  go_wp2
  go_ret
  exact ⟨_, rfl, HR.out.1, fun _ => HR.out.2, fun h => absurd h (by omega), rfl⟩

/-- a text of noughts -/
theorem zero_conv (n : Nat) (w : World) (hn : n ≤ 1000000) :
    (convert 22 9 (.slice (some ⟨w.heap.size, 0, none⟩) n n)).run Try.prog (w.alloc (.cells (madeCells #[.int .u8 0] n) 5)) = .ok (.string (bs (List.replicate n 0))) (w.alloc (.cells (madeCells #[.int .u8 0] n) 5)) := by
  have e : madeCells #[Value.int .u8 0] n = ((List.replicate n (0 : UInt8)).map bv).toArray := by
    rw [madeList, List.map_replicate]; rfl
  rw [e]
  have := convert_block (w := w.alloc (.cells ((List.replicate n (0 : UInt8)).map bv).toArray 5)) (g := w.heap.size) (l := List.replicate n 0) (by unfold maxLen; simp; omega) (heap_alloc_new w _)
  rw [List.length_replicate] at this
  exact this

def DrawText (w : World) (e : Ending) (w' : World) : Prop := ∃ t : ByteArray, e = .returned (.string t) ∧ t.size ≤ 20000 ∧ Below w.heap.size w w'
set_option maxRecDepth 100000 in
set_option maxHeartbeats 1000000 in
theorem drawSeal_any (w : World) (a : Option Addr) (len cap : Nat) (hb : IsBytes w w.heap.size a len) (hl : len ≤ 1048576) :
    Calls Try.prog 11 #[.slice a len cap] w (DrawText w) := by
  go_enter Try.func11, Try.ntmps11
  go_wp2_with fail
  refine (source_any w a len cap hb hl).mono ?_
  rintro e w1 ⟨rfl, hs1, hb1⟩
  go_wp2_with fail
  refine (one_any _ _ _ 30 hs1 (by omega)).mono ?_
  rintro e w2 ⟨b, rfl, hs2, ho2⟩
  have hb2 := hb1.trans (ho2.below (Nat.le_refl _))
  cases b with
  | true =>
    go_wp2_with fail
    refine (n_any _ _ _ 3 hs2 (by omega)).mono ?_
    rintro e w3 ⟨r, rfl, _, hr, hs3, ho3⟩
    obtain ⟨hr0, hr1⟩ := hr (by omega)
    obtain ⟨k, rfl⟩ := Int.eq_ofNat_of_zero_le hr0
    have hb3 := hb2.trans (ho3.below (Nat.le_refl _))
    have hmk := run_make_row' (P := Try.prog) 22 5 (.int .u8 0) 1 Try.underlying22 Try.infoB rfl .i64 .i64 (19995 + k) (by omega) (by omega)
    rw [show ((19995 + k : Nat) : Int) = 19995 + (k : Int) by omega] at hmk
    have hcv := zero_conv (19995 + k) w3 (by omega)
    clear hr
    go_wp2
    go_ret
    exact ⟨_, rfl, by rw [bs_size]; simp; omega, hb3.alloc hb3.size _⟩
  | false =>
    go_wp2_with fail
    refine (n_any _ _ _ 20 hs2 (by omega)).mono ?_
    rintro e w3 ⟨r, rfl, _, hr, hs3, ho3⟩
    obtain ⟨hr0, hr1⟩ := hr (by omega)
    obtain ⟨k, rfl⟩ := Int.eq_ofNat_of_zero_le hr0
    have hb3 := hb2.trans (ho3.below (Nat.le_refl _))
    clear hr
    go_wp2_with fail
    refine (bytes_any _ _ _ k hs3 (by omega)).mono ?_
    rintro e w4 ⟨t, rfl, ht, hs4, hg4⟩
    have hb4 := hb3.trans (grw_below hg4 (Nat.le_refl _) hb3.size)
    have HT := Lib.hid ht
    clear ht
    go_wp2
    go_ret
    exact ⟨t, rfl, by rw [HT.out]; omega, hb4⟩

def DrawPair (w : World) (e : Ending) (w' : World) : Prop := ∃ c : Int, ∃ t : ByteArray, e = .returned (.tuple #[.int .i64 c, .string t]) ∧ t.size ≤ 9 ∧ Below w.heap.size w w'
set_option maxRecDepth 100000 in
set_option maxHeartbeats 1000000 in
theorem drawCrcMore_any (w : World) (a : Option Addr) (len cap : Nat) (hb : IsBytes w w.heap.size a len) (hl : len ≤ 1048576) :
    Calls Try.prog 16 #[.slice a len cap] w (DrawPair w) := by
  go_enter Try.func16, Try.ntmps16
  go_wp2_with fail
  refine (source_any w a len cap hb hl).mono ?_
  rintro e w1 ⟨rfl, hs1, hb1⟩
  go_wp2_with fail
  refine (n_any _ _ _ 9 hs1 (by omega)).mono ?_
  rintro e w2 ⟨r, rfl, _, hr, hs2, ho2⟩
  obtain ⟨hr0, hr1⟩ := hr (by omega)
  obtain ⟨k, rfl⟩ := Int.eq_ofNat_of_zero_le hr0
  have hb2 := hb1.trans (ho2.below (Nat.le_refl _))
  clear hr
  go_wp2_with fail
  refine (bytes_any _ _ _ k hs2 (by omega)).mono ?_
  rintro e w3 ⟨t, rfl, ht, hs3, hg3⟩
  have hb3 := hb2.trans (grw_below hg3 (Nat.le_refl _) hb2.size)
  have HT := Lib.hid ht
  clear ht
  go_wp2_with fail
  refine (one_any _ _ _ 5 hs3 (by omega)).mono ?_
  rintro e w4 ⟨b, rfl, hs4, ho4⟩
  have hb4 := hb3.trans (ho4.below (Nat.le_refl _))
  cases b with
  | true =>
    go_wp2_with fail
    refine (edge_any _ _ _ hs4).mono ?_
    rintro e w5 ⟨c, rfl, _, hs5, hg5⟩
    have hb5 := hb4.trans (grw_below hg5 (Nat.le_refl _) hb4.size)
    go_wp2
    go_ret2
    exact ⟨c, t, rfl, by rw [HT.out]; omega, hb5⟩
  | false =>
    go_wp2_with fail
    refine (n_any _ _ _ 9 hs4 (by omega)).mono ?_
    rintro e w5 ⟨q, rfl, _, hq, hs5, ho5⟩
    obtain ⟨hq0, hq1⟩ := hq (by omega)
    obtain ⟨j, rfl⟩ := Int.eq_ofNat_of_zero_le hq0
    have hb5 := hb4.trans (ho5.below (Nat.le_refl _))
    clear hq
    go_wp2_with fail
    refine (bytes_any _ _ _ j hs5 (by omega)).mono ?_
    rintro e w6 ⟨u, rfl, hu, hs6, hg6⟩
    have hb6 := hb5.trans (grw_below hg6 (Nat.le_refl _) hb5.size)
    have HU := Lib.hid hu
    clear hu
    go_wp2_with fail
    refine (specCrc_all _ _ (by rw [HU.out]; unfold maxLen; omega)).mono ?_
    rintro e w7 ⟨rfl, rfl⟩
    go_wp2
    go_ret2
    exact ⟨_, t, rfl, by rw [HT.out]; omega, hb6⟩
end Go.Proofs.Ytldencefagnhfaa
