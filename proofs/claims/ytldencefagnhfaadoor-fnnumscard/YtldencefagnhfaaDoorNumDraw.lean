/- The walks of l01Any, DrawPutNum and DrawPutText. -/
import Derived.Test.YtldencefagnhfaaDoorSrcb
import Derived.Test.YtldencefagnhfaaDoorText
namespace Go.Proofs.YtldencefagnhfaaDoor
open Go Go.RowKit

def DrawInt (w : World) (e : Ending) (w' : World) : Prop := ∃ r : Int, e = .returned (.int .i64 r) ∧ (-9223372036854775808 ≤ r ∧ r ≤ 9223372036854775807) ∧ Below w.heap.size w w'
def DrawAny (w : World) (p B : Nat) (e : Ending) (w' : World) : Prop := ∃ r : Int, e = .returned (.int .i64 r) ∧ (-9223372036854775808 ≤ r ∧ r ≤ 9223372036854775807) ∧ Src w' p B ∧ w.grownBy w' (some p)
set_option maxRecDepth 100000 in
set_option maxHeartbeats 1000000 in
theorem any_any (w : World) (p B : Nat) (hs : Src w p B) :
    Calls Tryd.prog 19 #[.pointer (some ⟨p, 0, none⟩)] w (DrawAny w p B) := by
  go_enter Tryd.func19, Tryd.ntmps19
  go_wp2_with fail
  refine (one_any _ _ _ 4 hs (by omega)).mono ?_
  rintro e w1 ⟨b, rfl, hs1, ho1⟩
  cases b with
  | true =>
    go_wp2_with fail
    refine (edge_any _ _ _ hs1).mono ?_
    rintro e w2 ⟨c, rfl, hc, hs2, hg2⟩
    have HG := Lib.hid (grw_trans ho1.grown hg2)
    go_wp2
    go_ret
    exact ⟨c, rfl, hc, hs2, HG.out⟩
  | false =>
    go_wp2_with fail
    refine (n_any _ _ _ 1099511627776 hs1 (by omega)).mono ?_
    rintro e w2 ⟨r, rfl, _, hr, hs2, ho2⟩
    obtain ⟨hr0, hr1⟩ := hr (by omega)
    clear hr
    have HG := Lib.hid (grw_trans ho1.grown ho2.grown)
    go_wp2
    go_ret
    exact ⟨_, rfl, by omega, hs2, HG.out⟩

set_option maxRecDepth 100000 in
set_option maxHeartbeats 1000000 in
theorem drawPutNum_any (w : World) (a : Option Addr) (len cap : Nat) (hb : IsBytes w w.heap.size a len) (hl : len ≤ 1048576) :
    Calls Tryd.prog 6 #[.slice a len cap] w (DrawInt w) := by
  go_enter Tryd.func6, Tryd.ntmps6
  go_wp2_with fail
  refine (source_any w a len cap hb hl).mono ?_
  rintro e w1 ⟨rfl, hs1, hb1⟩
  go_wp2_with fail
  refine (any_any _ _ _ hs1).mono ?_
  rintro e w2 ⟨r, rfl, hr, hs2, hg2⟩
  have hb2 := hb1.trans (grw_below hg2 (Nat.le_refl _) hb1.size)
  go_wp2
  go_ret
  exact ⟨r, rfl, hr, hb2⟩

theorem noughts_conv (n : Nat) (w : World) (hn : n ≤ 1000000) :
    (convert 22 9 (.slice (some ⟨w.heap.size, 0, none⟩) n n)).run Tryd.prog (w.alloc (.cells (madeCells #[.int .u8 0] n) 5)) = .ok (.string (bs (List.replicate n 0))) (w.alloc (.cells (madeCells #[.int .u8 0] n) 5)) := by
  have e : madeCells #[Value.int .u8 0] n = ((List.replicate n (0 : UInt8)).map bv).toArray := by
    rw [madeList, List.map_replicate]; rfl
  rw [e]
  have := convert_block (w := w.alloc (.cells ((List.replicate n (0 : UInt8)).map bv).toArray 5)) (g := w.heap.size) (l := List.replicate n 0) (by unfold maxLen; simp; omega) (heap_alloc_new w _)
  rw [List.length_replicate] at this
  exact this
def DrawStr (w : World) (e : Ending) (w' : World) : Prop := ∃ t : ByteArray, e = .returned (.string t) ∧ t.size ≤ 20001 ∧ Below w.heap.size w w'
set_option maxRecDepth 100000 in
set_option maxHeartbeats 1000000 in
theorem drawPutText_any (w : World) (a : Option Addr) (len cap : Nat) (hb : IsBytes w w.heap.size a len) (hl : len ≤ 1048576) :
    Calls Tryd.prog 10 #[.slice a len cap] w (DrawStr w) := by
  go_enter Tryd.func10, Tryd.ntmps10
  go_wp2_with fail
  refine (source_any w a len cap hb hl).mono ?_
  rintro e w1 ⟨rfl, hs1, hb1⟩
  go_wp2_with fail
  refine (one_any _ _ _ 8 hs1 (by omega)).mono ?_
  rintro e w2 ⟨b, rfl, hs2, ho2⟩
  have hb2 := hb1.trans (ho2.below (Nat.le_refl _))
  cases b with
  | true =>
    go_wp2_with fail
    refine (n_any _ _ _ 3 hs2 (by omega)).mono ?_
    rintro e w3 ⟨r, rfl, _, hr, hs3, ho3⟩
    obtain ⟨hr0, hr1⟩ := hr (by omega)
    obtain ⟨k, rfl⟩ := Int.eq_ofNat_of_zero_le hr0
    have hb3 := hb2.trans (ho3.below (Nat.le_refl _))
    have hmk := run_make_row' (P := Tryd.prog) 22 5 (.int .u8 0) 1 Tryd.underlying22 Tryd.infoB rfl .i64 .i64 (19999 + k) (by omega) (by omega)
    rw [show ((19999 + k : Nat) : Int) = 19999 + (k : Int) by omega] at hmk
    have hcv := noughts_conv (19999 + k) w3 (by omega)
    clear hr
    go_wp2
    go_ret
    exact ⟨_, rfl, by rw [bs_size]; simp; omega, hb3.alloc hb3.size _⟩
  | false =>
    go_wp2_with fail
    refine (n_any _ _ _ 20 hs2 (by omega)).mono ?_
    rintro e w3 ⟨r, rfl, _, hr, hs3, ho3⟩
    obtain ⟨hr0, hr1⟩ := hr (by omega)
    obtain ⟨k, rfl⟩ := Int.eq_ofNat_of_zero_le hr0
    have hb3 := hb2.trans (ho3.below (Nat.le_refl _))
    clear hr
    go_wp2_with fail
    refine (bytes_any _ _ _ k hs3 (by omega)).mono ?_
    rintro e w4 ⟨t, rfl, ht, hs4, hg4⟩
    have hb4 := hb3.trans (grw_below hg4 (Nat.le_refl _) hb3.size)
    have HT := Lib.hid ht
    clear ht
    go_wp2
    go_ret
    exact ⟨t, rfl, by rw [HT.out]; omega, hb4⟩
end Go.Proofs.YtldencefagnhfaaDoor
