/- The draws, on: l01Source, one, bytes, edge. -/
import Derived.Test.YtldencefagnhfaaDoorSrc
namespace Go.Proofs.YtldencefagnhfaaDoor
open Go.RowKit

theorem grw_refl (p : Nat) (w : World) : w.grownBy w (some p) := ⟨rfl, rfl, rfl, Nat.le_refl _, fun _ _ _ => rfl⟩
theorem grw_trans {p : Nat} {a b c : World} (h : a.grownBy b (some p)) (k : b.grownBy c (some p)) : a.grownBy c (some p) :=
  ⟨k.os.trans h.os, k.tape.trans h.tape, k.output.trans h.output, Nat.le_trans h.size k.size, fun i hi hne => (k.block i (Nat.lt_of_lt_of_le hi h.size) hne).trans (h.block i hi hne)⟩
/-- memory of the call's own is written, above what was there -/
theorem grw_own {p : Nat} {w w1 w2 : World} {row : Option Nat} (h : w.grownBy w1 (some p)) (g : w1.grownBy w2 row) (hr : ∀ k, row = some k → w.heap.size ≤ k) : w.grownBy w2 (some p) :=
  ⟨g.os.trans h.os, g.tape.trans h.tape, g.output.trans h.output, Nat.le_trans h.size g.size, fun i hi hne => (g.block i (Nat.lt_of_lt_of_le hi h.size) (fun e => by have := hr i e.symm; omega)).trans (h.block i hi hne)⟩
theorem grw_alloc {p : Nat} {w w1 : World} (h : w.grownBy w1 (some p)) (o : Obj) : w.grownBy (w1.alloc o) (some p) := grw_own h (World.grownBy_alloc w1 o none) (fun _ e => by cases e)
theorem grw_below {p B : Nat} {w w' : World} (h : w.grownBy w' (some p)) (hB : B ≤ p) (hs : B ≤ w.heap.size) : Below B w w' :=
  ⟨h.os, h.tape, h.output, h.size, fun k hk => h.block k (by omega) (fun e => by injection e; omega)⟩
theorem Src.lt {w : World} {p B : Nat} (h : Src w p B) : p < w.heap.size := by
  obtain ⟨_, _, _, _, _, _, _, S⟩ := h
  rcases Nat.lt_or_ge p w.heap.size with hlt | hge
  · exact hlt
  · have := S.blk; rw [Array.getElem?_eq_none hge] at this; cases this
theorem Src.own {w w1 w2 : World} {p B : Nat} {row : Option Nat} (h : Src w1 p B) (g : w1.grownBy w2 row) (hp : p < w.heap.size) (hr : ∀ k, row = some k → w.heap.size ≤ k) : Src w2 p B := by
  have hlt := h.lt
  have hB := h.1
  refine h.only fun k hk => g.block k (by omega) (fun e => by have := hr k e.symm; omega)

/-- a draw of yes or no -/
def DrawOne (w : World) (p B : Nat) (e : Ending) (w' : World) : Prop := ∃ b : Bool, e = .returned (.bool b) ∧ Src w' p B ∧ Only p w w'
set_option maxHeartbeats 400000 in
theorem one_any (w : World) (p B : Nat) (most : Int) (hs : Src w p B) (hm : most ≤ 9223372036854775807) :
    Calls Tryd.prog 24 #[.pointer (some ⟨p, 0, none⟩), .int .i64 most] w (DrawOne w p B) := by
  go_enter Tryd.func24, Tryd.ntmps24
  go_wp2_with fail
  refine (n_any _ p B most hs hm).mono ?_
  rintro e w1 ⟨r, rfl, _, _, hs1, ho⟩
  go_wp2
  go_ret
  exact ⟨_, rfl, hs1, ho⟩

/-- a draw of a text -/
def DrawB (w : World) (p B n : Nat) (e : Ending) (w' : World) : Prop := ∃ t : ByteArray, e = .returned (.string t) ∧ t.size = n ∧ Src w' p B ∧ w.grownBy w' (some p)
set_option maxRecDepth 100000 in
set_option maxHeartbeats 1000000 in
theorem bytes_any (w : World) (p B : Nat) (n : Nat) (hs : Src w p B) (hn : n ≤ 1000000) :
    Calls Tryd.prog 26 #[.pointer (some ⟨p, 0, none⟩), .int .i64 (n : Int)] w (DrawB w p B n) := by
  obtain ⟨i0, hi, hz0, hz1, hz2⟩ := info_parts Tryd.infoB
  have hp := hs.lt
  have HS := Lib.hid hs
  clear hs
  go_enter Tryd.func26, Tryd.ntmps26
  go_wp2
  go_loopw [5, 6] (fun v i wr => ∃ k : Nat, ∃ l : List UInt8, k ≤ n ∧ i = .int .i64 k ∧ l.length = k ∧ wr.ownsRow w.heap.size 5 1 v l.length (l.map bv) ∧ Src wr p B ∧ w.grownBy wr (some p)) (fun _ i _ => n - (intOf i).toNat)
  case atStart => exact ⟨0, [], by omega, rfl, rfl, World.ownsRow_lit w #[] 0 (Nat.le_refl _) (by unfold maxLen; omega) rfl, HS.out.own (World.grownBy_alloc w _ none) hp (fun _ e => by cases e), grw_alloc (grw_refl p w) _⟩
  case round =>
    obtain ⟨k, l, hk, rfl, hl, hown, hsr, hg⟩ := hrel
    by_cases hlt : k < n
    · have HL := Lib.hid hl
      clear hl
      go_wp2_with fail
      refine (n_any _ p B 256 hsr (by omega)).mono ?_
      rintro e w1 ⟨r, rfl, _, hr, hs1, ho⟩
      obtain ⟨hr0, hr1⟩ := hr (by omega)
      have hown1 := hown.kept ho.grown (by
        cases hv : u5.ownBlock with
        | none => exact .inl rfl
        | some g => exact .inr (fun e => by injection e with e; have := (hown.lt g hv).1; omega))
      have hg1 := grw_trans hg ho.grown
      have hll : l.length ≤ 1000000 := by have := HL.out; omega
      have hsz := hg1.size
      clear hr
      go_wp2_with (at_builtin; refine wpList_append_own _ rfl _ _ 22 rfl w.heap.size 5 i0 (.int .u8 0) 1 1 Tryd.underlying22 hi hz0 hz1 hz2 rfl (by decide) _ _ _ rfl (hown1.alloc _) ⟨w1.heap.size, 0, none⟩ 1 1 [.int .u8 r] rfl rfl (cell_one_new _ _ _) (one_cell _) (by unfold maxLen; omega) (by omega) (by simp; omega) ?_)
      intro v' w2 hown' hgrow _
      have hB : ((UInt8.ofNat r.toNat).toNat : Int) = r := by simp; omega
      have hown2 := own_snoc (b := UInt8.ofNat r.toNat) hB.symm rfl hown'
      have hg2 := grw_own (grw_alloc hg1 _) hgrow (fun k hk => (hown1.lt k hk).1)
      have hs2 := ((hs1.own (World.grownBy_alloc w1 (.cells #[.int .u8 r] 5) none) hp (fun _ e => by cases e)).own hgrow hp (fun k hk => (hown1.lt k hk).1))
      have HOWN := Lib.hid hown2
      clear hown' hgrow hown hown2 hown1 hB
      go_wp2
      go_roundw
      case rel => exact ⟨k + 1, _, by omega, by go_num, by rw [List.length_append, HL.out]; rfl, HOWN.out, hs2, hg2⟩
      case measure => simp [intOf]; omega
    · have hcv := convert_own hown
      have HL := Lib.hid hl
      clear hl hown
      go_wp2
      go_ret
      exact ⟨bs l, rfl, by rw [bs_size, HL.out]; omega, hsr, hg⟩

theorem source_two {w : World} {p : Nat} {a : Option Addr} {len cap : Nat} {mix : Int} {v : Value} (S : SrcAt w p p a len cap 0 mix 0) :
    Src ((w.setCell ⟨p, 3, none⟩ v).setCell ⟨p, 3, none⟩ (.int .i64 12)) p p :=
  ⟨Nat.le_refl _, a, len, cap, 0, mix, 12, (blk_set (blk_set S.blk _) _).trans rfl, S.rd.keep fun q hq => (((Only.refl p w).setCell _).setCell _).cell (by omega), S.lo, S.hi, S.len_le, S.mlo, S.mhi, by omega, by omega⟩

set_option maxRecDepth 100000 in
set_option maxHeartbeats 1000000 in
theorem source_any (w : World) (a : Option Addr) (len cap : Nat) (hb : IsBytes w w.heap.size a len) (hl : len ≤ 1048576) :
    Calls Tryd.prog 18 #[.slice a len cap] w fun e w' => e = .returned (.pointer (some ⟨w.heap.size, 0, none⟩)) ∧ Src w' w.heap.size w.heap.size ∧ Below w.heap.size w w' := by
  have HB := Lib.hid hb
  clear hb
  go_enter Tryd.func18, Tryd.ntmps18
  go_wp2
  go_loopw [4] (fun i wr => ∃ k : Nat, ∃ mix : Int, k ≤ len ∧ k ≤ 64 ∧ i = .int .i64 k ∧ SrcAt wr w.heap.size w.heap.size a len cap 0 mix 0 ∧ Below w.heap.size w wr) (fun i _ => len - (intOf i).toNat)
  case atStart => exact ⟨0, 88172645463325252, by omega, by omega, rfl, ⟨heap_alloc_new w _, HB.out.keep fun q hq => World.cell?_alloc_lt w _ q hq, by omega, by omega, hl, by omega, by omega, by omega, by omega⟩, (Below.refl _ _).alloc (Nat.le_refl _) _⟩
  case round =>
    obtain ⟨k, mix, hk, hk64, rfl, S, hbel⟩ := hrel
    by_cases hc : k < len
    · by_cases hc2 : k < 64
      · obtain ⟨⟨c0, c1, c2⟩, f1, f2⟩ := S.cells
        rcases S.rd with hz | ⟨b, off, rfl, hbB, hcell⟩
        · omega
        obtain ⟨x, hx, hcx⟩ := hcell k (by omega)
        clear hcell
        have hm0 := S.mlo
        have hm1 := S.mhi
        have r1 := xor64 hm0 hm1 (show (0 : Int) ≤ x by omega) (by omega)
        go_wp2
        go_region
        have S1 := (S.setMix (Nat.le_refl _) (wrap64u (bits .xor .u64 mix x * 1099511628211)).1 (wrap64u (bits .xor .u64 mix x * 1099511628211)).2).drew
        have hbel1 := (hbel.setCell (p := ⟨w.heap.size, 2, none⟩) (Nat.le_refl _) (.int .u64 (IntKind.u64.wrap (bits .xor .u64 mix x * 1099511628211)))).drew
        go_wp2
        go_roundw
        case rel => exact ⟨k + 1, _, by omega, by omega, by go_num, S1, hbel1⟩
        case measure => simp [intOf]; omega
      · have c3 : wr.cell? ⟨w.heap.size, 3, none⟩ = some (.int .i64 0) := (blk_cell S.blk 3).trans rfl
        have f3 := blk_free S.blk 3
        have hq : ∀ v, (wr.setCell ⟨w.heap.size, 3, none⟩ v).cell? ⟨w.heap.size, 3, none⟩ = some v := fun v => World.cell?_setCell_same _ _ _ c3
        by_cases h12 : (12 : Int) < (len : Int) / 20
        · go_wp2
          go_ret
          exact ⟨rfl, source_two S, (hbel.setCell (Nat.le_refl _) _).setCell (Nat.le_refl _) _⟩
        · go_wp2
          go_ret
          exact ⟨rfl, ⟨Nat.le_refl _, _, _, _, _, _, _, S.setSize (Nat.le_refl _) (by omega) (by omega)⟩, hbel.setCell (Nat.le_refl _) _⟩
    · have d1 : decide ((k : Int) < (len : Int)) = false := by simp; omega
      have d2 : decide (k < len) = false := decide_eq_false hc
      have c3 : wr.cell? ⟨w.heap.size, 3, none⟩ = some (.int .i64 0) := (blk_cell S.blk 3).trans rfl
      have f3 := blk_free S.blk 3
      have hq : ∀ v, (wr.setCell ⟨w.heap.size, 3, none⟩ v).cell? ⟨w.heap.size, 3, none⟩ = some v := fun v => World.cell?_setCell_same _ _ _ c3
      by_cases h12 : (12 : Int) < (len : Int) / 20
      · exact absurd h12 (by omega)
      · go_wp2
        go_ret
        exact ⟨rfl, ⟨Nat.le_refl _, _, _, _, _, _, _, S.setSize (Nat.le_refl _) (by omega) (by omega)⟩, hbel.setCell (Nat.le_refl _) _⟩

def edges : Array Value := #[.int .i64 0, .int .i64 1, .int .i64 (-1), .int .i64 2, .int .i64 1000, .int .i64 1001, .int .i64 2147483648, .int .i64 2147483647, .int .i64 (-2147483648), .int .i64 4611686018427387904, .int .i64 9223372036854775807, .int .i64 (-9223372036854775808), .int .i64 1000000, .int .i64 1000001]
theorem edge_cell (k : Nat) (h : k < 14) : ∃ v : Int, edges[k]? = some (.int .i64 v) ∧ -9223372036854775808 ≤ v ∧ v ≤ 9223372036854775807 := by
  rcases (show k = 0 ∨ k = 1 ∨ k = 2 ∨ k = 3 ∨ k = 4 ∨ k = 5 ∨ k = 6 ∨ k = 7 ∨ k = 8 ∨ k = 9 ∨ k = 10 ∨ k = 11 ∨ k = 12 ∨ k = 13 by omega) with rfl | rfl | rfl | rfl | rfl | rfl | rfl | rfl | rfl | rfl | rfl | rfl | rfl | rfl <;> exact ⟨_, rfl, by omega, by omega⟩

/-- a draw of a number at some limit -/
def DrawEdge (w : World) (p B : Nat) (e : Ending) (w' : World) : Prop := ∃ r : Int, e = .returned (.int .i64 r) ∧ (-9223372036854775808 ≤ r ∧ r ≤ 9223372036854775807) ∧ Src w' p B ∧ w.grownBy w' (some p)
set_option maxRecDepth 100000 in
set_option maxHeartbeats 1000000 in
theorem edge_any (w : World) (p B : Nat) (hs : Src w p B) :
    Calls Tryd.prog 29 #[.pointer (some ⟨p, 0, none⟩)] w (DrawEdge w p B) := by
  have hp := hs.lt
  have hs1 := hs.own (World.grownBy_alloc w (.cells edges 2) none) hp (fun _ e => by cases e)
  have HS := Lib.hid hs1
  have HE : Hid (edges = #[.int .i64 0, .int .i64 1, .int .i64 (-1), .int .i64 2, .int .i64 1000, .int .i64 1001, .int .i64 2147483648, .int .i64 2147483647, .int .i64 (-2147483648), .int .i64 4611686018427387904, .int .i64 9223372036854775807, .int .i64 (-9223372036854775808), .int .i64 1000000, .int .i64 1000001]) := Lib.hid rfl
  clear hs hs1
  go_enter Tryd.func29, Tryd.ntmps29
  go_wp2_with fail
  rw [← HE.out]
  refine (n_any _ p B 14 HS.out (by omega)).mono ?_
  rintro e w1 ⟨r, rfl, _, hr, hs2, ho⟩
  obtain ⟨hr0, hr1⟩ := hr (by omega)
  obtain ⟨k, rfl⟩ := Int.eq_ofNat_of_zero_le hr0
  have hblk : w1.heap[w.heap.size]? = some (.cells edges 2 (0, 0)) := (ho.block _ (by omega)).trans (heap_alloc_new w _)
  obtain ⟨v, hv, hv0, hv1⟩ := edge_cell k (by omega)
  have hc : w1.cell? ⟨w.heap.size, k, none⟩ = some (.int .i64 v) := (blk_cell hblk k).trans hv
  have HG := Lib.hid (grw_trans (grw_alloc (grw_refl p w) (.cells edges 2)) ho.grown)
  clear hr hblk hv ho
  go_wp2
  go_ret
  exact ⟨v, rfl, ⟨hv0, hv1⟩, hs2, HG.out⟩
end Go.Proofs.YtldencefagnhfaaDoor
