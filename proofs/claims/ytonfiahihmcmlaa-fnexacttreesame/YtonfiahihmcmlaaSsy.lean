/- The model's size of a tree, as far as one asks: spec.l05Size. -/
import Derived.Test.YtonfiahihmcmlaaSsz
namespace Go.Proofs.Ytonfiahihmcmlaa
open Go.RowKit

/-- r is the size n, or more than most -/
def Upto (n : Nat) (most r : Int) : Prop := ((n : Int) ≤ most → r = n) ∧ (most < n → most < r ∧ r ≤ n)
def SpY (t : TreeD) : Prop := ∀ (z : Bool) (u : Value) (lo hi : Nat) (most : Int) (w : World), Kd z w lo hi u t.kids → hi ≤ w.heap.size → sizeT t ≤ 2097152 → 0 ≤ most → most ≤ 1000 →
  Calls Try.prog 100 #[trV t u, .int .i64 most] w fun e w' => ∃ r, e = .returned (.int .i64 r) ∧ Upto (sizeT t) most r ∧ Below w.heap.size w w'

set_option maxRecDepth 100000 in
set_option maxHeartbeats 1000000 in
theorem specSize5_of (t : TreeD) (ih : ∀ i (h : i < t.kids.length), SpY t.kids[i]) : SpY t := by
  intro z u lo hi most w h hhi hn hm0 hm1
  have hst := sizeT_eq t
  obtain ⟨A, c, U, rfl, hlc, hc, hs, hcell, hsub⟩ := h.parts
  unfold maxLen at hc
  have HC := Lib.hid hcell
  have HB := Lib.hid hsub
  clear hcell hsub h hs
  unfold trV
  have hb0 := al1 w (.cells #[.int .i64 t.rule, .string t.tok, .slice A t.kids.length c] 62)
  have R0 := Row.made w 62 #[.int .i64 t.rule, .string t.tok, .slice A t.kids.length c]
  go_enter Try.func100, Try.ntmps100
  go_wp2
  generalize w.alloc (.cells #[.int .i64 t.rule, .string t.tok, .slice A t.kids.length c] 62) = w0 at hb0 R0 ⊢
  go_loopw [5, 6] (fun l i wr => ∃ (k : Nat) (r : Int), k ≤ t.kids.length ∧ i = .int .i64 k ∧ l = .int .i64 r ∧ Upto (1 + sizeTs (t.kids.take k)) most r ∧ Below w0.heap.size w0 wr) (fun _ i _ => t.kids.length - (intOf i).toNat)
  case atStart => exact ⟨0, 1, by omega, rfl, rfl, (by unfold Upto; simp [sizeTs] <;> omega), Below.refl _ _⟩
  case round =>
    obtain ⟨k, r, hk, rfl, rfl, hup, hbw⟩ := hrel
    have hsw := hbw.size
    have hws := hb0.size
    have R1 := R0.below hbw R0.lt
    have hlt0 := R1.lt
    have c2 := R1.cell 2
    simp at c2
    have htl := sizeTs_take_le t.kids k
    have HU := Lib.hid hup
    by_cases hlt : k < t.kids.length
    · by_cases hr : r ≤ most
      · obtain ⟨b, off, rfl, _, hbh, _, hcc⟩ := HC.out (by omega)
        obtain ⟨hc0, hc1, hc2⟩ := hcc k hlt
        have hbx := hb0.trans (hbw.mono hws)
        have k0 := (hbx.cell (p := ⟨b, off + k * 3, none⟩) (by show b < _; omega)).trans hc0
        have k1 := (hbx.cell (p := ⟨b, off + k * 3 + 1, none⟩) (by show b < _; omega)).trans hc1
        have k2 := (hbx.cell (p := ⟨b, off + k * 3 + 2, none⟩) (by show b < _; omega)).trans hc2
        have hst' := (HB.out k hlt).under hbx hhi
        have hg := sizeTs_take t.kids k hlt
        have hle := sizeTs_take_le t.kids (k + 1)
        have HG := Lib.hid hg
        have hle2 : 1 + sizeTs (t.kids.take k) + sizeT t.kids[k] ≤ 2097152 := by omega
        have hr0 : 1 ≤ r := by unfold Upto at hup; omega
        have hre : r = ((1 + sizeTs (t.kids.take k) : Nat) : Int) := by unfold Upto at hup; omega
        have HR := Lib.hid hre
        clear hcc hc0 hc1 hc2 hg hle R1 hst hup hre htl
        go_wp2_with fail
        refine (ih k hlt z (U k) lo hi (most - r) _ hst' (by omega) (by omega) (by omega) (by omega)).mono ?_
        rintro e w1 ⟨r1, rfl, hup1, hb1⟩
        have HU1 := Lib.hid hup1
        have hr1 : 0 ≤ r1 ∧ r1 ≤ 2097152 := by unfold Upto at hup1; omega
        clear hup1
        obtain ⟨hr1, hr2⟩ := hr1
        go_wp2
        go_roundw
        case rel => exact ⟨k + 1, r + r1, by omega, by go_num, by go_num, by have := HU1.out; have := HR.out; have := HG.out; unfold Upto at *; omega, hbw.trans (hb1.mono hsw)⟩
        case measure => simp [intOf]; omega
      · clear R1 hup
        have i1 : (k : Int) < (t.kids.length : Int) := by omega
        go_wp2
        go_ret
        exact ⟨_, rfl, by have := HU.out; unfold Upto at *; omega, hb0.trans (hbw.mono hws)⟩
    · have hks : k = t.kids.length := by omega
      have HK := Lib.hid hks
      clear hks R1 hup
      go_wp2
      go_ret
      refine ⟨_, rfl, ?_, hb0.trans (hbw.mono hws)⟩
      have e := HK.out
      subst e
      have := HU.out
      rw [List.take_length] at this
      rw [hst]; exact this
theorem specSize5_any (t : TreeD) : SpY t := tree_ind specSize5_of t
end Go.Proofs.Ytonfiahihmcmlaa
