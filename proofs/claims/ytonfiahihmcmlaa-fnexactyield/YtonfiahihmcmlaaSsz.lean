/- The model's sizes of a tree: spec.SizeOf, spec.l05Size. -/
import Derived.Test.YtonfiahihmcmlaaTrz
import Derived.Deep.QuietTactic
import Derived.StillTailTactics
namespace Go.Proofs.Ytonfiahihmcmlaa
open Go.RowKit

theorem tree_ind {p : TreeD → Prop} (h : ∀ t : TreeD, (∀ i (h : i < t.kids.length), p t.kids[i]) → p t) (t : TreeD) : p t :=
  h t (kids_ind (p := fun ts => ∀ i (h : i < ts.length), p ts[i]) (fun _ ih i hi => h _ (ih i hi)) t.kids)

def SpZ (t : TreeD) : Prop := ∀ (z : Bool) (u : Value) (lo hi : Nat) (w : World), Kd z w lo hi u t.kids → hi ≤ w.heap.size → sizeT t ≤ 2097152 →
  Calls Try.prog 58 #[trV t u] w fun e w' => e = .returned (.int .i64 (sizeT t : Int)) ∧ Below w.heap.size w w'

set_option maxRecDepth 100000 in
set_option maxHeartbeats 1000000 in
theorem specSizeOf_of (t : TreeD) (ih : ∀ i (h : i < t.kids.length), SpZ t.kids[i]) : SpZ t := by
  intro z u lo hi w h hhi hn
  have hst := sizeT_eq t
  obtain ⟨A, c, U, rfl, hlc, hc, hs, hcell, hsub⟩ := h.parts
  unfold maxLen at hc
  have HC := Lib.hid hcell
  have HB := Lib.hid hsub
  clear hcell hsub h hs
  unfold trV
  have hb0 := al1 w (.cells #[.int .i64 t.rule, .string t.tok, .slice A t.kids.length c] 62)
  have R0 := Row.made w 62 #[.int .i64 t.rule, .string t.tok, .slice A t.kids.length c]
  go_enter Try.func58, Try.ntmps58
  go_wp2
  generalize w.alloc (.cells #[.int .i64 t.rule, .string t.tok, .slice A t.kids.length c] 62) = w0 at hb0 R0 ⊢
  go_loopw [3, 4] (fun l i wr => ∃ k : Nat, k ≤ t.kids.length ∧ i = .int .i64 k ∧ l = .int .i64 ((1 + sizeTs (t.kids.take k) : Nat) : Int) ∧ Below w0.heap.size w0 wr) (fun _ i _ => t.kids.length - (intOf i).toNat)
  case atStart => exact ⟨0, by omega, rfl, by simp [sizeTs], Below.refl _ _⟩
  case round =>
    obtain ⟨k, hk, rfl, rfl, hbw⟩ := hrel
    have hsw := hbw.size
    have hws := hb0.size
    have R1 := R0.below hbw R0.lt
    have hlt0 := R1.lt
    have c2 := R1.cell 2
    simp at c2
    by_cases hlt : k < t.kids.length
    · obtain ⟨b, off, rfl, _, hbh, _, hcc⟩ := HC.out (by omega)
      obtain ⟨hc0, hc1, hc2⟩ := hcc k hlt
      have hbx := hb0.trans (hbw.mono hws)
      have k0 := (hbx.cell (p := ⟨b, off + k * 3, none⟩) (by show b < _; omega)).trans hc0
      have k1 := (hbx.cell (p := ⟨b, off + k * 3 + 1, none⟩) (by show b < _; omega)).trans hc1
      have k2 := (hbx.cell (p := ⟨b, off + k * 3 + 2, none⟩) (by show b < _; omega)).trans hc2
      have hst' := (HB.out k hlt).under hbx hhi
      have hg := sizeTs_take t.kids k hlt
      have hle := sizeTs_take_le t.kids (k + 1)
      have HG := Lib.hid hg
      have hle2 : 1 + sizeTs (t.kids.take k) + sizeT t.kids[k] ≤ 2097152 := by omega
      clear hcc hc0 hc1 hc2 hg hle R1 hst
      go_wp2_with fail
      refine (ih k hlt z (U k) lo hi _ hst' (by omega) (by omega)).mono ?_
      rintro e w1 ⟨rfl, hb1⟩
      go_wp2
      go_roundw
      case rel => exact ⟨k + 1, by omega, by go_num, by rw [HG.out]; go_num, hbw.trans (hb1.mono hsw)⟩
      case measure => simp [intOf]; omega
    · have hks : k = t.kids.length := by omega
      have HK := Lib.hid hks
      clear hks R1
      go_wp2
      go_ret
      refine ⟨ret_int ?_, hb0.trans (hbw.mono hws)⟩
      have e := HK.out
      subst e
      rw [List.take_length, hst]
theorem specSizeOf_any (t : TreeD) : SpZ t := tree_ind specSizeOf_of t
end Go.Proofs.Ytonfiahihmcmlaa
