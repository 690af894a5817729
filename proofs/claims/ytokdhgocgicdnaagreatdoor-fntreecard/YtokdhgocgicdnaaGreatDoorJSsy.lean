import Derived.Test.YtokdhgocgicdnaaGreatDoorJDtx
import Derived.Test.YtokdhgocgicdnaaGreatDoorJTre
import Derived.WalkKit
import Derived.WalkSpells
import Derived.WalkLawsBesides
import Derived.Deep.QuietTactic
import Derived.StillTailTactics
/- The draw of a grammar and a tree out of bytes: DrawTreeRight. -/

namespace Go.Proofs.YtokdhgocgicdnaaGreatDoor.Dr
open Go.RowKit
open Go.Proofs.YtokdhgocgicdnaaGreatDoor

/-- two results, a grammar's box and a tree's behind it, are told: what is below and what lies elsewhere stands -/
theorem tell2 {wx : World} {v r s u : Value} {b : Nat} (k : Nat) (h1 : k ≠ b) (h2 : k ≠ b + 1) : ((((wx.setCell ⟨b, 0, none⟩ v).setCell ⟨b + 1, 0, none⟩ r).setCell ⟨b + 1, 1, none⟩ s).setCell ⟨b + 1, 2, none⟩ u).heap[k]? = wx.heap[k]? :=
  (set3_heap _ _ _ _ _ _ h2).trans (Below.heap_setCell _ _ _ _ h1)
theorem tell2_size {wx : World} {v r s u : Value} {b : Nat} : ((((wx.setCell ⟨b, 0, none⟩ v).setCell ⟨b + 1, 0, none⟩ r).setCell ⟨b + 1, 1, none⟩ s).setCell ⟨b + 1, 2, none⟩ u).heap.size = wx.heap.size := by rw [set3_size]; simp [World.setCell]
set_option maxRecDepth 100000 in
set_option maxHeartbeats 2000000 in
theorem drawTreeRight_any (w : World) (a : Option Addr) (len cap : Nat) (hb : IsBytes w w.heap.size a len) (hl : len ≤ 1048576) :
    Calls Tryz.prog 6 #[.slice a len cap] w fun e w' => ∃ v rs t u, e = .returned (.tuple #[.agg #[v], trV t u]) ∧ Rules w' w.heap.size w'.heap.size v rs ∧ TopOk t ∧ bulkT t ≤ 20000 ∧ Kd true w' w.heap.size w'.heap.size u t.kids ∧ Below w.heap.size w w' := by
  have A0 := al2 w (.cells #[.slice none 0 0] 25) (.cells #[.int .i64 0, .string ⟨#[]⟩, .slice none 0 0] 29)
  have HB := Lib.hid (hb.later A0)
  have HR1 := Lib.hid ((Row.made w 25 #[.slice none 0 0]).alloc (.cells #[.int .i64 0, .string ⟨#[]⟩, .slice none 0 0] 29))
  have HR2 : Hid (Row ((w.alloc (.cells #[.slice none 0 0] 25)).alloc (.cells #[.int .i64 0, .string ⟨#[]⟩, .slice none 0 0] 29)) (w.heap.size + 1) 29 #[.int .i64 0, .string ⟨#[]⟩, .slice none 0 0]) := Lib.hid (by
    have := Row.made (w.alloc (.cells #[.slice none 0 0] 25)) 29 #[.int .i64 0, .string ⟨#[]⟩, .slice none 0 0]
    simpa using this)
  have HZ0 : Hid (((w.alloc (.cells #[.slice none 0 0] 25)).alloc (.cells #[.int .i64 0, .string ⟨#[]⟩, .slice none 0 0] 29)).heap.size = w.heap.size + 2) := Lib.hid (by simp)
  have HA0 := Lib.hid A0
  clear hb A0
  go_enter Tryz.func6, Tryz.ntmps6
  go_wp2_with fail
  generalize (w.alloc (.cells #[.slice none 0 0] 25)).alloc (.cells #[.int .i64 0, .string ⟨#[]⟩, .slice none 0 0] 29) = w0 at HB HR1 HR2 HZ0 HA0 ⊢
  have HB' : Hid (IsBytes w0 w0.heap.size a len) := Lib.hid (by have := HB.out; exact this)
  refine (source_any _ a len cap HB'.out hl).mono ?_
  rintro e w1 ⟨rfl, hs1, hb1⟩
  have hs1' : Src w1 w0.heap.size w0.heap.size := by simpa using hs1
  have HB1 : Hid (Below w0.heap.size w0 w1) := Lib.hid (by simpa using hb1)
  clear hb1 hs1
  go_wp2_with fail
  refine (two5_any _ _ _ hs1').mono ?_
  rintro e w2 ⟨v, rs, t, u, mid, rfl, hr, hmid0, hmid, -, -, -, ht, hbk, hk, hs2, hg⟩
  have z0 := HZ0.out
  have z1 := HB1.out.size
  have z2 := hg.size
  have r1 : Row w2 w.heap.size 25 #[.slice none 0 0] := (HR1.out.below HB1.out (by omega)).same (hg.block _ (by omega) (fun e => by injection e; omega))
  have r2 : Row w2 (w.heap.size + 1) 29 #[.int .i64 0, .string ⟨#[]⟩, .slice none 0 0] := (HR2.out.below HB1.out (by omega)).same (hg.block _ (by omega) (fun e => by injection e; omega))
  have bel2 : Below w.heap.size w w2 := HA0.out.trans ((HB1.out.mono (by omega)).trans ⟨hg.os, hg.tape, hg.output, hg.size, fun k hk => hg.block k (by omega) (fun e => by injection e; omega)⟩)
  have hk2 := hk.kd
  obtain ⟨Au, du, rfl⟩ := hk.shape
  have HRL := Lib.hid hr
  obtain ⟨Av, cv, rfl, -⟩ := hr
  have W1 : Row (w2.setCell ⟨w.heap.size, 0, none⟩ (.slice Av rs.length cv)) w.heap.size 25 #[.slice Av rs.length cv] := by simpa using r1.put 0 (.slice Av rs.length cv)
  have W2 := r2.away (p := ⟨w.heap.size, 0, none⟩) (by show w.heap.size + 1 ≠ w.heap.size; omega) (.slice Av rs.length cv)
  have V1 := W1.same (set3_heap (w2.setCell ⟨w.heap.size, 0, none⟩ (.slice Av rs.length cv)) (w.heap.size + 1) (.int .i64 t.rule) (.string t.tok) (.slice Au t.kids.length du) w.heap.size (by omega))
  have V2 := set3_row W2 (.int .i64 t.rule) (.string t.tok) (.slice Au t.kids.length du)
  have v0 := V1.cell 0
  have y0 := V2.cell 0
  have y1 := V2.cell 1
  have y2 := V2.cell 2
  simp at v0 y0 y1 y2
  have c0 := r1.cell 0
  have f0 := r1.free 0
  have s0 := r2.cell 0
  have s1 := r2.cell 1
  have s2 := r2.cell 2
  have sf0 := r2.free 0
  have sf1 := r2.free 1
  have sf2 := r2.free 2
  simp at c0 s0 s1 s2
  have FIN : Hid (Rules ((((w2.setCell ⟨w.heap.size, 0, none⟩ (.slice Av rs.length cv)).setCell ⟨w.heap.size + 1, 0, none⟩ (.int .i64 t.rule)).setCell ⟨w.heap.size + 1, 1, none⟩ (.string t.tok)).setCell ⟨w.heap.size + 1, 2, none⟩ (.slice Au t.kids.length du)) w.heap.size ((((w2.setCell ⟨w.heap.size, 0, none⟩ (.slice Av rs.length cv)).setCell ⟨w.heap.size + 1, 0, none⟩ (.int .i64 t.rule)).setCell ⟨w.heap.size + 1, 1, none⟩ (.string t.tok)).setCell ⟨w.heap.size + 1, 2, none⟩ (.slice Au t.kids.length du)).heap.size (.slice Av rs.length cv) rs ∧
      Kd true ((((w2.setCell ⟨w.heap.size, 0, none⟩ (.slice Av rs.length cv)).setCell ⟨w.heap.size + 1, 0, none⟩ (.int .i64 t.rule)).setCell ⟨w.heap.size + 1, 1, none⟩ (.string t.tok)).setCell ⟨w.heap.size + 1, 2, none⟩ (.slice Au t.kids.length du)) w.heap.size ((((w2.setCell ⟨w.heap.size, 0, none⟩ (.slice Av rs.length cv)).setCell ⟨w.heap.size + 1, 0, none⟩ (.int .i64 t.rule)).setCell ⟨w.heap.size + 1, 1, none⟩ (.string t.tok)).setCell ⟨w.heap.size + 1, 2, none⟩ (.slice Au t.kids.length du)).heap.size (.slice Au t.kids.length du) t.kids ∧
      Below w.heap.size w ((((w2.setCell ⟨w.heap.size, 0, none⟩ (.slice Av rs.length cv)).setCell ⟨w.heap.size + 1, 0, none⟩ (.int .i64 t.rule)).setCell ⟨w.heap.size + 1, 1, none⟩ (.string t.tok)).setCell ⟨w.heap.size + 1, 2, none⟩ (.slice Au t.kids.length du))) := Lib.hid (by
    rw [tell2_size]
    refine ⟨(HRL.out.keep (fun k k1 k2 => tell2 k (by omega) (by omega))).more (by omega) (by omega), (hk2.keep (fun k k1 k2 => tell2 k (by omega) (by omega))).more (by omega) (Nat.le_refl _), (((bel2.setCell (Nat.le_refl _) _).setCell (Nat.le_succ _) _).setCell (Nat.le_succ _) _).setCell (Nat.le_succ _) _⟩)
  clear r1 r2 bel2 hg hs2 hk2 hk W1 W2 V1 V2
  unfold trV
  go_wp2
  exact bodyPost_ret (v := .tuple #[.agg #[.slice Av rs.length cv], .agg #[.int .i64 t.rule, .string t.tok, .slice Au t.kids.length du]]) (by simp [results, Tryz.results6, go_sem, v0, y0, y1, y2]) rfl ⟨_, rs, t, _, rfl, FIN.out.1, ht, hbk, FIN.out.2.1, FIN.out.2.2⟩
end Go.Proofs.YtokdhgocgicdnaaGreatDoor.Dr

/- The law's own measure of what came in: szStringS, szRule, szRuleS, szGram say how much is left of a number, or -1. -/
namespace Go.Proofs.YtokdhgocgicdnaaGreatDoor
open Go.RowKit

theorem ret_int {k : IntKind} {a b : Int} (h : a = b) : Ending.returned (.int k a) = .returned (.int k b) := by rw [h]

end Go.Proofs.YtokdhgocgicdnaaGreatDoor

/- The law's own measure of a tree that came in: szTreeS, szTree. -/
namespace Go.Proofs.YtokdhgocgicdnaaGreatDoor
open Go.RowKit

theorem bulkTs_sum (ts : List TreeD) : bulkTs ts = ts.length + (ts.map bulkT).sum := by
  induction ts with
  | nil => simp [bulkTs]
  | cons t ts ih => simp [bulkTs, ih]; omega
def kidsTo (ts : List TreeD) (k : Nat) : Nat := ((ts.take k).map bulkT).sum
theorem kidsTo_succ (ts : List TreeD) (k : Nat) (h : k < ts.length) : kidsTo ts (k + 1) = kidsTo ts k + bulkT ts[k] := by
  unfold kidsTo; rw [List.take_succ_eq_append_getElem h, List.map_append, List.sum_append]; simp
theorem kidsTo_le (ts : List TreeD) (k : Nat) : ts.length + kidsTo ts k ≤ bulkTs ts := by
  rw [bulkTs_sum]; unfold kidsTo
  conv => rhs; rw [← List.take_append_drop k ts]
  rw [List.map_append, List.sum_append]; simp
theorem kidsTo_all (ts : List TreeD) : ts.length + kidsTo ts ts.length = bulkTs ts := by rw [bulkTs_sum]; unfold kidsTo; rw [List.take_length]

/-- what is told of all lists from what is told of the lists below them -/
theorem kids_ind {p : List TreeD → Prop} (h : ∀ ts : List TreeD, (∀ i (h : i < ts.length), p ts[i].kids) → p ts) (ts : List TreeD) : p ts := by
  have key : ∀ n (ts : List TreeD), sizeTs ts ≤ n → p ts := by
    intro n
    induction n with
    | zero =>
      intro ts hs
      refine h ts fun i hi => ?_
      have := sizeTs_get ts i hi
      have := sizeT_eq ts[i]
      omega
    | succ n ih =>
      intro ts hs
      refine h ts fun i hi => ih _ ?_
      have := sizeTs_get ts i hi
      have := sizeT_eq ts[i]
      omega
  exact key _ ts (Nat.le_refl _)

end Go.Proofs.YtokdhgocgicdnaaGreatDoor

/- The model's sizes of a tree: spec.SizeOf, spec.l05Size. -/
namespace Go.Proofs.YtokdhgocgicdnaaGreatDoor
open Go.RowKit

theorem tree_ind {p : TreeD → Prop} (h : ∀ t : TreeD, (∀ i (h : i < t.kids.length), p t.kids[i]) → p t) (t : TreeD) : p t :=
  h t (kids_ind (p := fun ts => ∀ i (h : i < ts.length), p ts[i]) (fun _ ih i hi => h _ (ih i hi)) t.kids)

def SpZ (t : TreeD) : Prop := ∀ (z : Bool) (u : Value) (lo hi : Nat) (w : World), Kd z w lo hi u t.kids → hi ≤ w.heap.size → sizeT t ≤ 2097152 →
  Calls Tryz.prog 17 #[trV t u] w fun e w' => e = .returned (.int .i64 (sizeT t : Int)) ∧ Below w.heap.size w w'

set_option maxRecDepth 100000 in
set_option maxHeartbeats 1000000 in
theorem specSizeOf_of (t : TreeD) (ih : ∀ i (h : i < t.kids.length), SpZ t.kids[i]) : SpZ t := by
  intro z u lo hi w h hhi hn
  have hst := sizeT_eq t
  obtain ⟨A, c, U, rfl, hlc, hc, hs, hcell, hsub⟩ := h.parts
  unfold maxLen at hc
  have HC := Lib.hid hcell
  have HB := Lib.hid hsub
  clear hcell hsub h hs
  unfold trV
  have hb0 := al1 w (.cells #[.int .i64 t.rule, .string t.tok, .slice A t.kids.length c] 29)
  have R0 := Row.made w 29 #[.int .i64 t.rule, .string t.tok, .slice A t.kids.length c]
  go_enter Tryz.func17, Tryz.ntmps17
  go_wp2
  generalize w.alloc (.cells #[.int .i64 t.rule, .string t.tok, .slice A t.kids.length c] 29) = w0 at hb0 R0 ⊢
  go_loopw [3, 4] (fun l i wr => ∃ k : Nat, k ≤ t.kids.length ∧ i = .int .i64 k ∧ l = .int .i64 ((1 + sizeTs (t.kids.take k) : Nat) : Int) ∧ Below w0.heap.size w0 wr) (fun _ i _ => t.kids.length - (intOf i).toNat)
  case atStart => exact ⟨0, by omega, rfl, by simp [sizeTs], Below.refl _ _⟩
  case round =>
    obtain ⟨k, hk, rfl, rfl, hbw⟩ := hrel
    have hsw := hbw.size
    have hws := hb0.size
    have R1 := R0.below hbw R0.lt
    have hlt0 := R1.lt
    have c2 := R1.cell 2
    simp at c2
    by_cases hlt : k < t.kids.length
    · obtain ⟨b, off, rfl, _, hbh, _, hcc⟩ := HC.out (by omega)
      obtain ⟨hc0, hc1, hc2⟩ := hcc k hlt
      have hbx := hb0.trans (hbw.mono hws)
      have k0 := (hbx.cell (p := ⟨b, off + k * 3, none⟩) (by show b < _; omega)).trans hc0
      have k1 := (hbx.cell (p := ⟨b, off + k * 3 + 1, none⟩) (by show b < _; omega)).trans hc1
      have k2 := (hbx.cell (p := ⟨b, off + k * 3 + 2, none⟩) (by show b < _; omega)).trans hc2
      have hst' := (HB.out k hlt).under hbx hhi
      have hg := sizeTs_take t.kids k hlt
      have hle := sizeTs_take_le t.kids (k + 1)
      have HG := Lib.hid hg
      have hle2 : 1 + sizeTs (t.kids.take k) + sizeT t.kids[k] ≤ 2097152 := by omega
      clear hcc hc0 hc1 hc2 hg hle R1 hst
      go_wp2_with fail
      refine (ih k hlt z (U k) lo hi _ hst' (by omega) (by omega)).mono ?_
      rintro e w1 ⟨rfl, hb1⟩
      go_wp2
      go_roundw
      case rel => exact ⟨k + 1, by omega, by go_num, by rw [HG.out]; go_num, hbw.trans (hb1.mono hsw)⟩
      case measure => simp [intOf]; omega
    · have hks : k = t.kids.length := by omega
      have HK := Lib.hid hks
      clear hks R1
      go_wp2
      go_ret
      refine ⟨ret_int ?_, hb0.trans (hbw.mono hws)⟩
      have e := HK.out
      subst e
      rw [List.take_length, hst]
theorem specSizeOf_any (t : TreeD) : SpZ t := tree_ind specSizeOf_of t
end Go.Proofs.YtokdhgocgicdnaaGreatDoor

/- The model's size of a tree, as far as one asks: spec.l05Size. -/
namespace Go.Proofs.YtokdhgocgicdnaaGreatDoor
open Go.RowKit

/-- r is the size n, or more than most -/
def Upto (n : Nat) (most r : Int) : Prop := ((n : Int) ≤ most → r = n) ∧ (most < n → most < r ∧ r ≤ n)
def SpY (t : TreeD) : Prop := ∀ (z : Bool) (u : Value) (lo hi : Nat) (most : Int) (w : World), Kd z w lo hi u t.kids → hi ≤ w.heap.size → sizeT t ≤ 2097152 → 0 ≤ most → most ≤ 1000 →
  Calls Tryz.prog 32 #[trV t u, .int .i64 most] w fun e w' => ∃ r, e = .returned (.int .i64 r) ∧ Upto (sizeT t) most r ∧ Below w.heap.size w w'

set_option maxRecDepth 100000 in
set_option maxHeartbeats 1000000 in
theorem specSize5_of (t : TreeD) (ih : ∀ i (h : i < t.kids.length), SpY t.kids[i]) : SpY t := by
  intro z u lo hi most w h hhi hn hm0 hm1
  have hst := sizeT_eq t
  obtain ⟨A, c, U, rfl, hlc, hc, hs, hcell, hsub⟩ := h.parts
  unfold maxLen at hc
  have HC := Lib.hid hcell
  have HB := Lib.hid hsub
  clear hcell hsub h hs
  unfold trV
  have hb0 := al1 w (.cells #[.int .i64 t.rule, .string t.tok, .slice A t.kids.length c] 29)
  have R0 := Row.made w 29 #[.int .i64 t.rule, .string t.tok, .slice A t.kids.length c]
  go_enter Tryz.func32, Tryz.ntmps32
  go_wp2
  generalize w.alloc (.cells #[.int .i64 t.rule, .string t.tok, .slice A t.kids.length c] 29) = w0 at hb0 R0 ⊢
  go_loopw [5, 6] (fun l i wr => ∃ (k : Nat) (r : Int), k ≤ t.kids.length ∧ i = .int .i64 k ∧ l = .int .i64 r ∧ Upto (1 + sizeTs (t.kids.take k)) most r ∧ Below w0.heap.size w0 wr) (fun _ i _ => t.kids.length - (intOf i).toNat)
  case atStart => exact ⟨0, 1, by omega, rfl, rfl, (by unfold Upto; simp [sizeTs] <;> omega), Below.refl _ _⟩
  case round =>
    obtain ⟨k, r, hk, rfl, rfl, hup, hbw⟩ := hrel
    have hsw := hbw.size
    have hws := hb0.size
    have R1 := R0.below hbw R0.lt
    have hlt0 := R1.lt
    have c2 := R1.cell 2
    simp at c2
    have htl := sizeTs_take_le t.kids k
    have HU := Lib.hid hup
    by_cases hlt : k < t.kids.length
    · by_cases hr : r ≤ most
      · obtain ⟨b, off, rfl, _, hbh, _, hcc⟩ := HC.out (by omega)
        obtain ⟨hc0, hc1, hc2⟩ := hcc k hlt
        have hbx := hb0.trans (hbw.mono hws)
        have k0 := (hbx.cell (p := ⟨b, off + k * 3, none⟩) (by show b < _; omega)).trans hc0
        have k1 := (hbx.cell (p := ⟨b, off + k * 3 + 1, none⟩) (by show b < _; omega)).trans hc1
        have k2 := (hbx.cell (p := ⟨b, off + k * 3 + 2, none⟩) (by show b < _; omega)).trans hc2
        have hst' := (HB.out k hlt).under hbx hhi
        have hg := sizeTs_take t.kids k hlt
        have hle := sizeTs_take_le t.kids (k + 1)
        have HG := Lib.hid hg
        have hle2 : 1 + sizeTs (t.kids.take k) + sizeT t.kids[k] ≤ 2097152 := by omega
        have hr0 : 1 ≤ r := by unfold Upto at hup; omega
        have hre : r = ((1 + sizeTs (t.kids.take k) : Nat) : Int) := by unfold Upto at hup; omega
        have HR := Lib.hid hre
        clear hcc hc0 hc1 hc2 hg hle R1 hst hup hre htl
        go_wp2_with fail
        refine (ih k hlt z (U k) lo hi (most - r) _ hst' (by omega) (by omega) (by omega) (by omega)).mono ?_
        rintro e w1 ⟨r1, rfl, hup1, hb1⟩
        have HU1 := Lib.hid hup1
        have hr1 : 0 ≤ r1 ∧ r1 ≤ 2097152 := by unfold Upto at hup1; omega
        clear hup1
        obtain ⟨hr1, hr2⟩ := hr1
        go_wp2
        go_roundw
        case rel => exact ⟨k + 1, r + r1, by omega, by go_num, by go_num, by have := HU1.out; have := HR.out; have := HG.out; unfold Upto at *; omega, hbw.trans (hb1.mono hsw)⟩
        case measure => simp [intOf]; omega
      · clear R1 hup
        have i1 : (k : Int) < (t.kids.length : Int) := by omega
        go_wp2
        go_ret
        exact ⟨_, rfl, by have := HU.out; unfold Upto at *; omega, hb0.trans (hbw.mono hws)⟩
    · have hks : k = t.kids.length := by omega
      have HK := Lib.hid hks
      clear hks R1 hup
      go_wp2
      go_ret
      refine ⟨_, rfl, ?_, hb0.trans (hbw.mono hws)⟩
      have e := HK.out
      subst e
      have := HU.out
      rw [List.take_length] at this
      rw [hst]; exact this
theorem specSize5_any (t : TreeD) : SpY t := tree_ind specSize5_of t
end Go.Proofs.YtokdhgocgicdnaaGreatDoor
