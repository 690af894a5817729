import Derived.Test.YtiochjagolijfaaJTst
import Derived.Test.YtiochjagolijfaaOwns
import Derived.WalkKit
import Derived.WalkSpells
import Derived.WalkLawsBesides
import Derived.Deep.OwnRows
import Derived.Test.YtiochjagolijfaaJSsz
/- Are two trees the same? The model: spec.TreeSame. -/
namespace Go.Proofs.Ytiochjagolijfaa
open Go.RowKit

def SpT (a : TreeD) : Prop := ∀ (b : TreeD) (z : Bool) (u v : Value) (lo hi lo2 hi2 : Nat) (w : World), Kd z w lo hi u a.kids → Kd z w lo2 hi2 v b.kids → hi ≤ w.heap.size → hi2 ≤ w.heap.size →
  Calls Try.prog 22 #[trV a u, trV b v] w fun e w' => ∃ r, e = .returned (.bool r) ∧ (r = true ↔ a = b) ∧ Below w.heap.size w w'
theorem same_no {a b : TreeD} (h : ¬ TopEq a b) : (false = true ↔ a = b) := ⟨(fun h => by cases h), fun e => absurd (show TopEq a b by subst e; exact ⟨rfl, rfl, rfl⟩) h⟩

set_option maxRecDepth 100000 in
set_option maxHeartbeats 4000000 in
theorem specTreeSame_of (a : TreeD) (ih : ∀ i (h : i < a.kids.length), SpT a.kids[i]) : SpT a := by
  intro b z u v lo hi lo2 hi2 w hu hv hh hh2
  obtain ⟨A, c, U, rfl, hlc, hc, _, hcell, hsub⟩ := hu.parts
  obtain ⟨B, d, V, rfl, hld, hd, _, hcell', hsub'⟩ := hv.parts
  have HC := Lib.hid hcell
  have HC' := Lib.hid hcell'
  have HB := Lib.hid hsub
  have HB' := Lib.hid hsub'
  unfold maxLen at hc hd
  clear hcell hcell' hsub hsub' hv hu
  have hb0 := al2 w (.cells #[.int .i64 a.rule, .string a.tok, .slice A a.kids.length c] 59) (.cells #[.int .i64 b.rule, .string b.tok, .slice B b.kids.length d] 59)
  have RA := (Row.made w 59 #[.int .i64 a.rule, .string a.tok, .slice A a.kids.length c]).alloc (.cells #[.int .i64 b.rule, .string b.tok, .slice B b.kids.length d] 59)
  have RB := Row.made (w.alloc (.cells #[.int .i64 a.rule, .string a.tok, .slice A a.kids.length c] 59)) 59 #[.int .i64 b.rule, .string b.tok, .slice B b.kids.length d]
  have hsz : (w.alloc (.cells #[.int .i64 a.rule, .string a.tok, .slice A a.kids.length c] 59)).heap.size = w.heap.size + 1 := by simp
  rw [hsz] at RB
  have hsz2 : ((w.alloc (.cells #[.int .i64 a.rule, .string a.tok, .slice A a.kids.length c] 59)).alloc (.cells #[.int .i64 b.rule, .string b.tok, .slice B b.kids.length d] 59)).heap.size = w.heap.size + 1 + 1 := by simp
  have HZ := Lib.hid hsz2
  have HB0 := Lib.hid hb0
  clear hsz hsz2 hb0
  unfold trV
  by_cases h1 : a.rule = b.rule
  · have e1 : (a.rule != b.rule) = false := by rw [bne_eq_false_iff_eq]; exact h1
    have H1 := Lib.hid h1
    clear h1
    by_cases h2 : a.tok = b.tok
    · have e2 := bytes_beq_t h2
      have H2 := Lib.hid h2
      clear h2
      by_cases h3 : a.kids.length = b.kids.length
      · have e3 : ((a.kids.length : Int) != (b.kids.length : Int)) = false := by rw [bne_eq_false_iff_eq]; omega
        have H3 := Lib.hid h3
        clear h3
        go_enter Try.func22, Try.ntmps22
        go_wp2
        generalize (w.alloc (.cells #[.int .i64 a.rule, .string a.tok, .slice A a.kids.length c] 59)).alloc (.cells #[.int .i64 b.rule, .string b.tok, .slice B b.kids.length d] 59) = w0 at RA RB HZ HB0 ⊢
        have z0 := HZ.out
        go_loopg [5] a.kids.length (fun gk i wr => ∃ k : Nat, k ≤ a.kids.length ∧ i = .int .i64 k ∧ Below w0.heap.size w0 wr ∧ (∀ j (h : j < a.kids.length) (h' : j < b.kids.length), j < k → a.kids[j] = b.kids[j]) ∧ gk = a.kids.length - k)
        case atStart => exact ⟨0, by omega, rfl, Below.refl _ _, (fun j _ _ hj => by omega), rfl⟩
        case round =>
          obtain ⟨k, hk, rfl, hbw, hall, rfl⟩ := hrel
          have HA := Lib.hid hall
          clear hall
          have hsw := hbw.size
          have R3 := RA.below hbw (by omega)
          have R4 := RB.below hbw (by omega)
          have c2 := R3.cell 2
          have c2' := R4.cell 2
          simp at c2 c2'
          have l1 := R3.lt
          have l2 := R4.lt
          have HBX := Lib.hid (HB0.out.trans (hbw.mono HB0.out.size))
          by_cases hlt : k < a.kids.length
          · have hlt' : k < b.kids.length := by have := H3.out; omega
            obtain ⟨b1, off, rfl, _, hbh, _, hcc⟩ := HC.out (by omega)
            obtain ⟨hc0, hc1, hc2⟩ := hcc k hlt
            obtain ⟨b2, off', rfl, _, hbh', _, hcc'⟩ := HC'.out (by omega)
            obtain ⟨hd0, hd1, hd2⟩ := hcc' k hlt'
            have B0 := HBX.out
            have k0 := (B0.cell (p := ⟨b1, off + k * 3, none⟩) (by show b1 < _; omega)).trans hc0
            have k1 := (B0.cell (p := ⟨b1, off + k * 3 + 1, none⟩) (by show b1 < _; omega)).trans hc1
            have k2 := (B0.cell (p := ⟨b1, off + k * 3 + 2, none⟩) (by show b1 < _; omega)).trans hc2
            have m0 := (B0.cell (p := ⟨b2, off' + k * 3, none⟩) (by show b2 < _; omega)).trans hd0
            have m1 := (B0.cell (p := ⟨b2, off' + k * 3 + 1, none⟩) (by show b2 < _; omega)).trans hd1
            have m2 := (B0.cell (p := ⟨b2, off' + k * 3 + 2, none⟩) (by show b2 < _; omega)).trans hd2
            have g1 := (HB.out k hlt).under B0 hh
            have g2 := (HB'.out k hlt').under B0 hh2
            have i1 : (k : Int) < (a.kids.length : Int) := by omega
            have i2 : (k : Int) < (b.kids.length : Int) := by omega
            have hb1q : b1 < wr.heap.size := by omega
            have hb2q : b2 < wr.heap.size := by omega
            have hbw2 : Below w0.heap.size w0 wr.drew := hbw.drew
            have g1d : Kd z wr.drew lo hi (U k) a.kids[k].kids := g1.drewN 1
            have g2d : Kd z wr.drew lo2 hi2 (V k) b.kids[k].kids := g2.drewN 1
            have hswd : w0.heap.size ≤ wr.drew.heap.size := hsw
            clear hcc hcc' hc0 hc1 hc2 hd0 hd1 hd2 B0 R3 R4 g1 g2
            go_wp2
            go_still_tail 10, (by kernel_rfl)
            change wpList _ _ _ _ _ wr.drew
            generalize wr.drew = w2 at hbw2 g1d g2d hswd ⊢
            go_wp2_with fail
            refine (ih k hlt b.kids[k] z (U k) (V k) lo hi lo2 hi2 _ g1d g2d (by omega) (by omega)).mono ?_
            rintro e w1 ⟨r, rfl, hr, hb3⟩
            cases r with
            | true =>
              have HE := Lib.hid (hr.1 rfl)
              clear hr
              go_wp2
              go_roundg (a.kids.length - (k + 1))
              case rel => exact ⟨k + 1, by omega, by go_num, hbw2.trans (hb3.mono hswd), (fun j hj hj' hjk => by
                by_cases e : j = k
                · subst e; exact HE.out
                · exact HA.out j hj hj' (by omega)), rfl⟩
              case measure => omega
            | false =>
              have HE : Hid (false = true ↔ a = b) := Lib.hid ⟨(fun h => by cases h), fun e => by
                subst e
                have := hr.2 rfl
                cases this⟩
              clear hr
              go_wp2
              go_ret
              exact ⟨false, rfl, HE.out, (HB0.out.trans (hbw2.mono HB0.out.size)).trans (hb3.mono (by omega))⟩
          · have HE : Hid (a = b) := Lib.hid (TreeD.ext_of H1.out H2.out (List.ext_getElem H3.out fun i hi hi' => HA.out i hi hi' (by omega)))
            clear R3 R4
            go_wp2
            go_ret
            exact ⟨true, rfl, ⟨fun _ => HE.out, fun _ => rfl⟩, HBX.out⟩
      · have e3 : ((a.kids.length : Int) != (b.kids.length : Int)) = true := by rw [bne_iff_ne]; omega
        go_enter Try.func22, Try.ntmps22
        go_wp2
        go_ret
        exact ⟨false, rfl, same_no (fun h => h3 h.2.2), HB0.out⟩
    · have e2 := bytes_beq_f h2
      go_enter Try.func22, Try.ntmps22
      go_wp2
      go_ret
      exact ⟨false, rfl, same_no (fun h => h2 h.2.1), HB0.out⟩
  · have e1 : (a.rule != b.rule) = true := by rw [bne_iff_ne]; exact h1
    go_enter Try.func22, Try.ntmps22
    go_wp2
    go_ret
    exact ⟨false, rfl, same_no (fun h => h1 h.1), HB0.out⟩
theorem specTreeSame_any (a : TreeD) : SpT a := tree_ind specTreeSame_of a
end Go.Proofs.Ytiochjagolijfaa

/- What came in, laid anew: toStringS, toRule, toRuleS, toGram. -/
namespace Go.Proofs.Ytiochjagolijfaa
open Go.RowKit

theorem Try.infoStr : (Try.prog.info? 9).map (fun i => (i.zero, i.size, i.bytes)) = some (some (.string ByteArray.empty), 1, 16) := by kernel_rfl

set_option maxHeartbeats 1000000 in
theorem toStringS_any (v : Value) (ss : List ByteArray) (lo hi : Nat) (w : World) (h : Strs w lo hi v ss) (hhi : hi ≤ w.heap.size) (hn : ss.length ≤ 1048576) :
    Calls Try.prog 69 #[v] w fun e w' => ∃ u, e = .returned u ∧ OwnS w' w.heap.size u ss ∧ w.heap.size < w'.heap.size ∧ Below w.heap.size w w' := by
  obtain ⟨A, c, rfl, hlc, hc, hsz, hcell⟩ := h
  have hmk := run_make_row' (P := Try.prog) 63 9 (.string ByteArray.empty) 16 Try.underlying63 Try.infoStr rfl .i64 .i64 ss.length (by omega) (by omega)
  have HC := Lib.hid hcell
  have HZ := Lib.hid hsz
  clear hcell hsz
  go_enter Try.func69, Try.ntmps69
  go_wp2
  go_loopw [4] (fun i wr => ∃ (k : Nat) (cur : Array Value), k ≤ ss.length ∧ i = .int .i64 k ∧ Row wr w.heap.size 9 cur ∧ cur.size = ss.length ∧ (∀ j (h : j < ss.length), j < k → cur[j]? = some (.string ss[j])) ∧ Below w.heap.size w wr) (fun i _ => ss.length - (intOf i).toNat)
  case atStart => exact ⟨0, _, by omega, rfl, Row.made w _ _, size_madeCells _ _, fun j _ hj => by omega, (Below.refl _ _).alloc (Nat.le_refl _) _⟩
  case round =>
    obtain ⟨k, cur, hk, rfl, hrow, hcs, hall, hbw⟩ := hrel
    have HR := Lib.hid hrow
    have HS := Lib.hid hcs
    have HA := Lib.hid hall
    by_cases hlt : k < ss.length
    · obtain ⟨b, off, rfl, _, hbh, hcc⟩ := HC.out (by omega)
      have hck := (hbw.cell (p := ⟨b, off + k, none⟩) (by show b < _; omega)).trans (hcc k hlt)
      obtain ⟨u0, hdst⟩ := hrow.there (show k < cur.size by omega)
      have hfr := hrow.free k
      clear hcc hrow hcs hall
      go_wp2
      go_roundw
      case rel =>
        refine ⟨k + 1, _, by omega, by go_num, HR.out.put k _, by simp [HS.out], fun j hj hjk => ?_, hbw.setCell (Nat.le_refl _) _⟩
        by_cases hjk2 : j = k
        · subst hjk2; rw [Array.getElem?_setIfInBounds_self_of_lt (by rw [HS.out]; exact hj)]
        · rw [Array.getElem?_setIfInBounds_ne (by omega)]; exact HA.out j hj (by omega)
      case measure => simp [intOf]; omega
    · have hks : k = ss.length := by omega
      clear hrow hcs hall
      go_wp2
      go_ret
      exact ⟨_, rfl, ⟨_, _, rfl, Nat.le_refl _, by unfold maxLen; omega, HZ.out, fun hp => ⟨0, cur, rfl, HR.out, fun i hi => by rw [Nat.zero_add]; exact HA.out i hi (by omega)⟩⟩, HR.out.lt, hbw⟩
end Go.Proofs.Ytiochjagolijfaa

/- A tree that came in, laid anew: toTreeS, toTree. -/
namespace Go.Proofs.Ytiochjagolijfaa
open Go.RowKit

/-- a list of trees in memory of the call's own -/
def OwnK (w : World) (lo hi : Nat) (v : Value) (ts : List TreeD) : Prop := Kd true w lo hi v ts ∧ Shp w lo hi v ts
theorem OwnK.keep {w w' : World} {lo hi : Nat} {v : Value} {ts : List TreeD} (h : OwnK w lo hi v ts) (k : Keeps lo hi w w') : OwnK w' lo hi v ts := ⟨h.1.keep k, h.2.keep k⟩
theorem OwnK.more {w : World} {lo hi lo' hi' : Nat} {v : Value} {ts : List TreeD} (h : OwnK w lo hi v ts) (g1 : lo' ≤ lo) (g2 : hi ≤ hi') : OwnK w lo' hi' v ts := ⟨h.1.more g1 g2, h.2.more g1 g2⟩

def ToS (ts : List TreeD) : Prop := ∀ (v : Value) (lo hi : Nat) (w : World), Kd false w lo hi v ts → hi ≤ w.heap.size → bulkTs ts ≤ 1048576 →
  Calls Try.prog 61 #[v] w fun e w' => ∃ u, e = .returned u ∧ OwnK w' w.heap.size w'.heap.size u ts ∧ Below w.heap.size w w'

set_option maxHeartbeats 1000000 in
theorem toTree_of (t : TreeD) (ih : ToS t.kids) (u : Value) (lo hi : Nat) (w : World) (h : Kd false w lo hi u t.kids) (hhi : hi ≤ w.heap.size) (hn : bulkT t ≤ 1048576) :
    Calls Try.prog 23 #[trV t u] w fun e w' => ∃ x, e = .returned (trV t x) ∧ OwnK w' w.heap.size w'.heap.size x t.kids ∧ Below w.heap.size w w' := by
  have hbk := bulkT_eq t
  unfold trV
  go_enter Try.func23, Try.ntmps23
  go_wp2_with fail
  refine (ih u lo hi _ (h.under (B := w.heap.size) (al3 _ _ _ _) hhi) (by simp; omega) (by omega)).mono ?_
  rintro e w1 ⟨x, rfl, hown, hb⟩
  have hb0 : Below w.heap.size w w1 := (al3 _ _ _ _).trans (hb.mono (by simp; omega))
  have R1 : Row w1 (w.heap.size + 1) 59 #[.int .i64 0, .string ⟨#[]⟩, .slice none 0 0] := by
    refine Row.below (Row.alloc ?_ _) hb (by simp)
    simpa using Row.made (w.alloc (.cells #[.int .i64 t.rule, .string t.tok, u] 54)) 59 #[.int .i64 0, .string ⟨#[]⟩, .slice none 0 0]
  have R2 : Row w1 (w.heap.size + 1 + 1) 59 #[.int .i64 t.rule, .string t.tok, .slice none 0 0] := by
    refine Row.below ?_ hb (by simp)
    simpa using Row.made ((w.alloc (.cells #[.int .i64 t.rule, .string t.tok, u] 54)).alloc (.cells #[.int .i64 0, .string ⟨#[]⟩, .slice none 0 0] 59)) 59 #[.int .i64 t.rule, .string t.tok, .slice none 0 0]
  have hown' : OwnK w1 (w.heap.size + 1 + 1 + 1) w1.heap.size x t.kids := by simpa using hown
  clear hb hown
  have c10 := R1.cell 0
  have c11 := R1.cell 1
  have c12 := R1.cell 2
  have c20 := R2.cell 0
  have c21 := R2.cell 1
  have c22 := R2.cell 2
  simp at c10 c11 c12 c20 c21 c22
  have f10 := R1.free 0
  have f11 := R1.free 1
  have f12 := R1.free 2
  have f20 := R2.free 0
  have f21 := R2.free 1
  have f22 := R2.free 2
  clear R1 R2
  have HO := Lib.hid hown'
  obtain ⟨A, c, U, rfl, -⟩ := hown'.1.parts
  clear hown' h
  go_wp2
  refine bodyPost_ret (v := .agg #[.int .i64 t.rule, .string t.tok, .slice A t.kids.length c]) (by simp [results, Try.results23, go_sem, c10, c11, c12]) rfl ⟨_, rfl, ?_, ?_⟩
  · refine (HO.out.keep ?_).more (by omega) (by simp [World.setCell])
    intro k h1 h2
    rw [Below.heap_setCell _ _ _ _ (by simp; omega), Below.heap_setCell _ _ _ _ (by simp; omega), Below.heap_setCell _ _ _ _ (by simp; omega), Below.heap_setCell _ _ _ _ (by simp; omega)]
  · exact (((hb0.setCell (by simp; omega) _).setCell (by simp) _).setCell (by simp) _).setCell (by simp) _
end Go.Proofs.Ytiochjagolijfaa
