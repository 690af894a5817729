import Derived.Test.YtbaofldcdcllfaaIso
import Derived.Test.YtbaofldcdcllfaaJSsz
import Derived.Test.YtbaofldcdcllfaaOwns
import Derived.WalkKit
import Derived.WalkSpells
import Derived.WalkLawsBesides
import Derived.Deep.OwnRows
/- How many parts a tree has: impl.SizeOf. -/
namespace Go.Proofs.Ytbaofldcdcllfaa
open Go.RowKit

/-- a list of just one tree, in a new block -/
theorem one_kd {z : Bool} {w : World} {lo hi : Nat} {u : Value} {t : TreeD} (h : Kd z w lo hi u t.kids) (ht : TopOk t) (hhi : hi ≤ w.heap.size) :
    Kd z (w.alloc (.cells #[.int .i64 t.rule, .string t.tok, u] 29)) 0 (w.heap.size + 1) (.slice (some ⟨w.heap.size, 0, none⟩) 1 1) [t] := by
  have r := Row.made w 29 #[.int .i64 t.rule, .string t.tok, u]
  refine .mk (some ⟨w.heap.size, 0, none⟩) 1 [t] (fun _ => u) (Nat.le_refl _) (by unfold maxLen; omega) (fun i hi => ?_) (fun _ => ⟨w.heap.size, 0, rfl, Nat.zero_le _, by omega, fun _ => ⟨_, _, r⟩, fun i hi => ?_⟩) (fun i hi => ?_)
  · obtain rfl : i = 0 := by simpa using hi
    exact ht
  · obtain rfl : i = 0 := by simpa using hi
    exact ⟨by rw [r.cell]; rfl, by rw [r.cell]; rfl, by rw [r.cell]; rfl⟩
  · obtain rfl : i = 0 := by simpa using hi
    exact (h.under (B := w.heap.size) (al1 _ _) hhi).more (Nat.zero_le _) (by omega)

set_option maxRecDepth 100000 in
set_option maxHeartbeats 1000000 in
theorem sizeOfTree_any (t : TreeD) (u : Value) (lo hi : Nat) (w : World) (ht : TopOk t) (h : Kd true w lo hi u t.kids) (hhi : hi ≤ w.heap.size) (hn : sizeT t ≤ 2097152) :
    Calls Try.prog 32 #[trV t u, ownF] w fun e w' => e = .returned (.int .i64 (sizeT t : Int)) ∧ Below w.heap.size w w' := by
  have b1 := al1 w (.cells #[.int .i64 t.rule, .string t.tok, u] 29)
  have h1 := h.under b1 hhi
  have k := one_kd h1 ht (by simp; omega)
  have hs : sizeTs [t] = sizeT t := by simp [sizeTs]
  have hsz : (w.alloc (.cells #[.int .i64 t.rule, .string t.tok, u] 29)).heap.size = w.heap.size + 1 := by simp
  rw [hsz] at k
  have K := Lib.hid k
  have HS := Lib.hid hs
  clear hs
  have b2 := al2 w (.cells #[.int .i64 t.rule, .string t.tok, u] 29) (.cells #[.int .i64 t.rule, .string t.tok, u] 29)
  have HB := Lib.hid b2
  obtain ⟨A, c, U, rfl, -⟩ := h.parts
  unfold trV
  clear h h1 k b1 b2 hsz
  go_enter Try.func32, Try.ntmps32
  go_wp2_with fail
  refine (sizeOfAll_any (.slice (some ⟨w.heap.size + 1, 0, none⟩) 1 1) [t] 0 (w.heap.size + 1 + 1) _ K.out (by simp) (by rw [HS.out]; exact hn)).mono ?_
  rintro e w1 ⟨rfl, hb⟩
  rw [HS.out]
  go_wp2
  go_ret
  exact ⟨rfl, HB.out.trans (hb.mono (by simp; omega))⟩
set_option maxRecDepth 100000 in
set_option maxHeartbeats 1000000 in
theorem implSizeOf_any (t : TreeD) (u : Value) (lo hi : Nat) (w : World) (ht : TopOk t) (h : Kd true w lo hi u t.kids) (hhi : hi ≤ w.heap.size) (hn : sizeT t ≤ 2097152) :
    Calls Try.prog 10 #[trV t u] w fun e w' => e = .returned (.int .i64 (sizeT t : Int)) ∧ Below w.heap.size w w' := by
  have b1 := al1 w (.cells #[.int .i64 t.rule, .string t.tok, u] 29)
  have K := Lib.hid (h.under b1 hhi)
  obtain ⟨A, c, U, rfl, -⟩ := h.parts
  unfold trV
  clear h
  go_enter Try.func10, Try.ntmps10
  go_wp2_with fail
  refine (sizeOfTree_any t (.slice A t.kids.length c) lo hi _ ht K.out (by simp; omega) hn).mono ?_
  rintro e w1 ⟨rfl, hb⟩
  go_wp2
  go_ret
  exact ⟨rfl, b1.trans (hb.mono (by simp))⟩
end Go.Proofs.Ytbaofldcdcllfaa

/- SizeOf, of the model and of the program, in one form. -/
namespace Go.Proofs.Ytbaofldcdcllfaa
open Go.RowKit
theorem specSizeOf_t (t : TreeD) (u : Value) (lo hi : Nat) (w : World) (_ : TopOk t) (h : Kd true w lo hi u t.kids) (hhi : hi ≤ w.heap.size) (hn : bulkT t ≤ 1048576) :
    Calls Try.prog 8 #[trV t u] w fun e w' => e = .returned (.int .i64 (sizeT t : Int)) ∧ Below w.heap.size w w' :=
  specSizeOf_any t true u lo hi w h hhi (by have := sizeT_le_bulkT t; omega)
theorem implSizeOf_t (t : TreeD) (u : Value) (lo hi : Nat) (w : World) (ht : TopOk t) (h : Kd true w lo hi u t.kids) (hhi : hi ≤ w.heap.size) (hn : bulkT t ≤ 1048576) :
    Calls Try.prog 10 #[trV t u] w fun e w' => e = .returned (.int .i64 (sizeT t : Int)) ∧ Below w.heap.size w w' :=
  implSizeOf_any t u lo hi w ht h hhi (by have := sizeT_le_bulkT t; omega)
end Go.Proofs.Ytbaofldcdcllfaa

/- What came in, laid anew: toStringS, toRule, toRuleS, toGram. -/
namespace Go.Proofs.Ytbaofldcdcllfaa
open Go.RowKit

theorem Try.infoStr : (Try.prog.info? 9).map (fun i => (i.zero, i.size, i.bytes)) = some (some (.string ByteArray.empty), 1, 16) := by kernel_rfl

set_option maxHeartbeats 1000000 in
theorem toStringS_any (v : Value) (ss : List ByteArray) (lo hi : Nat) (w : World) (h : Strs w lo hi v ss) (hhi : hi ≤ w.heap.size) (hn : ss.length ≤ 1048576) :
    Calls Try.prog 88 #[v] w fun e w' => ∃ u, e = .returned u ∧ OwnS w' w.heap.size u ss ∧ w.heap.size < w'.heap.size ∧ Below w.heap.size w w' := by
  obtain ⟨A, c, rfl, hlc, hc, hsz, hcell⟩ := h
  have hmk := run_make_row' (P := Try.prog) 66 9 (.string ByteArray.empty) 16 Try.underlying66 Try.infoStr rfl .i64 .i64 ss.length (by omega) (by omega)
  have HC := Lib.hid hcell
  have HZ := Lib.hid hsz
  clear hcell hsz
  go_enter Try.func88, Try.ntmps88
  go_wp2
  go_loopw [4] (fun i wr => ∃ (k : Nat) (cur : Array Value), k ≤ ss.length ∧ i = .int .i64 k ∧ Row wr w.heap.size 9 cur ∧ cur.size = ss.length ∧ (∀ j (h : j < ss.length), j < k → cur[j]? = some (.string ss[j])) ∧ Below w.heap.size w wr) (fun i _ => ss.length - (intOf i).toNat)
  case atStart => exact ⟨0, _, by omega, rfl, Row.made w _ _, size_madeCells _ _, fun j _ hj => by omega, (Below.refl _ _).alloc (Nat.le_refl _) _⟩
  case round =>
    obtain ⟨k, cur, hk, rfl, hrow, hcs, hall, hbw⟩ := hrel
    have HR := Lib.hid hrow
    have HS := Lib.hid hcs
    have HA := Lib.hid hall
    by_cases hlt : k < ss.length
    · obtain ⟨b, off, rfl, _, hbh, hcc⟩ := HC.out (by omega)
      have hck := (hbw.cell (p := ⟨b, off + k, none⟩) (by show b < _; omega)).trans (hcc k hlt)
      obtain ⟨u0, hdst⟩ := hrow.there (show k < cur.size by omega)
      have hfr := hrow.free k
      clear hcc hrow hcs hall
      go_wp2
      go_roundw
      case rel =>
        refine ⟨k + 1, _, by omega, by go_num, HR.out.put k _, by simp [HS.out], fun j hj hjk => ?_, hbw.setCell (Nat.le_refl _) _⟩
        by_cases hjk2 : j = k
        · subst hjk2; rw [Array.getElem?_setIfInBounds_self_of_lt (by rw [HS.out]; exact hj)]
        · rw [Array.getElem?_setIfInBounds_ne (by omega)]; exact HA.out j hj (by omega)
      case measure => simp [intOf]; omega
    · have hks : k = ss.length := by omega
      clear hrow hcs hall
      go_wp2
      go_ret
      exact ⟨_, rfl, ⟨_, _, rfl, Nat.le_refl _, by unfold maxLen; omega, HZ.out, fun hp => ⟨0, cur, rfl, HR.out, fun i hi => by rw [Nat.zero_add]; exact HA.out i hi (by omega)⟩⟩, HR.out.lt, hbw⟩
end Go.Proofs.Ytbaofldcdcllfaa

/- A tree that came in, laid anew: toTreeS, toTree. -/
namespace Go.Proofs.Ytbaofldcdcllfaa
open Go.RowKit

/-- a list of trees in memory of the call's own -/
def OwnK (w : World) (lo hi : Nat) (v : Value) (ts : List TreeD) : Prop := Kd true w lo hi v ts ∧ Shp w lo hi v ts
theorem OwnK.keep {w w' : World} {lo hi : Nat} {v : Value} {ts : List TreeD} (h : OwnK w lo hi v ts) (k : Keeps lo hi w w') : OwnK w' lo hi v ts := ⟨h.1.keep k, h.2.keep k⟩
theorem OwnK.more {w : World} {lo hi lo' hi' : Nat} {v : Value} {ts : List TreeD} (h : OwnK w lo hi v ts) (g1 : lo' ≤ lo) (g2 : hi ≤ hi') : OwnK w lo' hi' v ts := ⟨h.1.more g1 g2, h.2.more g1 g2⟩

def ToS (ts : List TreeD) : Prop := ∀ (v : Value) (lo hi : Nat) (w : World), Kd false w lo hi v ts → hi ≤ w.heap.size → bulkTs ts ≤ 1048576 →
  Calls Try.prog 31 #[v] w fun e w' => ∃ u, e = .returned u ∧ OwnK w' w.heap.size w'.heap.size u ts ∧ Below w.heap.size w w'

set_option maxHeartbeats 1000000 in
theorem toTree_of (t : TreeD) (ih : ToS t.kids) (u : Value) (lo hi : Nat) (w : World) (h : Kd false w lo hi u t.kids) (hhi : hi ≤ w.heap.size) (hn : bulkT t ≤ 1048576) :
    Calls Try.prog 9 #[trV t u] w fun e w' => ∃ x, e = .returned (trV t x) ∧ OwnK w' w.heap.size w'.heap.size x t.kids ∧ Below w.heap.size w w' := by
  have hbk := bulkT_eq t
  unfold trV
  go_enter Try.func9, Try.ntmps9
  go_wp2_with fail
  refine (ih u lo hi _ (h.under (B := w.heap.size) (al3 _ _ _ _) hhi) (by simp; omega) (by omega)).mono ?_
  rintro e w1 ⟨x, rfl, hown, hb⟩
  have hb0 : Below w.heap.size w w1 := (al3 _ _ _ _).trans (hb.mono (by simp; omega))
  have R1 : Row w1 (w.heap.size + 1) 29 #[.int .i64 0, .string ⟨#[]⟩, .slice none 0 0] := by
    refine Row.below (Row.alloc ?_ _) hb (by simp)
    simpa using Row.made (w.alloc (.cells #[.int .i64 t.rule, .string t.tok, u] 24)) 29 #[.int .i64 0, .string ⟨#[]⟩, .slice none 0 0]
  have R2 : Row w1 (w.heap.size + 1 + 1) 29 #[.int .i64 t.rule, .string t.tok, .slice none 0 0] := by
    refine Row.below ?_ hb (by simp)
    simpa using Row.made ((w.alloc (.cells #[.int .i64 t.rule, .string t.tok, u] 24)).alloc (.cells #[.int .i64 0, .string ⟨#[]⟩, .slice none 0 0] 29)) 29 #[.int .i64 t.rule, .string t.tok, .slice none 0 0]
  have hown' : OwnK w1 (w.heap.size + 1 + 1 + 1) w1.heap.size x t.kids := by simpa using hown
  clear hb hown
  have c10 := R1.cell 0
  have c11 := R1.cell 1
  have c12 := R1.cell 2
  have c20 := R2.cell 0
  have c21 := R2.cell 1
  have c22 := R2.cell 2
  simp at c10 c11 c12 c20 c21 c22
  have f10 := R1.free 0
  have f11 := R1.free 1
  have f12 := R1.free 2
  have f20 := R2.free 0
  have f21 := R2.free 1
  have f22 := R2.free 2
  clear R1 R2
  have HO := Lib.hid hown'
  obtain ⟨A, c, U, rfl, -⟩ := hown'.1.parts
  clear hown' h
  go_wp2
  refine bodyPost_ret (v := .agg #[.int .i64 t.rule, .string t.tok, .slice A t.kids.length c]) (by simp [results, Try.results9, go_sem, c10, c11, c12]) rfl ⟨_, rfl, ?_, ?_⟩
  · refine (HO.out.keep ?_).more (by omega) (by simp [World.setCell])
    intro k h1 h2
    rw [Below.heap_setCell _ _ _ _ (by simp; omega), Below.heap_setCell _ _ _ _ (by simp; omega), Below.heap_setCell _ _ _ _ (by simp; omega), Below.heap_setCell _ _ _ _ (by simp; omega)]
  · exact (((hb0.setCell (by simp; omega) _).setCell (by simp) _).setCell (by simp) _).setCell (by simp) _
end Go.Proofs.Ytbaofldcdcllfaa
