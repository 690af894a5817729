/- A Made that came in, laid anew: toMade. -/
import Derived.Test.YtbaofldcdcllfaaDoorJSz
import Derived.Test.YtbaofldcdcllfaaDoorTmu
import Derived.Test.YtbaofldcdcllfaaDoorJTmt
namespace Go.Proofs.YtbaofldcdcllfaaDoor
open Go.RowKit

set_option maxRecDepth 100000 in
set_option maxHeartbeats 4000000 in
theorem toMade_any (m : MadeD) (u x : Value) (lo hi : Nat) (w : World) (h : Strs w lo hi u m.body) (hk : KM false w lo hi x m.term.kids) (hhi : hi ≤ w.heap.size) (hn : bulkD m ≤ 1048576) :
    Calls Tryd.prog 25 #[mdV m u x] w fun e w' => ∃ u' x' g, e = .returned (mdV m u' x') ∧ OwnS w' g u' m.body ∧ w.heap.size ≤ g ∧ g < w'.heap.size ∧ OwnM w' (g + 1) w'.heap.size x' m.term.kids ∧ Below w.heap.size w w' := by
  have hn1 : m.body.length ≤ 1048576 := by unfold bulkD bulkS at hn; omega
  have hn2 : sizeMs m.term.kids ≤ 1048576 := by unfold bulkD at hn; omega
  clear hn
  unfold mdV
  have hk0 := hk.under (al3 w (.cells #[.string m.head, u, .int .i64 m.term.kind, .int .i64 m.term.num, x] 57) (.cells #[.string ⟨#[]⟩, .slice none 0 0, .int .i64 0, .int .i64 0, .slice none 0 0] 62) (.cells #[.string m.head, .slice none 0 0, .int .i64 0, .int .i64 0, .slice none 0 0] 62)) hhi
  have HK := Lib.hid hk0
  obtain ⟨Ax, cx, Ux, rfl, -⟩ := hk.parts
  have hu : ∃ A c, u = .slice A m.body.length c := by obtain ⟨A, c, e, _⟩ := h; exact ⟨A, c, e⟩
  obtain ⟨Au, cu, rfl⟩ := hu
  clear hk hk0
  go_enter Tryd.func25, Tryd.ntmps25
  go_wp2_with fail
  refine (toStringS_any _ m.body lo hi _ (h.below (B := w.heap.size) (al3 _ _ _ _) hhi) (by simp; omega) hn1).mono ?_
  rintro e w1 ⟨u', rfl, hown, hlt, hb⟩
  have hb0 : Below w.heap.size w w1 := (al3 _ _ _ _).trans (hb.mono (by simp; omega))
  have R0 : Row w1 w.heap.size 57 #[.string m.head, .slice Au m.body.length cu, .int .i64 m.term.kind, .int .i64 m.term.num, .slice Ax m.term.kids.length cx] := by
    refine Row.below (Row.alloc (Row.alloc (Row.made w _ _) _) _) hb (by simp; omega)
  have R1 : Row w1 (w.heap.size + 1) 62 #[.string ⟨#[]⟩, .slice none 0 0, .int .i64 0, .int .i64 0, .slice none 0 0] := by
    refine Row.below (Row.alloc ?_ _) hb (by simp)
    simpa using Row.made (w.alloc (.cells #[.string m.head, .slice Au m.body.length cu, .int .i64 m.term.kind, .int .i64 m.term.num, .slice Ax m.term.kids.length cx] 57)) 62 #[.string ⟨#[]⟩, .slice none 0 0, .int .i64 0, .int .i64 0, .slice none 0 0]
  have R2 : Row w1 (w.heap.size + 1 + 1) 62 #[.string m.head, .slice none 0 0, .int .i64 0, .int .i64 0, .slice none 0 0] := by
    refine Row.below ?_ hb (by simp)
    simpa using Row.made ((w.alloc (.cells #[.string m.head, .slice Au m.body.length cu, .int .i64 m.term.kind, .int .i64 m.term.num, .slice Ax m.term.kids.length cx] 57)).alloc (.cells #[.string ⟨#[]⟩, .slice none 0 0, .int .i64 0, .int .i64 0, .slice none 0 0] 62)) 62 #[.string m.head, .slice none 0 0, .int .i64 0, .int .i64 0, .slice none 0 0]
  have hg : w.heap.size + 1 + 1 + 1 < w1.heap.size := by simpa using hlt
  have hown' : OwnS w1 (w.heap.size + 1 + 1 + 1) u' m.body := by simpa using hown
  have HK1 := Lib.hid (HK.out.under hb (by simp; omega))
  clear hb hown hlt
  have c00 := R0.cell 0
  have c01 := R0.cell 1
  have c02 := R0.cell 2
  have c03 := R0.cell 3
  have c04 := R0.cell 4
  have c20 := R2.cell 0
  have c21 := R2.cell 1
  have c22 := R2.cell 2
  have c23 := R2.cell 3
  have c24 := R2.cell 4
  simp at c00 c01 c02 c03 c04 c20 c21 c22 c23 c24
  have f21 := R2.free 1
  have HO := Lib.hid hown'
  have hu' : ∃ A c, u' = .slice A m.body.length c := by obtain ⟨A, c, e, _⟩ := hown'; exact ⟨A, c, e⟩
  obtain ⟨A', c', rfl⟩ := hu'
  clear hown'
  have HR1 := Lib.hid R1
  have HR2 := Lib.hid R2
  clear R0 R1 R2
  have b1 : Below w.heap.size w (w1.setCell ⟨w.heap.size + 1 + 1, 1, none⟩ (.slice A' m.body.length c')) := hb0.setCell (by simp; omega) _
  have HKs : Hid (KM false (w1.setCell ⟨w.heap.size + 1 + 1, 1, none⟩ (.slice A' m.body.length c')) lo hi (.slice Ax m.term.kids.length cx) m.term.kids) := Lib.hid (HK1.out.keep fun p _ hp => Below.heap_setCell _ _ _ _ (by show p ≠ w.heap.size + 1 + 1; omega))
  have HOs : Hid (OwnS (w1.setCell ⟨w.heap.size + 1 + 1, 1, none⟩ (.slice A' m.body.length c')) (w.heap.size + 1 + 1 + 1) (.slice A' m.body.length c') m.body) := Lib.hid (HO.out.keep fun _ => Below.heap_setCell _ _ _ _ (by simp))
  have HR1s : Hid (Row (w1.setCell ⟨w.heap.size + 1 + 1, 1, none⟩ (.slice A' m.body.length c')) (w.heap.size + 1) 62 #[.string ⟨#[]⟩, .slice none 0 0, .int .i64 0, .int .i64 0, .slice none 0 0]) := Lib.hid (HR1.out.away (by show w.heap.size + 1 ≠ w.heap.size + 1 + 1; omega) _)
  have HR2s := Lib.hid (HR2.out.put 1 (.slice A' m.body.length c'))
  clear HK HK1 HO HR1 HR2
  have HG := Lib.hid hg
  have HB := Lib.hid b1
  clear b1 hb0 hg
  go_wp2_with fail
  refine (toTerm_any m.term _ lo hi _ HKs.out (by simp [World.setCell]; have := HG.out; omega) hn2).mono ?_
  rintro e w2 ⟨x', rfl, hm0, b20⟩
  have hsz : (w1.setCell ⟨w.heap.size + 1 + 1, 1, none⟩ (.slice A' m.body.length c')).heap.size = w1.heap.size := by simp [World.setCell]
  have hm : OwnM w2 w1.heap.size w2.heap.size x' m.term.kids := hsz ▸ hm0
  have b2 : Below w1.heap.size (w1.setCell ⟨w.heap.size + 1 + 1, 1, none⟩ (.slice A' m.body.length c')) w2 := hsz ▸ b20
  have z2 : w1.heap.size ≤ w2.heap.size := hsz ▸ b2.size
  have hg := HG.out
  have S1 := HR1s.out.below b2 (by omega)
  have S2 := HR2s.out.below b2 (by omega)
  have S9 := Lib.hid (HOs.out.keep (w' := w2) fun _ => b2.block _ (by omega))
  have d10 := S1.cell 0
  have d11 := S1.cell 1
  have d12 := S1.cell 2
  have d13 := S1.cell 3
  have d14 := S1.cell 4
  have d20 := S2.cell 0
  have d21 := S2.cell 1
  have d22 := S2.cell 2
  have d23 := S2.cell 3
  have d24 := S2.cell 4
  simp at d10 d11 d12 d13 d14 d20 d21 d22 d23 d24
  have f10 := S1.free 0
  have f11 := S1.free 1
  have f12 := S1.free 2
  have f13 := S1.free 3
  have f14 := S1.free 4
  have f22 := S2.free 2
  have f23 := S2.free 3
  have f24 := S2.free 4
  have HM := Lib.hid hm
  have HB2 := Lib.hid (HB.out.trans (b2.mono (by omega)))
  have HZ := Lib.hid z2
  obtain ⟨A3, c3, U3, rfl, -⟩ := hm.1.parts
  clear S1 S2 hm hm0 b2 b20 hsz z2 HB HKs HOs HR1s HR2s HG
  unfold tmV
  go_wp2
  refine bodyPost_ret (v := .agg #[.string m.head, .slice A' m.body.length c', .int .i64 m.term.kind, .int .i64 m.term.num, .slice A3 m.term.kids.length c3]) (by simp [results, Tryd.results25, go_sem, d10, d11, d12, d13, d14]) rfl ⟨_, _, w.heap.size + 1 + 1 + 1, rfl, ?_, by omega, ?_, ?_, ?_⟩
  · refine S9.out.keep fun _ => ?_
    simp only [World.setCell, Array.getElem?_modify]
    simp
  · have := HZ.out; simp [World.setCell]; omega
  · refine (HM.out.keep ?_).more (by omega) (by simp [World.setCell])
    intro p h1 h2
    iterate 8 rw [Below.heap_setCell _ _ _ _ (by simp; omega)]
  · iterate 8 refine Below.setCell ?_ (by simp; try omega) _
    exact HB2.out
end Go.Proofs.YtbaofldcdcllfaaDoor
