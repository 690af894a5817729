/- A Made copied: spec.l07Copy. -/
import Derived.Test.YtiochjagolijfaaTcq
import Derived.Test.YtiochjagolijfaaJGmd
import Derived.Test.YtiochjagolijfaaRnl
namespace Go.Proofs.Ytiochjagolijfaa
open Go.RowKit

set_option maxRecDepth 100000 in
set_option maxHeartbeats 4000000 in
theorem copyD_any (m : MadeD) (u x : Value) (lo hi : Nat) (w : World) (ht : TopM m.term) (hst : Strs w lo hi u m.body) (hk : KM true w lo hi x m.term.kids) (hh : hi ≤ w.heap.size) (hn : sizeM m.term ≤ 2097152) (hl : m.body.length ≤ 1048576) :
    Calls Try.prog 68 #[mdV m u x] w fun e w' => ∃ u' x', e = .returned (mdV m u' x') ∧ Strs w' w.heap.size w'.heap.size u' m.body ∧ KM true w' w.heap.size w'.heap.size x' m.term.kids ∧ Below w.heap.size w w' := by
  obtain ⟨s0, hs0, hx0, hx1, hx2⟩ := info_parts Try.infoStr
  have HST := Lib.hid hst
  have HK := Lib.hid hk
  have hz : ∀ s ∈ m.body, s.size ≤ maxLen := by obtain ⟨_, _, _, _, _, q, _⟩ := hst; exact q
  have HZ := Lib.hid hz
  obtain ⟨Ax, cx, Ux, rfl, -⟩ := hk.parts
  have hu : ∃ A c, u = .slice A m.body.length c := by obtain ⟨A, c, e, _⟩ := hst; exact ⟨A, c, e⟩
  obtain ⟨Au, cu, rfl⟩ := hu
  unfold mdV
  have ha := al2 w (.cells #[.string m.head, .slice Au m.body.length cu, .int .i64 m.term.kind, .int .i64 m.term.num, .slice Ax m.term.kids.length cx] 67) (.cells #[.string ⟨#[]⟩, .slice none 0 0, .int .i64 0, .int .i64 0, .slice none 0 0] 67)
  have R0 : Row ((w.alloc (.cells #[.string m.head, .slice Au m.body.length cu, .int .i64 m.term.kind, .int .i64 m.term.num, .slice Ax m.term.kids.length cx] 67)).alloc (.cells #[.string ⟨#[]⟩, .slice none 0 0, .int .i64 0, .int .i64 0, .slice none 0 0] 67)) w.heap.size 67 #[.string m.head, .slice Au m.body.length cu, .int .i64 m.term.kind, .int .i64 m.term.num, .slice Ax m.term.kids.length cx] := (Row.made w _ _).alloc _
  have R1 : Row ((w.alloc (.cells #[.string m.head, .slice Au m.body.length cu, .int .i64 m.term.kind, .int .i64 m.term.num, .slice Ax m.term.kids.length cx] 67)).alloc (.cells #[.string ⟨#[]⟩, .slice none 0 0, .int .i64 0, .int .i64 0, .slice none 0 0] 67)) (w.heap.size + 1) 67 #[.string ⟨#[]⟩, .slice none 0 0, .int .i64 0, .int .i64 0, .slice none 0 0] := by
    simpa using Row.made (w.alloc (.cells #[.string m.head, .slice Au m.body.length cu, .int .i64 m.term.kind, .int .i64 m.term.num, .slice Ax m.term.kids.length cx] 67)) 67 #[.string ⟨#[]⟩, .slice none 0 0, .int .i64 0, .int .i64 0, .slice none 0 0]
  have hzz : ((w.alloc (.cells #[.string m.head, .slice Au m.body.length cu, .int .i64 m.term.kind, .int .i64 m.term.num, .slice Ax m.term.kids.length cx] 67)).alloc (.cells #[.string ⟨#[]⟩, .slice none 0 0, .int .i64 0, .int .i64 0, .slice none 0 0] 67)).heap.size = w.heap.size + 2 := by simp
  have HHT := Lib.hid ht
  clear hst hk hz ht
  go_enter Try.func68, Try.ntmps68
  go_wp2
  generalize (w.alloc (.cells #[.string m.head, .slice Au m.body.length cu, .int .i64 m.term.kind, .int .i64 m.term.num, .slice Ax m.term.kids.length cx] 67)).alloc (.cells #[.string ⟨#[]⟩, .slice none 0 0, .int .i64 0, .int .i64 0, .slice none 0 0] 67) = wz at ha R0 R1 hzz ⊢
  -- what stands in whatever world comes behind
  have HF : Hid (∀ w' : World, Below wz.heap.size wz w' → KM true w' lo hi (.slice Ax m.term.kids.length cx) m.term.kids ∧ Strs w' lo hi (.slice Au m.body.length cu) m.body ∧ Row w' w.heap.size 67 #[.string m.head, .slice Au m.body.length cu, .int .i64 m.term.kind, .int .i64 m.term.num, .slice Ax m.term.kids.length cx] ∧ Row w' (w.heap.size + 1) 67 #[.string ⟨#[]⟩, .slice none 0 0, .int .i64 0, .int .i64 0, .slice none 0 0] ∧ wz.heap.size ≤ w'.heap.size) :=
    Lib.hid fun w' bb => ⟨(HK.out.under ha hh).under bb (by omega), (HST.out.below ha hh).below bb (by omega), R0.below bb (by omega), R1.below bb (by omega), bb.size⟩
  have bE : Below wz.heap.size wz (wz.drew.alloc (.cells #[] 9)) := (Below.refl _ _).drew.alloc (Nat.le_refl _) _
  have HE1 : Hid ((wz.drew.alloc (.cells #[] 9)).ownsRow wz.heap.size 9 1 (.slice (some ⟨wz.heap.size, 0, none⟩) 0 0) 0 []) := Lib.hid (World.ownsRow_lit wz.drew #[] 0 (Nat.le_refl _) (by unfold maxLen; omega) rfl)
  have HE2 : Hid (∀ w7 : World, Below (wz.drew.alloc (.cells #[] 9)).heap.size (wz.drew.alloc (.cells #[] 9)) w7 → w7.ownsRow wz.heap.size 9 1 (.slice (some ⟨wz.heap.size, 0, none⟩) 0 0) 0 []) := Lib.hid fun w7 b7 => own_keep HE1.out fun q hq => b7.block q (HE1.out.lt q hq).2
  have HE3 : Hid (∀ w7 : World, Below wz.heap.size wz w7 → (w7.alloc (.cells #[] 9)).ownsRow wz.heap.size 9 1 (.slice (some ⟨w7.heap.size, 0, none⟩) 0 0) 0 []) := Lib.hid fun w7 b7 => World.ownsRow_lit w7 #[] 0 b7.size (by unfold maxLen; omega) rfl
  have c0 := R0.cell 0
  have c1 := R0.cell 1
  have c2 := R0.cell 2
  have c3 := R0.cell 3
  have c4 := R0.cell 4
  simp at c0 c1 c2 c3 c4
  have lz : w.heap.size < wz.heap.size := by omega
  have lzd : w.heap.size < wz.drew.heap.size := lz
  have c0d : wz.drew.cell? ⟨w.heap.size, 0, none⟩ = some (.string m.head) := c0
  have c1d : wz.drew.cell? ⟨w.heap.size, 1, none⟩ = some (.slice Au m.body.length cu) := c1
  have c2d : wz.drew.cell? ⟨w.heap.size, 2, none⟩ = some (.int .i64 m.term.kind) := c2
  have c3d : wz.drew.cell? ⟨w.heap.size, 3, none⟩ = some (.int .i64 m.term.num) := c3
  have c4d : wz.drew.cell? ⟨w.heap.size, 4, none⟩ = some (.slice Ax m.term.kids.length cx) := c4
  have HZZ := Lib.hid hzz
  have HB0 := Lib.hid ha
  clear hzz ha
  go_region_law (first
    | (refine step_append_body (by rfl) _ _ (by rfl) s0 hs0 hx0 hx1 hx2 wz.heap.size wz.heap.size lo hi HE1.out Au cu m.body (HF.out _ bE).2.1 (by rfl) (by rfl) hl (by simp) ?_; intro B1 d1 wb hown1 hm1; have bb : Below wz.heap.size wz wb := ⟨hm1.os, hm1.tape, hm1.output, by have := hm1.size; simp at this; omega, fun p hp => by rw [hm1.block p (by simp; omega) (by omega)]; exact bE.block p hp⟩; have rp := (HF.out wb bb).2.2.1; have lp := rp.lt; have n0 := rp.cell 0; have n2 := rp.cell 2; have n3 := rp.cell 3; have n4 := rp.cell 4; simp at n0 n2 n3 n4; clear rp)
    | (go_simp; go_at_call 91; refine (copyM_any m.term _ lo hi wb HHT.out (HF.out wb bb).1 (by have := (HF.out wb bb).2.2.2.2; omega) hn).mono ?_; rintro e w7 ⟨x7, rfl, hK7, b7⟩; have HK7 := Lib.hid hK7; obtain ⟨A7, c7, U7, rfl, -⟩ := hK7.parts; have b27 : Below wz.heap.size wz w7 := bb.trans (b7.mono bb.size); have rq := (HF.out w7 b27).2.2.2.1; have t0 := rq.cell 0; have t1 := rq.cell 1; have t2 := rq.cell 2; have t3 := rq.cell 3; have t4 := rq.cell 4; have y0 := rq.free 0; have y1 := rq.free 1; have y2 := rq.free 2; have y3 := rq.free 3; have y4 := rq.free 4; simp at t0 t1 t2 t3 t4; have rp7 := (HF.out w7 b27).2.2.1; have m0 := rp7.cell 0; simp at m0; clear hK7 rp7; (try unfold tmV)))
  all_goals
    have hzw := (HF.out w7 b27).2.2.2.2
    have hzb := (HF.out wb bb).2.2.2.2
    have hz2 := HZZ.out
    have S1 : Strs wb wz.heap.size wb.heap.size (.slice B1 m.body.length d1) m.body := (show Sts wb wz.heap.size (.slice B1 m.body.length d1) m.body from hown1).strs HZ.out
    have S7 : Strs w7 wz.heap.size wb.heap.size (.slice B1 m.body.length d1) m.body := S1.below b7 (Nat.le_refl _)
    have hb7 := b7.size
    have FIN : Hid (Strs (((((w7.setCell ⟨w.heap.size + 1, 0, none⟩ (.string m.head)).setCell ⟨w.heap.size + 1, 1, none⟩ (.slice B1 m.body.length d1)).setCell ⟨w.heap.size + 1, 2, none⟩ (.int .i64 m.term.kind)).setCell ⟨w.heap.size + 1, 3, none⟩ (.int .i64 m.term.num)).setCell ⟨w.heap.size + 1, 4, none⟩ (.slice A7 m.term.kids.length c7)) w.heap.size (((((w7.setCell ⟨w.heap.size + 1, 0, none⟩ (.string m.head)).setCell ⟨w.heap.size + 1, 1, none⟩ (.slice B1 m.body.length d1)).setCell ⟨w.heap.size + 1, 2, none⟩ (.int .i64 m.term.kind)).setCell ⟨w.heap.size + 1, 3, none⟩ (.int .i64 m.term.num)).setCell ⟨w.heap.size + 1, 4, none⟩ (.slice A7 m.term.kids.length c7)).heap.size (.slice B1 m.body.length d1) m.body ∧
        KM true (((((w7.setCell ⟨w.heap.size + 1, 0, none⟩ (.string m.head)).setCell ⟨w.heap.size + 1, 1, none⟩ (.slice B1 m.body.length d1)).setCell ⟨w.heap.size + 1, 2, none⟩ (.int .i64 m.term.kind)).setCell ⟨w.heap.size + 1, 3, none⟩ (.int .i64 m.term.num)).setCell ⟨w.heap.size + 1, 4, none⟩ (.slice A7 m.term.kids.length c7)) w.heap.size (((((w7.setCell ⟨w.heap.size + 1, 0, none⟩ (.string m.head)).setCell ⟨w.heap.size + 1, 1, none⟩ (.slice B1 m.body.length d1)).setCell ⟨w.heap.size + 1, 2, none⟩ (.int .i64 m.term.kind)).setCell ⟨w.heap.size + 1, 3, none⟩ (.int .i64 m.term.num)).setCell ⟨w.heap.size + 1, 4, none⟩ (.slice A7 m.term.kids.length c7)).heap.size (.slice A7 m.term.kids.length c7) m.term.kids ∧
        Below w.heap.size w (((((w7.setCell ⟨w.heap.size + 1, 0, none⟩ (.string m.head)).setCell ⟨w.heap.size + 1, 1, none⟩ (.slice B1 m.body.length d1)).setCell ⟨w.heap.size + 1, 2, none⟩ (.int .i64 m.term.kind)).setCell ⟨w.heap.size + 1, 3, none⟩ (.int .i64 m.term.num)).setCell ⟨w.heap.size + 1, 4, none⟩ (.slice A7 m.term.kids.length c7))) := Lib.hid (by
      refine ⟨?_, ?_, ?_⟩
      · refine (S7.keep fun p p1 _ => five_heap _ _ _ _ _ _ _ _ (by omega)).more (by omega) (by rw [five_size]; omega)
      · refine (HK7.out.keep fun p p1 _ => five_heap _ _ _ _ _ _ _ _ (by omega)).more (by omega) (by rw [five_size]; exact Nat.le_refl _)
      · have b0 : Below w.heap.size w w7 := HB0.out.trans (b27.mono (by omega))
        exact ((((b0.setCell (p := ⟨w.heap.size + 1, 0, none⟩) (Nat.le_succ _) _).setCell (p := ⟨w.heap.size + 1, 1, none⟩) (Nat.le_succ _) _).setCell (p := ⟨w.heap.size + 1, 2, none⟩) (Nat.le_succ _) _).setCell (p := ⟨w.heap.size + 1, 3, none⟩) (Nat.le_succ _) _).setCell (p := ⟨w.heap.size + 1, 4, none⟩) (Nat.le_succ _) _)
    have R9 := five_row (HF.out w7 b27).2.2.2.1 (.string m.head) (.slice B1 m.body.length d1) (.int .i64 m.term.kind) (.int .i64 m.term.num) (.slice A7 m.term.kids.length c7)
    have v0 := R9.cell 0
    have v1 := R9.cell 1
    have v2 := R9.cell 2
    have v3 := R9.cell 3
    have v4 := R9.cell 4
    simp at v0 v1 v2 v3 v4
    clear hown1 hm1 bb b7 b27 S1 S7 n0 n2 n3 n4
    go_wp2
    exact bodyPost_ret (v := .agg #[.string m.head, .slice B1 m.body.length d1, .int .i64 m.term.kind, .int .i64 m.term.num, .slice A7 m.term.kids.length c7]) (by simp [results, Try.results68, go_sem, v0, v1, v2, v3, v4]) rfl ⟨_, _, rfl, FIN.out.1, FIN.out.2.1, FIN.out.2.2⟩
end Go.Proofs.Ytiochjagolijfaa
