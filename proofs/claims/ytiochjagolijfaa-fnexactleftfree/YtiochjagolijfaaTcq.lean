/- A term copied: spec.l06Copy, walked. -/
import Derived.Test.YtiochjagolijfaaJTcp
import Derived.Deep.RegionLaw
namespace Go.Proofs.Ytiochjagolijfaa
open Go.RowKit

def CpM (t : TermD) : Prop := ∀ (u : Value) (lo hi : Nat) (w : World), TopM t → KM true w lo hi u t.kids → hi ≤ w.heap.size → sizeM t ≤ 2097152 →
  Calls Try.prog 91 #[tmV t u] w fun e w' => ∃ x, e = .returned (tmV t x) ∧ KM true w' w.heap.size w'.heap.size x t.kids ∧ Below w.heap.size w w'
set_option maxRecDepth 100000 in
set_option maxHeartbeats 4000000 in
theorem copyM_of (t : TermD) (ih : ∀ i (h : i < t.kids.length), CpM t.kids[i]) : CpM t := by
  intro u lo hi w ht hk hh hn
  obtain ⟨i0, hi0, hz0, hz1, hz2⟩ := info_parts Try.infoTermR
  have hbe := sizeM_eq t
  have hlen := length_sizeMs t.kids
  have h0 : t.kids.length ≤ 2097152 := by omega
  have HN : Hid (∀ i (h : i < t.kids.length), sizeM t.kids[i] ≤ 2097152) := Lib.hid fun i h => by have := sizeMs_get t.kids i h; omega
  have HT := Lib.hid ht
  have HI := Lib.hid ih
  obtain ⟨A, c, U, rfl, hlc, hcm, hs, hcell, hsub⟩ := hk.parts
  have HS := Lib.hid hs
  have HC := Lib.hid hcell
  have HSUB := Lib.hid hsub
  unfold maxLen at hcm
  have I0 : CtI w t (.slice A t.kids.length c) (.slice none 0 0) [] (((w.alloc (.cells #[.int .i64 t.kind, .int .i64 t.num, .slice A t.kids.length c] 47)).alloc (.cells #[.int .i64 0, .int .i64 0, .slice none 0 0] 47)).alloc (.cells #[.int .i64 t.kind, .int .i64 t.num, .slice none 0 0] 47)) := by
    have r1 := Row.made (w.alloc (.cells #[.int .i64 t.kind, .int .i64 t.num, .slice A t.kids.length c] 47)) 47 #[.int .i64 0, .int .i64 0, .slice none 0 0]
    have r2 := Row.made ((w.alloc (.cells #[.int .i64 t.kind, .int .i64 t.num, .slice A t.kids.length c] 47)).alloc (.cells #[.int .i64 0, .int .i64 0, .slice none 0 0] 47)) 47 #[.int .i64 t.kind, .int .i64 t.num, .slice none 0 0]
    refine ⟨((Row.made w 47 _).alloc _).alloc _, ?_, ?_, ⟨World.ownsRow_nil _ _ _ _, by simp, by simp⟩, al3 w _ _ _⟩
    · have := r1.alloc (.cells #[.int .i64 t.kind, .int .i64 t.num, .slice none 0 0] 47); simpa using this
    · simpa using r2
  have HI0 := Lib.hid I0
  clear ht hk ih hs hcell hsub I0 hbe hlen hn
  unfold tmV
  go_enter Try.func91, Try.ntmps91
  go_wp2
  generalize ((w.alloc (.cells #[.int .i64 t.kind, .int .i64 t.num, .slice A t.kids.length c] 47)).alloc (.cells #[.int .i64 0, .int .i64 0, .slice none 0 0] 47)).alloc (.cells #[.int .i64 t.kind, .int .i64 t.num, .slice none 0 0] 47) = w0 at HI0 ⊢
  go_loopw [4] (fun i wv => ∃ (k : Nat) (ys : List Gt) (kv : Value), k ≤ t.kids.length ∧ i = .int .i64 (k : Int) ∧ ys.map (·.t) = t.kids.take k ∧ CtI w t (.slice A t.kids.length c) kv ys wv) (fun i _ => t.kids.length - (intOf i).toNat)
  case atStart => exact ⟨0, [], _, by omega, rfl, rfl, HI0.out⟩
  case round =>
    rename World => wv
    obtain ⟨k, ys, kv, hk, rfl, hys, hI⟩ := hrel
    have hyl : ys.length = k := by have := congrArg List.length hys; rw [List.length_map, List.length_take] at this; omega
    have hkv : ∃ B d, kv = .slice B k d := by
      rcases hI.kids.row.2 with ⟨rfl, h9⟩ | ⟨g, cap, cur, rfl, _⟩
      · exact ⟨none, 0, by rw [← hyl, h9]⟩
      · exact ⟨_, _, by rw [hyl]⟩
    obtain ⟨Ak, dk, rfl⟩ := hkv
    have HP := Lib.hid hI
    have HX := Lib.hid hys
    have HYL := Lib.hid hyl
    have a0 := hI.arg.cell 0
    have a1 := hI.arg.cell 1
    have a2 := hI.arg.cell 2
    have o0 := hI.out.cell 0
    have o1 := hI.out.cell 1
    have o2 := hI.out.cell 2
    have of2 := hI.out.free 2
    simp at a0 a1 a2 o0 o1 o2
    have lo2 := hI.out.lt
    have la : w.heap.size < wv.heap.size := hI.arg.lt
    clear hI hys hyl
    by_cases hlt : k < t.kids.length
    · obtain ⟨b, off, rfl, hbl, hbh, -, hcc⟩ := HC.out (by omega)
      obtain ⟨hc0, hc1, hc2⟩ := hcc k hlt
      have hbw := HP.out.bel
      have k0 := (hbw.cell (p := ⟨b, off + k * 3, none⟩) (by show b < _; omega)).trans hc0
      have k1 := (hbw.cell (p := ⟨b, off + k * 3 + 1, none⟩) (by show b < _; omega)).trans hc1
      have k2 := (hbw.cell (p := ⟨b, off + k * 3 + 2, none⟩) (by show b < _; omega)).trans hc2
      have hbv : b < wv.heap.size := by have := hbw.size; omega
      have hUk := HSUB.out k hlt
      obtain ⟨A2, c2, U2, e2, -⟩ := hUk.parts
      rw [e2] at k2 hUk
      have HTK : Hid (TopM t.kids[k]) := Lib.hid (HS.out k hlt)
      have HCALL := Lib.hid (HI.out k hlt (.slice A2 t.kids[k].kids.length c2) lo hi wv.drew HTK.out ((hUk.under hbw (by omega)).drewN 1) (by show hi ≤ wv.heap.size; have := hbw.size; omega) (HN.out k hlt))
      have n1 : (k : Int) < (t.kids.length : Int) := by omega
      have lad : w.heap.size < wv.drew.heap.size := la
      have lod : w.heap.size + 2 < wv.drew.heap.size := lo2
      have lbd : b < wv.drew.heap.size := hbv
      have a2d : wv.drew.cell? ⟨w.heap.size, 2, none⟩ = some (.slice (some ⟨b, off, none⟩) t.kids.length c) := a2
      have o2d : wv.drew.cell? ⟨w.heap.size + 2, 2, none⟩ = some (.slice Ak k dk) := o2
      have k0d : wv.drew.cell? ⟨b, off + k * 3, none⟩ = some (.int .i64 t.kids[k].kind) := k0
      have k1d : wv.drew.cell? ⟨b, off + k * 3 + 1, none⟩ = some (.int .i64 t.kids[k].num) := k1
      have k2d : wv.drew.cell? ⟨b, off + k * 3 + 2, none⟩ = some (.slice A2 t.kids[k].kids.length c2) := k2
      have HOW : Hid (∀ w7 : World, Below wv.heap.size wv w7 → w7.ownsRow (w.heap.size + 3) 47 3 (.slice Ak k dk) k (flatG ys) ∧ Row w7 (w.heap.size + 2) 47 #[.int .i64 t.kind, .int .i64 t.num, .slice Ak k dk]) := Lib.hid fun w7 b7 => ⟨own_keep (by have := HP.out.kids.row; rw [HYL.out] at this; exact this) fun q hq => b7.block q (HP.out.kids.row.lt q hq).2, HP.out.out.below b7 lo2⟩
      clear hcc hc0 hc1 hc2 hbw hUk e2
      unfold tmV at HCALL
      go_wp2
      go_region_law (first
        | (refine step_append_lies _ (by rfl) _ _ _ (by rfl) (w.heap.size + 3) 47 i0 _ 3 40 Try.underlying45 hi0 hz0 hz1 hz2 rfl (by omega) (.slice Ak k dk) k (flatG ys) (by rfl) (World.ownsRow.alloc (HOW.out w7 b7).1 _) ⟨w7.heap.size, 0, none⟩ 1 1 [.int .i64 t.kids[k].kind, .int .i64 t.kids[k].num, .slice Ax t.kids[k].kids.length dx] (by rfl) (by rfl) (term_news _ _ _ _) (term_one _ _ _ _ _) (by omega) (by unfold maxLen; omega) (by omega) (by simp; omega) (w7.heap.size + 1) (by simp) ?_; intro gg capg w6 hown6 hg6 hat6 hlt6; have R9 : Row w6 (w.heap.size + 2) 47 #[.int .i64 t.kind, .int .i64 t.num, .slice Ak k dk] := ((HOW.out w7 b7).2.alloc (.cells #[.int .i64 t.kids[k].kind, .int .i64 t.kids[k].num, .slice Ax t.kids[k].kids.length dx] 47)).same (hg6.block _ (by simp; omega) (fun e => by have := ((HOW.out w7 b7).1.lt _ e.symm).1; omega)); have c6 := R9.cell 2; have f6 := R9.free 2; simp at c6)
        | (go_simp; go_at_call 91; refine HCALL.out.mono ?_; rintro e w7 ⟨x7, rfl, hK7, hb7⟩; have b7 : Below wv.heap.size wv w7 := ⟨hb7.os, hb7.tape, hb7.output, hb7.size, hb7.block⟩; have HK7 := Lib.hid hK7; obtain ⟨Ax, dx, Ux7, rfl, -⟩ := hK7.parts; have o7 := (HOW.out w7 b7).2.cell 2; have l7 := (HOW.out w7 b7).2.lt; simp at o7; have zw7 : wv.heap.size ≤ w7.heap.size := b7.size; clear hK7; (try unfold tmV)))
      all_goals
        have HP9 := Lib.hid (HP.out.push HYL.out b7 HTK.out HK7.out hown6 ⟨hg6.os, hg6.tape, hg6.output, hg6.size, hg6.block⟩ hat6)
        have HX9 : Hid ((ys ++ [(⟨t.kids[k], .slice Ax t.kids[k].kids.length dx, wv.heap.size, w7.heap.size⟩ : Gt)]).map (·.t) = t.kids.take (k + 1)) := Lib.hid (by rw [List.map_append, HX.out, List.take_succ_eq_append_getElem hlt]; rfl)
        clear hown6 hg6 hat6 hlt6 R9 c6 f6 b7 hb7
        go_wp2
        go_roundw
        case rel => exact ⟨k + 1, _, _, by omega, by go_num, HX9.out, HP9.out⟩
        case measure => simp [intOf]; omega
    · have hkl : k = t.kids.length := by omega
      subst hkl
      have r0 := HP.out.res.cell 0
      have r1 := HP.out.res.cell 1
      have r2 := HP.out.res.cell 2
      have rf0 := HP.out.res.free 0
      have rf1 := HP.out.res.free 1
      have rf2 := HP.out.res.free 2
      simp at r0 r1 r2
      have hkm := HP.out.kids.km
      rw [HX.out, List.take_length] at hkm
      have FIN : Hid (KM true (((wv.setCell ⟨w.heap.size + 1, 0, none⟩ (.int .i64 t.kind)).setCell ⟨w.heap.size + 1, 1, none⟩ (.int .i64 t.num)).setCell ⟨w.heap.size + 1, 2, none⟩ (.slice Ak t.kids.length dk)) w.heap.size (((wv.setCell ⟨w.heap.size + 1, 0, none⟩ (.int .i64 t.kind)).setCell ⟨w.heap.size + 1, 1, none⟩ (.int .i64 t.num)).setCell ⟨w.heap.size + 1, 2, none⟩ (.slice Ak t.kids.length dk)).heap.size (.slice Ak t.kids.length dk) t.kids ∧ Below w.heap.size w (((wv.setCell ⟨w.heap.size + 1, 0, none⟩ (.int .i64 t.kind)).setCell ⟨w.heap.size + 1, 1, none⟩ (.int .i64 t.num)).setCell ⟨w.heap.size + 1, 2, none⟩ (.slice Ak t.kids.length dk))) := Lib.hid
        ⟨(hkm.keep fun p p1 _ => by
          rw [Below.heap_setCell _ _ _ _ (by show p ≠ w.heap.size + 1; omega), Below.heap_setCell _ _ _ _ (by show p ≠ w.heap.size + 1; omega), Below.heap_setCell _ _ _ _ (by show p ≠ w.heap.size + 1; omega)]).more (by omega) (by simp [World.setCell]),
          ((HP.out.bel.setCell (p := ⟨w.heap.size + 1, 0, none⟩) (Nat.le_succ _) _).setCell (p := ⟨w.heap.size + 1, 1, none⟩) (Nat.le_succ _) _).setCell (p := ⟨w.heap.size + 1, 2, none⟩) (Nat.le_succ _) _⟩
      have d0 := (((HP.out.res.put 0 (.int .i64 t.kind)).put 1 (.int .i64 t.num)).put 2 (.slice Ak t.kids.length dk)).cell 0
      have d1 := (((HP.out.res.put 0 (.int .i64 t.kind)).put 1 (.int .i64 t.num)).put 2 (.slice Ak t.kids.length dk)).cell 1
      have d2 := (((HP.out.res.put 0 (.int .i64 t.kind)).put 1 (.int .i64 t.num)).put 2 (.slice Ak t.kids.length dk)).cell 2
      simp at d0 d1 d2
      clear hkm
      go_wp2
      exact bodyPost_ret (v := .agg #[.int .i64 t.kind, .int .i64 t.num, .slice Ak t.kids.length dk]) (by simp [results, Try.results91, go_sem, d0, d1, d2]) rfl ⟨_, rfl, FIN.out.1, FIN.out.2⟩
theorem copyM_any (t : TermD) : CpM t := by
  have key : ∀ ts : List TermD, ∀ t : TermD, t.kids = ts → CpM t := terms_ind (p := fun ts => ∀ t : TermD, t.kids = ts → CpM t) fun ts ih t ht => copyM_of t fun i hi => by
    subst ht
    exact ih i hi _ rfl
  exact key _ t rfl
end Go.Proofs.Ytiochjagolijfaa
