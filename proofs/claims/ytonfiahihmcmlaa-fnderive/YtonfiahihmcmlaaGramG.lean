/- The draw of a grammar that is right, as a rule: l02Gram. -/
import Derived.Test.YtonfiahihmcmlaaJGramGi
import Derived.Test.YtonfiahihmcmlaaGramOf
import Derived.Deep.RegionHeld3
import Derived.Deep.RegionLaw
import Derived.Deep.AppendLies
namespace Go.Proofs.Ytonfiahihmcmlaa.Dr
open Go.RowKit
open Go.Proofs.Ytonfiahihmcmlaa

set_option maxRecDepth 100000 in
set_option maxHeartbeats 4000000 in
theorem gramG_any (w : World) (p B : Nat) (hs : Src w p B) :
    Calls Try.prog 69 #[.pointer (some ⟨p, 0, none⟩)] w (DrawR w p B) := by
  obtain ⟨i0, hi0, hz0, hz1, hz2⟩ := info_parts Try.infoRule
  obtain ⟨j0, hj0, hy0, hy1, hy2⟩ := info_parts Try.infoStr
  have hp := hs.lt
  have hB := hs.1
  have hs0 : Src (w.alloc (.cells #[.slice none 0 0] 25)) p B := hs.own (World.grownBy_alloc w _ none) hp (fun _ e => by cases e)
  have hg0 : w.grownBy (w.alloc (.cells #[.slice none 0 0] 25)) (some p) := grw_alloc (grw_refl p w) _
  have R0 := Row.made w 25 #[.slice none 0 0]
  go_enter Try.func69, Try.ntmps69
  go_wp2_with fail
  refine (gramOf_any _ p B hs0).mono ?_
  rintro e w1 ⟨v, xs, rfl, hf, hl1, hl2, hsh, hbare, hs1, hg1⟩
  have hf' : Full w1 (w.heap.size + 1) v xs := by simpa using hf
  have r1 : Row w1 w.heap.size 25 #[.slice none 0 0] := R0.same (hg1.block _ (by simp) (fun e => by injection e; omega))
  have z1 : w.heap.size < w1.heap.size := r1.lt
  have GM := Lib.hid (show Gm w p B w1.heap.size v xs (w1.alloc (.cells #[v] 25)) from ⟨hs1.own (World.grownBy_alloc w1 _ none) (w := w) hp (fun _ e => by cases e), grw_alloc (grw_trans hg0 hg1) _, r1.alloc _, Row.made w1 _ _, z1, hf'.below (al1 w1 _)⟩)
  have HSH := Lib.hid hsh
  have HBA := Lib.hid hbare
  obtain ⟨gv, cv, rfl, -⟩ := hf'.1.form hl1
  clear hf hf' r1 R0 hs0 hg0 hs1 hg1 hsh hbare
  go_wp2_with fail
  refine (n_any _ p B 15 GM.out.src (by omega)).mono ?_
  rintro e w3 ⟨r, rfl, _, hr1, hs3, ho3⟩
  obtain ⟨hra, hrb⟩ := hr1 (by omega)
  obtain ⟨m, rfl⟩ := Int.eq_ofNat_of_zero_le hra
  have GM3 := Lib.hid (GM.out.only ho3 hs3 hp)
  have z3 := GM3.out.gram.lt
  have z30 : w.heap.size < w3.heap.size := by omega
  clear hr1 ho3 hs3 GM
  have cG := GM3.out.gram.cell 0
  have fG := GM3.out.gram.free 0
  have cB := GM3.out.box.cell 0
  have fB := GM3.out.box.free 0
  simp at cG cB
  by_cases m0 : m = 0
  · subst m0
    have PKL : ∀ o, Hid (Gm w p B w1.heap.size (.slice (some ⟨gv, 0, none⟩) xs.length cv) xs (w3.alloc o).drew) := fun o => Lib.hid (Gm.heap (GM3.out.alloc o hp) rfl rfl rfl rfl)
    go_wp2
    go_region_law (first
      | (refine step_append_lies _ (by rfl) _ _ _ (by rfl) (w.heap.size + 1) 49 i0 _ 2 40 Try.underlying23 hi0 hz0 hz1 hz2 rfl (by omega) (.slice (some ⟨gv, 0, none⟩) xs.length cv) xs.length (flatX xs) (by rfl) ((HP7.out.alloc _ hp).full.1) ⟨w7.heap.size, 0, none⟩ 1 1 [.string t, .slice none 0 0] (by rfl) (by rfl) (World.news_of_block (cs := #[.string t, .slice none 0 0]) (t := 49) (fr := (0, 0)) (heap_alloc_new w7 _)) (two_one _ _ _ _) (by omega) (by unfold maxLen; omega) (by omega) (by simp <;> omega) (w7.heap.size + 1) (by simp) ?_; intro gg cap w8 hown8 hg8 hat8 hlt8; have r8 := (HP7.out.alloc _ hp).grown hg8; have c8 := r8.cell 0; have f8 := r8.free 0; simp at c8)
      | (go_simp; go_at_call 76; refine (pick_any _ p B w3.heap.size [⟨#[]⟩, ⟨#[97]⟩, ⟨#[65, 66, 67, 68, 69]⟩, ⟨#[90]⟩] 4 rfl (by omega) (by omega) (PKL _).out.src (Row.heap (Row.made w3 _ _) rfl) (by omega)).mono ?_; rintro e w7 ⟨t, ht, rfl, hs7, ho7⟩; have HP7 := Lib.hid ((PKL _).out.only ho7 hs7 hp); have ht7 := size_all (M := 10) (by decide +kernel) ht; have c7 := HP7.out.gram.cell 0; have l7 := HP7.out.gram.lt; simp at c7))
    all_goals
      have GM9 := Lib.hid ((HP7.out.alloc _ hp).push hg8 hown8 ht7 hp)
      clear hg8 hown8 r8 c8 f8 c7 PKL hs7 ho7 ht
      have cG9 := GM9.out.gram.cell 0
      have cB9 := GM9.out.box.cell 0
      have fB9 := GM9.out.box.free 0
      simp at cG9 cB9
      have FIN := Lib.hid (GM9.out.fin hp)
      go_wp2
      exact bodyPost_ret (v := .agg #[.slice (some ⟨gg, 0, none⟩) (xs.length + 1) cap]) (by simp [results, Try.results69, go_sem, cB9]) rfl FIN.out
  by_cases m1 : m = 1
  · subst m1
    obtain ⟨x, ys, rfl⟩ : ∃ x ys, xs = x :: ys := by
      cases xs with
      | nil => simp at hl1
      | cons x ys => exact ⟨x, ys, rfl⟩
    have hxb := HBA.out x rfl
    obtain ⟨d3, e3, st3, hgv⟩ := GM3.out.first hxb
    have HXB := Lib.hid hxb
    have hbl := HSH.out x (by simp)
    obtain ⟨A0, c0, hx2, -, -, hmz, -⟩ := (GM3.out.full.2.1 x (by simp)).1
    have HMZ := Lib.hid hmz
    have HX2 := Lib.hid hx2
    rw [hx2] at d3
    have PKL : ∀ o, Hid (Gm w p B w1.heap.size (.slice (some ⟨gv, 0, none⟩) (ys.length + 1) cv) (x :: ys) (w3.alloc o).drew) := fun o => Lib.hid (Gm.heap (GM3.out.alloc o hp) rfl rfl rfl rfl)
    have i1 : (0 : Int) < ((ys.length + 1 : Nat) : Int) := by omega
    clear hxb hmz hx2 st3
    simp only [List.length_cons] at cG
    go_wp2
    go_region_law (first
      | (refine step_append_lies _ (by rfl) _ _ _ (by rfl) (w.heap.size + 1) 9 j0 _ 1 16 Try.underlying34 hj0 hy0 hy1 hy2 rfl (by omega) (.slice A0 x.1.body.length c0) x.1.body.length (x.1.body.map Value.string) (by rfl) HS7.out ⟨w7.heap.size, 0, none⟩ 1 1 [.string t] (by rfl) (by rfl) (World.news_of_block (cs := #[.string t]) (t := 9) (fr := (0, 0)) (heap_alloc_new w7 _)) (one_str _) (by omega) (by unfold maxLen; omega) (by omega) (by simp <;> omega) (w7.heap.size + 1) (by simp) ?_; intro gg cap w8 hown8 hg8 hat8 hlt8; obtain ⟨gr8, d8, f8, c8⟩ := (HP7.out.alloc _ hp).symbol HXB.out (by rw [HX2.out]; exact hg8) hown8 HMZ.out ht7 hp; rw [HX2.out] at d8)
      | (go_simp; go_at_call 76; refine (pick_any _ p B w3.heap.size [⟨#[65, 49]⟩, ⟨#[]⟩, ⟨#[122, 122, 122, 122, 122]⟩, ⟨#[81]⟩] 4 rfl (by omega) (by omega) (PKL _).out.src (Row.heap (Row.made w3 _ _) rfl) (by omega)).mono ?_; rintro e w7 ⟨t, ht, rfl, hs7, ho7⟩; have HP7 := Lib.hid ((PKL _).out.only ho7 hs7 hp); have ht7 := size_all (M := 10) (by decide +kernel) ht; obtain ⟨d7, e7, -, l70⟩ := HP7.out.first HXB.out; rw [HX2.out] at d7; have HS7 := Lib.hid ((HP7.out.alloc (.cells #[.string t] 9) hp).first HXB.out).2.2.1; rw [HX2.out] at HS7; have c7 := HP7.out.gram.cell 0; have l7 := HP7.out.gram.lt; simp at c7))
    all_goals
      have GR9 := Lib.hid gr8
      clear gr8 c8 d8 f8 c7 d7 PKL hs7 ho7 ht
      have cG9 := GR9.out.gram.cell 0
      have cB9 := GR9.out.box.cell 0
      have fB9 := GR9.out.box.free 0
      simp at cG9 cB9
      have FIN := Lib.hid (GR9.out.fin hp)
      go_wp2
      exact bodyPost_ret (v := .agg #[.slice (some ⟨gv, 0, none⟩) (ys.length + 1) cv]) (by simp [results, Try.results69, go_sem, cB9]) rfl FIN.out
  have d0 : ((m : Int) == 0) = false := by simp; omega
  have d1 : ((m : Int) == 1) = false := by simp; omega
  by_cases m2 : m = 2
  · subst m2
    go_wp2
    go_loopw [] (fun wr => ∃ (v : Value) (xs : List (RuleD × Value × Nat)), xs.length ≤ 21 ∧ Gm w p B w1.heap.size v xs wr) (fun wr => match wr.cell? ⟨w1.heap.size, 0, none⟩ with | some (.slice _ n _) => 22 - n | _ => 0)
    case atStart => exact ⟨_, xs, by omega, GM3.out⟩
    case round =>
      clear cG fG cB fB GM3 HSH HBA
      obtain ⟨v, xs, hl, gm⟩ := hrel
      have HGM := Lib.hid gm
      obtain ⟨Av, cv, rfl, -⟩ := gm.full.done
      rw [List.length_map] at *
      have cG := gm.gram.cell 0
      simp at cG
      have GMD := Lib.hid (Gm.heap (wr' := wr.drew) HGM.out rfl rfl rfl rfl)
      have z4 := gm.gram.lt
      clear gm
      go_wp2
      go_region_held3 (fun w' => w'.cell? ⟨w1.heap.size, 0, none⟩ = some (.slice Av xs.length cv))
        (first | go_keep | exact c4)
        ((go_at_call 74; refine (n_any _ p B 2 GMD.out.src (by omega)).mono ?_; rintro e w4 ⟨r, rfl, _, hr1, hs4, ho4⟩; obtain ⟨hra4, hrb4⟩ := hr1 (by omega); have GM4 := Lib.hid (GMD.out.only ho4 hs4 hp); have c4 := GM4.out.gram.cell 0; simp at c4))
      have z44 := GM4.out.gram.lt
      have cB := GM4.out.box.cell 0
      have fB := GM4.out.box.free 0
      simp at cB
      have hw : IntKind.i64.wrap (20 + r) = 20 + r := by rcases (show r = 0 ∨ r = 1 by omega) with rfl | rfl <;> rfl
      by_cases hlt : (xs.length : Int) < 20 + r
      · have dl : decide ((xs.length : Int) < 20 + r) = true := decide_eq_true hlt
        have HNW := Lib.hid (World.news_of_block (w := w4.alloc (.cells #[.string ⟨#[83]⟩, .slice none 0 0] 49)) (B := w4.heap.size) (cs := #[.string ⟨#[83]⟩, .slice none 0 0]) (t := 49) (fr := (0, 0)) (heap_alloc_new w4 _))
        go_wp2_with (at_builtin; refine wpList_append_own _ rfl _ _ 23 rfl (w.heap.size + 1) 49 i0 _ 2 40 Try.underlying23 hi0 hz0 hz1 hz2 rfl (by decide) (.slice Av xs.length cv) xs.length (flatX xs) rfl (World.ownsRow.alloc GM4.out.full.1 _) ⟨w4.heap.size, 0, none⟩ 1 1 [.string ⟨#[83]⟩, .slice none 0 0] rfl rfl HNW.out (two_one _ _ _ _) (by unfold maxLen; omega) (by omega) (by simp; omega) ?_)
        intro v' w8 hown8 hg8 _
        obtain ⟨gw, cw, rfl, -⟩ := hown8.form (by omega)
        have g8 := (GM4.out.alloc _ hp).grown hg8
        have c8 := g8.cell 0
        have f8 := g8.free 0
        simp at c8
        have GM9 := Lib.hid ((GM4.out.alloc _ hp).push hg8 hown8 (by decide) hp)
        have HC9 := Lib.hid ((GM9.out.gram.cell 0).trans rfl)
        have HCG := Lib.hid cG
        clear hg8 hown8 g8 HNW
        go_wp2
        go_roundw
        case rel => exact ⟨_, _, by simp; omega, GM9.out⟩
        case measure => rw [HC9.out, HCG.out]; simp; omega
      · have dl : decide ((xs.length : Int) < 20 + r) = false := decide_eq_false hlt
        have FIN := Lib.hid (GM4.out.fin hp)
        go_wp2
        exact bodyPost_ret (v := .agg #[.slice Av xs.length cv]) (by simp [results, Try.results69, go_sem, cB]) rfl FIN.out
  · have d2 : ((m : Int) == 2) = false := by simp; omega
    have FIN := Lib.hid (GM3.out.fin hp)
    go_wp2
    exact bodyPost_ret (v := .agg #[.slice (some ⟨gv, 0, none⟩) xs.length cv]) (by simp [results, Try.results69, go_sem, cB]) rfl FIN.out
end Go.Proofs.Ytonfiahihmcmlaa.Dr
