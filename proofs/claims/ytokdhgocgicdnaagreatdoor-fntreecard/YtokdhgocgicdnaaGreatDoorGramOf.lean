/- The draw of a right grammar: l02GramOf. -/
import Derived.Test.YtokdhgocgicdnaaGreatDoorGramIn
import Derived.Deep.RegionHeld3
import Derived.Deep.AppendLies
namespace Go.Proofs.YtokdhgocgicdnaaGreatDoor.Dr
open Go.RowKit
open Go.Proofs.YtokdhgocgicdnaaGreatDoor

theorem made2 (w : World) (A : Obj) (cur : Array Value) (t : TypeId) : ((w.alloc A).alloc (.cells cur t)).heap[w.heap.size + 1]? = some (.cells cur t (0, 0)) := by
  have := heap_alloc_new (w.alloc A) (.cells cur t)
  simpa using this
set_option maxRecDepth 100000 in
set_option maxHeartbeats 4000000 in
theorem gramOf_any (w : World) (p B : Nat) (hs : Src w p B) :
    Calls Tryz.prog 45 #[.pointer (some ⟨p, 0, none⟩)] w (DrawG w p B) := by
  obtain ⟨i0, hi0, hz0, hz1, hz2⟩ := info_parts Tryz.infoRule
  obtain ⟨j0, hj0, hy0, hy1, hy2⟩ := info_parts Tryz.infoStr
  have hp := hs.lt
  have hB := hs.1
  have hs0 : Src (w.alloc (.cells #[.slice none 0 0] 25)) p B := hs.own (World.grownBy_alloc w _ none) hp (fun _ e => by cases e)
  have hg0 : w.grownBy (w.alloc (.cells #[.slice none 0 0] 25)) (some p) := grw_alloc (grw_refl p w) _
  have R0 := Row.made w 25 #[.slice none 0 0]
  go_enter Tryz.func45, Tryz.ntmps45
  go_wp2_with fail
  refine (one_any _ p B 3 hs0 (by omega)).mono ?_
  rintro e w1 ⟨b1, rfl, hs1, ho1⟩
  have hg1 := grw_trans hg0 ho1.grown
  have R1 := row_only R0 ho1 (by omega)
  have Z1 : Hid (w1.heap.size = w.heap.size + 1) := Lib.hid (by have := ho1.size; simpa using this)
  have z1 : w.heap.size < w1.heap.size := by have := Z1.out; omega
  clear hs0 hg0 R0 ho1
  cases b1 with
  | true =>
    have HR1 := Lib.hid R1
    have HG1 := Lib.hid hg1
    have hp1 : p < w1.heap.size := by omega
    go_wp2_with fail
    refine (pick_any _ _ _ w1.heap.size eight 8 rfl (by omega) (by omega) (hs1.own (World.grownBy_alloc w1 _ none) hp1 (fun _ e => by cases e)) (Row.made w1 _ _) (by omega)).mono ?_
    rintro e w2 ⟨t, ht, rfl, hs2, ho2⟩
    have hft := fit_of (List.all_eq_true.1 eight_fit t ht)
    have hts : t.size ≤ maxLen := by have := size_all (M := 1000) (by decide +kernel) ht; unfold maxLen; omega
    have HF := Lib.hid hft
    have z2 : w1.heap.size < w2.heap.size := by have := ho2.size; simp at this; omega
    have HR2 := Lib.hid (row_only (HR1.out.alloc _) ho2 (by omega))
    have HG2 := Lib.hid (grw_trans (grw_alloc HG1.out _) ho2.grown)
    have HS2 := Lib.hid hs2
    clear ht hft ho2 hs2
    go_wp2_with fail
    refine (specGramRead_grow t _ hts).mono ?_
    rintro e w3 ⟨v, xs, rfl, hx, hf, hb3⟩
    have z3 := hb3.size
    have r3 := HR2.out.below hb3 (by omega)
    have c3 := r3.cell 0
    have f3 := r3.free 0
    simp at c3
    have HFu := Lib.hid hf
    have HX := Lib.hid hx
    have HB3 := Lib.hid hb3
    obtain ⟨Av, cv, rfl, -⟩ := hf.done
    have hfd := field_gram (.slice Av (xs.map (·.1)).length cv) (.int .i64 (readOut t).2)
    rw [List.length_map] at hfd
    have FIN : Hid (DrawG w p B (.returned (.agg #[.slice Av xs.length cv])) (w3.setCell ⟨w.heap.size, 0, none⟩ (.slice Av xs.length cv))) := Lib.hid (by
      have hf := HFu.out
      rw [List.length_map] at hf
      have hx := HX.out
      have hF := HF.out
      rw [← hx] at hF
      rw [List.length_map] at hF
      have hb := HB3.out
      have g3 : w.grownBy w3 (some p) := grw_trans HG2.out ⟨hb.os, hb.tape, hb.output, hb.size, fun k hk _ => hb.block k hk⟩
      have s3 : Src w3 p B := HS2.out.only fun k hk => hb.block k (by have := HS2.out.lt; omega)
      refine ⟨_, xs, rfl, (hf.put (p := ⟨w.heap.size, 0, none⟩) (by show w.heap.size < w2.heap.size; omega) _).lower (by omega), hF.1, hF.2.1, fun x hx => hF.2.2.1 x.1 (List.mem_map_of_mem hx), fun x hx he => absurd he (hF.2.2.2 x.1 (by rw [List.head?_map, hx]; rfl)), s3.only fun k hk => Below.heap_setCell _ _ _ _ (by show k ≠ w.heap.size; omega), grw_set g3 (Nat.le_refl _) _⟩)
    clear hf hx hb3 r3
    go_wp2
    exact bodyPost_ret (v := .agg #[.slice Av xs.length cv]) (by simp [results, Tryz.results45, go_sem, c3]) rfl FIN.out
  | false =>
    have Fr0 : Fr w.heap.size w p B (.slice none 0 0) ((w1.alloc (.cells #[.slice none 0 0] 25)).alloc (.cells headsA 9)) := by
      have e1 := Z1.out
      have r2 : Row (w1.alloc (.cells #[.slice none 0 0] 25)) (w.heap.size + 1) 25 #[.slice none 0 0] := by rw [← e1]; exact Row.made w1 _ _
      have r3 : Row ((w1.alloc (.cells #[.slice none 0 0] 25)).alloc (.cells headsA 9)) (w.heap.size + 2) 9 headsA := by
        have := Row.made (w1.alloc (.cells #[.slice none 0 0] 25)) 9 headsA
        simp [e1] at this
        exact this
      have s2 : Src (w1.alloc (.cells #[.slice none 0 0] 25)) p B := hs1.own (World.grownBy_alloc w1 _ none) (w := w1) (by omega) (fun _ e => by cases e)
      exact ⟨s2.own (World.grownBy_alloc _ _ none) (w := w1) (by omega) (fun _ e => by cases e), grw_alloc (grw_alloc hg1 _) _, (R1.alloc _).alloc _, r2.alloc _, r3⟩
    have HFr0 := Lib.hid Fr0
    have hs3 := Fr0.src
    unfold headsA at hs3
    clear Fr0
    go_wp2_with fail
    refine (n_any _ p B 6 hs3 (by omega)).mono ?_
    rintro e w4 ⟨r, rfl, _, hr1, hs4, ho4⟩
    obtain ⟨hra, hrb⟩ := hr1 (by omega)
    obtain ⟨m, rfl⟩ := Int.eq_ofNat_of_zero_le hra
    have HFr4 := Lib.hid (HFr0.out.only ho4 hs4 hp)
    have HZ : Hid (w1.heap.size = w.heap.size + 1) := Z1
    clear hr1 ho4 hs4 hs3 HFr0 R1 hg1 hs1
    rw [HZ.out]
    go_wp2
    go_loopw [7, 8, 9] (fun i _ _ wr => ∃ (k : Nat) (v : Value) (xs : List (RuleD × Value × Nat)), k ≤ m + 2 ∧ i = .int .i64 (k : Int) ∧ Inv w p B k v xs wr) (fun i _ _ _ => m + 2 - (intOf i).toNat)
    case atStart => exact ⟨0, .slice none 0 0, [], by omega, rfl, HFr4.out, Full.nil _ _, rfl, by simp, by simp⟩
    case round =>
      obtain ⟨k, v, xs, hk, rfl, hin⟩ := hrel
      have HIN := Lib.hid hin
      clear hin HFr4
      have HXL := Lib.hid HIN.out.len
      have hzr := HIN.out.fr.heads.lt
      by_cases hlt : k < m + 2
      · have dlt : decide ((k : Int) < 2 + (m : Int)) = true := decide_eq_true (by omega)
        go_wp2_with fail
        refine (n_any _ p B 3 HIN.out.fr.src (by omega)).mono ?_
        rintro e w5 ⟨r, rfl, _, hr1, hs5, ho5⟩
        obtain ⟨hra5, hrb5⟩ := hr1 (by omega)
        obtain ⟨q, rfl⟩ := Int.eq_ofNat_of_zero_le hra5
        have z5 : w.heap.size + 2 < w5.heap.size := by have := ho5.size; omega
        have I5 := HIN.out.only ho5 hs5 hp
        have hqc : ∃ h : ByteArray, h.size ≤ 10 ∧ w5.cell? ⟨w.heap.size + 2, q, none⟩ = some (.string h) := by
          have hc := I5.fr.heads.cell q
          unfold headsA at hc
          rcases (show q = 0 ∨ q = 1 ∨ q = 2 by omega) with rfl | rfl | rfl
          · exact ⟨_, by decide, hc⟩
          · exact ⟨_, by decide, hc⟩
          · exact ⟨_, by decide, hc⟩
        obtain ⟨h0, hh0, hqc⟩ := hqc
        have HI5 := Lib.hid I5
        have qI : (q : Int) < 3 := by omega
        clear hr1 ho5 hs5 I5
        by_cases hk0 : k = 0
        rotate_left
        · have dk0 : ((k : Int) == 0) = false := by simp; omega
          have PK := Lib.hid (Pk.start HI5.out h0 hh0 hp)
          go_wp2_with fail
          refine (n_any _ p B 4 PK.out.inv.fr.src (by omega)).mono ?_
          rintro e w6 ⟨r, rfl, _, hr1, hs6, ho6⟩
          obtain ⟨hra6, hrb6⟩ := hr1 (by omega)
          obtain ⟨n6, rfl⟩ := Int.eq_ofNat_of_zero_le hra6
          have PK6 := Lib.hid (PK.out.only ho6 hs6 hp)
          clear hr1 ho6 hs6 PK
          go_wp2
          go_loopw [9] (fun i wr => ∃ (j : Nat) (h : ByteArray) (bv : Value) (ss : List ByteArray), j + ss.length ≤ 3 ∧ i = .int .i64 (j : Int) ∧ Pk w p B k v xs w5.heap.size h bv ss wr) (fun i _ => (intOf i).toNat)
          case atStart => exact ⟨n6, _, _, [], by simp; omega, rfl, PK6.out⟩
          case round =>
            obtain ⟨j, h, bv, ss, hj, rfl, pk⟩ := hrel
            have HPK := Lib.hid pk
            have hlr := pk.box.lt
            clear pk PK6
            by_cases hjp : 0 < j
            · have dj : decide ((0 : Int) < (j : Int)) = true := decide_eq_true (by omega)
              have hjm : ((j : Int) - 1) = ((j - 1 : Nat) : Int) := by omega
              have c1 := HPK.out.box.cell 1
              have f1 := HPK.out.box.free 1
              simp at c1
              have PKL : ∀ o, Hid (Pk w p B k v xs w5.heap.size h bv ss (wr.alloc o).drew) := fun o => Lib.hid (Pk.heap (HPK.out.alloc o hp) rfl rfl rfl rfl)
              go_wp2
              go_region_law (first
                  | (refine step_append_lies _ (by rfl) _ _ _ (by rfl) (w5.heap.size + 1) 9 j0 _ 1 16 Tryz.underlying26 hj0 hy0 hy1 hy2 rfl (by omega) bv ss.length (ss.map Value.string) (by rfl) (HP7.out.alloc _ hp).sts ⟨w7.heap.size, 0, none⟩ 1 1 [.string t] (by rfl) (by rfl) (World.news_of_block (cs := #[.string t]) (t := 9) (fr := (0, 0)) (heap_alloc_new w7 _)) (one_str _) (by omega) (by unfold maxLen; omega) (by omega) (by simp; omega) (w7.heap.size + 1) (by simp) ?_; intro gg cap w8 hown8 hg8 hat8 hlt8; have r8 := (HP7.out.alloc _ hp).grown hg8; have c8 := r8.cell 1; have f8 := r8.free 1; simp at c8)
                  | (go_simp; go_at_call 47; refine (pick_any _ p B wr.heap.size [⟨#[97]⟩, ⟨#[98]⟩, ⟨#[99]⟩, ⟨#[97]⟩, ⟨#[98]⟩, ⟨#[83]⟩, ⟨#[65]⟩, ⟨#[66]⟩] 8 rfl (by omega) (by omega) (PKL _).out.inv.fr.src (Row.heap (Row.made wr _ _) rfl) (by omega)).mono ?_; rintro e w7 ⟨t, ht, rfl, hs7, ho7⟩; have HP7 := Lib.hid ((PKL _).out.only ho7 hs7 hp); have ht7 := size_all (M := 10) (by decide +kernel) ht; have c7 := HP7.out.box.cell 1; have f7 := HP7.out.box.free 1; have l7 := HP7.out.box.lt; simp at c7))
              all_goals
                have HP9 := Lib.hid ((HP7.out.alloc _ hp).more hg8 hown8 ht7 (by omega) hp)
                clear hg8 hown8 r8 c8 f8 c7 f7 PKL hs7 ho7 ht
                go_wp2
                go_roundw
                case rel => exact ⟨j - 1, _, _, _, by simp; omega, rfl, HP9.out⟩
                case measure => simp [intOf]; omega
            · have dj : decide ((0 : Int) < (j : Int)) = false := decide_eq_false (by omega)
              obtain ⟨gu, ou, -⟩ := HPK.out.sts.own (fun s hs => by have := HPK.out.small s hs; unfold maxLen; omega)
              obtain ⟨Au, cu, rfl, -⟩ := ou
              have c0 := HPK.out.box.cell 0
              have c1 := HPK.out.box.cell 1
              have cG := HPK.out.inv.fr.gram.cell 0
              simp at c0 c1 cG
              have hxk : xs.length ≤ 20 := by rw [HXL.out]; omega
              have HNW := Lib.hid (World.news_of_block (w := wr.alloc (.cells #[.string h, .slice Au ss.length cu] 45)) (B := wr.heap.size) (cs := #[.string h, .slice Au ss.length cu]) (t := 45) (fr := (0, 0)) (heap_alloc_new wr _))
              go_wp2_with (at_builtin; refine wpList_append_own _ rfl _ _ 23 rfl (w.heap.size + 3) 45 i0 _ 2 40 Tryz.underlying23 hi0 hz0 hz1 hz2 rfl (by decide) v xs.length (flatX xs) rfl (World.ownsRow.alloc HPK.out.inv.full.1 _) ⟨wr.heap.size, 0, none⟩ 1 1 [.string h, .slice Au ss.length cu] rfl rfl HNW.out (two_one _ _ _ _) (by unfold maxLen; omega) (by omega) (by simp; omega) ?_)
              intro v' w8 hown8 hg8 _
              obtain ⟨gv, cv, rfl, -⟩ := hown8.form (by omega)
              have g8 := ((HPK.out.alloc _ hp).inv.fr.own hg8 (fun q e => (HPK.out.inv.full.1.lt q e).1) hp rfl).gram
              have c8 := g8.cell 0
              have f8 := g8.free 0
              simp at c8
              obtain ⟨xs', I9⟩ := HPK.out.push hg8 hown8 hp
              have HI9 := Lib.hid I9
              clear hg8 hown8 g8 I9 HNW
              go_wp2
              go_roundw
              case rel => exact ⟨k + 1, _, _, by omega, by go_num, HI9.out⟩
              case measure => simp [intOf]; omega
        · subst hk0
          have PK := Lib.hid (Pk.start HI5.out ⟨#[83]⟩ (by decide) hp)
          go_wp2_with fail
          refine (n_any _ p B 4 PK.out.inv.fr.src (by omega)).mono ?_
          rintro e w6 ⟨r, rfl, _, hr1, hs6, ho6⟩
          obtain ⟨hra6, hrb6⟩ := hr1 (by omega)
          obtain ⟨n6, rfl⟩ := Int.eq_ofNat_of_zero_le hra6
          have PK6 := Lib.hid (PK.out.only ho6 hs6 hp)
          clear hr1 ho6 hs6 PK
          go_wp2
          go_loopw [9] (fun i wr => ∃ (j : Nat) (h : ByteArray) (bv : Value) (ss : List ByteArray), j + ss.length ≤ 3 ∧ i = .int .i64 (j : Int) ∧ Pk w p B 0 v xs w5.heap.size h bv ss wr) (fun i _ => (intOf i).toNat)
          case atStart => exact ⟨n6, _, _, [], by simp; omega, rfl, PK6.out⟩
          case round =>
            obtain ⟨j, h, bv, ss, hj, rfl, pk⟩ := hrel
            have HPK := Lib.hid pk
            have hlr := pk.box.lt
            clear pk PK6
            by_cases hjp : 0 < j
            · have dj : decide ((0 : Int) < (j : Int)) = true := decide_eq_true (by omega)
              have hjm : ((j : Int) - 1) = ((j - 1 : Nat) : Int) := by omega
              have c1 := HPK.out.box.cell 1
              have f1 := HPK.out.box.free 1
              simp at c1
              have PKL : ∀ o, Hid (Pk w p B 0 v xs w5.heap.size h bv ss (wr.alloc o).drew) := fun o => Lib.hid (Pk.heap (HPK.out.alloc o hp) rfl rfl rfl rfl)
              go_wp2
              go_region_law (first
                  | (refine step_append_lies _ (by rfl) _ _ _ (by rfl) (w5.heap.size + 1) 9 j0 _ 1 16 Tryz.underlying26 hj0 hy0 hy1 hy2 rfl (by omega) bv ss.length (ss.map Value.string) (by rfl) (HP7.out.alloc _ hp).sts ⟨w7.heap.size, 0, none⟩ 1 1 [.string t] (by rfl) (by rfl) (World.news_of_block (cs := #[.string t]) (t := 9) (fr := (0, 0)) (heap_alloc_new w7 _)) (one_str _) (by omega) (by unfold maxLen; omega) (by omega) (by simp; omega) (w7.heap.size + 1) (by simp) ?_; intro gg cap w8 hown8 hg8 hat8 hlt8; have r8 := (HP7.out.alloc _ hp).grown hg8; have c8 := r8.cell 1; have f8 := r8.free 1; simp at c8)
                  | (go_simp; go_at_call 47; refine (pick_any _ p B wr.heap.size [⟨#[97]⟩, ⟨#[98]⟩, ⟨#[99]⟩, ⟨#[97]⟩, ⟨#[98]⟩, ⟨#[83]⟩, ⟨#[65]⟩, ⟨#[66]⟩] 8 rfl (by omega) (by omega) (PKL _).out.inv.fr.src (Row.heap (Row.made wr _ _) rfl) (by omega)).mono ?_; rintro e w7 ⟨t, ht, rfl, hs7, ho7⟩; have HP7 := Lib.hid ((PKL _).out.only ho7 hs7 hp); have ht7 := size_all (M := 10) (by decide +kernel) ht; have c7 := HP7.out.box.cell 1; have f7 := HP7.out.box.free 1; have l7 := HP7.out.box.lt; simp at c7))
              all_goals
                have HP9 := Lib.hid ((HP7.out.alloc _ hp).more hg8 hown8 ht7 (by omega) hp)
                clear hg8 hown8 r8 c8 f8 c7 f7 PKL hs7 ho7 ht
                go_wp2
                go_roundw
                case rel => exact ⟨j - 1, _, _, _, by simp; omega, rfl, HP9.out⟩
                case measure => simp [intOf]; omega
            · have dj : decide ((0 : Int) < (j : Int)) = false := decide_eq_false (by omega)
              obtain ⟨gu, ou, -⟩ := HPK.out.sts.own (fun s hs => by have := HPK.out.small s hs; unfold maxLen; omega)
              obtain ⟨Au, cu, rfl, -⟩ := ou
              have c0 := HPK.out.box.cell 0
              have c1 := HPK.out.box.cell 1
              have cG := HPK.out.inv.fr.gram.cell 0
              simp at c0 c1 cG
              have hxk : xs.length ≤ 20 := by rw [HXL.out]; omega
              have HNW := Lib.hid (World.news_of_block (w := wr.alloc (.cells #[.string h, .slice Au ss.length cu] 45)) (B := wr.heap.size) (cs := #[.string h, .slice Au ss.length cu]) (t := 45) (fr := (0, 0)) (heap_alloc_new wr _))
              go_wp2_with (at_builtin; refine wpList_append_own _ rfl _ _ 23 rfl (w.heap.size + 3) 45 i0 _ 2 40 Tryz.underlying23 hi0 hz0 hz1 hz2 rfl (by decide) v xs.length (flatX xs) rfl (World.ownsRow.alloc HPK.out.inv.full.1 _) ⟨wr.heap.size, 0, none⟩ 1 1 [.string h, .slice Au ss.length cu] rfl rfl HNW.out (two_one _ _ _ _) (by unfold maxLen; omega) (by omega) (by simp; omega) ?_)
              intro v' w8 hown8 hg8 _
              obtain ⟨gv, cv, rfl, -⟩ := hown8.form (by omega)
              have g8 := ((HPK.out.alloc _ hp).inv.fr.own hg8 (fun q e => (HPK.out.inv.full.1.lt q e).1) hp rfl).gram
              have c8 := g8.cell 0
              have f8 := g8.free 0
              simp at c8
              obtain ⟨xs', I9⟩ := HPK.out.push hg8 hown8 hp
              have HI9 := Lib.hid I9
              clear hg8 hown8 g8 I9 HNW
              go_wp2
              go_roundw
              case rel => exact ⟨0 + 1, _, _, by omega, by go_num, HI9.out⟩
              case measure => simp [intOf]
      · have dlt : decide ((k : Int) < 2 + (m : Int)) = false := decide_eq_false (by omega)
        go_wp2_with fail
        refine (one_any _ p B 4 HIN.out.fr.src (by omega)).mono ?_
        rintro e w10 ⟨b10, rfl, hs10, ho10⟩
        have HI10 := Lib.hid (HIN.out.only ho10 hs10 hp)
        clear hs10 ho10 HIN
        cases b10 with
        | true =>
          have cB := HI10.out.fr.box.cell 0
          have fB := HI10.out.fr.box.free 0
          have cG := HI10.out.fr.gram.cell 0
          simp at cB cG
          have FIN := Lib.hid (HI10.out.fin (by omega) (by omega) hp)
          obtain ⟨Av, cv, rfl, -⟩ := HI10.out.full.done
          rw [List.length_map] at *
          go_wp2
          exact bodyPost_ret (v := .agg #[.slice Av xs.length cv]) (by simp [results, Tryz.results45, go_sem, cB]) rfl FIN.out
        | false =>
          go_wp2
          go_loopw [10] (fun i wr => ∃ (j : Nat) (v : Value) (xs : List (RuleD × Value × Nat)), j ≤ 3 ∧ i = .int .i64 (j : Int) ∧ Inv w p B (k + j) v xs wr) (fun i _ => 3 - (intOf i).toNat)
          case atStart => exact ⟨0, v, xs, by omega, rfl, HI10.out⟩
          case round =>
            clear HI10 HXL
            obtain ⟨j, v, xs, hj, rfl, hin⟩ := hrel
            have HIN := Lib.hid hin
            clear hin
            have hzr := HIN.out.fr.heads.lt
            by_cases hj3 : j < 3
            · have dj : decide ((j : Int) < 3) = true := decide_eq_true (by omega)
              have cG := HIN.out.fr.gram.cell 0
              simp at cG
              have hqc : ∃ h : ByteArray, h.size ≤ 10 ∧ headsA[j]? = some (.string h) := by
                unfold headsA
                rcases (show j = 0 ∨ j = 1 ∨ j = 2 by omega) with rfl | rfl | rfl
                · exact ⟨_, by decide, rfl⟩
                · exact ⟨_, by decide, rfl⟩
                · exact ⟨_, by decide, rfl⟩
              obtain ⟨h0, hh0, hqh⟩ := hqc
              have HQH := Lib.hid hqh
              have hqc := (HIN.out.fr.heads.cell j).trans hqh
              have jI0 : (0 : Int) ≤ (j : Int) := by omega
              have jI : (j : Int) < 3 := by omega
              have hxk : xs.length ≤ 20 := by rw [HIN.out.len]; omega
              have PKL : ∀ o, Hid (Inv w p B (k + j) v xs (wr.alloc o).drew) := fun o => Lib.hid (Inv.heap (HIN.out.alloc o hp) rfl rfl rfl rfl)
              have hzz1 : w.heap.size + 1 < wr.heap.size := by omega
              have hzz0 : w.heap.size < wr.heap.size := by omega
              clear hqh
              go_wp2
              go_region_law (first
                  | (refine step_append_lies _ (by rfl) _ _ _ (by rfl) (w.heap.size + 3) 45 i0 _ 2 40 Tryz.underlying23 hi0 hz0 hz1 hz2 rfl (by omega) v xs.length (flatX xs) (by rfl) (((HP7.out.alloc _ hp).alloc _ hp).full.1) ⟨w7.heap.size + 1, 0, none⟩ 1 1 [.string h0, .slice (some ⟨w7.heap.size, 0, none⟩) 1 1] (by rfl) (by rfl) (World.news_of_block (cs := #[.string h0, .slice (some ⟨w7.heap.size, 0, none⟩) 1 1]) (t := 45) (fr := (0, 0)) (made2 w7 _ _ _)) (two_one _ _ _ _) (by omega) (by unfold maxLen; omega) (by omega) (by simp <;> omega) (w7.heap.size + 2) (by simp) ?_; intro gg cap w8 hown8 hg8 hat8 hlt8; have r8 := ((HP7.out.alloc _ hp).alloc _ hp).fr.own hg8 (fun q e => (HP7.out.full.1.lt q e).1) hp rfl; have c8 := r8.gram.cell 0; have f8 := r8.gram.free 0; have d8 := (r8.heads.cell j).trans HQH.out; simp at c8)
                  | (go_simp; go_at_call 47; refine (pick_any _ p B wr.heap.size [⟨#[97]⟩, ⟨#[98]⟩, ⟨#[99]⟩] 3 rfl (by omega) (by omega) (PKL _).out.fr.src (Row.heap (Row.made wr _ _) rfl) (by omega)).mono ?_; rintro e w7 ⟨t, ht, rfl, hs7, ho7⟩; have HP7 := Lib.hid ((PKL _).out.only ho7 hs7 hp); have ht7 := size_all (M := 10) (by decide +kernel) ht; have c7 := HP7.out.fr.gram.cell 0; have d7 := (HP7.out.fr.heads.cell j).trans HQH.out; have l7 := HP7.out.fr.heads.lt; have l71 : w.heap.size + 1 < w7.heap.size := (by omega); have l70 : w.heap.size < w7.heap.size := (by omega); simp at c7))
              all_goals
                obtain ⟨xs', I9⟩ := HP7.out.one hg8 hown8 hh0 ht7 hp
                have HI9 := Lib.hid I9
                clear hg8 hown8 r8 c8 f8 c7 PKL hs7 ho7 ht I9
                go_wp2
                go_roundw
                case rel => exact ⟨j + 1, _, _, by omega, by go_num, HI9.out⟩
                case measure => simp [intOf]; omega
            · have dj : decide ((j : Int) < 3) = false := decide_eq_false (by omega)
              have cB := HIN.out.fr.box.cell 0
              have fB := HIN.out.fr.box.free 0
              have cG := HIN.out.fr.gram.cell 0
              simp at cB cG
              have FIN := Lib.hid (HIN.out.fin (by omega) (by omega) hp)
              obtain ⟨Av, cv, rfl, -⟩ := HIN.out.full.done
              rw [List.length_map] at *
              go_wp2
              exact bodyPost_ret (v := .agg #[.slice Av xs.length cv]) (by simp [results, Tryz.results45, go_sem, cB]) rfl FIN.out
end Go.Proofs.YtokdhgocgicdnaaGreatDoor.Dr
