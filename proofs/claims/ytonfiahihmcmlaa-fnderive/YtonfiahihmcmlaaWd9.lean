/- The draws of a grammar and a text: l04Two, DrawDerives, DrawSpans. -/
import Derived.Test.YtonfiahihmcmlaaWd8
import Derived.Test.YtonfiahihmcmlaaGramG
namespace Go.Proofs.Ytonfiahihmcmlaa.Dr
open Go.RowKit
open Go.Proofs.Ytonfiahihmcmlaa

/-- a grammar and a text that a draw has made -/
def DrawTwo (w : World) (p B : Nat) (e : Ending) (w' : World) : Prop :=
  ∃ v rs tv t, e = .returned (.tuple #[.agg #[v], tv]) ∧ Rules w' w.heap.size w'.heap.size v rs ∧ Strs w' w.heap.size w'.heap.size tv t ∧ t.length ≤ 200 ∧ Src w' p B ∧ w.grownBy w' (some p)
/-- what stands while they are changed: the box of the result, that of the grammar, its rules, the text -/
structure TwP (w : World) (p B q h1 l2 : Nat) (gv : Value) (rs : List RuleD) (tv : Value) (t : List ByteArray) (wx : World) : Prop where
  src : Src wx p B
  grw : w.grownBy wx (some p)
  res : Row wx w.heap.size 25 #[.slice none 0 0]
  box : Row wx q 25 #[gv]
  qb : w.heap.size < q
  rules : Rules wx (w.heap.size + 1) h1 gv rs
  hb : h1 ≤ wx.heap.size
  own : Sts wx l2 tv t
  lb : h1 ≤ l2 ∧ w.heap.size < l2 ∧ q < l2
  small : ∀ s ∈ t, s.size ≤ maxLen
section
variable {w wx wy : World} {p B q h1 l2 : Nat} {gv : Value} {rs : List RuleD} {tv tv' : Value} {t : List ByteArray}
theorem TwP.only (h : TwP w p B q h1 l2 gv rs tv t wx) (o : Only p wx wy) (s : Src wy p B) (hp : p < w.heap.size) : TwP w p B q h1 l2 gv rs tv t wy := by
  have := h.qb
  have := h.lb
  exact ⟨s, grw_trans h.grw o.grown, h.res.same (o.block _ (by omega)), h.box.same (o.block _ (by omega)), h.qb, h.rules.keep (fun k h1 h2 => o.block k (by omega)), by rw [o.size]; exact h.hb, Sts.only h.own o (by omega), h.lb, h.small⟩
theorem TwP.next (h : TwP w p B q h1 l2 gv rs tv t wx) (b : Below wx.heap.size wx wy) : TwP w p B q h1 l2 gv rs tv t wy :=
  ⟨h.src.only fun k hk => b.block k (by have := h.src.1; have := h.src.lt; omega), grw_bel h.grw b, h.res.below b h.res.lt, h.box.below b h.box.lt, h.qb, h.rules.below b h.hb, Nat.le_trans h.hb b.size, h.own.below b, h.lb, h.small⟩
/-- one text more -/
theorem TwP.more {s : ByteArray} (h : TwP w p B q h1 l2 gv rs tv t wx) (ho : wy.ownsRow l2 9 1 tv' (t.length + 1) (t.map Value.string ++ [.string s])) (k : wx.grownBy wy tv.ownBlock) (hs : s.size ≤ maxLen) (hp : p < w.heap.size) : TwP w p B q h1 l2 gv rs tv' (t ++ [s]) wy := by
  have hlt := World.ownsRow.lt h.own
  have hl := h.lb
  have hq := h.qb
  have hB := h.src.1
  have hsl := h.src.lt
  refine ⟨h.src.only fun i hi => k.block i (by omega) (fun e => by have := (hlt _ e.symm).1; omega), grw_own h.grw k (fun i hi => by have := (hlt _ hi).1; omega), h.res.same (k.block _ h.res.lt (fun e => by have := (hlt _ e.symm).1; omega)), h.box.same (k.block _ h.box.lt (fun e => by have := (hlt _ e.symm).1; omega)), hq, h.rules.keep (fun i h1 h2 => k.block i (by have := h.hb; omega) (fun e => by have := (hlt _ e.symm).1; omega)), Nat.le_trans h.hb k.size, Sts.one _ ho, hl, fun x hx => ?_⟩
  rw [List.mem_append, List.mem_singleton] at hx
  rcases hx with hx | rfl
  · exact h.small x hx
  · exact hs
theorem TwP.fin (h : TwP w p B q h1 l2 gv rs tv t wx) (hp : p < w.heap.size) (ht : t.length ≤ 200) : DrawTwo w p B (.returned (.tuple #[.agg #[gv], tv])) (wx.setCell ⟨w.heap.size, 0, none⟩ gv) := by
  have hB := h.src.1
  have hl := h.lb
  have hsl := h.src.lt
  have hg := h.grw.size
  have k : ∀ i, i ≠ w.heap.size → (wx.setCell ⟨w.heap.size, 0, none⟩ gv).heap[i]? = wx.heap[i]? := fun i hi => Below.heap_setCell _ _ _ _ hi
  have sz : (wx.setCell ⟨w.heap.size, 0, none⟩ gv).heap.size = wx.heap.size := by simp [World.setCell]
  refine ⟨gv, rs, tv, t, rfl, ((h.rules.keep (fun i h1 h2 => k i (by omega))).more (by omega) (by rw [sz]; exact h.hb)), ?_, ht, h.src.only fun i hi => k i (by omega), grw_set h.grw (Nat.le_refl _) _⟩
  have hS := Sts.same (w' := wx.setCell ⟨w.heap.size, 0, none⟩ gv) h.own (fun g hg9 => k g (by have := (World.ownsRow.lt h.own g hg9).1; omega))
  exact (hS.strs h.small).more (by omega) (Nat.le_refl _)
end

set_option maxRecDepth 100000 in
set_option maxHeartbeats 8000000 in
theorem two_any (w : World) (p B : Nat) (hs : Src w p B) :
    Calls Try.prog 88 #[.pointer (some ⟨p, 0, none⟩)] w (DrawTwo w p B) := by
  obtain ⟨i0, hi0, hz0, hz1, hz2⟩ := info_parts Try.infoStr
  have hpl := hs.lt
  have S0 : Src (w.alloc (.cells #[.slice none 0 0] 25)) p B := hs.own (World.grownBy_alloc w _ none) hpl (fun _ e => by cases e)
  have G0 : w.grownBy (w.alloc (.cells #[.slice none 0 0] 25)) (some p) := grw_alloc (grw_refl p w) _
  have R0 := Row.made w 25 #[.slice none 0 0]
  clear hs
  go_enter Try.func88, Try.ntmps88
  go_wp2_with fail
  refine (gramOf_any _ p B S0).mono ?_
  rintro e w1 ⟨v, xs, rfl, hf, hx1, hx2, hx3, -, hs1, hg1⟩
  have HRS : Hid (Rules w1 (w.heap.size + 1) w1.heap.size v (xs.map (·.1))) := Lib.hid (by simpa using hf.done.rules)
  have HB1 : Hid (∀ r ∈ xs.map (·.1), r.body.length ≤ 100) := Lib.hid fun r hr => by
    obtain ⟨x, hx, rfl⟩ := List.mem_map.1 hr
    have := hx3 x hx
    omega
  have hn1 : 1 ≤ (xs.map (·.1)).length := by simpa using hx1
  have hn2 : (xs.map (·.1)).length ≤ 100 := by rw [List.length_map]; omega
  have HR1 := Lib.hid (R0.same (hg1.block _ (by simp) (fun e => by injection e with e; omega)))
  have HG1 := Lib.hid (grw_trans G0 hg1)
  have z1 : w.heap.size < w1.heap.size := HR1.out.lt
  have HS1 := Lib.hid hs1
  generalize xs.map (·.1) = rs at HRS HB1 hn1 hn2
  obtain ⟨Av, cv, rfl, -⟩ := (show ∃ A c, v = .slice A rs.length c by obtain ⟨A, c, e, _⟩ := HRS.out; exact ⟨A, c, e⟩)
  clear hf hx1 hx2 hx3 hs1 hg1 S0 G0 R0
  have A2 := al1 w1 (.cells #[.slice Av rs.length cv] 25)
  have HA2 := Lib.hid A2
  have HQ := Lib.hid (Row.made w1 25 #[.slice Av rs.length cv])
  have z2 : (w1.alloc (.cells #[.slice Av rs.length cv] 25)).heap.size = w1.heap.size + 1 := by simp
  have HZ2 := Lib.hid z2
  clear A2 z2
  go_wp2_with fail
  generalize w1.alloc (.cells #[.slice Av rs.length cv] 25) = w2 at HA2 HQ HZ2 ⊢
  have z2 := HZ2.out
  have hs2 : Src w2 p B := HS1.out.only fun k hk => HA2.out.block k (by have := HS1.out.1; have := HS1.out.lt; omega)
  refine (textOf_any rs _ (w.heap.size + 1) w1.heap.size p B w2 hs2 (by omega) (HRS.out.below HA2.out (Nat.le_refl _)) (by omega) hn1 hn2 HB1.out).mono ?_
  rintro e w3 ⟨tv, t, rfl, ht, htl, hts, hs3, hg3⟩
  have HT3 : Hid (TwP w p B w1.heap.size w1.heap.size (w1.heap.size + 1) (.slice Av rs.length cv) rs tv t w3) := Lib.hid (by
    refine ⟨hs3, grw_trans (grw_bel HG1.out HA2.out) hg3, ?_, HQ.out.same (hg3.block _ HQ.out.lt (fun e => by injection e with e; omega)), z1, (HRS.out.below HA2.out (Nat.le_refl _)).keep (keeps_grown hg3 (by omega) (by omega)), by have := hg3.size; omega, by rw [← z2]; exact ht, ⟨by omega, by omega, by omega⟩, hts⟩
    have := HR1.out.below HA2.out z1
    exact this.same (hg3.block _ this.lt (fun e => by injection e with e; omega)))
  clear ht hts hs3 hg3 HRS HB1 HR1 HG1 HS1 HA2 HQ hs2
  generalize w1.heap.size = q at HT3 z1 HZ2 z2 ⊢
  go_wp2_with fail
  refine (n_any w3 p B 20 HT3.out.src (by omega)).mono ?_
  rintro e w4 ⟨r, rfl, -, hr1, hs4, ho4⟩
  obtain ⟨hra, hrb⟩ := hr1 (by omega)
  obtain ⟨m, rfl⟩ := Int.eq_ofNat_of_zero_le hra
  have HT4 := Lib.hid (HT3.out.only ho4 hs4 hpl)
  clear hr1 hs4 ho4 HT3
  by_cases m0 : m = 0
  · subst m0
    have A5 := al1 w4 (.cells #[.string ⟨#[65]⟩, .string ⟨#[]⟩, .string ⟨#[111, 107]⟩] 9)
    have HT5 := Lib.hid (HT4.out.next A5)
    have R5 := Row.made w4 9 #[.string ⟨#[65]⟩, .string ⟨#[]⟩, .string ⟨#[111, 107]⟩]
    have hpq : w4.heap.size ≠ p := by have := HT4.out.src.lt; omega
    clear A5
    go_wp2_with fail
    generalize w4.alloc (.cells #[.string ⟨#[65]⟩, .string ⟨#[]⟩, .string ⟨#[111, 107]⟩] 9) = w5 at HT5 R5 ⊢
    refine (pick_any w5 p B w4.heap.size [⟨#[65]⟩, ⟨#[]⟩, ⟨#[111, 107]⟩] 3 rfl (by omega) (by omega) HT5.out.src R5 hpq).mono ?_
    rintro e w6 ⟨s, hs9, rfl, hs6, ho6⟩
    have hss := size_all (M := 100) (by rfl) hs9
    have HT6 := Lib.hid (HT5.out.only ho6 hs6 hpl)
    obtain ⟨B6, d6, rfl⟩ := HT6.out.own.shape
    clear hs9 hs6 ho6 R5
    have hlb := HT6.out.lb
    have hl6 : q + 1 ≤ w6.heap.size := HT6.out.box.lt
    go_wp2_with (at_builtin; refine wpList_append_own _ rfl _ _ 34 rfl (q + 1) 9 i0 (.string ByteArray.empty) 1 16 Try.underlying34 hi0 hz0 hz1 hz2 rfl (by decide) _ _ _ rfl (World.ownsRow.alloc HT6.out.own _) ⟨w6.heap.size, 0, none⟩ 1 1 [.string s] rfl rfl (cell_one_new _ _ _) (one_str _) (by unfold maxLen; omega) (by omega) (by simp; omega) ?_)
    intro v1 w7 hown7 hg7 _
    have HT7 := Lib.hid ((HT6.out.next (al1 w6 (.cells #[.string s] 9))).more hown7 hg7 (by unfold maxLen; omega) hpl)
    obtain ⟨B7, d7, rfl⟩ := HT7.out.own.shape
    have c7 := HT7.out.box.cell 0
    have r7 := HT7.out.res.cell 0
    have f7 := HT7.out.res.free 0
    simp at c7 r7
    have FIN := Lib.hid (HT7.out.fin hpl (by rw [List.length_append]; simp; omega))
    clear hown7 hg7
    simp only [List.length_append, List.length_cons, List.length_nil, Nat.zero_add] at *
    go_wp2
    exact bodyPost_ret (v := .tuple #[.agg #[.slice Av rs.length cv], .slice B7 (t.length + 1) d7]) (by simp [results, Try.results88, go_sem, r7]) rfl FIN.out
  have d0 : ((m : Int) == 0) = false := by rw [beq_eq_false_iff_ne]; omega
  by_cases m1 : m = 1
  · subst m1
    go_wp2_with fail
    refine (n_any w4 p B 14 HT4.out.src (by omega)).mono ?_
    rintro e w5 ⟨r, rfl, -, hr1, hs5, ho5⟩
    obtain ⟨hra5, hrb5⟩ := hr1 (by omega)
    obtain ⟨m5, rfl⟩ := Int.eq_ofNat_of_zero_le hra5
    have HT5 := Lib.hid (HT4.out.only ho5 hs5 hpl)
    clear hr1 hs5 ho5 HT4
    go_wp2
    go_loopw [5, 6] (fun x i wr => ∃ (k : Nat) (u : List ByteArray), k + u.length ≤ 114 ∧ i = .int .i64 (k : Int) ∧ TwP w p B q q (q + 1) (.slice Av rs.length cv) rs x u wr) (fun _ i _ => (intOf i).toNat)
    case atStart => exact ⟨m5, t, by omega, rfl, HT5.out⟩
    case round =>
      obtain ⟨k, u, hk, rfl, hT⟩ := hrel
      have HT := Lib.hid hT
      obtain ⟨B6, d6, rfl⟩ := hT.own.shape
      have hl6 : q + 1 ≤ wr.heap.size := hT.box.lt
      clear hT
      by_cases hk0 : k = 0
      · have dk : decide ((k : Int) > 0) = false := decide_eq_false (by omega)
        have c7 := HT.out.box.cell 0
        have r7 := HT.out.res.cell 0
        have f7 := HT.out.res.free 0
        simp at c7 r7
        have FIN := Lib.hid (HT.out.fin hpl (by omega))
        go_wp2
        exact bodyPost_ret (v := .tuple #[.agg #[.slice Av rs.length cv], .slice B6 u.length d6]) (by simp [results, Try.results88, go_sem, r7]) rfl FIN.out
      · have dk : decide ((k : Int) > 0) = true := decide_eq_true (by omega)
        have HJ : Hid (((k : Int) - 1) = ((k - 1 : Nat) : Int)) := Lib.hid (by omega)
        go_wp2_with (at_builtin; refine wpList_append_own _ rfl _ _ 34 rfl (q + 1) 9 i0 (.string ByteArray.empty) 1 16 Try.underlying34 hi0 hz0 hz1 hz2 rfl (by decide) _ _ _ rfl (World.ownsRow.alloc HT.out.own _) ⟨wr.heap.size, 0, none⟩ 1 1 [.string ⟨#[97]⟩] rfl rfl (cell_one_new _ _ _) (one_str _) (by unfold maxLen; omega) (by omega) (by simp; omega) ?_)
        intro v1 w7 hown7 hg7 _
        have HT7 := Lib.hid ((HT.out.next (al1 wr (.cells #[.string ⟨#[97]⟩] 9))).more hown7 hg7 (by unfold maxLen; decide) hpl)
        clear hown7 hg7
        go_wp2
        go_roundw
        case rel => exact ⟨k - 1, _, by simp; omega, by rw [← HJ.out], HT7.out⟩
        case measure => simp [intOf]; omega
  have d1 : ((m : Int) == 1) = false := by rw [beq_eq_false_iff_ne]; omega
  obtain ⟨B4, d4, rfl⟩ := HT4.out.own.shape
  by_cases m2 : m = 2
  · subst m2
    go_wp2_with fail
    refine (gramG_any w4 p B HT4.out.src).mono ?_
    rintro e w5 ⟨v5, rs5, rfl, hr5, hs5, hg5⟩
    have z5 := hg5.size
    have z4 : w.heap.size < w4.heap.size := HT4.out.res.lt
    have zq : q < w4.heap.size := HT4.out.box.lt
    have hqb := HT4.out.qb
    have hres : Row w5 w.heap.size 25 #[.slice none 0 0] := HT4.out.res.same (hg5.block _ z4 (fun e => by injection e with e; omega))
    have hbox : Row w5 q 25 #[.slice Av rs.length cv] := HT4.out.box.same (hg5.block _ zq (fun e => by injection e with e; omega))
    have hown : Sts w5 (q + 1) (.slice B4 t.length d4) t := Sts.same HT4.out.own (fun g hg9 => by
      have := World.ownsRow.lt HT4.out.own g hg9
      exact hg5.block g this.2 (fun e => by injection e with e; omega))
    have FIN : Hid (DrawTwo w p B (.returned (.tuple #[.agg #[v5], .slice B4 t.length d4])) ((w5.setCell ⟨q, 0, none⟩ v5).setCell ⟨w.heap.size, 0, none⟩ v5)) := Lib.hid (by
      have k : ∀ i, i ≠ q → (w5.setCell ⟨q, 0, none⟩ v5).heap[i]? = w5.heap[i]? := fun i hi => Below.heap_setCell _ _ _ _ hi
      have sz : (w5.setCell ⟨q, 0, none⟩ v5).heap.size = w5.heap.size := by simp [World.setCell]
      have k2 : ∀ i, i ≠ w.heap.size → ((w5.setCell ⟨q, 0, none⟩ v5).setCell ⟨w.heap.size, 0, none⟩ v5).heap[i]? = (w5.setCell ⟨q, 0, none⟩ v5).heap[i]? := fun i hi => Below.heap_setCell _ _ _ _ hi
      have sz2 : ((w5.setCell ⟨q, 0, none⟩ v5).setCell ⟨w.heap.size, 0, none⟩ v5).heap.size = w5.heap.size := by simp [World.setCell]
      have hB := hs5.1
      refine ⟨v5, rs5, _, t, rfl, (hr5.keep (fun i h1 h2 => (k2 i (by omega)).trans (k i (by omega)))).more (by omega) (by rw [sz2]; exact Nat.le_refl _), ?_, by omega, hs5.only fun i hi => (k2 i (by omega)).trans (k i (by omega)), grw_set (grw_set (grw_trans HT4.out.grw hg5) (by show w.heap.size ≤ q; omega) _) (Nat.le_refl _) _⟩
      have hS := Sts.same (w' := (w5.setCell ⟨q, 0, none⟩ v5).setCell ⟨w.heap.size, 0, none⟩ v5) hown (fun g hg9 => by have := (World.ownsRow.lt hown g hg9).1; exact (k2 g (by omega)).trans (k g (by omega)))
      exact (hS.strs HT4.out.small).more (by omega) (Nat.le_refl _))
    have c5 := hbox.cell 0
    have f5 := hbox.free 0
    simp at c5
    have c6 : ∀ u, (w5.setCell ⟨q, 0, none⟩ u).cell? ⟨q, 0, none⟩ = some u := fun u => World.cell?_setCell_same _ _ _ c5
    have r5 := (hres.away (p := ⟨q, 0, none⟩) (by show w.heap.size ≠ q; omega) v5).cell 0
    have rf5 := (hres.away (p := ⟨q, 0, none⟩) (by show w.heap.size ≠ q; omega) v5).free 0
    simp at r5
    obtain ⟨A5, c9, rfl, -⟩ := hr5
    clear hres hbox hown hs5 hg5
    go_wp2
    exact bodyPost_ret (v := .tuple #[.agg #[.slice A5 rs5.length c9], .slice B4 t.length d4]) (by simp [results, Try.results88, go_sem, r5]) rfl FIN.out
  · have d2 : ((m : Int) == 2) = false := by rw [beq_eq_false_iff_ne]; omega
    have c7 := HT4.out.box.cell 0
    have r7 := HT4.out.res.cell 0
    have f7 := HT4.out.res.free 0
    simp at c7 r7
    have FIN := Lib.hid (HT4.out.fin hpl (by omega))
    go_wp2
    exact bodyPost_ret (v := .tuple #[.agg #[.slice Av rs.length cv], .slice B4 t.length d4]) (by simp [results, Try.results88, go_sem, r7]) rfl FIN.out

/-- what is made above a place stands there, whatever else has turned above -/
theorem grw_to {p : Nat} {w0 w1 w2 : World} (b : Below w0.heap.size w0 w1) (g : w1.grownBy w2 (some p)) (hp : w0.heap.size ≤ p) : Below w0.heap.size w0 w2 :=
  b.trans ⟨g.os, g.tape, g.output, g.size, fun k hk => g.block k (by have := b.size; omega) (fun e => by injection e with e; omega)⟩

set_option maxRecDepth 100000 in
set_option maxHeartbeats 1000000 in
theorem drawDerives_any (w : World) (a : Option Addr) (len cap : Nat) (hb : IsBytes w w.heap.size a len) (hl : len ≤ 1048576) :
    Calls Try.prog 31 #[.slice a len cap] w fun e w' => ∃ v rs tv t, e = .returned (.tuple #[.agg #[v], tv]) ∧ Rules w' w.heap.size w'.heap.size v rs ∧ Strs w' w.heap.size w'.heap.size tv t ∧ t.length ≤ 200 ∧ Below w.heap.size w w' := by
  have A0 := al1 w (.cells #[.slice none 0 0] 25)
  have R0 := Row.made w 25 #[.slice none 0 0]
  have HB := Lib.hid (hb.later A0)
  clear hb
  go_enter Try.func31, Try.ntmps31
  go_wp2_with fail
  refine (source_any _ a len cap HB.out hl).mono ?_
  rintro e w1 ⟨rfl, hs1, hb1⟩
  have z1 : w.heap.size + 1 ≤ w1.heap.size := by have := hb1.size; simpa using this
  have hs1' : Src w1 (w.heap.size + 1) (w.heap.size + 1) := by simpa using hs1
  have HB1 : Hid (Below (w.heap.size + 1) (w.alloc (.cells #[.slice none 0 0] 25)) w1) := Lib.hid (by simpa using hb1)
  clear hb1 hs1
  go_wp2_with fail
  refine (two_any _ _ _ hs1').mono ?_
  rintro e w2 ⟨v, rs, tv, t, rfl, hr, ht, htl, hs2, hg⟩
  have r2 : Row w2 w.heap.size 25 #[.slice none 0 0] := (R0.below HB1.out (by omega)).same (hg.block _ (by omega) (fun e => by injection e; omega))
  have c2 := r2.cell 0
  have f2 := r2.free 0
  simp at c2
  have z2 := hg.size
  have bel2 : Below w.heap.size w w2 := A0.trans ((HB1.out.mono (by omega)).trans ⟨hg.os, hg.tape, hg.output, hg.size, fun k hk => hg.block k (by omega) (fun e => by injection e; omega)⟩)
  have kp : ∀ q, q ≠ w.heap.size → (w2.setCell ⟨w.heap.size, 0, none⟩ v).heap[q]? = w2.heap[q]? := fun q hq => Below.heap_setCell _ _ _ _ hq
  have FR : Hid (Rules (w2.setCell ⟨w.heap.size, 0, none⟩ v) w.heap.size (w2.setCell ⟨w.heap.size, 0, none⟩ v).heap.size v rs ∧ Strs (w2.setCell ⟨w.heap.size, 0, none⟩ v) w.heap.size (w2.setCell ⟨w.heap.size, 0, none⟩ v).heap.size tv t ∧ Below w.heap.size w (w2.setCell ⟨w.heap.size, 0, none⟩ v)) := Lib.hid ⟨(hr.keep (fun q h1 _ => kp q (by omega))).more (by omega) (by simp [World.setCell]), (ht.keep (fun q h1 _ => kp q (by omega))).more (by omega) (by simp [World.setCell]), bel2.setCell (Nat.le_refl _) _⟩
  obtain ⟨Av, cv, rfl, -⟩ := hr
  obtain ⟨At, ct, rfl, -⟩ := ht
  clear r2 bel2 hg hs2 kp
  go_wp2
  exact bodyPost_ret (v := .tuple #[.agg #[.slice Av rs.length cv], .slice At t.length ct]) (by simp [results, Try.results31, go_sem, c2]) rfl ⟨_, rs, _, t, rfl, FR.out.1, FR.out.2.1, htl, FR.out.2.2⟩

set_option maxRecDepth 100000 in
set_option maxHeartbeats 1000000 in
theorem drawSpans_any (w : World) (a : Option Addr) (len cap : Nat) (hb : IsBytes w w.heap.size a len) (hl : len ≤ 1048576) :
    Calls Try.prog 34 #[.slice a len cap] w fun e w' => ∃ v rs tv t h, e = .returned (.tuple #[.agg #[v], tv, .string h]) ∧ h.size ≤ 100 ∧ Rules w' w.heap.size w'.heap.size v rs ∧ Strs w' w.heap.size w'.heap.size tv t ∧ t.length ≤ 200 ∧ Below w.heap.size w w' := by
  have A0 := al1 w (.cells #[.slice none 0 0] 25)
  have R0 := Row.made w 25 #[.slice none 0 0]
  have HB := Lib.hid (hb.later A0)
  clear hb
  go_enter Try.func34, Try.ntmps34
  go_wp2_with fail
  refine (source_any _ a len cap HB.out hl).mono ?_
  rintro e w1 ⟨rfl, hs1, hb1⟩
  have z1 : w.heap.size + 1 ≤ w1.heap.size := by have := hb1.size; simpa using this
  have hs1' : Src w1 (w.heap.size + 1) (w.heap.size + 1) := by simpa using hs1
  have HB1 : Hid (Below (w.heap.size + 1) (w.alloc (.cells #[.slice none 0 0] 25)) w1) := Lib.hid (by simpa using hb1)
  have hp := hs1'.lt
  clear hb1 hs1
  go_wp2_with fail
  refine (pick_any _ _ _ w1.heap.size [⟨#[83]⟩, ⟨#[65]⟩, ⟨#[66]⟩, ⟨#[69]⟩, ⟨#[84]⟩, ⟨#[81]⟩] 6 rfl (by omega) (by omega) (hs1'.own (World.grownBy_alloc w1 _ none) hp (fun _ e => by cases e)) (Row.made w1 _ _) (by omega)).mono ?_
  rintro e w2 ⟨h, hh, rfl, hs2, ho2⟩
  have hsz := size_all (M := 100) (by rfl) hh
  have HB2 : Hid (Below (w.heap.size + 1) (w.alloc (.cells #[.slice none 0 0] 25)) w2) := Lib.hid (HB1.out.trans (((al1 w1 _).mono (by omega)).trans (ho2.below (Nat.le_refl _))))
  have z2 : w1.heap.size + 1 = w2.heap.size := by have := ho2.size; simp at this; omega
  have Z2 := Lib.hid z2
  clear hh ho2 HB1 z2
  go_wp2_with fail
  refine (two_any _ _ _ hs2).mono ?_
  rintro e w3 ⟨v, rs, tv, t, rfl, hr, ht, htl, hs3, hg⟩
  have zz := Z2.out
  have z3 := hg.size
  have HR3 := Lib.hid hr
  have HT3 := Lib.hid ht
  have r3 : Row w3 w.heap.size 25 #[.slice none 0 0] := (R0.below HB2.out (by omega)).same (hg.block _ (by omega) (fun e => by injection e; omega))
  have bel3 : Below w.heap.size w w3 := A0.trans ((HB2.out.mono (by omega)).trans ⟨hg.os, hg.tape, hg.output, hg.size, fun k hk => hg.block k (by omega) (fun e => by injection e; omega)⟩)
  have kp : ∀ q, q ≠ w.heap.size → (w3.setCell ⟨w.heap.size, 0, none⟩ v).heap[q]? = w3.heap[q]? := fun q hq => Below.heap_setCell _ _ _ _ hq
  have sz : (w3.setCell ⟨w.heap.size, 0, none⟩ v).heap.size = w3.heap.size := by simp [World.setCell]
  have A4 := al1 (w3.setCell ⟨w.heap.size, 0, none⟩ v) (.cells #[v] 25)
  have sz4 : ((w3.setCell ⟨w.heap.size, 0, none⟩ v).alloc (.cells #[v] 25)).heap.size = w3.heap.size + 1 := by simp [World.setCell]
  have FR : Hid (Rules ((w3.setCell ⟨w.heap.size, 0, none⟩ v).alloc (.cells #[v] 25)) w.heap.size ((w3.setCell ⟨w.heap.size, 0, none⟩ v).alloc (.cells #[v] 25)).heap.size v rs ∧ Strs ((w3.setCell ⟨w.heap.size, 0, none⟩ v).alloc (.cells #[v] 25)) w.heap.size ((w3.setCell ⟨w.heap.size, 0, none⟩ v).alloc (.cells #[v] 25)).heap.size tv t ∧ Below w.heap.size w ((w3.setCell ⟨w.heap.size, 0, none⟩ v).alloc (.cells #[v] 25))) := Lib.hid
    ⟨((HR3.out.keep (fun q h1 _ => kp q (by omega))).below A4 (by omega)).more (by omega) (by omega), ((HT3.out.keep (fun q h1 _ => kp q (by omega))).below A4 (by omega)).more (by omega) (by omega), (bel3.setCell (Nat.le_refl _) _).trans (A4.mono (by omega))⟩
  have c9 : ((w3.setCell ⟨w.heap.size, 0, none⟩ v).alloc (.cells #[v] 25)).cell? ⟨w.heap.size, 0, none⟩ = some v := (((r3.put 0 v).alloc (.cells #[v] 25)).cell 0).trans rfl
  have c3 := r3.cell 0
  have f3 := r3.free 0
  have l3 := r3.lt
  simp at c3
  obtain ⟨Av, cv, rfl, -⟩ := hr
  obtain ⟨At, ct, rfl, -⟩ := ht
  clear r3 bel3 hg hs3 kp sz A4 sz4
  go_wp2
  exact bodyPost_ret (v := .tuple #[.agg #[.slice Av rs.length cv], .slice At t.length ct, .string h]) (by simp [results, Try.results34, go_sem, c9]) rfl ⟨_, rs, _, t, h, rfl, hsz, FR.out.1, FR.out.2.1, htl, FR.out.2.2⟩
end Go.Proofs.Ytonfiahihmcmlaa.Dr
