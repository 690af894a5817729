/- Are two Comps the same? impl.CompSame. -/
import Derived.Test.YtlgedjpolmlciaaJPMap
import Derived.Test.YtlgedjpolmlciaaCmt
import Derived.Deep.RegionHeld3
import Derived.Deep.QuietTactic
import Derived.BigQuiet
namespace Go.Proofs.Ytlgedjpolmlciaa
open Go.RowKit

theorem sizeMs_terms (ms : List MadeD) : sizeMs (ms.map (·.term)) ≤ bulkDs ms := by
  unfold bulkDs
  induction ms with
  | nil => simp [sizeMs]
  | cons m l ih =>
    have e : sizeMs ((m :: l).map (·.term)) = sizeM m.term + sizeMs (l.map (·.term)) := by simp [sizeMs]
    have e2 := sizeM_eq m.term
    have e3 : bulkD m = m.head.size + bulkS m.body + sizeMs m.term.kids := rfl
    rw [e]
    simp only [List.map_cons, List.sum_cons, List.length_cons]
    omega
theorem sizeMs_all (c : CompD) : sizeMs (c.null :: c.mades.map (·.term)) ≤ bulkC c + 1 := by
  have e : sizeMs (c.null :: c.mades.map (·.term)) = sizeM c.null + sizeMs (c.mades.map (·.term)) := by simp [sizeMs]
  have e2 := sizeM_eq c.null
  have e3 := sizeMs_terms c.mades
  have e4 : bulkC c = bulkR c.rules + bulkDs c.mades + sizeMs c.null.kids := rfl
  omega
theorem MadeD.ext_of {a b : MadeD} (h1 : a.head = b.head) (h2 : a.body = b.body) (h3 : a.term = b.term) : a = b := by
  obtain ⟨h, l, t⟩ := a
  obtain ⟨h', l', t'⟩ := b
  simp only at h1 h2 h3
  rw [h1, h2, h3]
theorem mades_of {x y : List MadeD} (h : SymsEq x y) (k : x.map (·.term) = y.map (·.term)) : x = y := by
  refine List.ext_getElem h.1 fun i h1 h2 => ?_
  obtain ⟨a1, a2⟩ := h.2 i h1 h2
  have := congrArg (fun l : List TermD => l[i]?) k
  simp only [List.getElem?_map, List.getElem?_eq_getElem h1, List.getElem?_eq_getElem h2, Option.map_some, Option.some.injEq] at this
  exact MadeD.ext_of a1 a2 this
theorem comp_of {a b : CompD} (h1 : a.has = b.has) (h2 : a.rules = b.rules) (h3 : SymsEq a.mades b.mades) (h4 : a.null :: a.mades.map (·.term) = b.null :: b.mades.map (·.term)) : a = b := by
  injection h4 with h4 h5
  exact CompD.ext_of h2 (mades_of h3 h5) h1 h4
theorem symsEq_refl (x : List MadeD) : SymsEq x x := ⟨rfl, fun _ _ _ => ⟨rfl, rfl⟩⟩
theorem belowD {B : Nat} {w w' : World} (h : Below B w.drew w') : Below B w w' := ⟨h.os, h.tape, h.output, h.size, h.block⟩

set_option maxRecDepth 100000 in
set_option maxHeartbeats 8000000 in
theorem sameButTerms_any (a b : CompD) (vg vm vt ug um ut : Value) (hi : Nat) (w : World) (h : CompAt true w 0 hi a vg vm vt) (h' : CompAt true w 0 hi b ug um ut) (hh : hi ≤ w.heap.size) (hn : bulkC a ≤ 1048576) (hn' : bulkC b ≤ 1048576) :
    Calls Try.prog 17 #[cmV vg vm a vt, cmV ug um b ut] w fun e w' => ∃ r, e = .returned (.bool r) ∧ (r = true ↔ a.has = b.has ∧ a.rules = b.rules ∧ SymsEq a.mades b.mades) ∧ Below w.heap.size w w' := by
  have hla : a.mades.length ≤ 1048576 := by
    have : bulkC a = bulkR a.rules + bulkDs a.mades + sizeMs a.null.kids := rfl
    unfold bulkDs at this
    omega
  have hlb : b.mades.length ≤ 1048576 := by
    have : bulkC b = bulkR b.rules + bulkDs b.mades + sizeMs b.null.kids := rfl
    unfold bulkDs at this
    omega
  have hsz := sizeMs_all a
  have b2 := al2 w (.cells #[vg, vm, .bool a.has, .int .i64 a.null.kind, .int .i64 a.null.num, vt] 41) (.cells #[ug, um, .bool b.has, .int .i64 b.null.kind, .int .i64 b.null.num, ut] 41)
  have RA := (Row.made w 41 #[vg, vm, .bool a.has, .int .i64 a.null.kind, .int .i64 a.null.num, vt]).alloc (.cells #[ug, um, .bool b.has, .int .i64 b.null.kind, .int .i64 b.null.num, ut] 41)
  have RB : Row ((w.alloc (.cells #[vg, vm, .bool a.has, .int .i64 a.null.kind, .int .i64 a.null.num, vt] 41)).alloc (.cells #[ug, um, .bool b.has, .int .i64 b.null.kind, .int .i64 b.null.num, ut] 41)) (w.heap.size + 1) 41 #[ug, um, .bool b.has, .int .i64 b.null.kind, .int .i64 b.null.num, ut] := by
    simpa using Row.made (w.alloc (.cells #[vg, vm, .bool a.has, .int .i64 a.null.kind, .int .i64 a.null.num, vt] 41)) 41 #[ug, um, .bool b.has, .int .i64 b.null.kind, .int .i64 b.null.num, ut]
  have hz : ((w.alloc (.cells #[vg, vm, .bool a.has, .int .i64 a.null.kind, .int .i64 a.null.num, vt] 41)).alloc (.cells #[ug, um, .bool b.has, .int .i64 b.null.kind, .int .i64 b.null.num, ut] 41)).heap.size = w.heap.size + 2 := by simp
  have HA := Lib.hid (h.under b2 hh)
  have HB := Lib.hid (h'.under b2 hh)
  have HB2 := Lib.hid b2
  have HRA := Lib.hid RA
  have HRB := Lib.hid RB
  have HZ := Lib.hid hz
  obtain ⟨Ag, cg, rfl, -⟩ := h.rules
  obtain ⟨Am, cm, rfl, -⟩ := h.mades
  obtain ⟨At, ct, Ut, rfl, -⟩ := h.kids.parts
  obtain ⟨Bg, dg, rfl, -⟩ := h'.rules
  obtain ⟨Bm, dm, rfl, -⟩ := h'.mades
  obtain ⟨Bt, dt, Vt, rfl, -⟩ := h'.kids.parts
  clear h h' b2 RA RB hz
  unfold cmV
  by_cases hhas : a.has = b.has
  · have e1 : (a.has == b.has) = true := by rw [beq_iff_eq]; exact hhas
    have HH := Lib.hid hhas
    clear hhas
    go_enter Try.func17, Try.ntmps17
    go_wp2_with (go_at_call 29; refine (equalRules_any a.rules b.rules _ _ 0 hi 0 hi _ HA.out.rules HB.out.rules (by simp; omega) (by simp; omega)).mono ?_)
    rintro e w3 ⟨r1, rfl, h1, b3⟩
    have H1 := Lib.hid h1
    have B30 := Lib.hid b3
    clear b3 h1
    generalize (w.alloc (.cells #[.slice Ag a.rules.length cg, .slice Am a.mades.length cm, .bool a.has, .int .i64 a.null.kind, .int .i64 a.null.num, .slice At a.null.kids.length ct] 41)).alloc (.cells #[.slice Bg b.rules.length dg, .slice Bm b.mades.length dm, .bool b.has, .int .i64 b.null.kind, .int .i64 b.null.num, .slice Bt b.null.kids.length dt] 41) = wx at HA HB HB2 HRA HRB HZ B30 ⊢
    have zx := HZ.out
    have HX : Hid (∀ w', Below wx.heap.size wx w' → w'.cell? ⟨w.heap.size, 0, none⟩ = some (.slice Ag a.rules.length cg) ∧ w'.cell? ⟨w.heap.size, 1, none⟩ = some (.slice Am a.mades.length cm) ∧ w'.cell? ⟨w.heap.size, 2, none⟩ = some (.bool a.has) ∧ w'.cell? ⟨w.heap.size, 3, none⟩ = some (.int .i64 a.null.kind) ∧ w'.cell? ⟨w.heap.size, 4, none⟩ = some (.int .i64 a.null.num) ∧ w'.cell? ⟨w.heap.size, 5, none⟩ = some (.slice At a.null.kids.length ct) ∧
        w'.cell? ⟨w.heap.size + 1, 0, none⟩ = some (.slice Bg b.rules.length dg) ∧ w'.cell? ⟨w.heap.size + 1, 1, none⟩ = some (.slice Bm b.mades.length dm) ∧ w'.cell? ⟨w.heap.size + 1, 2, none⟩ = some (.bool b.has) ∧ w'.cell? ⟨w.heap.size + 1, 3, none⟩ = some (.int .i64 b.null.kind) ∧ w'.cell? ⟨w.heap.size + 1, 4, none⟩ = some (.int .i64 b.null.num) ∧ w'.cell? ⟨w.heap.size + 1, 5, none⟩ = some (.slice Bt b.null.kids.length dt)) := Lib.hid (fun w' bw => by
      obtain ⟨a0, a1, a2, a3, a4, a5, _⟩ := (HRA.out.below bw (by omega)).six9
      obtain ⟨d0, d1, d2, d3, d4, d5, _⟩ := (HRB.out.below bw (by omega)).six9
      exact ⟨a0, a1, a2, a3, a4, a5, d0, d1, d2, d3, d4, d5⟩)
    have B3 : Below wx.heap.size wx w3 := B30.out
    have z3 := B3.size
    obtain ⟨a0, a1, a2, a3, a4, a5, d0, d1, d2, d3, d4, d5⟩ := HX.out w3 B3
    cases r1 with
    | true =>
      go_wp2_with (go_at_call 31; refine (equalSymbols_any a.mades b.mades _ _ true true 0 hi 0 hi w3 (HA.out.mades.under B3 (by omega)) (HB.out.mades.under B3 (by omega)) (by omega) (by omega)).mono ?_)
      rintro e w4 ⟨r2, rfl, h2, b4⟩
      have FIN := Lib.hid (HB2.out.trans ((B3.trans (b4.mono B3.size)).mono (by omega)))
      have H2 := Lib.hid h2
      clear b4 h2
      go_wp2
      go_ret
      exact ⟨r2, rfl, ⟨fun e => ⟨HH.out, H1.out.1 (by simp), H2.out.1 e⟩, fun e => H2.out.2 e.2.2⟩, FIN.out⟩
    | false =>
      have FIN := Lib.hid (HB2.out.trans (B3.mono (by omega)))
      go_wp2
      go_ret
      exact ⟨false, rfl, ⟨(fun h => by cases h), fun h => by have := H1.out.2 h.2.1; cases this⟩, FIN.out⟩
  · have e1 : (a.has == b.has) = false := by rw [beq_eq_false_iff_ne]; exact hhas
    have HE := Lib.hid hhas
    clear hhas
    go_enter Try.func17, Try.ntmps17
    go_wp2
    go_ret
    exact ⟨false, rfl, ⟨(fun h => by cases h), fun h => absurd h.1 HE.out⟩, HB2.out⟩

set_option maxRecDepth 100000 in
set_option maxHeartbeats 8000000 in
theorem implCompSame_any (a b : CompD) (vg vm vt ug um ut : Value) (hi : Nat) (w : World) (h : CompAt true w 0 hi a vg vm vt) (h' : CompAt true w 0 hi b ug um ut) (hh : hi ≤ w.heap.size) (hn : bulkC a ≤ 1048576) (hn' : bulkC b ≤ 1048576) :
    Calls Try.prog 7 #[cmV vg vm a vt, cmV ug um b ut] w fun e w' => ∃ r, e = .returned (.bool r) ∧ (r = true ↔ a = b) ∧ Below w.heap.size w w' := by
  have hla : a.mades.length ≤ 1048576 := by
    have : bulkC a = bulkR a.rules + bulkDs a.mades + sizeMs a.null.kids := rfl
    unfold bulkDs at this
    omega
  have hlb : b.mades.length ≤ 1048576 := by
    have : bulkC b = bulkR b.rules + bulkDs b.mades + sizeMs b.null.kids := rfl
    unfold bulkDs at this
    omega
  have hsz := sizeMs_all a
  have b2 := al2 w (.cells #[vg, vm, .bool a.has, .int .i64 a.null.kind, .int .i64 a.null.num, vt] 41) (.cells #[ug, um, .bool b.has, .int .i64 b.null.kind, .int .i64 b.null.num, ut] 41)
  have RA := (Row.made w 41 #[vg, vm, .bool a.has, .int .i64 a.null.kind, .int .i64 a.null.num, vt]).alloc (.cells #[ug, um, .bool b.has, .int .i64 b.null.kind, .int .i64 b.null.num, ut] 41)
  have RB : Row ((w.alloc (.cells #[vg, vm, .bool a.has, .int .i64 a.null.kind, .int .i64 a.null.num, vt] 41)).alloc (.cells #[ug, um, .bool b.has, .int .i64 b.null.kind, .int .i64 b.null.num, ut] 41)) (w.heap.size + 1) 41 #[ug, um, .bool b.has, .int .i64 b.null.kind, .int .i64 b.null.num, ut] := by
    simpa using Row.made (w.alloc (.cells #[vg, vm, .bool a.has, .int .i64 a.null.kind, .int .i64 a.null.num, vt] 41)) 41 #[ug, um, .bool b.has, .int .i64 b.null.kind, .int .i64 b.null.num, ut]
  have hz : ((w.alloc (.cells #[vg, vm, .bool a.has, .int .i64 a.null.kind, .int .i64 a.null.num, vt] 41)).alloc (.cells #[ug, um, .bool b.has, .int .i64 b.null.kind, .int .i64 b.null.num, ut] 41)).heap.size = w.heap.size + 2 := by simp
  have HA := Lib.hid (h.under b2 hh)
  have HB := Lib.hid (h'.under b2 hh)
  have HB2 := Lib.hid b2
  have HRA := Lib.hid RA
  have HRB := Lib.hid RB
  have HZ := Lib.hid hz
  obtain ⟨Ag, cg, rfl, -⟩ := h.rules
  obtain ⟨Am, cm, rfl, -⟩ := h.mades
  obtain ⟨At, ct, Ut, rfl, -⟩ := h.kids.parts
  obtain ⟨Bg, dg, rfl, -⟩ := h'.rules
  obtain ⟨Bm, dm, rfl, -⟩ := h'.mades
  obtain ⟨Bt, dt, Vt, rfl, -⟩ := h'.kids.parts
  clear h h' b2 RA RB hz
  unfold cmV
  go_enter Try.func7, Try.ntmps7
  go_wp2
  generalize (w.alloc (.cells #[.slice Ag a.rules.length cg, .slice Am a.mades.length cm, .bool a.has, .int .i64 a.null.kind, .int .i64 a.null.num, .slice At a.null.kids.length ct] 41)).alloc (.cells #[.slice Bg b.rules.length dg, .slice Bm b.mades.length dm, .bool b.has, .int .i64 b.null.kind, .int .i64 b.null.num, .slice Bt b.null.kids.length dt] 41) = wx at HA HB HB2 HRA HRB HZ ⊢
  have zx := HZ.out
  have HX : Hid (∀ w', Below wx.heap.size wx w' → w'.cell? ⟨w.heap.size, 0, none⟩ = some (.slice Ag a.rules.length cg) ∧ w'.cell? ⟨w.heap.size, 1, none⟩ = some (.slice Am a.mades.length cm) ∧ w'.cell? ⟨w.heap.size, 2, none⟩ = some (.bool a.has) ∧ w'.cell? ⟨w.heap.size, 3, none⟩ = some (.int .i64 a.null.kind) ∧ w'.cell? ⟨w.heap.size, 4, none⟩ = some (.int .i64 a.null.num) ∧ w'.cell? ⟨w.heap.size, 5, none⟩ = some (.slice At a.null.kids.length ct) ∧
      w'.cell? ⟨w.heap.size + 1, 0, none⟩ = some (.slice Bg b.rules.length dg) ∧ w'.cell? ⟨w.heap.size + 1, 1, none⟩ = some (.slice Bm b.mades.length dm) ∧ w'.cell? ⟨w.heap.size + 1, 2, none⟩ = some (.bool b.has) ∧ w'.cell? ⟨w.heap.size + 1, 3, none⟩ = some (.int .i64 b.null.kind) ∧ w'.cell? ⟨w.heap.size + 1, 4, none⟩ = some (.int .i64 b.null.num) ∧ w'.cell? ⟨w.heap.size + 1, 5, none⟩ = some (.slice Bt b.null.kids.length dt)) := Lib.hid (fun w' bw => by
    obtain ⟨a0, a1, a2, a3, a4, a5, _⟩ := (HRA.out.below bw (by omega)).six9
    obtain ⟨d0, d1, d2, d3, d4, d5, _⟩ := (HRB.out.below bw (by omega)).six9
    exact ⟨a0, a1, a2, a3, a4, a5, d0, d1, d2, d3, d4, d5⟩)
  by_cases hs : a.has = b.has ∧ a.rules = b.rules ∧ SymsEq a.mades b.mades
  · have HS := Lib.hid hs
    clear hs
    refine wp_region_held_drew (S := fun w' => Below wx.heap.size wx w') (by kernel_rfl) ((Below.refl wx.heap.size wx).drew) (fun hHeld => ?_)
    refine wpAnyH_take (i := 0) (v := ?_) rfl (by kernel_rfl) (by kernel_rfl) (by kernel_rfl) (fun _ _ _ h => h) (Or.inl ⟨by rfl, ?_⟩) (by assumption) ?_
    rotate_left
    · intro w' hSw
      obtain ⟨y0, y1, y2, y3, y4, y5, y6, y7, y8, y9, y10, y11⟩ := HX.out _ hSw
      clear hSw
      go_simp
      try with_reducible rfl
    simp only [Act.put, List.setIfInBounds_toArray, List.set_cons_zero, List.set_cons_succ, List.getElem_toArray, List.getElem_cons_zero]
    refine wpAnyH_take (i := 1) (v := ?_) rfl (by kernel_rfl) (by kernel_rfl) (by kernel_rfl) (fun _ _ _ h => h) (Or.inl ⟨by rfl, ?_⟩) (by assumption) ?_
    rotate_left
    · intro w' hSw
      obtain ⟨y0, y1, y2, y3, y4, y5, y6, y7, y8, y9, y10, y11⟩ := HX.out _ hSw
      clear hSw
      go_simp
      try with_reducible rfl
    simp only [Act.put, List.setIfInBounds_toArray, List.set_cons_zero, List.set_cons_succ, List.getElem_toArray, List.getElem_cons_zero, List.getElem_cons_succ]
    refine wpAnyH_ready (rs := [2]) (by kernel_rfl) (by simp) ?_
    refine AllReadyH.cons rfl (fun K hK => ?_) AllReadyH.nil
    go_simp
    go_at_call 17
    have step := sameButTerms_any a b (.slice Ag a.rules.length cg) (.slice Am a.mades.length cm) (.slice At a.null.kids.length ct) (.slice Bg b.rules.length dg) (.slice Bm b.mades.length dm) (.slice Bt b.null.kids.length dt) hi wx.drew (HA.out.under ((Below.refl wx.heap.size wx).drew) (by omega)) (HB.out.under ((Below.refl wx.heap.size wx).drew) (by omega)) (by show hi ≤ wx.heap.size; omega) hn hn'
    unfold cmV at step
    refine step.mono ?_
    clear step
    rintro e w4 ⟨r1, rfl, h1, b4⟩
    obtain rfl : r1 = true := h1.2 HS.out
    have B4 : Below wx.heap.size wx w4 := belowD b4
    clear b4 h1
    go_wp2_with fail
    refine hK.out _ _ (B4) (fun hHeld => ?_)
    clear hK K
    refine wpAnyH_take (i := 3) (v := ?_) rfl (by kernel_rfl) (by kernel_rfl) (by kernel_rfl) (fun _ _ _ h => h) (Or.inl ⟨by rfl, ?_⟩) (by assumption) ?_
    rotate_left
    · intro w' hSw
      obtain ⟨y0, y1, y2, y3, y4, y5, y6, y7, y8, y9, y10, y11⟩ := HX.out _ hSw
      clear hSw
      go_simp
      try with_reducible rfl
    simp only [Act.put, List.setIfInBounds_toArray, List.set_cons_zero, List.set_cons_succ, List.getElem_toArray, List.getElem_cons_zero, List.getElem_cons_succ]
    refine wpAnyH_take (i := 4) (v := ?_) rfl (by kernel_rfl) (by kernel_rfl) (by kernel_rfl) (fun _ _ _ h => h) (Or.inl ⟨by rfl, ?_⟩) (by assumption) ?_
    rotate_left
    · intro w' hSw
      obtain ⟨y0, y1, y2, y3, y4, y5, y6, y7, y8, y9, y10, y11⟩ := HX.out _ hSw
      clear hSw
      go_simp
      try with_reducible rfl
    simp only [Act.put, List.setIfInBounds_toArray, List.set_cons_zero, List.set_cons_succ, List.getElem_toArray, List.getElem_cons_zero, List.getElem_cons_succ]
    refine wpAnyH_take (i := 6) (v := ?_) rfl (by kernel_rfl) (by kernel_rfl) (by kernel_rfl) (fun _ _ _ h => h) (Or.inl ⟨by rfl, ?_⟩) (by assumption) ?_
    rotate_left
    · intro w' hSw
      obtain ⟨y0, y1, y2, y3, y4, y5, y6, y7, y8, y9, y10, y11⟩ := HX.out _ hSw
      clear hSw
      go_simp
      try with_reducible rfl
    simp only [Act.put, List.setIfInBounds_toArray, List.set_cons_zero, List.set_cons_succ, List.getElem_toArray, List.getElem_cons_zero, List.getElem_cons_succ]
    refine wpAnyH_ready (rs := [5]) (by kernel_rfl) (by simp) ?_
    refine AllReadyH.cons rfl (fun K hK => ?_) AllReadyH.nil
    go_simp
    go_at_call 19
    have step := termsOf_any a (.slice Ag a.rules.length cg) (.slice Am a.mades.length cm) (.slice At a.null.kids.length ct) hi w4 (HA.out.under B4 (by omega)) (by have := B4.size; omega) hla
    unfold cmV at step
    refine step.mono ?_
    clear step
    rintro e w5 ⟨xa, rfl, ka, b5⟩
    have B5 : Below wx.heap.size wx w5 := B4.trans (b5.mono B4.size)
    have HKA := Lib.hid ka
    obtain ⟨Xa, ya, Za, rfl, -⟩ := ka.parts
    clear ka b5
    go_wp2_with fail
    refine hK.out _ _ (B5) (fun hHeld => ?_)
    clear hK K
    refine wpAnyH_ready (rs := [7]) (by kernel_rfl) (by simp) ?_
    refine AllReadyH.cons rfl (fun K hK => ?_) AllReadyH.nil
    go_simp
    go_at_call 19
    have step := termsOf_any b (.slice Bg b.rules.length dg) (.slice Bm b.mades.length dm) (.slice Bt b.null.kids.length dt) hi w5 (HB.out.under B5 (by omega)) (by have := B5.size; omega) hlb
    unfold cmV at step
    refine step.mono ?_
    clear step
    rintro e w6 ⟨xb, rfl, kb, b6⟩
    have B6 : Below wx.heap.size wx w6 := B5.trans (b6.mono B5.size)
    have HKA6 := Lib.hid ((HKA.out.under b6 (Nat.le_refl _)).more (Nat.le_refl _) b6.size)
    have HKB := Lib.hid kb
    obtain ⟨Xb, yb, Zb, rfl, -⟩ := kb.parts
    clear kb b6
    go_wp2_with fail
    refine hK.out _ _ (B6) (fun hHeld => ?_)
    clear hK K
    refine wpAnyH_ready (rs := [8]) (by kernel_rfl) (by simp) ?_
    refine AllReadyH.cons rfl (fun K hK => ?_) AllReadyH.nil
    go_simp
    go_at_call 18
    refine (termsSame_any (a.null :: a.mades.map (·.term)) (b.null :: b.mades.map (·.term)) _ _ w6.heap.size w6 (by have q := HKA6.out; simpa only [List.length_cons, List.length_map] using q) (by have q := HKB.out; simpa only [List.length_cons, List.length_map] using q) (Nat.le_refl _) (by omega)).mono ?_
    rintro e w7 ⟨r, rfl, h7, b7⟩
    have B7 : Below wx.heap.size wx w7 := B6.trans (b7.mono B6.size)
    have HQ := Lib.hid h7
    clear b7 h7
    go_wp2_with fail
    refine hK.out _ _ (B7) (fun hHeld => ?_)
    clear hK K
    refine wpAnyH_take (i := 9) (v := ?_) rfl (by kernel_rfl) (by kernel_rfl) (by kernel_rfl) (fun _ _ _ h => h) (Or.inl ⟨by rfl, ?_⟩) (by assumption) ?_
    rotate_left
    · intro w' hSw
      obtain ⟨y0, y1, y2, y3, y4, y5, y6, y7, y8, y9, y10, y11⟩ := HX.out _ hSw
      clear hSw
      go_simp
      try with_reducible rfl
    simp only [Act.put, List.setIfInBounds_toArray, List.set_cons_zero, List.set_cons_succ, List.getElem_toArray, List.getElem_cons_zero, List.getElem_cons_succ]
    refine wpAnyH_take (i := 10) (v := ?_) rfl (by kernel_rfl) (by kernel_rfl) (by kernel_rfl) (fun _ _ _ h => h) (Or.inl ⟨by rfl, ?_⟩) (by assumption) ?_
    rotate_left
    · intro w' hSw
      obtain ⟨y0, y1, y2, y3, y4, y5, y6, y7, y8, y9, y10, y11⟩ := HX.out _ hSw
      clear hSw
      go_simp
      try with_reducible rfl
    simp only [Act.put, List.setIfInBounds_toArray, List.set_cons_zero, List.set_cons_succ, List.getElem_toArray, List.getElem_cons_zero, List.getElem_cons_succ]
    refine wpAnyH_done (by kernel_rfl) ?_ _
    have FIN := Lib.hid (HB2.out.trans (B7.mono (by omega)))
    go_wp2
    go_ret
    exact ⟨r, rfl, ⟨fun e => comp_of HS.out.1 HS.out.2.1 HS.out.2.2 (HQ.out.1 e), fun e => HQ.out.2 (by rw [e])⟩, FIN.out⟩
  · have HE : Hid (a ≠ b) := Lib.hid (fun e => hs (by rw [e]; exact ⟨rfl, rfl, symsEq_refl _⟩))
    have HS := Lib.hid hs
    clear hs
    refine wp_region_held_drew (S := fun w' => Below wx.heap.size wx w') (by kernel_rfl) ((Below.refl wx.heap.size wx).drew) (fun hHeld => ?_)
    refine wpAnyH_take (i := 0) (v := ?_) rfl (by kernel_rfl) (by kernel_rfl) (by kernel_rfl) (fun _ _ _ h => h) (Or.inl ⟨by rfl, ?_⟩) (by assumption) ?_
    rotate_left
    · intro w' hSw
      obtain ⟨y0, y1, y2, y3, y4, y5, y6, y7, y8, y9, y10, y11⟩ := HX.out _ hSw
      clear hSw
      go_simp
      try with_reducible rfl
    simp only [Act.put, List.setIfInBounds_toArray, List.set_cons_zero, List.set_cons_succ, List.getElem_toArray, List.getElem_cons_zero]
    refine wpAnyH_take (i := 1) (v := ?_) rfl (by kernel_rfl) (by kernel_rfl) (by kernel_rfl) (fun _ _ _ h => h) (Or.inl ⟨by rfl, ?_⟩) (by assumption) ?_
    rotate_left
    · intro w' hSw
      obtain ⟨y0, y1, y2, y3, y4, y5, y6, y7, y8, y9, y10, y11⟩ := HX.out _ hSw
      clear hSw
      go_simp
      try with_reducible rfl
    simp only [Act.put, List.setIfInBounds_toArray, List.set_cons_zero, List.set_cons_succ, List.getElem_toArray, List.getElem_cons_zero, List.getElem_cons_succ]
    refine wpAnyH_ready (rs := [2]) (by kernel_rfl) (by simp) ?_
    refine AllReadyH.cons rfl (fun K hK => ?_) AllReadyH.nil
    go_simp
    go_at_call 17
    have step := sameButTerms_any a b (.slice Ag a.rules.length cg) (.slice Am a.mades.length cm) (.slice At a.null.kids.length ct) (.slice Bg b.rules.length dg) (.slice Bm b.mades.length dm) (.slice Bt b.null.kids.length dt) hi wx.drew (HA.out.under ((Below.refl wx.heap.size wx).drew) (by omega)) (HB.out.under ((Below.refl wx.heap.size wx).drew) (by omega)) (by show hi ≤ wx.heap.size; omega) hn hn'
    unfold cmV at step
    refine step.mono ?_
    clear step
    rintro e w4 ⟨r1, rfl, h1, b4⟩
    obtain rfl : r1 = false := by cases r1; rfl; exact absurd (h1.1 rfl) HS.out
    have B4 : Below wx.heap.size wx w4 := belowD b4
    clear b4 h1
    go_wp2_with fail
    refine hK.out _ _ (B4) (fun hHeld => ?_)
    clear hK K
    refine wpAnyH_take (i := 3) (v := ?_) rfl (by kernel_rfl) (by kernel_rfl) (by kernel_rfl) (fun _ _ _ h => h) (Or.inl ⟨by rfl, ?_⟩) (by assumption) ?_
    rotate_left
    · intro w' hSw
      obtain ⟨y0, y1, y2, y3, y4, y5, y6, y7, y8, y9, y10, y11⟩ := HX.out _ hSw
      clear hSw
      go_simp
      try with_reducible rfl
    simp only [Act.put, List.setIfInBounds_toArray, List.set_cons_zero, List.set_cons_succ, List.getElem_toArray, List.getElem_cons_zero, List.getElem_cons_succ]
    refine wpAnyH_take (i := 4) (v := undef) rfl (by kernel_rfl) (by kernel_rfl) (by kernel_rfl) (fun _ _ _ h => h) (Or.inr ⟨by rfl, rfl⟩) (by assumption) ?_
    simp only [Act.put, List.setIfInBounds_toArray, List.set_cons_zero, List.set_cons_succ, List.getElem_toArray, List.getElem_cons_zero, List.getElem_cons_succ]
    refine wpAnyH_take (i := 5) (v := undef) rfl (by kernel_rfl) (by kernel_rfl) (by kernel_rfl) (fun _ _ _ h => h) (Or.inr ⟨by rfl, rfl⟩) (by assumption) ?_
    simp only [Act.put, List.setIfInBounds_toArray, List.set_cons_zero, List.set_cons_succ, List.getElem_toArray, List.getElem_cons_zero, List.getElem_cons_succ]
    refine wpAnyH_take (i := 6) (v := undef) rfl (by kernel_rfl) (by kernel_rfl) (by kernel_rfl) (fun _ _ _ h => h) (Or.inr ⟨by rfl, rfl⟩) (by assumption) ?_
    simp only [Act.put, List.setIfInBounds_toArray, List.set_cons_zero, List.set_cons_succ, List.getElem_toArray, List.getElem_cons_zero, List.getElem_cons_succ]
    refine wpAnyH_take (i := 7) (v := undef) rfl (by kernel_rfl) (by kernel_rfl) (by kernel_rfl) (fun _ _ _ h => h) (Or.inr ⟨by rfl, rfl⟩) (by assumption) ?_
    simp only [Act.put, List.setIfInBounds_toArray, List.set_cons_zero, List.set_cons_succ, List.getElem_toArray, List.getElem_cons_zero, List.getElem_cons_succ]
    refine wpAnyH_take (i := 8) (v := undef) rfl (by kernel_rfl) (by kernel_rfl) (by kernel_rfl) (fun _ _ _ h => h) (Or.inr ⟨by rfl, rfl⟩) (by assumption) ?_
    simp only [Act.put, List.setIfInBounds_toArray, List.set_cons_zero, List.set_cons_succ, List.getElem_toArray, List.getElem_cons_zero, List.getElem_cons_succ]
    refine wpAnyH_take (i := 9) (v := ?_) rfl (by kernel_rfl) (by kernel_rfl) (by kernel_rfl) (fun _ _ _ h => h) (Or.inl ⟨by rfl, ?_⟩) (by assumption) ?_
    rotate_left
    · intro w' hSw
      obtain ⟨y0, y1, y2, y3, y4, y5, y6, y7, y8, y9, y10, y11⟩ := HX.out _ hSw
      clear hSw
      go_simp
      try with_reducible rfl
    simp only [Act.put, List.setIfInBounds_toArray, List.set_cons_zero, List.set_cons_succ, List.getElem_toArray, List.getElem_cons_zero, List.getElem_cons_succ]
    refine wpAnyH_take (i := 10) (v := ?_) rfl (by kernel_rfl) (by kernel_rfl) (by kernel_rfl) (fun _ _ _ h => h) (Or.inl ⟨by rfl, ?_⟩) (by assumption) ?_
    rotate_left
    · intro w' hSw
      obtain ⟨y0, y1, y2, y3, y4, y5, y6, y7, y8, y9, y10, y11⟩ := HX.out _ hSw
      clear hSw
      go_simp
      try with_reducible rfl
    simp only [Act.put, List.setIfInBounds_toArray, List.set_cons_zero, List.set_cons_succ, List.getElem_toArray, List.getElem_cons_zero, List.getElem_cons_succ]
    refine wpAnyH_done (by kernel_rfl) ?_ _
    have FIN := Lib.hid (HB2.out.trans (B4.mono (by omega)))
    go_wp2
    go_ret
    exact ⟨false, rfl, ⟨(fun h => by cases h), fun h => absurd h HE.out⟩, FIN.out⟩
end Go.Proofs.Ytlgedjpolmlciaa
