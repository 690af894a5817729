/- The walk of the law FnExactCompSame. -/
import Derived.Test.YtlgedjpolmlciaaCms
import Derived.Test.YtlgedjpolmlciaaCmb
namespace Go.Proofs.Ytlgedjpolmlciaa.fnExactCompSame
open Go.RowKit
theorem shapes {z : Bool} {w : World} {lo hi : Nat} {c : CompD} {vg vm vt : Value} (h : CompAt z w lo hi c vg vm vt) : ∃ Ag cg Am cm At ct, vg = .slice Ag c.rules.length cg ∧ vm = .slice Am c.mades.length cm ∧ vt = .slice At c.null.kids.length ct := by
  obtain ⟨Ag, cg, h1, -⟩ := h.rules
  obtain ⟨Am, cm, h2, -⟩ := h.mades
  obtain ⟨At, ct, Ut, h3, -⟩ := h.kids.parts
  exact ⟨Ag, cg, Am, cm, At, ct, h1, h2, h3⟩
theorem _root_.Go.Proofs.Ytlgedjpolmlciaa.CompAt.wide {z : Bool} {w : World} {lo hi lo' hi' : Nat} {c : CompD} {vg vm vt : Value} (h : CompAt z w lo hi c vg vm vt) (h1 : lo' ≤ lo) (h2 : hi ≤ hi') : CompAt z w lo' hi' c vg vm vt := ⟨h.rules.more h1 h2, h.mades.more h1 h2, h.top, h.kids.more h1 h2⟩
set_option maxRecDepth 100000 in
set_option maxHeartbeats 8000000 in
theorem walk (a : CompD) (vg vm vt : Value) (b : CompD) (ug um ut : Value) (w : World) (h : CompAt false w 0 w.heap.size a vg vm vt) (h' : CompAt false w 0 w.heap.size b ug um ut) :
    Calls Try.prog 3 #[cmV vg vm a vt, cmV ug um b ut] w fun e w' => e = .returned (.bool true) ∧ Below w.heap.size w w' := by
  obtain ⟨Ag, cg, Am, cm, At, ct, rfl, rfl, rfl⟩ := shapes h
  obtain ⟨Bg, dg, Bm, dm, Bt, dt, rfl, rfl, rfl⟩ := shapes h'
  have b2 := al2 w (.cells #[.slice Ag a.rules.length cg, .slice Am a.mades.length cm, .bool a.has, .int .i64 a.null.kind, .int .i64 a.null.num, .slice At a.null.kids.length ct] 30) (.cells #[.slice Bg b.rules.length dg, .slice Bm b.mades.length dm, .bool b.has, .int .i64 b.null.kind, .int .i64 b.null.num, .slice Bt b.null.kids.length dt] 30)
  have RA := (Row.made w 30 #[.slice Ag a.rules.length cg, .slice Am a.mades.length cm, .bool a.has, .int .i64 a.null.kind, .int .i64 a.null.num, .slice At a.null.kids.length ct]).alloc (.cells #[.slice Bg b.rules.length dg, .slice Bm b.mades.length dm, .bool b.has, .int .i64 b.null.kind, .int .i64 b.null.num, .slice Bt b.null.kids.length dt] 30)
  have RB : Row ((w.alloc (.cells #[.slice Ag a.rules.length cg, .slice Am a.mades.length cm, .bool a.has, .int .i64 a.null.kind, .int .i64 a.null.num, .slice At a.null.kids.length ct] 30)).alloc (.cells #[.slice Bg b.rules.length dg, .slice Bm b.mades.length dm, .bool b.has, .int .i64 b.null.kind, .int .i64 b.null.num, .slice Bt b.null.kids.length dt] 30)) (w.heap.size + 1) 30 #[.slice Bg b.rules.length dg, .slice Bm b.mades.length dm, .bool b.has, .int .i64 b.null.kind, .int .i64 b.null.num, .slice Bt b.null.kids.length dt] := by
    simpa using Row.made (w.alloc (.cells #[.slice Ag a.rules.length cg, .slice Am a.mades.length cm, .bool a.has, .int .i64 a.null.kind, .int .i64 a.null.num, .slice At a.null.kids.length ct] 30)) 30 #[.slice Bg b.rules.length dg, .slice Bm b.mades.length dm, .bool b.has, .int .i64 b.null.kind, .int .i64 b.null.num, .slice Bt b.null.kids.length dt]
  have hz : ((w.alloc (.cells #[.slice Ag a.rules.length cg, .slice Am a.mades.length cm, .bool a.has, .int .i64 a.null.kind, .int .i64 a.null.num, .slice At a.null.kids.length ct] 30)).alloc (.cells #[.slice Bg b.rules.length dg, .slice Bm b.mades.length dm, .bool b.has, .int .i64 b.null.kind, .int .i64 b.null.num, .slice Bt b.null.kids.length dt] 30)).heap.size = w.heap.size + 2 := by simp
  have HA := Lib.hid (h.under b2 (Nat.le_refl _))
  have HB := Lib.hid (h'.under b2 (Nat.le_refl _))
  have HB2 := Lib.hid b2
  have HRA := Lib.hid RA
  have HRB := Lib.hid RB
  have HZ := Lib.hid hz
  obtain ⟨x0, x1, x2, x3, x4, x5, x6⟩ := RA.six9
  clear h h' b2 RA RB hz
  unfold cmV
  by_cases n1 : (1048576 : Int) < (bulkC a : Int)
  · have S1 := Lib.hid (szOut_neg n1)
    go_enter Try.func3, Try.ntmps3
    go_wp2_with fail
    have step := szComp_any a (.slice Ag a.rules.length cg) (.slice Am a.mades.length cm) (.slice At a.null.kids.length ct) w.heap.size 1048576 _ HA.out (by have := HZ.out; omega) (by omega) (by omega)
    unfold cmV at step
    refine step.mono ?_
    clear step
    rintro e w1 ⟨rfl, b1⟩
    rw [S1.out]
    have FIN := Lib.hid (HB2.out.trans (b1.mono (by have := HZ.out; omega)))
    clear b1
    go_wp2
    go_ret
    exact ⟨rfl, FIN.out⟩
  have S1 := Lib.hid (szOut_pos n1)
  have d1 : decide ((1048576 : Int) - (bulkC a : Int) < 0) = false := decide_eq_false (by omega)
  by_cases n2 : (1048576 : Int) - (bulkC a : Int) < (bulkC b : Int)
  · have S2 := Lib.hid (szOut_neg n2)
    go_enter Try.func3, Try.ntmps3
    go_wp2_with fail
    generalize (w.alloc (.cells #[.slice Ag a.rules.length cg, .slice Am a.mades.length cm, .bool a.has, .int .i64 a.null.kind, .int .i64 a.null.num, .slice At a.null.kids.length ct] 30)).alloc (.cells #[.slice Bg b.rules.length dg, .slice Bm b.mades.length dm, .bool b.has, .int .i64 b.null.kind, .int .i64 b.null.num, .slice Bt b.null.kids.length dt] 30) = w0 at HA HB HB2 HRA HRB HZ ⊢
    clear x0 x1 x2 x3 x4 x5 x6
    have z0 := HZ.out
    have step := szComp_any a (.slice Ag a.rules.length cg) (.slice Am a.mades.length cm) (.slice At a.null.kids.length ct) w.heap.size 1048576 w0 HA.out (by omega) (by omega) (by omega)
    unfold cmV at step
    refine step.mono ?_
    clear step
    rintro e w1 ⟨rfl, b1⟩
    rw [S1.out]
    have H1 := Lib.hid b1
    have z1 := b1.size
    obtain ⟨y0, y1, y2, y3, y4, y5, y6⟩ := (HRB.out.below b1 (by omega)).six9
    clear b1
    go_wp2_with fail
    clear y0 y1 y2 y3 y4 y5 y6
    have step := szComp_any b (.slice Bg b.rules.length dg) (.slice Bm b.mades.length dm) (.slice Bt b.null.kids.length dt) w.heap.size ((1048576 : Int) - (bulkC a : Int)) w1 (HB.out.under H1.out (by omega)) (by omega) (by omega) (by omega)
    unfold cmV at step
    refine step.mono ?_
    clear step
    rintro e w2 ⟨rfl, b3⟩
    rw [S2.out]
    have FIN := Lib.hid (HB2.out.trans ((H1.out.trans (b3.mono (by omega))).mono (by omega)))
    clear b3
    go_wp2
    go_ret
    exact ⟨rfl, FIN.out⟩
  have S2 := Lib.hid (szOut_pos n2)
  have d2 : decide ((1048576 : Int) - (bulkC a : Int) - (bulkC b : Int) < 0) = false := decide_eq_false (by omega)
  go_enter Try.func3, Try.ntmps3
  go_wp2_with fail
  generalize (w.alloc (.cells #[.slice Ag a.rules.length cg, .slice Am a.mades.length cm, .bool a.has, .int .i64 a.null.kind, .int .i64 a.null.num, .slice At a.null.kids.length ct] 30)).alloc (.cells #[.slice Bg b.rules.length dg, .slice Bm b.mades.length dm, .bool b.has, .int .i64 b.null.kind, .int .i64 b.null.num, .slice Bt b.null.kids.length dt] 30) = w0 at HA HB HB2 HRA HRB HZ ⊢
  clear x0 x1 x2 x3 x4 x5 x6
  have z0 := HZ.out
  have step := szComp_any a (.slice Ag a.rules.length cg) (.slice Am a.mades.length cm) (.slice At a.null.kids.length ct) w.heap.size 1048576 w0 HA.out (by omega) (by omega) (by omega)
  unfold cmV at step
  refine step.mono ?_
  clear step
  rintro e w1 ⟨rfl, b1⟩
  rw [S1.out]
  have H1 := Lib.hid b1
  have z1 := b1.size
  obtain ⟨y0, y1, y2, y3, y4, y5, y6⟩ := (HRB.out.below b1 (by omega)).six9
  clear b1
  go_wp2_with fail
  clear y0 y1 y2 y3 y4 y5 y6
  have step := szComp_any b (.slice Bg b.rules.length dg) (.slice Bm b.mades.length dm) (.slice Bt b.null.kids.length dt) w.heap.size ((1048576 : Int) - (bulkC a : Int)) w1 (HB.out.under H1.out (by omega)) (by omega) (by omega) (by omega)
  unfold cmV at step
  refine step.mono ?_
  clear step
  rintro e w2 ⟨rfl, b3⟩
  rw [S2.out]
  have H2 := Lib.hid (H1.out.trans (b3.mono (by omega)))
  have z2 := H2.out.size
  clear b3
  go_wp2
  have HX : Hid (∀ w', Below w2.heap.size w2 w' → w'.cell? ⟨w.heap.size, 0, none⟩ = some (.slice Ag a.rules.length cg) ∧ w'.cell? ⟨w.heap.size, 1, none⟩ = some (.slice Am a.mades.length cm) ∧ w'.cell? ⟨w.heap.size, 2, none⟩ = some (.bool a.has) ∧ w'.cell? ⟨w.heap.size, 3, none⟩ = some (.int .i64 a.null.kind) ∧ w'.cell? ⟨w.heap.size, 4, none⟩ = some (.int .i64 a.null.num) ∧ w'.cell? ⟨w.heap.size, 5, none⟩ = some (.slice At a.null.kids.length ct) ∧ w'.cell? ⟨w.heap.size + 1, 0, none⟩ = some (.slice Bg b.rules.length dg) ∧ w'.cell? ⟨w.heap.size + 1, 1, none⟩ = some (.slice Bm b.mades.length dm) ∧ w'.cell? ⟨w.heap.size + 1, 2, none⟩ = some (.bool b.has) ∧ w'.cell? ⟨w.heap.size + 1, 3, none⟩ = some (.int .i64 b.null.kind) ∧ w'.cell? ⟨w.heap.size + 1, 4, none⟩ = some (.int .i64 b.null.num) ∧ w'.cell? ⟨w.heap.size + 1, 5, none⟩ = some (.slice Bt b.null.kids.length dt)) := Lib.hid (fun w' bw => by
    obtain ⟨a0, a1, a2, a3, a4, a5, _⟩ := ((HRA.out.below H2.out (by omega)).below bw (by have := (HRA.out.below H2.out (by omega)).lt; omega)).six9
    obtain ⟨d0, d1, d2, d3, d4, d5, _⟩ := ((HRB.out.below H2.out (by omega)).below bw (by have := (HRB.out.below H2.out (by omega)).lt; omega)).six9
    exact ⟨a0, a1, a2, a3, a4, a5, d0, d1, d2, d3, d4, d5⟩)
  refine wp_region_held_drew (S := fun w' => Below w2.heap.size w2 w') (by kernel_rfl) ((Below.refl w2.heap.size w2).drew) (fun hHeld => ?_)
  refine wpAnyH_take (i := 0) (v := ?_) rfl (by kernel_rfl) (by kernel_rfl) (by kernel_rfl) (fun _ _ _ h => h) (Or.inl ⟨by rfl, ?_⟩) (by assumption) ?_
  rotate_left
  · intro w' hSw
    obtain ⟨y0, y1, y2, y3, y4, y5, y6, y7, y8, y9, y10, y11⟩ := HX.out _ hSw
    clear hSw
    go_simp
    try with_reducible rfl
  simp only [Act.put, List.setIfInBounds_toArray, List.set_cons_zero, List.set_cons_succ, List.getElem_toArray, List.getElem_cons_zero]
  refine wpAnyH_take (i := 2) (v := ?_) rfl (by kernel_rfl) (by kernel_rfl) (by kernel_rfl) (fun _ _ _ h => h) (Or.inl ⟨by rfl, ?_⟩) (by assumption) ?_
  rotate_left
  · intro w' hSw
    obtain ⟨y0, y1, y2, y3, y4, y5, y6, y7, y8, y9, y10, y11⟩ := HX.out _ hSw
    clear hSw
    go_simp
    try with_reducible rfl
  simp only [Act.put, List.setIfInBounds_toArray, List.set_cons_zero, List.set_cons_succ, List.getElem_toArray, List.getElem_cons_zero, List.getElem_cons_succ]
  refine wpAnyH_ready (rs := [1]) (by kernel_rfl) (by simp) ?_
  refine AllReadyH.cons rfl (fun K hK => ?_) AllReadyH.nil
  go_simp
  go_at_call 6
  have step := toComp_any a (.slice Ag a.rules.length cg) (.slice Am a.mades.length cm) (.slice At a.null.kids.length ct) w.heap.size w2.drew (HA.out.under (H2.out.trans ((Below.refl w2.heap.size w2).drew.mono (by omega))) (by omega)) (by have := (H2.out.trans ((Below.refl w2.heap.size w2).drew.mono (by omega))).size; omega) (by omega)
  unfold cmV at step
  refine step.mono ?_
  clear step
  rintro e w3 ⟨g3, m3, t3, rfl, O3, b3⟩
  have B3 : Below w2.heap.size w2 w3 := belowD b3
  have HO3 := Lib.hid O3
  obtain ⟨G3, j3, M3, k3, T3, l3, rfl, rfl, rfl⟩ := shapes O3
  clear O3 b3
  go_wp2_with fail
  refine hK.out _ _ (B3) (fun hHeld => ?_)
  clear hK K
  refine wpAnyH_ready (rs := [3]) (by kernel_rfl) (by simp) ?_
  refine AllReadyH.cons rfl (fun K hK => ?_) AllReadyH.nil
  go_simp
  go_at_call 6
  have step := toComp_any b (.slice Bg b.rules.length dg) (.slice Bm b.mades.length dm) (.slice Bt b.null.kids.length dt) w.heap.size w3 (HB.out.under (H2.out.trans (B3.mono (by omega))) (by omega)) (by have := (H2.out.trans (B3.mono (by omega))).size; omega) (by omega)
  unfold cmV at step
  refine step.mono ?_
  clear step
  rintro e w4 ⟨g4, m4, t4, rfl, O4, b4⟩
  have B4 : Below w2.heap.size w2 w4 := B3.trans (b4.mono B3.size)
  have HO4 := Lib.hid O4
  have HO34 := Lib.hid (HO3.out.under b4 (Nat.le_refl _))
  have hz34 := b4.size
  obtain ⟨G4, j4, M4, k4, T4, l4, rfl, rfl, rfl⟩ := shapes O4
  clear O4 b4
  go_wp2_with fail
  refine hK.out _ _ (B4) (fun hHeld => ?_)
  clear hK K
  refine wpAnyH_ready (rs := [4]) (by kernel_rfl) (by simp) ?_
  refine AllReadyH.cons rfl (fun K hK => ?_) AllReadyH.nil
  go_simp
  go_at_call 5
  have step := specCompSame_any a b (.slice G3 a.rules.length j3) (.slice M3 a.mades.length k3) (.slice T3 a.null.kids.length l3) (.slice G4 b.rules.length j4) (.slice M4 b.mades.length k4) (.slice T4 b.null.kids.length l4) w4.heap.size w4 (HO34.out.wide (Nat.zero_le _) hz34) (HO4.out.wide (Nat.zero_le _) (Nat.le_refl _)) (Nat.le_refl _) (by omega) (by omega)
  unfold cmV at step
  refine step.mono ?_
  clear step
  rintro e w5 ⟨r5, rfl, h5, b5⟩
  have B5 : Below w2.heap.size w2 w5 := B4.trans (b5.mono B4.size)
  have HR5 := Lib.hid h5
  clear b5 h5
  go_wp2_with fail
  refine hK.out _ _ (B5) (fun hHeld => ?_)
  clear hK K
  refine wpAnyH_take (i := 5) (v := ?_) rfl (by kernel_rfl) (by kernel_rfl) (by kernel_rfl) (fun _ _ _ h => h) (Or.inl ⟨by rfl, ?_⟩) (by assumption) ?_
  rotate_left
  · intro w' hSw
    obtain ⟨y0, y1, y2, y3, y4, y5, y6, y7, y8, y9, y10, y11⟩ := HX.out _ hSw
    clear hSw
    go_simp
    try with_reducible rfl
  simp only [Act.put, List.setIfInBounds_toArray, List.set_cons_zero, List.set_cons_succ, List.getElem_toArray, List.getElem_cons_zero, List.getElem_cons_succ]
  refine wpAnyH_done (by kernel_rfl) ?_ _
  have z5 := B5.size
  have H5 := Lib.hid (H2.out.trans (B5.mono (by omega)))
  obtain ⟨y0, y1, y2, y3, y4, y5, y6, y7, y8, y9, y10, y11⟩ := HX.out _ B5
  have HB5 := Lib.hid B5
  clear B3 B4 B5
  go_wp2_with fail
  clear y0 y1 y2 y3 y4 y5 y6 y7 y8 y9 y10 y11
  have step := toComp_any a (.slice Ag a.rules.length cg) (.slice Am a.mades.length cm) (.slice At a.null.kids.length ct) w.heap.size w5 (HA.out.under H5.out (by omega)) (by have := (H5.out).size; omega) (by omega)
  unfold cmV at step
  refine step.mono ?_
  clear step
  rintro e w6 ⟨g6, m6, t6, rfl, O6, b6⟩
  have z6 := b6.size
  have HO6 := Lib.hid O6
  obtain ⟨G6, j6, M6, k6, T6, l6, rfl, rfl, rfl⟩ := shapes O6
  have ha := al1 w6 (.cells #[.slice G6 a.rules.length j6, .slice M6 a.mades.length k6, .bool a.has, .int .i64 a.null.kind, .int .i64 a.null.num, .slice T6 a.null.kids.length l6] 41)
  have B7 := (HB5.out.trans (b6.mono z5)).trans (ha.mono (by omega))
  have HB7 := Lib.hid B7
  have HR7 := Lib.hid (Row.made w6 41 #[.slice G6 a.rules.length j6, .slice M6 a.mades.length k6, .bool a.has, .int .i64 a.null.kind, .int .i64 a.null.num, .slice T6 a.null.kids.length l6])
  have HO7 := Lib.hid (HO6.out.under ha (Nat.le_refl _))
  have HH7 := Lib.hid (H5.out.trans ((b6.trans (ha.mono z6)).mono (by have := H5.out.size; omega)))
  have HZ7 : Hid (w6.heap.size < (w6.alloc (.cells #[.slice G6 a.rules.length j6, .slice M6 a.mades.length k6, .bool a.has, .int .i64 a.null.kind, .int .i64 a.null.num, .slice T6 a.null.kids.length l6] 41)).heap.size) := Lib.hid (by simp)
  obtain ⟨y0, y1, y2, y3, y4, y5, y6, y7, y8, y9, y10, y11⟩ := HX.out _ B7
  clear O6 b6 ha B7
  go_wp2_with fail
  clear y0 y1 y2 y3 y4 y5 y6 y7 y8 y9 y10 y11
  generalize w6.alloc (.cells #[.slice G6 a.rules.length j6, .slice M6 a.mades.length k6, .bool a.has, .int .i64 a.null.kind, .int .i64 a.null.num, .slice T6 a.null.kids.length l6] 41) = w7 at HB7 HR7 HO7 HH7 HZ7 ⊢
  have z7 := HZ7.out
  have q7 := HH7.out.size
  have step := toComp_any b (.slice Bg b.rules.length dg) (.slice Bm b.mades.length dm) (.slice Bt b.null.kids.length dt) w.heap.size w7 (HB.out.under HH7.out (by omega)) (by have := (HH7.out).size; omega) (by omega)
  unfold cmV at step
  refine step.mono ?_
  clear step
  rintro e w8 ⟨g8, m8, t8, rfl, O8, b8⟩
  have z8 := b8.size
  have HO8 := Lib.hid O8
  obtain ⟨G8, j8, M8, k8, T8, l8, rfl, rfl, rfl⟩ := shapes O8
  have hb := al1 w8 (.cells #[.slice G8 b.rules.length j8, .slice M8 b.mades.length k8, .bool b.has, .int .i64 b.null.kind, .int .i64 b.null.num, .slice T8 b.null.kids.length l8] 41)
  have HB9 := Lib.hid ((HB7.out.trans (b8.mono HB7.out.size)).trans (hb.mono (by have := HB7.out.size; omega)))
  have HR9 := Lib.hid (Row.made w8 41 #[.slice G8 b.rules.length j8, .slice M8 b.mades.length k8, .bool b.has, .int .i64 b.null.kind, .int .i64 b.null.num, .slice T8 b.null.kids.length l8])
  have HO9 := Lib.hid (HO8.out.under hb (Nat.le_refl _))
  have HO79 := Lib.hid ((HO7.out.under b8 (by omega)).under hb (by omega))
  have HR79 := Lib.hid ((HR7.out.below b8 (by omega)).below hb (by omega))
  have HH9 := Lib.hid (HH7.out.trans ((b8.trans (hb.mono z8)).mono (by omega)))
  have HZ9 : Hid (w8.heap.size < (w8.alloc (.cells #[.slice G8 b.rules.length j8, .slice M8 b.mades.length k8, .bool b.has, .int .i64 b.null.kind, .int .i64 b.null.num, .slice T8 b.null.kids.length l8] 41)).heap.size) := Lib.hid (by simp)
  obtain ⟨y0, y1, y2, y3, y4, y5, y6, y7, y8, y9, y10, y11⟩ := HX.out _ (HB7.out.trans (b8.mono HB7.out.size))
  clear O8 b8 hb HO7 HR7
  obtain ⟨u0, u1, u2, u3, u4, u5, u6⟩ := HR79.out.six9
  obtain ⟨v0, v1, v2, v3, v4, v5, v6⟩ := HR9.out.six9
  go_wp2_with fail
  clear y0 y1 y2 y3 y4 y5 y6 y7 y8 y9 y10 y11
  clear u0 u1 u2 u3 u4 u5 u6 v0 v1 v2 v3 v4 v5 v6
  generalize w8.alloc (.cells #[.slice G8 b.rules.length j8, .slice M8 b.mades.length k8, .bool b.has, .int .i64 b.null.kind, .int .i64 b.null.num, .slice T8 b.null.kids.length l8] 41) = w9 at HB9 HR9 HR79 HO9 HO79 HH9 HZ9 ⊢
  have z9 := HZ9.out
  have q9 := HH9.out.size
  have step := implCompSame_any a b (.slice G6 a.rules.length j6) (.slice M6 a.mades.length k6) (.slice T6 a.null.kids.length l6) (.slice G8 b.rules.length j8) (.slice M8 b.mades.length k8) (.slice T8 b.null.kids.length l8) w9.heap.size w9 (HO79.out.wide (Nat.zero_le _) (by omega)) (HO9.out.wide (Nat.zero_le _) (by omega)) (Nat.le_refl _) (by omega) (by omega)
  unfold cmV at step
  refine step.mono ?_
  clear step
  rintro e w10 ⟨r10, rfl, h10, b10⟩
  obtain rfl : r10 = r5 := Bool.eq_iff_iff.2 (h10.trans HR5.out.symm)
  have er1 : (r10 == r10) = true := by cases r10 <;> rfl
  have er2 : (r10 != r10) = false := by cases r10 <;> rfl
  have z10 := b10.size
  have HB10 := Lib.hid (HB9.out.trans (b10.mono HB9.out.size))
  have HH10 := Lib.hid (HH9.out.trans (b10.mono (by omega)))
  have HRA10 := Lib.hid (HR79.out.below b10 (by omega))
  have HRB10 := Lib.hid (HR9.out.below b10 (by omega))
  have HOA10 := Lib.hid (HO79.out.under b10 (by omega))
  have HOB10 := Lib.hid (HO9.out.under b10 (by omega))
  clear b10 h10 HR79 HR9 HO79 HO9
  go_wp2
  clear er1 er2
  have HYA : Hid (∀ w', Below w10.heap.size w10 w' → w'.cell? ⟨w6.heap.size, 0, none⟩ = some (.slice G6 a.rules.length j6) ∧ w'.cell? ⟨w6.heap.size, 1, none⟩ = some (.slice M6 a.mades.length k6) ∧ w'.cell? ⟨w6.heap.size, 2, none⟩ = some (.bool a.has) ∧ w'.cell? ⟨w6.heap.size, 3, none⟩ = some (.int .i64 a.null.kind) ∧ w'.cell? ⟨w6.heap.size, 4, none⟩ = some (.int .i64 a.null.num) ∧ w'.cell? ⟨w6.heap.size, 5, none⟩ = some (.slice T6 a.null.kids.length l6) ∧ w'.cell? ⟨w.heap.size, 0, none⟩ = some (.slice Ag a.rules.length cg) ∧ w'.cell? ⟨w.heap.size, 1, none⟩ = some (.slice Am a.mades.length cm) ∧ w'.cell? ⟨w.heap.size, 2, none⟩ = some (.bool a.has) ∧ w'.cell? ⟨w.heap.size, 3, none⟩ = some (.int .i64 a.null.kind) ∧ w'.cell? ⟨w.heap.size, 4, none⟩ = some (.int .i64 a.null.num) ∧ w'.cell? ⟨w.heap.size, 5, none⟩ = some (.slice At a.null.kids.length ct)) := Lib.hid (fun w' bw => by
    obtain ⟨a0, a1, a2, a3, a4, a5, _⟩ := (HRA10.out.below bw (by have := HRA10.out.lt; omega)).six9
    obtain ⟨d0, d1, d2, d3, d4, d5, d6, d7, d8, d9, d10, d11⟩ := HX.out w' (HB10.out.trans (bw.mono HB10.out.size))
    exact ⟨a0, a1, a2, a3, a4, a5, d0, d1, d2, d3, d4, d5⟩)
  refine wp_region_held_drew (S := fun w' => Below w10.heap.size w10 w') (by kernel_rfl) ((Below.refl w10.heap.size w10).drew) (fun hHeld => ?_)
  refine wpAnyH_take (i := 0) (v := ?_) rfl (by kernel_rfl) (by kernel_rfl) (by kernel_rfl) (fun _ _ _ h => h) (Or.inl ⟨by rfl, ?_⟩) (by assumption) ?_
  rotate_left
  · intro w' hSw
    obtain ⟨y0, y1, y2, y3, y4, y5, y6, y7, y8, y9, y10, y11⟩ := HYA.out _ hSw
    clear hSw
    go_simp
    try with_reducible rfl
  simp only [Act.put, List.setIfInBounds_toArray, List.set_cons_zero, List.set_cons_succ, List.getElem_toArray, List.getElem_cons_zero]
  refine wpAnyH_take (i := 1) (v := ?_) rfl (by kernel_rfl) (by kernel_rfl) (by kernel_rfl) (fun _ _ _ h => h) (Or.inl ⟨by rfl, ?_⟩) (by assumption) ?_
  rotate_left
  · intro w' hSw
    obtain ⟨y0, y1, y2, y3, y4, y5, y6, y7, y8, y9, y10, y11⟩ := HYA.out _ hSw
    clear hSw
    go_simp
    try with_reducible rfl
  simp only [Act.put, List.setIfInBounds_toArray, List.set_cons_zero, List.set_cons_succ, List.getElem_toArray, List.getElem_cons_zero, List.getElem_cons_succ]
  refine wpAnyH_ready (rs := [2]) (by kernel_rfl) (by simp) ?_
  refine AllReadyH.cons rfl (fun K hK => ?_) AllReadyH.nil
  go_simp
  go_at_call 6
  have step := toComp_any a (.slice Ag a.rules.length cg) (.slice Am a.mades.length cm) (.slice At a.null.kids.length ct) w.heap.size w10.drew (HA.out.under (HH10.out.trans ((Below.refl w10.heap.size w10).drew.mono (by have := HH10.out.size; omega))) (by omega)) (by have := ((HH10.out.trans ((Below.refl w10.heap.size w10).drew.mono (by have := HH10.out.size; omega)))).size; omega) (by omega)
  unfold cmV at step
  refine step.mono ?_
  clear step
  rintro e w11 ⟨g11, m11, t11, rfl, O11, b11⟩
  have z11 : w10.heap.size ≤ w11.heap.size := b11.size
  have HO11 := Lib.hid O11
  obtain ⟨G11, j11, M11, k11, T11, l11, rfl, rfl, rfl⟩ := shapes O11
  have B11 : Below w10.heap.size w10 w11 := belowD b11
  clear O11 b11
  go_wp2_with fail
  refine hK.out _ _ (B11) (fun hHeld => ?_)
  clear hK K
  refine wpAnyH_ready (rs := [3]) (by kernel_rfl) (by simp) ?_
  refine AllReadyH.cons rfl (fun K hK => ?_) AllReadyH.nil
  go_simp
  go_at_call 8
  have step := eqComp_any a true (.slice G6 a.rules.length j6) (.slice M6 a.mades.length k6) (.slice T6 a.null.kids.length l6) (.slice G11 a.rules.length j11) (.slice M11 a.mades.length k11) (.slice T11 a.null.kids.length l11) 0 w10.heap.size _ _ w11 ((HOA10.out.wide (Nat.zero_le _) (by omega)).under B11 (Nat.le_refl _)) HO11.out (by omega) (Nat.le_refl _)
  unfold cmV at step
  refine step.mono ?_
  clear step
  rintro e w12 ⟨rfl, b12⟩
  have B12 : Below w10.heap.size w10 w12 := B11.trans (b12.mono B11.size)
  clear b12
  go_wp2_with fail
  refine hK.out _ _ (B12) (fun hHeld => ?_)
  clear hK K
  refine wpAnyH_take (i := 4) (v := ?_) rfl (by kernel_rfl) (by kernel_rfl) (by kernel_rfl) (fun _ _ _ h => h) (Or.inl ⟨by rfl, ?_⟩) (by assumption) ?_
  rotate_left
  · intro w' hSw
    obtain ⟨y0, y1, y2, y3, y4, y5, y6, y7, y8, y9, y10, y11⟩ := HYA.out _ hSw
    clear hSw
    go_simp
    try with_reducible rfl
  simp only [Act.put, List.setIfInBounds_toArray, List.set_cons_zero, List.set_cons_succ, List.getElem_toArray, List.getElem_cons_zero, List.getElem_cons_succ]
  refine wpAnyH_done (by kernel_rfl) ?_ _
  have z12 := B12.size
  have HB12 := Lib.hid (HB10.out.trans (B12.mono HB10.out.size))
  have HH12 := Lib.hid (HH10.out.trans (B12.mono HH10.out.size))
  have HRB12 := Lib.hid (HRB10.out.below B12 (by have := HRB10.out.lt; omega))
  have HOB12 := Lib.hid (HOB10.out.under B12 (by omega))
  clear B11 B12
  go_wp2
  have HYB : Hid (∀ w', Below w12.heap.size w12 w' → w'.cell? ⟨w8.heap.size, 0, none⟩ = some (.slice G8 b.rules.length j8) ∧ w'.cell? ⟨w8.heap.size, 1, none⟩ = some (.slice M8 b.mades.length k8) ∧ w'.cell? ⟨w8.heap.size, 2, none⟩ = some (.bool b.has) ∧ w'.cell? ⟨w8.heap.size, 3, none⟩ = some (.int .i64 b.null.kind) ∧ w'.cell? ⟨w8.heap.size, 4, none⟩ = some (.int .i64 b.null.num) ∧ w'.cell? ⟨w8.heap.size, 5, none⟩ = some (.slice T8 b.null.kids.length l8) ∧ w'.cell? ⟨w.heap.size + 1, 0, none⟩ = some (.slice Bg b.rules.length dg) ∧ w'.cell? ⟨w.heap.size + 1, 1, none⟩ = some (.slice Bm b.mades.length dm) ∧ w'.cell? ⟨w.heap.size + 1, 2, none⟩ = some (.bool b.has) ∧ w'.cell? ⟨w.heap.size + 1, 3, none⟩ = some (.int .i64 b.null.kind) ∧ w'.cell? ⟨w.heap.size + 1, 4, none⟩ = some (.int .i64 b.null.num) ∧ w'.cell? ⟨w.heap.size + 1, 5, none⟩ = some (.slice Bt b.null.kids.length dt)) := Lib.hid (fun w' bw => by
    obtain ⟨a0, a1, a2, a3, a4, a5, _⟩ := (HRB12.out.below bw (by have := HRB12.out.lt; omega)).six9
    obtain ⟨d0, d1, d2, d3, d4, d5, d6, d7, d8, d9, d10, d11⟩ := HX.out w' (HB12.out.trans (bw.mono HB12.out.size))
    exact ⟨a0, a1, a2, a3, a4, a5, d6, d7, d8, d9, d10, d11⟩)
  refine wp_region_held_drew (S := fun w' => Below w12.heap.size w12 w') (by kernel_rfl) ((Below.refl w12.heap.size w12).drew) (fun hHeld => ?_)
  refine wpAnyH_take (i := 0) (v := ?_) rfl (by kernel_rfl) (by kernel_rfl) (by kernel_rfl) (fun _ _ _ h => h) (Or.inl ⟨by rfl, ?_⟩) (by assumption) ?_
  rotate_left
  · intro w' hSw
    obtain ⟨y0, y1, y2, y3, y4, y5, y6, y7, y8, y9, y10, y11⟩ := HYB.out _ hSw
    clear hSw
    go_simp
    try with_reducible rfl
  simp only [Act.put, List.setIfInBounds_toArray, List.set_cons_zero, List.set_cons_succ, List.getElem_toArray, List.getElem_cons_zero]
  refine wpAnyH_take (i := 1) (v := ?_) rfl (by kernel_rfl) (by kernel_rfl) (by kernel_rfl) (fun _ _ _ h => h) (Or.inl ⟨by rfl, ?_⟩) (by assumption) ?_
  rotate_left
  · intro w' hSw
    obtain ⟨y0, y1, y2, y3, y4, y5, y6, y7, y8, y9, y10, y11⟩ := HYB.out _ hSw
    clear hSw
    go_simp
    try with_reducible rfl
  simp only [Act.put, List.setIfInBounds_toArray, List.set_cons_zero, List.set_cons_succ, List.getElem_toArray, List.getElem_cons_zero, List.getElem_cons_succ]
  refine wpAnyH_ready (rs := [2]) (by kernel_rfl) (by simp) ?_
  refine AllReadyH.cons rfl (fun K hK => ?_) AllReadyH.nil
  go_simp
  go_at_call 6
  have step := toComp_any b (.slice Bg b.rules.length dg) (.slice Bm b.mades.length dm) (.slice Bt b.null.kids.length dt) w.heap.size w12.drew (HB.out.under (HH12.out.trans ((Below.refl w12.heap.size w12).drew.mono (by have := HH12.out.size; omega))) (by omega)) (by have := ((HH12.out.trans ((Below.refl w12.heap.size w12).drew.mono (by have := HH12.out.size; omega)))).size; omega) (by omega)
  unfold cmV at step
  refine step.mono ?_
  clear step
  rintro e w13 ⟨g13, m13, t13, rfl, O13, b13⟩
  have z13 : w12.heap.size ≤ w13.heap.size := b13.size
  have HO13 := Lib.hid O13
  obtain ⟨G13, j13, M13, k13, T13, l13, rfl, rfl, rfl⟩ := shapes O13
  have B13 : Below w12.heap.size w12 w13 := belowD b13
  clear O13 b13
  go_wp2_with fail
  refine hK.out _ _ (B13) (fun hHeld => ?_)
  clear hK K
  refine wpAnyH_ready (rs := [3]) (by kernel_rfl) (by simp) ?_
  refine AllReadyH.cons rfl (fun K hK => ?_) AllReadyH.nil
  go_simp
  go_at_call 8
  have step := eqComp_any b true (.slice G8 b.rules.length j8) (.slice M8 b.mades.length k8) (.slice T8 b.null.kids.length l8) (.slice G13 b.rules.length j13) (.slice M13 b.mades.length k13) (.slice T13 b.null.kids.length l13) 0 w12.heap.size _ _ w13 ((HOB12.out.wide (Nat.zero_le _) (by omega)).under B13 (Nat.le_refl _)) HO13.out (by omega) (Nat.le_refl _)
  unfold cmV at step
  refine step.mono ?_
  clear step
  rintro e w14 ⟨rfl, b14⟩
  have B14 : Below w12.heap.size w12 w14 := B13.trans (b14.mono B13.size)
  clear b14
  go_wp2_with fail
  refine hK.out _ _ (B14) (fun hHeld => ?_)
  clear hK K
  refine wpAnyH_take (i := 4) (v := ?_) rfl (by kernel_rfl) (by kernel_rfl) (by kernel_rfl) (fun _ _ _ h => h) (Or.inl ⟨by rfl, ?_⟩) (by assumption) ?_
  rotate_left
  · intro w' hSw
    obtain ⟨y0, y1, y2, y3, y4, y5, y6, y7, y8, y9, y10, y11⟩ := HYB.out _ hSw
    clear hSw
    go_simp
    try with_reducible rfl
  simp only [Act.put, List.setIfInBounds_toArray, List.set_cons_zero, List.set_cons_succ, List.getElem_toArray, List.getElem_cons_zero, List.getElem_cons_succ]
  refine wpAnyH_done (by kernel_rfl) ?_ _
  have FIN := Lib.hid (HB2.out.trans ((HH12.out.trans (B14.mono HH12.out.size)).mono (by omega)))
  clear B13 B14
  go_wp2
  go_ret
  exact ⟨rfl, FIN.out⟩
end Go.Proofs.Ytlgedjpolmlciaa.fnExactCompSame
