/- A Comp that came in, laid anew: toComp. -/
import Derived.Test.YtlgedjpolmlciaaJCme
namespace Go.Proofs.Ytlgedjpolmlciaa
open Go.RowKit

/-- the three boxes of toComp -/
structure TcI (w wr : World) (a cur : Array Value) : Prop where
  below : Below w.heap.size w wr
  r0 : Row wr w.heap.size 30 a
  r1 : Row wr (w.heap.size + 1) 41 #[.slice none 0 0, .slice none 0 0, .bool false, .int .i64 0, .int .i64 0, .slice none 0 0]
  r2 : Row wr (w.heap.size + 2) 41 cur
  size : w.heap.size + 3 ≤ wr.heap.size
theorem TcI.next {w wr w' : World} {a cur : Array Value} (h : TcI w wr a cur) (b : Below wr.heap.size wr w') : TcI w w' a cur :=
  ⟨h.below.trans (b.mono (by have := h.size; omega)), h.r0.below b h.r0.lt, h.r1.below b h.r1.lt, h.r2.below b h.r2.lt, Nat.le_trans h.size b.size⟩
theorem TcI.put {w wr : World} {a cur : Array Value} (h : TcI w wr a cur) (i : Nat) (v : Value) : TcI w (wr.setCell ⟨w.heap.size + 2, i, none⟩ v) a (cur.setIfInBounds i v) :=
  ⟨h.below.setCell (by show w.heap.size ≤ w.heap.size + 2; omega) _, h.r0.same (Below.heap_setCell _ _ _ _ (by show w.heap.size ≠ w.heap.size + 2; omega)), h.r1.same (Below.heap_setCell _ _ _ _ (by show w.heap.size + 1 ≠ w.heap.size + 2; omega)), h.r2.put i v, by simpa [World.setCell] using h.size⟩
theorem keeps_put (w wr : World) (i : Nat) (v : Value) (hi : Nat) : Keeps (w.heap.size + 3) hi wr (wr.setCell ⟨w.heap.size + 2, i, none⟩ v) := fun p h1 _ => Below.heap_setCell _ _ _ _ (by show p ≠ w.heap.size + 2; omega)
theorem size_put (w wr : World) (i : Nat) (v : Value) : (wr.setCell ⟨w.heap.size + 2, i, none⟩ v).heap.size = wr.heap.size := by simp [World.setCell]

def set6 (w : World) (g : Nat) (a b c d e f : Value) : World := (((((w.setCell ⟨g, 0, none⟩ a).setCell ⟨g, 1, none⟩ b).setCell ⟨g, 2, none⟩ c).setCell ⟨g, 3, none⟩ d).setCell ⟨g, 4, none⟩ e).setCell ⟨g, 5, none⟩ f
theorem set6_heap (w : World) (g : Nat) (a b c d e f : Value) (p : Nat) (h : p ≠ g) : (set6 w g a b c d e f).heap[p]? = w.heap[p]? := by
  unfold set6
  rw [Below.heap_setCell _ _ _ _ (by exact h), Below.heap_setCell _ _ _ _ (by exact h), Below.heap_setCell _ _ _ _ (by exact h), Below.heap_setCell _ _ _ _ (by exact h), Below.heap_setCell _ _ _ _ (by exact h), Below.heap_setCell _ _ _ _ (by exact h)]
theorem set6_size (w : World) (g : Nat) (a b c d e f : Value) : (set6 w g a b c d e f).heap.size = w.heap.size := by simp [set6, World.setCell]
theorem set6_row {w : World} {g : Nat} {t : TypeId} {x0 x1 x2 x3 x4 x5 : Value} (h : Row w g t #[x0, x1, x2, x3, x4, x5]) (a b c d e f : Value) : Row (set6 w g a b c d e f) g t #[a, b, c, d, e, f] := by
  have := (((((h.put 0 a).put 1 b).put 2 c).put 3 d).put 4 e).put 5 f
  unfold set6
  simpa using this
theorem set6_below {B : Nat} {w0 w : World} (h : Below B w0 w) {g : Nat} (hg : B ≤ g) (a b c d e f : Value) : Below B w0 (set6 w g a b c d e f) :=
  (((((h.setCell (p := ⟨g, 0, none⟩) hg a).setCell (p := ⟨g, 1, none⟩) hg b).setCell (p := ⟨g, 2, none⟩) hg c).setCell (p := ⟨g, 3, none⟩) hg d).setCell (p := ⟨g, 4, none⟩) hg e).setCell (p := ⟨g, 5, none⟩) hg f
set_option maxRecDepth 100000 in
set_option maxHeartbeats 4000000 in
theorem toComp_any (c : CompD) (vg vm vt : Value) (hi : Nat) (w : World) (h : CompAt false w 0 hi c vg vm vt) (hh : hi ≤ w.heap.size) (hn : bulkC c ≤ 1048576) :
    Calls Try.prog 6 #[cmV vg vm c vt] w fun e w' => ∃ ug um ut, e = .returned (cmV ug um c ut) ∧ CompAt true w' w.heap.size w'.heap.size c ug um ut ∧ Below w.heap.size w w' := by
  have hbc : bulkC c = bulkR c.rules + bulkDs c.mades + sizeMs c.null.kids := rfl
  have HC := Lib.hid h
  obtain ⟨Ag, cg, rfl, -⟩ := h.rules
  obtain ⟨Am, cm, rfl, -⟩ := h.mades
  obtain ⟨At, ct, Ut, rfl, -⟩ := h.kids.parts
  have HT0 : Hid (TcI w (((w.alloc (.cells #[.slice Ag c.rules.length cg, .slice Am c.mades.length cm, .bool c.has, .int .i64 c.null.kind, .int .i64 c.null.num, .slice At c.null.kids.length ct] 30)).alloc (.cells #[.slice none 0 0, .slice none 0 0, .bool false, .int .i64 0, .int .i64 0, .slice none 0 0] 41)).alloc (.cells #[.slice none 0 0, .slice none 0 0, .bool false, .int .i64 0, .int .i64 0, .slice none 0 0] 41)) #[.slice Ag c.rules.length cg, .slice Am c.mades.length cm, .bool c.has, .int .i64 c.null.kind, .int .i64 c.null.num, .slice At c.null.kids.length ct] #[.slice none 0 0, .slice none 0 0, .bool false, .int .i64 0, .int .i64 0, .slice none 0 0]) := Lib.hid
    ⟨al3 w _ _ _, ((Row.made w _ _).alloc _).alloc _, by simpa using (Row.made (w.alloc (.cells #[.slice Ag c.rules.length cg, .slice Am c.mades.length cm, .bool c.has, .int .i64 c.null.kind, .int .i64 c.null.num, .slice At c.null.kids.length ct] 30)) 41 #[.slice none 0 0, .slice none 0 0, .bool false, .int .i64 0, .int .i64 0, .slice none 0 0]).alloc (.cells #[.slice none 0 0, .slice none 0 0, .bool false, .int .i64 0, .int .i64 0, .slice none 0 0] 41),
      by simpa using Row.made ((w.alloc (.cells #[.slice Ag c.rules.length cg, .slice Am c.mades.length cm, .bool c.has, .int .i64 c.null.kind, .int .i64 c.null.num, .slice At c.null.kids.length ct] 30)).alloc (.cells #[.slice none 0 0, .slice none 0 0, .bool false, .int .i64 0, .int .i64 0, .slice none 0 0] 41)) 41 #[.slice none 0 0, .slice none 0 0, .bool false, .int .i64 0, .int .i64 0, .slice none 0 0], by simp⟩
  have e0 := HT0.out.r0.cell 0
  simp at e0
  clear h
  unfold cmV
  go_enter Try.func6, Try.ntmps6
  go_wp2_with fail
  generalize ((w.alloc (.cells #[.slice Ag c.rules.length cg, .slice Am c.mades.length cm, .bool c.has, .int .i64 c.null.kind, .int .i64 c.null.num, .slice At c.null.kids.length ct] 30)).alloc (.cells #[.slice none 0 0, .slice none 0 0, .bool false, .int .i64 0, .int .i64 0, .slice none 0 0] 41)).alloc (.cells #[.slice none 0 0, .slice none 0 0, .bool false, .int .i64 0, .int .i64 0, .slice none 0 0] 41) = w0 at HT0 ⊢
  clear e0
  have z0 := HT0.out.size
  refine (toGram_any _ c.rules 0 hi _ (HC.out.rules.below HT0.out.below hh) (by omega) (by omega)).mono ?_
  rintro e w1 ⟨ug, rfl, O1, b1⟩
  have HT1 := Lib.hid ((HT0.out.next b1).put 0 ug)
  have HR1 := Lib.hid (((O1.rules.more (show w.heap.size + 3 ≤ w0.heap.size from z0) (Nat.le_refl _))).keep (keeps_put w w1 0 ug _))
  have zz1 := size_put w w1 0 ug
  have t1 := HT0.out.next b1
  obtain ⟨c20, f20⟩ : w1.cell? ⟨w.heap.size + 2, 0, none⟩ = some (.slice none 0 0) ∧ w1.frozen? ⟨w.heap.size + 2, 0, none⟩ = false := ⟨by simpa using t1.r2.cell 0, t1.r2.free 0⟩
  have g1 := HT1.out.r0.cell 1
  simp at g1
  obtain ⟨Bg, dg, rfl, -⟩ := O1.rules
  clear O1 b1 t1
  go_wp2_with fail
  generalize w1.setCell ⟨w.heap.size + 2, 0, none⟩ (.slice Bg c.rules.length dg) = w2 at HT1 HR1 zz1 ⊢
  clear g1 c20 f20
  have z2 := HT1.out.size
  refine (toMadeS_any _ c.mades 0 hi _ (HC.out.mades.under HT1.out.below hh) (by omega) (by omega)).mono ?_
  rintro e w3 ⟨um, rfl, O3, b3⟩
  have HT3 := Lib.hid ((HT1.out.next b3).put 1 um)
  have HR3 := Lib.hid ((((HR1.out.below b3 (by omega)).more (Nat.le_refl _) (show w1.heap.size ≤ w3.heap.size by have := b3.size; omega))).keep (keeps_put w w3 1 um _))
  have HM3 := Lib.hid (((O3.dm.more (show w.heap.size + 3 ≤ w2.heap.size from z2) (Nat.le_refl _))).keep (keeps_put w w3 1 um _))
  have zz3 := size_put w w3 1 um
  have t3 := HT1.out.next b3
  obtain ⟨c21, f21⟩ : w3.cell? ⟨w.heap.size + 2, 1, none⟩ = some (.slice none 0 0) ∧ w3.frozen? ⟨w.heap.size + 2, 1, none⟩ = false := ⟨by simpa using t3.r2.cell 1, t3.r2.free 1⟩
  obtain ⟨Bm, dm, rfl, -⟩ := O3
  have g2 := HT3.out.r0.cell 2
  have g3 := HT3.out.r0.cell 3
  have g4 := HT3.out.r0.cell 4
  have g5 := HT3.out.r0.cell 5
  have h2 := HT3.out.r2.cell 2
  have h3 := HT3.out.r2.cell 3
  have h4 := HT3.out.r2.cell 4
  have h5 := HT3.out.r2.cell 5
  have k2 := HT3.out.r2.free 2
  simp at g2 g3 g4 g5 h2 h3 h4 h5
  have hw31 : w2.heap.size ≤ w3.heap.size := b3.size
  clear b3 t3
  have HT4 := Lib.hid (HT3.out.put 2 (.bool c.has))
  have HR4 := Lib.hid (HR3.out.keep (keeps_put w _ 2 (.bool c.has) _))
  have HM4 := Lib.hid (HM3.out.keep (keeps_put w _ 2 (.bool c.has) _))
  have zz4 := size_put w (w3.setCell ⟨w.heap.size + 2, 1, none⟩ (.slice Bm c.mades.length dm)) 2 (.bool c.has)
  go_wp2_with fail
  generalize (w3.setCell ⟨w.heap.size + 2, 1, none⟩ (.slice Bm c.mades.length dm)).setCell ⟨w.heap.size + 2, 2, none⟩ (.bool c.has) = w4 at HT4 HR4 HM4 zz4 ⊢
  clear g2 g3 g4 g5 h2 h3 h4 h5 k2 c21 f21
  have z4 := HT4.out.size
  have step := toTerm_any c.null (.slice At c.null.kids.length ct) 0 hi w4 (HC.out.kids.under HT4.out.below hh) (by omega) (by omega)
  unfold tmV at step
  refine step.mono ?_
  clear step
  rintro e w5 ⟨ut, rfl, O5, b5⟩
  have z5 := b5.size
  have HT5 := Lib.hid (HT4.out.next b5)
  have HR5 := Lib.hid ((HR4.out.below b5 (by omega)).more (Nat.le_refl _) (show w3.heap.size ≤ w5.heap.size by omega))
  have HM5 := Lib.hid ((HM4.out.under b5 (by omega)).more (Nat.le_refl _) (show w3.heap.size ≤ w5.heap.size by omega))
  have HK5 := Lib.hid (O5.1.more (show w.heap.size + 3 ≤ w4.heap.size from z4) (Nat.le_refl _))
  obtain ⟨Bt, dt, Vt, rfl, -⟩ := O5.1.parts
  have q0 := HT5.out.r2.cell 0
  have q1 := HT5.out.r2.cell 1
  have q2 := HT5.out.r2.cell 2
  have q3 := HT5.out.r2.cell 3
  have q4 := HT5.out.r2.cell 4
  have q5 := HT5.out.r2.cell 5
  have u0 := HT5.out.r2.free 0
  have u1 := HT5.out.r2.free 1
  have u2 := HT5.out.r2.free 2
  have u3 := HT5.out.r2.free 3
  have u4 := HT5.out.r2.free 4
  have u5 := HT5.out.r2.free 5
  have p0 := HT5.out.r1.cell 0
  have p1 := HT5.out.r1.cell 1
  have p2 := HT5.out.r1.cell 2
  have p3 := HT5.out.r1.cell 3
  have p4 := HT5.out.r1.cell 4
  have p5 := HT5.out.r1.cell 5
  have v0 := HT5.out.r1.free 0
  have v1 := HT5.out.r1.free 1
  have v2 := HT5.out.r1.free 2
  have v3 := HT5.out.r1.free 3
  have v4 := HT5.out.r1.free 4
  have v5 := HT5.out.r1.free 5
  simp at q0 q1 q2 q3 q4 q5 p0 p1 p2 p3 p4 p5
  clear O5 b5
  have HT8 := Lib.hid (((HT5.out.put 3 (.int .i64 c.null.kind)).put 4 (.int .i64 c.null.num)).put 5 (.slice Bt c.null.kids.length dt))
  have kk : Keeps (w.heap.size + 3) w5.heap.size w5 (((w5.setCell ⟨w.heap.size + 2, 3, none⟩ (.int .i64 c.null.kind)).setCell ⟨w.heap.size + 2, 4, none⟩ (.int .i64 c.null.num)).setCell ⟨w.heap.size + 2, 5, none⟩ (.slice Bt c.null.kids.length dt)) :=
    ((keeps_put w w5 3 _ _).trans (keeps_put w _ 4 _ _)).trans (keeps_put w _ 5 _ _)
  have hs8 : (((w5.setCell ⟨w.heap.size + 2, 3, none⟩ (.int .i64 c.null.kind)).setCell ⟨w.heap.size + 2, 4, none⟩ (.int .i64 c.null.num)).setCell ⟨w.heap.size + 2, 5, none⟩ (.slice Bt c.null.kids.length dt)).heap.size = w5.heap.size := by rw [size_put, size_put, size_put]
  have HKK := Lib.hid kk
  have HS8 := Lib.hid hs8
  clear kk hs8
  go_wp2
  have e8 : ∀ W : World, ((((((W.setCell ⟨w.heap.size + 1, 0, none⟩ (.slice Bg c.rules.length dg)).setCell ⟨w.heap.size + 1, 1, none⟩ (.slice Bm c.mades.length dm)).setCell ⟨w.heap.size + 1, 2, none⟩ (.bool c.has)).setCell ⟨w.heap.size + 1, 3, none⟩ (.int .i64 c.null.kind)).setCell ⟨w.heap.size + 1, 4, none⟩ (.int .i64 c.null.num)).setCell ⟨w.heap.size + 1, 5, none⟩ (.slice Bt c.null.kids.length dt)) = set6 W (w.heap.size + 1) (.slice Bg c.rules.length dg) (.slice Bm c.mades.length dm) (.bool c.has) (.int .i64 c.null.kind) (.int .i64 c.null.num) (.slice Bt c.null.kids.length dt) := fun _ => rfl
  rw [e8]
  clear e8
  generalize ((w5.setCell ⟨w.heap.size + 2, 3, none⟩ (.int .i64 c.null.kind)).setCell ⟨w.heap.size + 2, 4, none⟩ (.int .i64 c.null.num)).setCell ⟨w.heap.size + 2, 5, none⟩ (.slice Bt c.null.kids.length dt) = w8 at HT8 HKK HS8 ⊢
  obtain ⟨f0, f1, f2, f3, f4, f5, f6⟩ := (set6_row HT8.out.r1 (.slice Bg c.rules.length dg) (.slice Bm c.mades.length dm) (.bool c.has) (.int .i64 c.null.kind) (.int .i64 c.null.num) (.slice Bt c.null.kids.length dt)).six9
  have k9 : Keeps (w.heap.size + 3) w5.heap.size w5 (set6 w8 (w.heap.size + 1) (.slice Bg c.rules.length dg) (.slice Bm c.mades.length dm) (.bool c.has) (.int .i64 c.null.kind) (.int .i64 c.null.num) (.slice Bt c.null.kids.length dt)) := fun p h1 h2 => (set6_heap _ _ _ _ _ _ _ _ p (by omega)).trans (HKK.out p h1 h2)
  have s9 : (set6 w8 (w.heap.size + 1) (.slice Bg c.rules.length dg) (.slice Bm c.mades.length dm) (.bool c.has) (.int .i64 c.null.kind) (.int .i64 c.null.num) (.slice Bt c.null.kids.length dt)).heap.size = w5.heap.size := (set6_size _ _ _ _ _ _ _ _).trans HS8.out
  refine bodyPost_ret (v := .agg #[.slice Bg c.rules.length dg, .slice Bm c.mades.length dm, .bool c.has, .int .i64 c.null.kind, .int .i64 c.null.num, .slice Bt c.null.kids.length dt]) (by simp [results, Try.results6, go_sem, f0, f1, f2, f3, f4, f5]) rfl ⟨_, _, _, rfl, ⟨?_, ?_, HC.out.top, ?_⟩, set6_below HT8.out.below (by omega) _ _ _ _ _ _⟩
  · rw [s9]; exact (HR5.out.keep k9).more (by omega) (Nat.le_refl _)
  · rw [s9]; exact (HM5.out.keep k9).more (by omega) (Nat.le_refl _)
  · rw [s9]; exact (HK5.out.keep k9).more (by omega) (Nat.le_refl _)
end Go.Proofs.Ytlgedjpolmlciaa
