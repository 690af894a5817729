import Derived.Test.YtokdhgocgicdnaaGreatDoorJWfin
import Derived.StillTailTactics
import Derived.Deep.QuietTactic
import Derived.BigQuiet
import Derived.Test.YtokdhgocgicdnaaGreatDoorJSad
import Derived.Test.YtokdhgocgicdnaaGreatDoorJSsy
import Derived.Test.YtokdhgocgicdnaaGreatDoorJEq
/- The walks of searchStart and Derives. -/
namespace Go.Proofs.YtokdhgocgicdnaaGreatDoor
open Go.RowKit Go.Maps Go.Conc

/-- what searchStart hands back -/
def StartS (w : World) (rs : List RuleD) (t : List ByteArray) (e : Ending) (w' : World) : Prop :=
  ∃ (E : Env) (M : List WtM) (S : St), e = .returned (.tuple #[E.v (frs rs).length t.length, .bool true]) ∧ Sea w' E (frs rs) t M S ∧ Started rs t S ∧ w.heap.size ≤ E.base ∧ Below w.heap.size w w'
theorem below_six {B : Nat} {w0 w : World} {g : Nat} (h : Below B w0 w) (hg : B ≤ g) (a b c d e f : Value) : Below B w0 ((((((w.setCell ⟨g, 0, none⟩ a).setCell ⟨g, 1, none⟩ b).setCell ⟨g, 2, none⟩ c).setCell ⟨g, 3, none⟩ d).setCell ⟨g, 4, none⟩ e).setCell ⟨g, 5, none⟩ f) :=
  (((((h.setCell (p := ⟨g, 0, none⟩) hg a).setCell (p := ⟨g, 1, none⟩) hg b).setCell (p := ⟨g, 2, none⟩) hg c).setCell (p := ⟨g, 3, none⟩) hg d).setCell (p := ⟨g, 4, none⟩) hg e).setCell (p := ⟨g, 5, none⟩) hg f
/-- a block without texts has turned, and nothing else: lists of texts, rules and a search don't see it -/
theorem Strs.but {w w' : World} {lo hi : Nat} {v : Value} {ss : List ByteArray} (h : Strs w lo hi v ss) {g : Nat} {ty : TypeId} {cur : Array Value} (r : Row w g ty cur) (hc : ∀ (i : Nat) (s : ByteArray), cur[i]? ≠ some (Value.string s)) (hk : ∀ k, k ≠ g → w'.heap[k]? = w.heap[k]?) : Strs w' lo hi v ss := by
  obtain ⟨A, c, h1, h2, h3, h4, h5⟩ := h
  refine ⟨A, c, h1, h2, h3, h4, fun hp => ?_⟩
  obtain ⟨b, off, e, hl, hh, hcc⟩ := h5 hp
  have hne : b ≠ g := by
    rintro rfl
    have := hcc 0 hp
    rw [r.cell] at this
    exact hc _ _ this
  exact ⟨b, off, e, hl, hh, fun i hi => (World.cell?_of_block (w := w) (hk b hne)).trans (hcc i hi)⟩
theorem Rules.but {w w' : World} {lo hi : Nat} {v : Value} {rs : List RuleD} (h : Rules w lo hi v rs) {g : Nat} {ty : TypeId} {cur : Array Value} (r : Row w g ty cur) (hc : ∀ (i : Nat) (s : ByteArray), cur[i]? ≠ some (Value.string s)) (hk : ∀ k, k ≠ g → w'.heap[k]? = w.heap[k]?) : Rules w' lo hi v rs := by
  obtain ⟨A, c, h1, h2, h3, h5⟩ := h
  refine ⟨A, c, h1, h2, h3, fun hp => ?_⟩
  obtain ⟨b, off, e, hl, hh, hcc⟩ := h5 hp
  have hne : b ≠ g := by
    rintro rfl
    have := (hcc 0 hp).2.1
    rw [r.cell] at this
    exact hc _ _ this
  refine ⟨b, off, e, hl, hh, fun i hi => ?_⟩
  obtain ⟨a1, a2, u, a3, a4⟩ := hcc i hi
  exact ⟨a1, (World.cell?_of_block (w := w) (hk b hne)).trans a2, u, (World.cell?_of_block (w := w) (hk b hne)).trans a3, a4.but r hc hk⟩
theorem Sea.but {w w' : World} {E : Env} {rs : List RuleD} {t : List ByteArray} {M : List WtM} {S : St} (s : Sea w E rs t M S) {g : Nat} {ty : TypeId} {cur : Array Value} (r : Row w g ty cur) (hc : ∀ (i : Nat) (s : ByteArray), cur[i]? ≠ some (Value.string s)) (hk : ∀ k, k ≠ g → w'.heap[k]? = w.heap[k]?) (hT : ¬ E.T M g) : Sea w' E rs t M S := by
  have h : ∀ k, E.T M k → w'.heap[k]? = w.heap[k]? := fun k ht => hk k fun e => hT (by rw [← e]; exact ht)
  obtain ⟨a, b, hq⟩ := s.queue
  exact ⟨s.fits, s.inv, s.rules.but r hc hk, s.text.but r hc hk, s.hib, s.known.keep (h _ (.inl rfl)), s.found.keep (h _ (.inr (.inl rfl))), s.wait.keep (h _ (.inr (.inr (.inl rfl)))),
    ⟨a, b, (h _ (.inr (.inr (.inr (.inl rfl))))).trans hq⟩, s.room, fun e he => ⟨WtM.row_keep (s.rows e he).1 (h _ (.inr (.inr (.inr (.inr ⟨e, he, rfl⟩))))), (s.rows e he).2⟩, s.all, s.keys, s.blks, s.low, s.apart⟩
theorem heap_six {w : World} {g k : Nat} (a b c d e f : Value) (hk : k ≠ g) : ((((((w.setCell ⟨g, 0, none⟩ a).setCell ⟨g, 1, none⟩ b).setCell ⟨g, 2, none⟩ c).setCell ⟨g, 3, none⟩ d).setCell ⟨g, 4, none⟩ e).setCell ⟨g, 5, none⟩ f).heap[k]? = w.heap[k]? := by
  rw [Below.heap_setCell _ _ _ _ hk, Below.heap_setCell _ _ _ _ hk, Below.heap_setCell _ _ _ _ hk, Below.heap_setCell _ _ _ _ hk, Below.heap_setCell _ _ _ _ hk, Below.heap_setCell _ _ _ _ hk]
theorem Row.one4 {w : World} {g : Nat} {ty : TypeId} {a : Value} (r : Row w g ty #[a]) : w.cell? ⟨g, 0, none⟩ = some a := r.cell 0

set_option maxRecDepth 100000 in
set_option maxHeartbeats 4000000 in
theorem searchStart_no (rs : List RuleD) (t : List ByteArray) (v tv : Value) (lo hi lo2 hi2 : Nat) (w : World) (h : Rules w lo hi v rs) (hh : hi ≤ w.heap.size) (h2 : Strs w lo2 hi2 tv t) (hh2 : hi2 ≤ w.heap.size) (hno : (gramB rs && textB t) = false) :
    Calls Tryz.prog 44 #[.agg #[v], tv] w fun e w' => e = .returned (.tuple #[.agg #[.slice none 0 0, .slice none 0 0, .map none, .map none, .map none, .chan none], .bool false]) ∧ Below w.heap.size w w' := by
  have HV := Lib.hid h
  have HW := Lib.hid h2
  obtain ⟨A, c, rfl, -⟩ := h
  obtain ⟨B, d, rfl, -⟩ := h2
  have hb := al2 w (.cells #[.slice A rs.length c] 25) (.cells #[.slice none 0 0, .slice none 0 0, .map none, .map none, .map none, .chan none] 78)
  have R1 := Row.made1 w (.cells #[.slice A rs.length c] 25) 78 #[.slice none 0 0, .slice none 0 0, .map none, .map none, .map none, .chan none]
  have hsz : ((w.alloc (.cells #[.slice A rs.length c] 25)).alloc (.cells #[.slice none 0 0, .slice none 0 0, .map none, .map none, .map none, .chan none] 78)).heap.size = w.heap.size + 2 := by simp
  have HSZ := Lib.hid hsz
  have HR1 := Lib.hid R1
  have HB := Lib.hid hb
  clear hsz R1 hb
  cases hq : gramB rs
  · have HQ := Lib.hid hq
    clear hq hno
    go_enter Tryz.func44, Tryz.ntmps44
    go_wp2_with fail
    refine (implGramRight_any rs _ lo hi _ (HV.out.below HB.out hh) (by rw [HSZ.out]; omega)).mono ?_
    rintro _ w1 ⟨rfl, b1⟩
    rw [HQ.out]
    have r1 := HR1.out.below b1 HR1.out.lt
    obtain ⟨p0, p1, p2, p3, p4, p5⟩ := r1.six
    have f0 := r1.free 0
    have f1 := r1.free 1
    have f2 := r1.free 2
    have f3 := r1.free 3
    have f4 := r1.free 4
    have f5 := r1.free 5
    have l1 := r1.lt
    have HB1 := Lib.hid (HB.out.trans (b1.mono (by rw [HSZ.out]; omega)))
    clear b1 r1
    go_wp2
    exact bodyPost_ret (v := .tuple #[.agg #[.slice none 0 0, .slice none 0 0, .map none, .map none, .map none, .chan none], .bool false]) (by simp [results, Tryz.results44, go_sem, p0, p1, p2, p3, p4, p5]) rfl ⟨rfl, below_six HB1.out (by omega) _ _ _ _ _ _⟩
  · have ht : textB t = false := by rw [hq] at hno; simpa using hno
    have HQ := Lib.hid hq
    have HT := Lib.hid ht
    clear hq hno ht
    go_enter Tryz.func44, Tryz.ntmps44
    go_wp2_with fail
    refine (implGramRight_any rs _ lo hi _ (HV.out.below HB.out hh) (by rw [HSZ.out]; omega)).mono ?_
    rintro _ w1 ⟨rfl, b1⟩
    rw [HQ.out]
    have hb1 := HB.out.trans (b1.mono (by rw [HSZ.out]; omega))
    have r1 := HR1.out.below b1 HR1.out.lt
    have HR11 := Lib.hid r1
    have z1 := b1.size
    rw [HSZ.out] at z1
    have HB1 := Lib.hid hb1
    clear b1 r1 hb1
    go_wp2_with fail
    refine (textRight_any t _ lo2 hi2 _ (HW.out.below HB1.out hh2) (by omega)).mono ?_
    rintro _ w2 ⟨rfl, b2⟩
    rw [HT.out]
    have r1 := HR11.out.below b2 HR11.out.lt
    obtain ⟨p0, p1, p2, p3, p4, p5⟩ := r1.six
    have f0 := r1.free 0
    have f1 := r1.free 1
    have f2 := r1.free 2
    have f3 := r1.free 3
    have f4 := r1.free 4
    have f5 := r1.free 5
    have l1 := r1.lt
    have HB2 := Lib.hid (HB1.out.trans (b2.mono (by omega)))
    clear b2 r1
    go_wp2
    exact bodyPost_ret (v := .tuple #[.agg #[.slice none 0 0, .slice none 0 0, .map none, .map none, .map none, .chan none], .bool false]) (by simp [results, Tryz.results44, go_sem, p0, p1, p2, p3, p4, p5]) rfl ⟨rfl, below_six HB2.out (by omega) _ _ _ _ _ _⟩

set_option maxRecDepth 100000 in
set_option maxHeartbeats 4000000 in
theorem searchStart_yes (rs : List RuleD) (t : List ByteArray) (v tv : Value) (lo hi lo2 hi2 : Nat) (w : World) (h : Rules w lo hi v rs) (hh : hi ≤ w.heap.size) (h2 : Strs w lo2 hi2 tv t) (hh2 : hi2 ≤ w.heap.size) (hg : gramB rs = true) (ht : textB t = true) :
    Calls Tryz.prog 44 #[.agg #[v], tv] w (StartS w rs t) := by
  have HV := Lib.hid h
  have HW := Lib.hid h2
  have hpos := (Rt.of hg).one
  obtain ⟨A, c, rfl, -⟩ := h
  obtain ⟨B, d, rfl, -⟩ := h2
  obtain ⟨b, off, rfl, hbh, hlc, hcm, hsm, k0, -⟩ := HV.out.at (j := 0) (by omega)
  simp only [Nat.zero_mul, Nat.add_zero] at k0
  unfold maxLen at hcm
  have hr0 := ruleAt_eq (rs := rs) (i := 0) (by omega)
  rw [← hr0] at k0
  have HFT := Lib.hid (frs_fits hg ht)
  have hb := al2 w (.cells #[.slice (some ⟨b, off, none⟩) rs.length c] 25) (.cells #[.slice none 0 0, .slice none 0 0, .map none, .map none, .map none, .chan none] 78)
  have R0 := (Row.made w 25 #[.slice (some ⟨b, off, none⟩) rs.length c]).alloc (.cells #[.slice none 0 0, .slice none 0 0, .map none, .map none, .map none, .chan none] 78)
  have R1 := Row.made1 w (.cells #[.slice (some ⟨b, off, none⟩) rs.length c] 25) 78 #[.slice none 0 0, .slice none 0 0, .map none, .map none, .map none, .chan none]
  have hsz : ((w.alloc (.cells #[.slice (some ⟨b, off, none⟩) rs.length c] 25)).alloc (.cells #[.slice none 0 0, .slice none 0 0, .map none, .map none, .map none, .chan none] 78)).heap.size = w.heap.size + 2 := by simp
  have HSZ := Lib.hid hsz
  have HR1 := Lib.hid R1
  have HR0 := Lib.hid R0
  have HB := Lib.hid hb
  have HQ := Lib.hid hg
  have HT := Lib.hid ht
  have HK0 := Lib.hid k0
  clear hsz R1 R0 hb hg ht hr0 k0 hsm
  unfold StartS
  go_enter Tryz.func44, Tryz.ntmps44
  go_wp2_with fail
  refine (implGramRight_any rs _ lo hi _ (HV.out.below HB.out hh) (by rw [HSZ.out]; omega)).mono ?_
  rintro _ w1 ⟨rfl, b1⟩
  rw [HQ.out]
  have hb1 := HB.out.trans (b1.mono (by rw [HSZ.out]; omega))
  have r0 := HR0.out.below b1 HR0.out.lt
  have r1 := HR1.out.below b1 HR1.out.lt
  have HR01 := Lib.hid r0
  have HR11 := Lib.hid r1
  have z1 := b1.size
  rw [HSZ.out] at z1
  have HB1 := Lib.hid hb1
  clear b1 r0 r1 hb1
  go_wp2_with fail
  refine (textRight_any t _ lo2 hi2 _ (HW.out.below HB1.out hh2) (by omega)).mono ?_
  rintro _ w2 ⟨rfl, b2⟩
  rw [HT.out]
  have r0 := HR01.out.below b2 HR01.out.lt
  have r1 := HR11.out.below b2 HR11.out.lt
  have q0 := r0.one4
  have l0 := r0.lt
  have z2 := b2.size
  have HB2 := Lib.hid (HB1.out.trans (b2.mono (by omega)))
  have HR02 := Lib.hid r0
  have HR12 := Lib.hid r1
  clear b2 r0 r1
  go_wp2_with fail
  refine (newSearch_any rs t _ _ lo hi lo2 hi2 _ (HV.out.below HB2.out hh) (by omega) (HW.out.below HB2.out hh2) (by omega) HQ.out HT.out).mono ?_
  rintro _ w3 ⟨E, rfl, s3, hE3, b3⟩
  have hb3 := HB2.out.trans (b3.mono (by omega))
  have hbA := al1 w3 (.cells #[.slice E.A (frs rs).length E.c, .slice E.B t.length E.d, .map (some E.bk), .map (some E.bf), .map (some E.bw), .chan (some E.bq)] 78)
  have hb4 := hb3.trans (hbA.mono hb3.size)
  have s4 := s3.below hbA
  have r0 := (HR02.out.below b3 HR02.out.lt).alloc (.cells #[.slice E.A (frs rs).length E.c, .slice E.B t.length E.d, .map (some E.bk), .map (some E.bf), .map (some E.bw), .chan (some E.bq)] 78)
  have r1 := (HR12.out.below b3 HR12.out.lt).alloc (.cells #[.slice E.A (frs rs).length E.c, .slice E.B t.length E.d, .map (some E.bk), .map (some E.bf), .map (some E.bw), .chan (some E.bq)] 78)
  have rA := Row.made w3 78 #[.slice E.A (frs rs).length E.c, .slice E.B t.length E.d, .map (some E.bk), .map (some E.bf), .map (some E.bw), .chan (some E.bq)]
  have k4 := (hb4.cell (p := ⟨b, off, none⟩) (by show b < _; omega)).trans HK0.out
  have z3 := b3.size
  have hz4 := hbA.size
  have hb3l := s3.base_lt
  have hnT3 : ∀ q, q < E.base ∨ w3.heap.size ≤ q → ¬ E.T [] q := fun q hq ht => by
    have h1 := s3.T_low ht
    have h2 := s3.T_lt ht
    omega
  have HS4 := Lib.hid s4
  have HNT := Lib.hid hnT3
  have HB4 := Lib.hid hb4
  have HR04 := Lib.hid r0
  have HR14 := Lib.hid r1
  have HRA := Lib.hid rA
  have hzA : (w3.alloc (.cells #[.slice E.A (frs rs).length E.c, .slice E.B t.length E.d, .map (some E.bk), .map (some E.bf), .map (some E.bw), .chan (some E.bq)] 78)).heap.size = w3.heap.size + 1 := by simp
  have HZA := Lib.hid hzA
  have q0' := r0.one4
  obtain ⟨a0, a1, a2, a3, a4, a5⟩ := rA.six
  have l0' := r0.lt
  have lA := rA.lt
  have hb4' : b < (w3.alloc (.cells #[.slice E.A (frs rs).length E.c, .slice E.B t.length E.d, .map (some E.bk), .map (some E.bf), .map (some E.bw), .chan (some E.bq)] 78)).heap.size := by rw [hzA]; omega
  clear b3 hb3 hbA hb4 s3 s4 hnT3 r0 r1 rA hzA q0
  unfold Env.v
  have hpos0 : 0 < rs.length := by omega
  go_wp2
  generalize w3.alloc (.cells #[.slice E.A (frs rs).length E.c, .slice E.B t.length E.d, .map (some E.bk), .map (some E.bf), .map (some E.bw), .chan (some E.bq)] 78) = wA at *
  go_still_tail 7, (by kernel_rfl)
  go_wp2_with fail
  refine (ask_any E (frs rs) t [] St.none (ruleAt rs 0).head 0 _ (HS4.out.below (Below.refl _ _).drew) (Nat.zero_le _)).mono ?_
  rintro _ w5 ⟨rfl, s5, t5⟩
  have T5 : Turn (E.T []) _ w5 := (Turn.of_below (Below.refl _ _).drew).trans t5 fun _ h => .inl h
  have r1 := T5.row HR14.out (HNT.out _ (.inl (by omega)))
  have rA := T5.row HRA.out (HNT.out _ (.inr (Nat.le_refl _)))
  obtain ⟨c0, c1, c2, c3, c4, c5⟩ := rA.six
  have lA5 := rA.lt
  have HR15 := Lib.hid r1
  have HRA5 := Lib.hid rA
  have HS5 := Lib.hid s5
  have HT5 := Lib.hid T5
  have hz5 := T5.size
  rw [HZA.out] at hz5
  clear s5 t5 T5 r1 rA a0 a1 a2 a3 a4 a5 k4 q0'
  go_wp2_with fail
  refine (run_any E (frs rs) t [] _ _ HS5.out).mono ?_
  rintro _ w6 ⟨rfl, S6, hruns, hrc, M6, s6, t6, hT6⟩
  have r1 := t6.row HR15.out (HNT.out _ (.inl (by omega)))
  have rA := t6.row HRA5.out (HNT.out _ (.inr (Nat.le_refl _)))
  obtain ⟨e0, e1, e2, e3, e4, e5⟩ := rA.six
  obtain ⟨p0, p1, p2, p3, p4, p5⟩ := r1.six
  have f0 := r1.free 0
  have f1 := r1.free 1
  have f2 := r1.free 2
  have f3 := r1.free 3
  have f4 := r1.free 4
  have f5 := r1.free 5
  have l1 := r1.lt
  have lA6 := rA.lt
  have hST := Started.of HFT.out hruns hrc
  have hlow : ∀ k, E.T ([] : List WtM) k → w.heap.size ≤ k := fun k hk => by have := HS4.out.T_low hk; omega
  have BF := (HB4.out.trans ((HT5.out.below hlow (by rw [HZA.out]; omega)))).trans (t6.below hlow (by omega))
  have hnT : ¬ E.T M6 (w.heap.size + 1) := fun ht => by
    rcases hT6 _ ht with h1 | h1
    · exact HNT.out _ (.inl (by omega)) h1
    · omega
  have hno : ∀ (i : Nat) (s : ByteArray), (#[Value.slice none 0 0, .slice none 0 0, .map none, .map none, .map none, .chan none] : Array Value)[i]? ≠ some (Value.string s) := fun i s => by rcases i with _ | _ | _ | _ | _ | _ | i <;> simp
  have HSF : Hid (∀ a b c d e f, Sea ((((((w6.setCell ⟨w.heap.size + 1, 0, none⟩ a).setCell ⟨w.heap.size + 1, 1, none⟩ b).setCell ⟨w.heap.size + 1, 2, none⟩ c).setCell ⟨w.heap.size + 1, 3, none⟩ d).setCell ⟨w.heap.size + 1, 4, none⟩ e).setCell ⟨w.heap.size + 1, 5, none⟩ f) E (frs rs) t M6 S6) := Lib.hid fun a b c d e f => s6.but r1 hno (fun k hk => heap_six a b c d e f hk) hnT
  have HFIN := Lib.hid (And.intro hST BF)
  clear s6 t6 hT6 hruns hrc rA r1 hST BF hnT hno c0 c1 c2 c3 c4 c5
  go_wp2
  exact bodyPost_ret (v := .tuple #[E.v (frs rs).length t.length, .bool true]) (by simp [results, Tryz.results44, go_sem, p0, p1, p2, p3, p4, p5, Env.v]) rfl ⟨E, M6, S6, rfl, HSF.out _ _ _ _ _ _, HFIN.out.1, by omega, below_six HFIN.out.2 (by omega) _ _ _ _ _ _⟩
end Go.Proofs.YtokdhgocgicdnaaGreatDoor

/- The program's Derives. -/
namespace Go.Proofs.YtokdhgocgicdnaaGreatDoor
open Go.RowKit Go.Maps Go.Conc

/-- does the start come to the text? -/
def DerP (rs : List RuleD) (t : List ByteArray) : Prop := Der (· ∈ rs) t [(ruleAt rs 0).head] 0 t.length
open Classical in
noncomputable def derB (rs : List RuleD) (t : List ByteArray) : Bool := gramB rs && textB t && decide (DerP rs t)
theorem derB_no {rs : List RuleD} {t : List ByteArray} (h : (gramB rs && textB t) = false) : derB rs t = false := by unfold derB; rw [h]; rfl
theorem derB_yes {rs : List RuleD} {t : List ByteArray} (h1 : gramB rs = true) (h2 : textB t = true) (h : DerP rs t) : derB rs t = true := by unfold derB; rw [h1, h2]; simp [h]
theorem derB_not {rs : List RuleD} {t : List ByteArray} (h : ¬ DerP rs t) : derB rs t = false := by unfold derB; simp [h]

set_option maxRecDepth 100000 in
set_option maxHeartbeats 4000000 in
theorem implDerives_any (rs : List RuleD) (t : List ByteArray) (v tv : Value) (lo hi lo2 hi2 : Nat) (w : World) (h : Rules w lo hi v rs) (hh : hi ≤ w.heap.size) (h2 : Strs w lo2 hi2 tv t) (hh2 : hi2 ≤ w.heap.size) :
    Calls Tryz.prog 20 #[.agg #[v], tv] w fun e w' => e = .returned (.bool (derB rs t)) ∧ Below w.heap.size w w' := by
  have HV := Lib.hid h
  have HW := Lib.hid h2
  obtain ⟨A, c, rfl, -⟩ := h
  obtain ⟨B, d, rfl, -⟩ := h2
  have hb := al1 w (.cells #[.slice A rs.length c] 25)
  have R0 := Row.made w 25 #[.slice A rs.length c]
  have HB := Lib.hid hb
  have HR0 := Lib.hid R0
  have hsz : (w.alloc (.cells #[.slice A rs.length c] 25)).heap.size = w.heap.size + 1 := by simp
  have HSZ := Lib.hid hsz
  clear hb R0 hsz
  cases hq : (gramB rs && textB t)
  · have HQ := Lib.hid hq
    have HD := Lib.hid (derB_no hq)
    clear hq
    go_enter Tryz.func20, Tryz.ntmps20
    go_wp2_with fail
    refine (searchStart_no rs t _ _ lo hi lo2 hi2 _ (HV.out.below HB.out hh) (by rw [HSZ.out]; omega) (HW.out.below HB.out hh2) (by rw [HSZ.out]; omega) HQ.out).mono ?_
    rintro _ w1 ⟨rfl, b1⟩
    have B1 := (HB.out.trans (b1.mono (by rw [HSZ.out]; omega)))
    have B2 := B1.trans ((al1 w1 (.cells #[.slice none 0 0, .slice none 0 0, .map none, .map none, .map none, .chan none] 78)).mono B1.size)
    have HB2 := Lib.hid B2
    clear b1 B1 B2
    go_wp2
    go_quiet (fail)
    go_wp2
    go_ret
    exact ⟨ret_bool HD.out.symm, below_drewN HB2.out _⟩
  · have hg : gramB rs = true := by revert hq; cases gramB rs <;> simp
    have ht : textB t = true := by revert hq; cases textB t <;> simp
    have hpos := (Rt.of hg).one
    have h12 := ((textB_iff t).1 ht).1
    obtain ⟨b, off, rfl, hbh, hlc, hcm, hsm, k0, -⟩ := HV.out.at (j := 0) (by omega)
    simp only [Nat.zero_mul, Nat.add_zero] at k0
    unfold maxLen at hcm
    have hr0 := ruleAt_eq (rs := rs) (i := 0) (by omega)
    rw [← hr0] at k0
    have hhd : headB (ruleAt rs 0).head = true := by rw [hr0]; exact (Rt.of hg).head 0 (by omega)
    have HFT := Lib.hid (frs_fits hg ht)
    have HG := Lib.hid hg
    have HT := Lib.hid ht
    have HK0 := Lib.hid k0
    have HHD := Lib.hid hhd
    clear hq hg ht k0 hr0 hsm hhd
    go_enter Tryz.func20, Tryz.ntmps20
    go_wp2_with fail
    refine (searchStart_yes rs t _ _ lo hi lo2 hi2 _ (HV.out.below HB.out hh) (by rw [HSZ.out]; omega) (HW.out.below HB.out hh2) (by rw [HSZ.out]; omega) HG.out HT.out).mono ?_
    rintro _ w1 ⟨E, M, S, rfl, s1, hst, hE, b1⟩
    have B1 := (HB.out.trans (b1.mono (by rw [HSZ.out]; omega)))
    have hA := al1 w1 (.cells #[.slice E.A (frs rs).length E.c, .slice E.B t.length E.d, .map (some E.bk), .map (some E.bf), .map (some E.bw), .chan (some E.bq)] 78)
    have B2 := B1.trans (hA.mono B1.size)
    have HB2 := Lib.hid B2
    have s2 := s1.below hA
    have r0 := (HR0.out.below b1 HR0.out.lt).alloc (.cells #[.slice E.A (frs rs).length E.c, .slice E.B t.length E.d, .map (some E.bk), .map (some E.bf), .map (some E.bw), .chan (some E.bq)] 78)
    have rA := Row.made w1 78 #[.slice E.A (frs rs).length E.c, .slice E.B t.length E.d, .map (some E.bk), .map (some E.bf), .map (some E.bw), .chan (some E.bq)]
    have k2 := (B2.cell (p := ⟨b, off, none⟩) (by show b < _; omega)).trans HK0.out
    have q0 := r0.one4
    obtain ⟨a0, a1, a2, a3, a4, a5⟩ := rA.six
    have l0 := r0.lt
    have lA := rA.lt
    have hz1 := B1.size
    have hbl : b < (w1.alloc (.cells #[.slice E.A (frs rs).length E.c, .slice E.B t.length E.d, .map (some E.bk), .map (some E.bf), .map (some E.bw), .chan (some E.bq)] 78)).heap.size := by have := B2.size; omega
    have hpk := keyPiece (h := (ruleAt rs 0).head) (i := 0) (k := t.length) (by have := headB_size HHD.out; unfold maxLen; omega) (by omega) (by omega)
    have hisf := s2.isFound (h := (ruleAt rs 0).head) (i := 0) (k := t.length) (headB_size HHD.out) (by omega) (by omega)
    have hfd := hst.found HFT.out HHD.out t.length
    have hpos0 : 0 < rs.length := by omega
    by_cases hder : DerP rs t
    · have hlk : ∀ n, (Instr.lookup 74 (.map (some E.bf)) (.agg #[.string (ruleAt rs 0).head, .int .i64 0, .int .i64 (t.length : Int)]) false).run Tryz.prog ((w1.alloc (.cells #[.slice E.A (frs rs).length E.c, .slice E.B t.length E.d, .map (some E.bk), .map (some E.bf), .map (some E.bw), .chan (some E.bq)] 78)).drewN n) = .ok (.bool true) ((w1.alloc (.cells #[.slice E.A (frs rs).length E.c, .slice E.B t.length E.d, .map (some E.bk), .map (some E.bf), .map (some E.bw), .chan (some E.bq)] 78)).drewN n) := fun n => set_in (s2.found.keep rfl) kPiece Tryz.underlying74 hpk (hisf.2 (hfd.2 hder))
      have HD := Lib.hid (derB_yes HG.out HT.out hder)
      clear hder hfd hisf hpk s1 s2 hst b1 B1 B2 hA r0 rA
      unfold Env.v
      go_wp2
      generalize w1.alloc (.cells #[.slice E.A (frs rs).length E.c, .slice E.B t.length E.d, .map (some E.bk), .map (some E.bf), .map (some E.bw), .chan (some E.bq)] 78) = wA at *
      go_quiet (fail)
      go_wp2
      go_ret
      exact ⟨ret_bool HD.out.symm, below_drewN HB2.out _⟩
    · have hlk : ∀ n, (Instr.lookup 74 (.map (some E.bf)) (.agg #[.string (ruleAt rs 0).head, .int .i64 0, .int .i64 (t.length : Int)]) false).run Tryz.prog ((w1.alloc (.cells #[.slice E.A (frs rs).length E.c, .slice E.B t.length E.d, .map (some E.bk), .map (some E.bf), .map (some E.bw), .chan (some E.bq)] 78)).drewN n) = .ok (.bool false) ((w1.alloc (.cells #[.slice E.A (frs rs).length E.c, .slice E.B t.length E.d, .map (some E.bk), .map (some E.bf), .map (some E.bw), .chan (some E.bq)] 78)).drewN n) := fun n => set_out (s2.found.keep rfl) kPiece Tryz.underlying74 hpk (fun hm => hder (hfd.1 (hisf.1 hm)))
      have HD := Lib.hid (derB_not hder)
      clear hder hfd hisf hpk s1 s2 hst b1 B1 B2 hA r0 rA
      unfold Env.v
      go_wp2
      generalize w1.alloc (.cells #[.slice E.A (frs rs).length E.c, .slice E.B t.length E.d, .map (some E.bk), .map (some E.bf), .map (some E.bw), .chan (some E.bq)] 78) = wA at *
      go_quiet (fail)
      go_wp2
      go_ret
      exact ⟨ret_bool HD.out.symm, below_drewN HB2.out _⟩
end Go.Proofs.YtokdhgocgicdnaaGreatDoor

/- A right tree says what stands in its leaves, and that is said by the grammar: as data. No program stands in this text. -/
namespace Go.Proofs.YtokdhgocgicdnaaGreatDoor
open Go.RowKit

theorem symOK_some {s : ByteArray} (h : symOK s = true) : s.size ≠ 0 := by
  unfold symOK at h
  rw [Bool.or_eq_true] at h
  rcases h with h | h
  · have := ((symB_iff 65 90 s).1 h).1; omega
  · have := ((symB_iff 97 122 s).1 h).1; omega
/-- of a tree of a symbol: that comes to what stands in its leaves, and these are tokens -/
def SyD (rs : List RuleD) (t : TreeD) : Prop := (symT rs t).size ≠ 0 → ∀ a b : List ByteArray,
  Der (· ∈ rs) (a ++ yieldT t ++ b) [symT rs t] a.length (a.length + (yieldT t).length) ∧ ∀ s ∈ yieldT t, tokB s = true
theorem kids_der (rs : List RuleD) : ∀ (ts : List TreeD) (bs : List ByteArray), (∀ i (h : i < ts.length), SyD rs ts[i]) → allS rs ts bs = true → ts.length = bs.length → (∀ s ∈ bs, s.size ≠ 0) → ∀ a b : List ByteArray,
    Der (· ∈ rs) (a ++ yieldTs ts ++ b) bs a.length (a.length + (yieldTs ts).length) ∧ ∀ s ∈ yieldTs ts, tokB s = true
  | [], bs, _, _, hl, _, a, b => by
    have : bs = [] := List.length_eq_zero_iff.1 (by simpa using hl.symm)
    subst this
    exact ⟨.nil _, fun s hs => by cases hs⟩
  | t :: ts, [], _, _, hl, _, _, _ => by simp at hl
  | t :: ts, b0 :: bs, hts, hall, hl, hb, a, b => by
    rw [allS, Bool.and_eq_true, decide_eq_true_eq] at hall
    obtain ⟨h1, h2⟩ := hall
    have hne : (symT rs t).size ≠ 0 := by rw [h1]; exact hb b0 (List.mem_cons_self ..)
    obtain ⟨d1, k1⟩ := hts 0 (by simp) hne a (yieldTs ts ++ b)
    obtain ⟨d2, k2⟩ := kids_der rs ts bs (fun i h => hts (i + 1) (by simpa using h)) h2 (by simpa using hl) (fun s hs => hb s (List.mem_cons_of_mem _ hs)) (a ++ yieldT t) b
    have e1 : a ++ yieldTs (t :: ts) ++ b = a ++ yieldT t ++ (yieldTs ts ++ b) := by simp [yieldTs]
    have e2 : a ++ yieldTs (t :: ts) ++ b = (a ++ yieldT t) ++ yieldTs ts ++ b := by simp [yieldTs]
    have e3 : (yieldTs (t :: ts)).length = (yieldT t).length + (yieldTs ts).length := by simp [yieldTs]
    refine ⟨?_, fun s hs => ?_⟩
    · have d1' : Der (· ∈ rs) (a ++ yieldTs (t :: ts) ++ b) [b0] a.length (a.length + (yieldT t).length) := by rw [e1, ← h1]; exact d1
      have d2' : Der (· ∈ rs) (a ++ yieldTs (t :: ts) ++ b) bs (a.length + (yieldT t).length) (a.length + (yieldTs (t :: ts)).length) := by
        rw [e2, e3]
        simpa [Nat.add_assoc] using d2
      exact d1'.append d2'
    · have hs' : s ∈ yieldT t ++ yieldTs ts := hs
      rw [List.mem_append] at hs'
      rcases hs' with h | h
      · exact k1 s h
      · exact k2 s h
theorem sym_der {rs : List RuleD} (hg : gramB rs = true) (t : TreeD) : SyD rs t := by
  refine tree_ind (p := SyD rs) (fun t ih hne a b => ?_) t
  have he := symT_eq rs t
  by_cases h1 : t.tok.size ≠ 0 ∧ t.kids.length = 0
  · rw [if_pos h1] at he
    by_cases h2 : t.rule = -1 ∧ tokB t.tok = true
    · rw [if_pos h2] at he
      have hk : t.kids = [] := List.length_eq_zero_iff.1 h1.2
      have hy : yieldT t = [t.tok] := by rw [yieldT_eq, if_neg h1.1, hk]; rfl
      rw [he, hy]
      exact ⟨.tok (by simp) (.nil _), fun s hs => by rw [List.mem_singleton] at hs; rw [hs]; exact h2.2⟩
    · rw [if_neg h2] at he
      exact absurd (by rw [he]; rfl) hne
  · rw [if_neg h1] at he
    by_cases h2 : t.tok.size ≠ 0 ∨ t.rule < 0
    · rw [if_pos h2] at he
      exact absurd (by rw [he]; rfl) hne
    · rw [if_neg h2] at he
      cases hr : rs[t.rule.toNat]? with
      | none => rw [hr] at he; exact absurd (by rw [he]; rfl) hne
      | some r =>
        rw [hr] at he
        simp only at he
        by_cases h3 : t.kids.length = r.body.length ∧ allS rs t.kids r.body = true
        · rw [if_pos h3] at he
          have hm : r ∈ rs := List.mem_of_getElem? hr
          have hy : yieldT t = yieldTs t.kids := by rw [yieldT_eq, if_pos (by omega)]; rfl
          have hbs : ∀ s ∈ r.body, s.size ≠ 0 := fun s hs => by
            obtain ⟨i, hi, rfl⟩ := List.getElem_of_mem hm
            exact symOK_some ((Rt.of hg).body i hi s hs)
          obtain ⟨d, k⟩ := kids_der rs t.kids r.body ih h3.2 h3.1 hbs a b
          rw [he, hy]
          exact ⟨.one hm d, k⟩
        · rw [if_neg h3] at he
          exact absurd (by rw [he]; rfl) hne
theorem right_parts {rs : List RuleD} {t : TreeD} (h : (rightS rs t).size ≠ 0) : gramB rs = true ∧ sizeT t ≤ 200 ∧ rightS rs t = symT rs t := by
  unfold rightS at h ⊢
  by_cases hc : gramB rs = true ∧ sizeT t ≤ 200
  · rw [if_pos hc]; exact ⟨hc.1, hc.2, rfl⟩
  · rw [if_neg hc] at h; exact absurd rfl h
/-- what is said by a tree is said by the grammar -/
theorem says_der {rs : List RuleD} {ws : List ByteArray} {t : TreeD} (h : saysB rs ws t = true) (h12 : ws.length ≤ 12) : derB rs ws = true := by
  unfold saysB at h
  simp only [Bool.and_eq_true, decide_eq_true_eq] at h
  obtain ⟨⟨⟨_, h2⟩, h3⟩, h4⟩ := h
  obtain ⟨hg, hz, hs⟩ := right_parts h2
  have hy : yieldOf t = yieldT t := by unfold yieldOf; rw [if_pos hz]
  have hw : yieldT t = ws := by rw [← hy]; exact of_decide_eq_true h4
  have R := Rt.of hg
  have h0 : 0 < rs.length := R.one
  obtain ⟨d, k⟩ := sym_der hg t (by rw [← hs]; exact h2) [] []
  have hst : symT rs t = (ruleAt rs 0).head := by
    rw [← hs, h3, startTr_eq h0]
    unfold ruleAt
    rw [List.getD_eq_getElem?_getD, List.getElem?_eq_getElem h0]
    rfl
  refine derB_yes hg ((textB_iff ws).2 ⟨h12, fun s hs => k s (by rw [hw]; exact hs)⟩) ?_
  unfold DerP
  rw [hst, hw] at d
  simpa using d
/-- a right node of the start says what stands in its leaves -/
theorem right_says {rs : List RuleD} {t : TreeD} (h : rightB rs t = true) (hr : 0 ≤ t.rule) (hl : t.rule.toNat < rs.length) (h0 : 0 < rs.length) (hh : rs[t.rule.toNat].head = rs[0].head) : saysB rs (yieldOf t) t = true := by
  unfold rightB at h
  rw [decide_eq_true_eq] at h
  obtain ⟨hg, hz, hs⟩ := right_parts h
  have hy : yieldOf t = yieldT t := by unfold yieldOf; rw [if_pos hz]
  have hlen : (yieldOf t).length ≤ 400 := by rw [hy]; have := yieldT_len t; omega
  have hst : symT rs t = rs[t.rule.toNat].head := by
    have hne : (symT rs t).size ≠ 0 := by rw [← hs]; exact h
    have he := symT_eq rs t
    by_cases h1 : t.tok.size ≠ 0 ∧ t.kids.length = 0
    · rw [if_pos h1, if_neg (by omega)] at he
      exact absurd (by rw [he]; rfl) hne
    · rw [if_neg h1] at he
      by_cases h2 : t.tok.size ≠ 0 ∨ t.rule < 0
      · rw [if_pos h2] at he
        exact absurd (by rw [he]; rfl) hne
      · rw [if_neg h2, List.getElem?_eq_getElem hl] at he
        simp only at he
        by_cases h3 : t.kids.length = rs[t.rule.toNat].body.length ∧ allS rs t.kids rs[t.rule.toNat].body = true
        · rw [if_pos h3] at he; exact he
        · rw [if_neg h3] at he
          exact absurd (by rw [he]; rfl) hne
  unfold saysB
  simp only [Bool.and_eq_true, decide_eq_true_eq]
  exact ⟨⟨⟨hlen, h⟩, by rw [hs, hst, hh, startTr_eq h0]⟩, eqSs_t rfl⟩
theorem right_rule {rs : List RuleD} {t : TreeD} (h : rightB rs t = true) (hr : 0 ≤ t.rule) : t.rule.toNat < rs.length := by
  unfold rightB at h
  rw [decide_eq_true_eq] at h
  obtain ⟨-, -, hs⟩ := right_parts h
  have hne : (symT rs t).size ≠ 0 := by rw [← hs]; exact h
  have he := symT_eq rs t
  rcases Nat.lt_or_ge t.rule.toNat rs.length with hl | hl
  · exact hl
  · by_cases h1 : t.tok.size ≠ 0 ∧ t.kids.length = 0
    · rw [if_pos h1, if_neg (by omega)] at he
      exact absurd (by rw [he]; rfl) hne
    · rw [if_neg h1] at he
      by_cases h2 : t.tok.size ≠ 0 ∨ t.rule < 0
      · rw [if_pos h2] at he
        exact absurd (by rw [he]; rfl) hne
      · rw [if_neg h2, List.getElem?_eq_none hl] at he
        exact absurd (by rw [he]; rfl) hne
theorem yieldOf_size (t : TreeD) : (yieldOf t).length ≤ sizeT t := by
  unfold yieldOf
  split
  · exact yieldT_len t
  · simp
end Go.Proofs.YtokdhgocgicdnaaGreatDoor

/- Are two lists of texts alike? slices.Equal. -/
namespace Go.Proofs.YtokdhgocgicdnaaGreatDoor
open Go.RowKit

set_option maxRecDepth 100000 in
set_option maxHeartbeats 1000000 in
theorem slicesEqual_any (v u : Value) (ss ts : List ByteArray) (lo hi lo' hi' : Nat) (w : World) (h : Strs w lo hi v ss) (h' : Strs w lo' hi' u ts) :
    Calls Tryz.prog 25 #[v, u] w fun e w' => e = .returned (.bool (eqSs ss ts)) ∧ ∃ n, w' = w.drewN n := by
  obtain ⟨A, c, rfl, hlc, hc, hsz, hcell⟩ := h
  obtain ⟨A', c', rfl, hlc', hc', hsz', hcell'⟩ := h'
  unfold maxLen at hc hc'
  by_cases hn : ss.length = ts.length
  · have d0 : ((ss.length : Int) != (ts.length : Int)) = false := by rw [bne_eq_false_iff_eq]; omega
    have HN := Lib.hid hn
    have HC := Lib.hid hcell
    have HC' := Lib.hid hcell'
    clear hcell hsz hcell' hsz' hn
    go_enter Tryz.func25, Tryz.ntmps25
    go_wp2
    go_loopw [13] (fun i wr => ∃ (k n : Nat), k ≤ ss.length ∧ i = .int .i64 k ∧ wr = w.drewN n ∧ (∀ j (h : j < ss.length), j < k → ss[j] = ts[j]'(by have := HN.out; omega))) (fun i _ => ss.length - (intOf i).toNat)
    case atStart => exact ⟨0, 0, by omega, rfl, rfl, fun j _ hj => by omega⟩
    case round =>
      obtain ⟨k, n, hk, rfl, rfl, hall⟩ := hrel
      have HA := Lib.hid hall
      clear hall
      by_cases hlt : k < ss.length
      · have hlt' : k < ts.length := by have := HN.out; omega
        obtain ⟨b, off, rfl, _, hbh, hcc⟩ := HC.out (by omega)
        obtain ⟨b', off', rfl, _, hbh', hcc'⟩ := HC'.out (by omega)
        have hck := hcc k hlt
        have hck' := hcc' k hlt'
        have i1 : (k : Int) < (ss.length : Int) := by omega
        have i2 : (k : Int) < (ts.length : Int) := by omega
        clear hcc hcc'
        by_cases he : ss[k] = ts[k]
        · have d1 : (ss[k].toList == ts[k].toList) = true := by rw [list_eqE, decide_eq_true he]
          have HE := Lib.hid he
          clear he
          go_wp2
          go_quiet (fail)
          go_wp2
          go_roundw
          case rel => exact ⟨k + 1, _, by omega, by go_num, rfl, fun j hj hjk => by
            by_cases e : j = k
            · subst e; exact HE.out
            · exact HA.out j hj (by omega)⟩
          case measure => simp [intOf]; omega
        · have d1 : (ss[k].toList == ts[k].toList) = false := by rw [list_eqE, decide_eq_false he]
          go_wp2
          go_quiet (fail)
          go_wp2
          go_ret
          exact ⟨ret_boolE (eqSs_f (fun e => he (by subst e; rfl))).symm, _, World.drewN_drewN _ _ _⟩
      · go_wp2
        go_ret
        exact ⟨ret_boolE (eqSs_t (List.ext_getElem HN.out fun j h1 h2 => HA.out j h1 (by omega))).symm, _, rfl⟩
  · have d0 : ((ss.length : Int) != (ts.length : Int)) = true := by rw [bne_iff_ne]; omega
    go_enter Tryz.func25, Tryz.ntmps25
    go_wp2
    go_ret
    exact ⟨ret_boolE (eqSs_f (fun e => hn (by rw [e]))).symm, 0, rfl⟩

end Go.Proofs.YtokdhgocgicdnaaGreatDoor
