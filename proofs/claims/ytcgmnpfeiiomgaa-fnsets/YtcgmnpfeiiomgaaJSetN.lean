import Derived.Test.YtcgmnpfeiiomgaaGramG
import Derived.Test.YtcgmnpfeiiomgaaJPick
import Derived.Test.YtcgmnpfeiiomgaaJRightb
import Derived.Laws.BitsAllLaws
/- The draws of a grammar and of a text: DrawGramText, DrawGramRead. -/
namespace Go.Proofs.Ytcgmnpfeiiomgaa.Dr
open Go.RowKit
open Go.Proofs.Ytcgmnpfeiiomgaa

theorem gramT_size (rs : List RuleD) : (gramT rs).size ≤ 800 := by
  cases hq : gramB rs
  · rw [gramT_f hq]; decide
  · rw [gramT_t hq]
    obtain ⟨_, h2, h3⟩ := (gramB_iff rs).1 hq
    have := Tx.textT_len (rs := rs) (fun i hi => Tx.short_of (h3 i hi)) rs.length (Nat.le_refl _)
    rw [List.take_length] at this
    show (Tx.textT rs).length ≤ 800
    omega
theorem grw_bel {p : Nat} {w w1 w2 : World} (h : w.grownBy w1 (some p)) (b : Below w1.heap.size w1 w2) : w.grownBy w2 (some p) := grw_trans h ⟨b.os, b.tape, b.output, b.size, fun k hk _ => b.block k hk⟩
theorem bel_grw {w w1 w2 : World} (b : Below w.heap.size w w1) (h : w1.grownBy w2 (some w.heap.size)) : Below w.heap.size w w2 :=
  b.trans ⟨h.os, h.tape, h.output, h.size, fun k hk => h.block k (by have := b.size; omega) (fun e => by injection e; omega)⟩

set_option maxRecDepth 100000 in
set_option maxHeartbeats 1000000 in
theorem drawGramText_any (w : World) (a : Option Addr) (len cap : Nat) (hb : IsBytes w w.heap.size a len) (hl : len ≤ 1048576) :
    Calls Try.prog 9 #[.slice a len cap] w fun e w' => ∃ v rs, e = .returned (.agg #[v]) ∧ Rules w' w.heap.size w'.heap.size v rs ∧ Below w.heap.size w w' := by
  have A0 := al1 w (.cells #[.slice none 0 0] 25)
  have R0 := Row.made w 25 #[.slice none 0 0]
  have HB := Lib.hid (hb.later A0)
  clear hb
  go_enter Try.func9, Try.ntmps9
  go_wp2_with fail
  refine (source_any _ a len cap HB.out hl).mono ?_
  rintro e w1 ⟨rfl, hs1, hb1⟩
  have z1 : w.heap.size + 1 ≤ w1.heap.size := by have := hb1.size; simpa using this
  have hs1' : Src w1 (w.heap.size + 1) (w.heap.size + 1) := by simpa using hs1
  have HB1 : Hid (Below (w.heap.size + 1) (w.alloc (.cells #[.slice none 0 0] 25)) w1) := Lib.hid (by simpa using hb1)
  clear hb1 hs1
  go_wp2_with fail
  refine (gramG_any _ _ _ hs1').mono ?_
  rintro e w2 ⟨v, rs, rfl, hr, hs2, hg⟩
  have r2 : Row w2 w.heap.size 25 #[.slice none 0 0] := (R0.below HB1.out (by omega)).same (hg.block _ (by omega) (fun e => by injection e; omega))
  have c2 := r2.cell 0
  have f2 := r2.free 0
  simp at c2
  have z2 := hg.size
  have bel2 : Below w.heap.size w w2 := A0.trans ((HB1.out.mono (by omega)).trans ⟨hg.os, hg.tape, hg.output, hg.size, fun k hk => hg.block k (by omega) (fun e => by injection e; omega)⟩)
  have FR : Hid (Rules (w2.setCell ⟨w.heap.size, 0, none⟩ v) w.heap.size (w2.setCell ⟨w.heap.size, 0, none⟩ v).heap.size v rs ∧ Below w.heap.size w (w2.setCell ⟨w.heap.size, 0, none⟩ v)) := Lib.hid ⟨((hr.keep (w' := w2.setCell ⟨w.heap.size, 0, none⟩ v) fun q h1 _ => Below.heap_setCell _ _ _ _ (by show q ≠ w.heap.size; omega)).more (by omega) (by simp [World.setCell])), bel2.setCell (Nat.le_refl _) _⟩
  obtain ⟨Av, cv, rfl, -⟩ := hr
  clear r2 bel2 hg hs2
  go_wp2
  exact bodyPost_ret (v := .agg #[.slice Av rs.length cv]) (by simp [results, Try.results9, go_sem, c2]) rfl ⟨_, rs, rfl, FR.out.1, FR.out.2⟩

def eleven : List ByteArray := [⟨#[]⟩, ⟨#[83, 32, 45, 62, 32, 126, 10]⟩, ⟨#[83, 32, 45, 62, 32, 97]⟩, ⟨#[83, 32, 45, 62, 10]⟩, ⟨#[83, 32, 45, 62, 32, 97, 32, 126, 10]⟩, ⟨#[115, 32, 45, 62, 32, 97, 10]⟩, ⟨#[83, 32, 45, 62, 32, 97, 32, 32, 98, 10]⟩, ⟨#[83, 32, 61, 62, 32, 97, 10]⟩, ⟨#[83, 32, 45, 62, 32, 97, 32, 98, 32, 99, 32, 100, 32, 101, 10]⟩, ⟨#[83, 32, 45, 62, 32, 97, 32, 98, 32, 99, 32, 100, 32, 101, 32, 102, 10]⟩, ⟨#[10]⟩]
set_option maxRecDepth 100000 in
set_option maxHeartbeats 2000000 in
theorem drawGramRead_any (w : World) (a : Option Addr) (len cap : Nat) (hb : IsBytes w w.heap.size a len) (hl : len ≤ 1048576) :
    Calls Try.prog 11 #[.slice a len cap] w (DrawT w 10000) := by
  go_enter Try.func11, Try.ntmps11
  go_wp2_with fail
  refine (source_any _ a len cap hb hl).mono ?_
  rintro e w1 ⟨rfl, hs1, hb1⟩
  go_wp2_with fail
  refine (gramOf_any _ _ _ hs1).mono ?_
  rintro e w2 ⟨v, xs, rfl, hf, -, -, -, -, hs2, hg2⟩
  have HB2 := Lib.hid (bel_grw hb1 hg2)
  have hru := hf.done.rules
  have hp2 := hs2.lt
  clear hb1 hg2 hs1
  go_wp2_with fail
  refine (specGramText_any _ v _ _ _ hru (Nat.le_refl _)).mono ?_
  rintro e w3 ⟨rfl, b3⟩
  have hts := gramT_size (xs.map (·.1))
  generalize gramT (xs.map (·.1)) = t at hts
  have hs3 : Src w3 w.heap.size w.heap.size := hs2.only fun k hk => b3.block k (by omega)
  have HB3 := Lib.hid (HB2.out.trans (b3.mono HB2.out.size))
  clear b3 hru hf hs2
  go_wp2_with fail
  refine (n_any _ _ _ 4 hs3 (by omega)).mono ?_
  rintro e w4 ⟨r, rfl, _, hr1, hs4, ho4⟩
  obtain ⟨hra, hrb⟩ := hr1 (by omega)
  obtain ⟨m, rfl⟩ := Int.eq_ofNat_of_zero_le hra
  have HB4 := Lib.hid (HB3.out.trans (ho4.below (Nat.le_refl _)))
  have hp4 := hs4.lt
  clear hr1 ho4 hs3
  by_cases m0 : m = 0
  · subst m0
    go_wp2_with fail
    refine (spoil_any _ _ _ t (by omega) hs4).mono ?_
    rintro e w5 ⟨u, rfl, hu, hs5, hg5⟩
    have HB5 := Lib.hid (bel_grw HB4.out hg5)
    clear hg5
    go_wp2
    go_ret
    exact ⟨u, rfl, by omega, HB5.out⟩
  have d0 : ((m : Int) == 0) = false := by simp; omega
  by_cases m1 : m = 1
  · subst m1
    go_wp2_with fail
    refine (pick_any _ _ _ w4.heap.size eleven 11 rfl (by omega) (by omega) (hs4.own (World.grownBy_alloc w4 _ none) hp4 (fun _ e => by cases e)) (Row.made w4 _ _) (by omega)).mono ?_
    rintro e w5 ⟨u, hu, rfl, hs5, ho5⟩
    have hsz := size_all (M := 100) (by decide +kernel) hu
    have HB5 := Lib.hid (HB4.out.trans (((al1 w4 _).mono HB4.out.size).trans (ho5.below (Nat.le_refl _))))
    clear hu ho5
    go_wp2
    go_ret
    exact ⟨u, rfl, by omega, HB5.out⟩
  have d1 : ((m : Int) == 1) = false := by simp; omega
  go_wp2
  go_ret
  exact ⟨t, rfl, by omega, HB4.out⟩
end Go.Proofs.Ytcgmnpfeiiomgaa.Dr

/- The draws of a symbol: DrawIsHead, DrawIsToken. -/
namespace Go.Proofs.Ytcgmnpfeiiomgaa.Dr
open Go.RowKit

set_option maxRecDepth 100000 in
set_option maxHeartbeats 1000000 in
theorem drawIsHead_any (w : World) (a : Option Addr) (len cap : Nat) (hb : IsBytes w w.heap.size a len) (hl : len ≤ 1048576) :
    Calls Try.prog 14 #[.slice a len cap] w (DrawT w 100) := by
  go_enter Try.func14, Try.ntmps14
  go_wp2_with fail
  refine (source_any w a len cap hb hl).mono ?_
  rintro e w1 ⟨rfl, hs1, hb1⟩
  have hp := hs1.lt
  go_wp2_with fail
  refine (pick_any _ _ _ w1.heap.size [⟨#[65]⟩, ⟨#[65, 66, 67, 68]⟩, ⟨#[65, 66, 67, 68, 69]⟩, ⟨#[]⟩, ⟨#[97]⟩, ⟨#[65, 49]⟩] 6 rfl (by omega) (by omega) (hs1.own (World.grownBy_alloc w1 _ none) hp (fun _ e => by cases e)) (Row.made w1 _ _) (by omega)).mono ?_
  rintro e w2 ⟨t, ht, rfl, hs2, ho⟩
  have hsz := size_all (M := 100) (by rfl) ht
  have HB := Lib.hid (hb1.trans (((al1 w1 _).mono hb1.size).trans (ho.below (Nat.le_refl _))))
  clear ht ho
  go_wp2
  go_ret
  exact ⟨t, rfl, hsz, HB.out⟩
set_option maxRecDepth 100000 in
set_option maxHeartbeats 1000000 in
theorem drawIsToken_any (w : World) (a : Option Addr) (len cap : Nat) (hb : IsBytes w w.heap.size a len) (hl : len ≤ 1048576) :
    Calls Try.prog 15 #[.slice a len cap] w (DrawT w 100) := by
  go_enter Try.func15, Try.ntmps15
  go_wp2_with fail
  refine (source_any w a len cap hb hl).mono ?_
  rintro e w1 ⟨rfl, hs1, hb1⟩
  have hp := hs1.lt
  go_wp2_with fail
  refine (pick_any _ _ _ w1.heap.size [⟨#[97]⟩, ⟨#[97, 98, 99, 100]⟩, ⟨#[97, 98, 99, 100, 101]⟩, ⟨#[]⟩, ⟨#[65]⟩, ⟨#[97, 49]⟩] 6 rfl (by omega) (by omega) (hs1.own (World.grownBy_alloc w1 _ none) hp (fun _ e => by cases e)) (Row.made w1 _ _) (by omega)).mono ?_
  rintro e w2 ⟨t, ht, rfl, hs2, ho⟩
  have hsz := size_all (M := 100) (by rfl) ht
  have HB := Lib.hid (hb1.trans (((al1 w1 _).mono hb1.size).trans (ho.below (Nat.le_refl _))))
  clear ht ho
  go_wp2
  go_ret
  exact ⟨t, rfl, hsz, HB.out⟩
end Go.Proofs.Ytcgmnpfeiiomgaa.Dr

/- The draws of FnSets: DrawUseful, DrawLeftOf. -/
namespace Go.Proofs.Ytcgmnpfeiiomgaa.Dr
open Go.RowKit
open Go.Proofs.Ytcgmnpfeiiomgaa

set_option maxRecDepth 100000 in
set_option maxHeartbeats 1000000 in
theorem drawUseful_any (w : World) (a : Option Addr) (len cap : Nat) (hb : IsBytes w w.heap.size a len) (hl : len ≤ 1048576) :
    Calls Try.prog 29 #[.slice a len cap] w fun e w' => ∃ v rs, e = .returned (.agg #[v]) ∧ Rules w' w.heap.size w'.heap.size v rs ∧ Below w.heap.size w w' := by
  have A0 := al1 w (.cells #[.slice none 0 0] 25)
  have R0 := Row.made w 25 #[.slice none 0 0]
  have HB := Lib.hid (hb.later A0)
  clear hb
  go_enter Try.func29, Try.ntmps29
  go_wp2_with fail
  refine (source_any _ a len cap HB.out hl).mono ?_
  rintro e w1 ⟨rfl, hs1, hb1⟩
  have z1 : w.heap.size + 1 ≤ w1.heap.size := by have := hb1.size; simpa using this
  have hs1' : Src w1 (w.heap.size + 1) (w.heap.size + 1) := by simpa using hs1
  have HB1 : Hid (Below (w.heap.size + 1) (w.alloc (.cells #[.slice none 0 0] 25)) w1) := Lib.hid (by simpa using hb1)
  clear hb1 hs1
  go_wp2_with fail
  refine (gramG_any _ _ _ hs1').mono ?_
  rintro e w2 ⟨v, rs, rfl, hr, hs2, hg⟩
  have r2 : Row w2 w.heap.size 25 #[.slice none 0 0] := (R0.below HB1.out (by omega)).same (hg.block _ (by omega) (fun e => by injection e; omega))
  have c2 := r2.cell 0
  have f2 := r2.free 0
  simp at c2
  have z2 := hg.size
  have bel2 : Below w.heap.size w w2 := A0.trans ((HB1.out.mono (by omega)).trans ⟨hg.os, hg.tape, hg.output, hg.size, fun k hk => hg.block k (by omega) (fun e => by injection e; omega)⟩)
  have FR : Hid (Rules (w2.setCell ⟨w.heap.size, 0, none⟩ v) w.heap.size (w2.setCell ⟨w.heap.size, 0, none⟩ v).heap.size v rs ∧ Below w.heap.size w (w2.setCell ⟨w.heap.size, 0, none⟩ v)) := Lib.hid ⟨((hr.keep (w' := w2.setCell ⟨w.heap.size, 0, none⟩ v) fun q h1 _ => Below.heap_setCell _ _ _ _ (by show q ≠ w.heap.size; omega)).more (by omega) (by simp [World.setCell])), bel2.setCell (Nat.le_refl _) _⟩
  obtain ⟨Av, cv, rfl, -⟩ := hr
  clear r2 bel2 hg hs2
  go_wp2
  exact bodyPost_ret (v := .agg #[.slice Av rs.length cv]) (by simp [results, Try.results29, go_sem, c2]) rfl ⟨_, rs, rfl, FR.out.1, FR.out.2⟩


set_option maxRecDepth 100000 in
set_option maxHeartbeats 1000000 in
theorem drawLeftOf_any (w : World) (a : Option Addr) (len cap : Nat) (hb : IsBytes w w.heap.size a len) (hl : len ≤ 1048576) :
    Calls Try.prog 34 #[.slice a len cap] w fun e w' => ∃ v rs h, e = .returned (.tuple #[.agg #[v], .string h]) ∧ h.size ≤ 100 ∧ Rules w' w.heap.size w'.heap.size v rs ∧ Below w.heap.size w w' := by
  have A0 := al1 w (.cells #[.slice none 0 0] 25)
  have R0 := Row.made w 25 #[.slice none 0 0]
  have HB := Lib.hid (hb.later A0)
  clear hb
  go_enter Try.func34, Try.ntmps34
  go_wp2_with fail
  refine (source_any _ a len cap HB.out hl).mono ?_
  rintro e w1 ⟨rfl, hs1, hb1⟩
  have z1 : w.heap.size + 1 ≤ w1.heap.size := by have := hb1.size; simpa using this
  have hs1' : Src w1 (w.heap.size + 1) (w.heap.size + 1) := by simpa using hs1
  have HB1 : Hid (Below (w.heap.size + 1) (w.alloc (.cells #[.slice none 0 0] 25)) w1) := Lib.hid (by simpa using hb1)
  have hp := hs1'.lt
  clear hb1 hs1
  go_wp2_with fail
  refine (pick_any _ _ _ w1.heap.size [⟨#[83]⟩, ⟨#[65]⟩, ⟨#[66]⟩, ⟨#[69]⟩, ⟨#[84]⟩, ⟨#[81]⟩] 6 rfl (by omega) (by omega) (hs1'.own (World.grownBy_alloc w1 _ none) hp (fun _ e => by cases e)) (Row.made w1 _ _) (by omega)).mono ?_
  rintro e w2 ⟨h, hh, rfl, hs2, ho2⟩
  have hsz := size_all (M := 100) (by rfl) hh
  have HB2 : Hid (Below (w.heap.size + 1) (w.alloc (.cells #[.slice none 0 0] 25)) w2) := Lib.hid (HB1.out.trans (((al1 w1 _).mono (by omega)).trans (ho2.below (Nat.le_refl _))))
  have z2 : w1.heap.size + 1 = w2.heap.size := by have := ho2.size; simp at this; omega
  have Z2 := Lib.hid z2
  clear hh ho2 HB1 z2
  go_wp2_with fail
  refine (gramG_any _ _ _ hs2).mono ?_
  rintro e w3 ⟨v, rs, rfl, hr, hs3, hg⟩
  have zz := Z2.out
  have r2 : Row w3 w.heap.size 25 #[.slice none 0 0] := (R0.below HB2.out (by omega)).same (hg.block _ (by omega) (fun e => by injection e; omega))
  have c2 := r2.cell 0
  have f2 := r2.free 0
  simp at c2
  have z3 := hg.size
  have bel2 : Below w.heap.size w w3 := A0.trans ((HB2.out.mono (by omega)).trans ⟨hg.os, hg.tape, hg.output, hg.size, fun k hk => hg.block k (by omega) (fun e => by injection e; omega)⟩)
  have FR : Hid (Rules (w3.setCell ⟨w.heap.size, 0, none⟩ v) w.heap.size (w3.setCell ⟨w.heap.size, 0, none⟩ v).heap.size v rs ∧ Below w.heap.size w (w3.setCell ⟨w.heap.size, 0, none⟩ v)) := Lib.hid ⟨((hr.keep (w' := w3.setCell ⟨w.heap.size, 0, none⟩ v) fun q h1 _ => Below.heap_setCell _ _ _ _ (by show q ≠ w.heap.size; omega)).more (by omega) (by simp [World.setCell])), bel2.setCell (Nat.le_refl _) _⟩
  obtain ⟨Av, cv, rfl, -⟩ := hr
  clear r2 bel2 hg hs3 zz
  go_wp2
  exact bodyPost_ret (v := .tuple #[.agg #[.slice Av rs.length cv], .string h]) (by simp [results, Try.results34, go_sem, c2]) rfl ⟨_, rs, h, rfl, hsz, FR.out.1, FR.out.2⟩
end Go.Proofs.Ytcgmnpfeiiomgaa.Dr

/- Sets as numbers, a bit a symbol; what a slice of such sets reads as; what a fixed point is. -/
namespace Go.Proofs.Ytcgmnpfeiiomgaa
open Go.RowKit

def joinAll (l : List Nat) : Nat := l.foldl (· ||| ·) 0
theorem joinAll_nil : joinAll [] = 0 := rfl
theorem joinAll_snoc (l : List Nat) (x : Nat) : joinAll (l ++ [x]) = joinAll l ||| x := by unfold joinAll; rw [List.foldl_append]; rfl
theorem joinAll_take {l : List Nat} {k : Nat} (h : k < l.length) : joinAll (l.take (k + 1)) = joinAll (l.take k) ||| l[k] := by
  rw [List.take_succ_eq_append_getElem h, joinAll_snoc]
theorem joinAll_two (a b : Nat) : joinAll [a, b] = a ||| b := by simp [joinAll]
theorem foldl_bit (l : List Nat) (a i : Nat) : (l.foldl (· ||| ·) a).testBit i = true ↔ a.testBit i = true ∨ ∃ x ∈ l, x.testBit i = true := by
  induction l generalizing a with
  | nil => simp
  | cons x l ih =>
    rw [List.foldl_cons, ih, Nat.testBit_or]
    simp [or_assoc]
theorem joinAll_bit (l : List Nat) (i : Nat) : (joinAll l).testBit i = true ↔ ∃ x ∈ l, x.testBit i = true := by
  unfold joinAll; rw [foldl_bit]; simp
theorem or_lt {a b : Nat} (ha : a < 4194304) (hb : b < 4194304) : a ||| b < 4194304 := Nat.or_lt_two_pow (n := 22) ha hb
theorem foldl_lt (l : List Nat) (a : Nat) (ha : a < 4194304) (h : ∀ x ∈ l, x < 4194304) : l.foldl (· ||| ·) a < 4194304 := by
  induction l generalizing a with
  | nil => exact ha
  | cons x l ih => exact ih _ (or_lt ha (h x (by simp))) fun y hy => h y (by simp [hy])
theorem joinAll_lt {l : List Nat} (h : ∀ x ∈ l, x < 4194304) : joinAll l < 4194304 := foldl_lt l 0 (by omega) h
theorem joinAll_take_lt {l : List Nat} (h : ∀ x ∈ l, x < 4194304) (k : Nat) : joinAll (l.take k) < 4194304 := joinAll_lt fun x hx => h x (List.mem_of_mem_take hx)
theorem or_eq (a b : Nat) (ha : a < 4194304) (hb : b < 4194304) : bits .or .u32 (a : Int) (b : Int) = ((a ||| b : Nat) : Int) := u32_or_nat a b (by omega) (by omega)

/-- is all of o in s? -/
def holdsB (s o : Nat) : Bool := decide (o ||| s = s)
theorem holdsB_iff (s o : Nat) : holdsB s o = true ↔ ∀ i, o.testBit i = true → s.testBit i = true := by
  unfold holdsB
  rw [decide_eq_true_eq]
  constructor
  · intro h i hi
    rw [← h, Nat.testBit_or, hi, Bool.true_or]
  · intro h
    apply Nat.eq_of_testBit_eq
    intro i
    rw [Nat.testBit_or]
    cases hi : o.testBit i
    · simp
    · rw [h i hi]; rfl
theorem holds_eq (s o : Nat) (hs : s < 4194304) (ho : o < 4194304) : (bits .andNot .u32 (o : Int) (s : Int) == 0) = holdsB s o := by
  rw [u32_andNot_nat o s (by omega) (by omega), Bool.eq_iff_iff, holdsB_iff]
  have e : 4294967295 - s = 2 ^ 32 - (s + 1) := by omega
  rw [e]
  constructor
  · intro h i hi
    have h0 : o &&& (2 ^ 32 - (s + 1)) = 0 := by simpa using h
    have h1 : (o &&& (2 ^ 32 - (s + 1))).testBit i = false := by rw [h0]; simp
    rw [Nat.testBit_and, hi, Nat.testBit_two_pow_sub_succ (by omega)] at h1
    have hi32 : i < 32 := by
      rcases Nat.lt_or_ge i 32 with h | h
      · exact h
      · have : o < 2 ^ i := Nat.lt_of_lt_of_le (show o < 2 ^ 32 by omega) (Nat.pow_le_pow_right (by omega) h)
        rw [Nat.testBit_lt_two_pow this] at hi
        cases hi
    simpa [hi32] using h1
  · intro h
    have h0 : o &&& (2 ^ 32 - (s + 1)) = 0 := by
      apply Nat.eq_of_testBit_eq
      intro i
      rw [Nat.testBit_and, Nat.testBit_two_pow_sub_succ (by omega)]
      cases hi : o.testBit i
      · simp
      · rw [h i hi]; simp
    rw [h0]; rfl

/-- a list of sets, in blocks ahead of hi -/
def BitsAt (w : World) (hi : Nat) (v : Value) (l : List Nat) : Prop :=
  ∃ A c, v = .slice A l.length c ∧ l.length ≤ c ∧ c ≤ maxLen ∧ (∀ x ∈ l, x < 4194304) ∧
    (0 < l.length → ∃ b off, A = some ⟨b, off, none⟩ ∧ b < hi ∧ ∀ i (h : i < l.length), w.cell? ⟨b, off + i, none⟩ = some (.int .u32 (l[i] : Nat)))
theorem BitsAt.below {w w' : World} {hi : Nat} {v : Value} {l : List Nat} (h : BitsAt w hi v l) {B : Nat} (b : Below B w w') (hB : hi ≤ B) : BitsAt w' hi v l := by
  obtain ⟨A, c, h1, h2, h3, h4, h5⟩ := h
  refine ⟨A, c, h1, h2, h3, h4, fun hp => ?_⟩
  obtain ⟨g, off, e, hg, hc⟩ := h5 hp
  exact ⟨g, off, e, hg, fun i hi => (b.cell (p := ⟨g, off + i, none⟩) (by show g < B; omega)).trans (hc i hi)⟩
theorem BitsAt.more {w : World} {hi hi' : Nat} {v : Value} {l : List Nat} (h : BitsAt w hi v l) (hh : hi ≤ hi') : BitsAt w hi' v l := by
  obtain ⟨A, c, h1, h2, h3, h4, h5⟩ := h
  refine ⟨A, c, h1, h2, h3, h4, fun hp => ?_⟩
  obtain ⟨g, off, e, hg, hc⟩ := h5 hp
  exact ⟨g, off, e, by omega, hc⟩
theorem BitsAt.two {w : World} {g : Nat} {t : TypeId} {a b : Nat} (h : Row w g t #[.int .u32 (a : Int), .int .u32 (b : Int)]) (ha : a < 4194304) (hb : b < 4194304) :
    BitsAt w w.heap.size (.slice (some ⟨g, 0, none⟩) 2 2) [a, b] := by
  refine ⟨_, 2, rfl, by simp, by unfold maxLen; omega, by simp [ha, hb], fun _ => ⟨g, 0, rfl, h.lt, fun i hi => ?_⟩⟩
  rw [Nat.zero_add, h.cell]
  match i, hi with
  | 0, _ => rfl
  | 1, _ => rfl

/-- what is come to of b, by F again and again, till nothing changes -/
def FixAt (F : Nat → Nat) (b n : Nat) : Prop :=
  n < 4194304 ∧ (∀ i, b.testBit i = true → n.testBit i = true) ∧ (∀ i, (F n).testBit i = true → n.testBit i = true) ∧
    ∀ P : Nat → Prop, P b → (∀ k, k < 4194304 → P k → P (k ||| F k)) → P n
end Go.Proofs.Ytcgmnpfeiiomgaa
