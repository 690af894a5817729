/- The draws of a grammar and of a text: DrawGramText, DrawGramRead. -/
import Derived.Test.YtojmcjcdcneikaaGramG
namespace Go.Proofs.Ytojmcjcdcneikaa.Dr
open Go.RowKit
open Go.Proofs.Ytojmcjcdcneikaa

theorem gramT_size (rs : List RuleD) : (gramT rs).size ≤ 800 := by
  cases hq : gramB rs
  · rw [gramT_f hq]; decide
  · rw [gramT_t hq]
    obtain ⟨_, h2, h3⟩ := (gramB_iff rs).1 hq
    have := Tx.textT_len (rs := rs) (fun i hi => Tx.short_of (h3 i hi)) rs.length (Nat.le_refl _)
    rw [List.take_length] at this
    show (Tx.textT rs).length ≤ 800
    omega
theorem grw_bel {p : Nat} {w w1 w2 : World} (h : w.grownBy w1 (some p)) (b : Below w1.heap.size w1 w2) : w.grownBy w2 (some p) := grw_trans h ⟨b.os, b.tape, b.output, b.size, fun k hk _ => b.block k hk⟩
theorem bel_grw {w w1 w2 : World} (b : Below w.heap.size w w1) (h : w1.grownBy w2 (some w.heap.size)) : Below w.heap.size w w2 :=
  b.trans ⟨h.os, h.tape, h.output, h.size, fun k hk => h.block k (by have := b.size; omega) (fun e => by injection e; omega)⟩

set_option maxRecDepth 100000 in
set_option maxHeartbeats 1000000 in
theorem drawGramText_any (w : World) (a : Option Addr) (len cap : Nat) (hb : IsBytes w w.heap.size a len) (hl : len ≤ 1048576) :
    Calls Try.prog 11 #[.slice a len cap] w fun e w' => ∃ v rs, e = .returned (.agg #[v]) ∧ Rules w' w.heap.size w'.heap.size v rs ∧ Below w.heap.size w w' := by
  have A0 := al1 w (.cells #[.slice none 0 0] 25)
  have R0 := Row.made w 25 #[.slice none 0 0]
  have HB := Lib.hid (hb.later A0)
  clear hb
  go_enter Try.func11, Try.ntmps11
  go_wp2_with fail
  refine (source_any _ a len cap HB.out hl).mono ?_
  rintro e w1 ⟨rfl, hs1, hb1⟩
  have z1 : w.heap.size + 1 ≤ w1.heap.size := by have := hb1.size; simpa using this
  have hs1' : Src w1 (w.heap.size + 1) (w.heap.size + 1) := by simpa using hs1
  have HB1 : Hid (Below (w.heap.size + 1) (w.alloc (.cells #[.slice none 0 0] 25)) w1) := Lib.hid (by simpa using hb1)
  clear hb1 hs1
  go_wp2_with fail
  refine (gramG_any _ _ _ hs1').mono ?_
  rintro e w2 ⟨v, rs, rfl, hr, hs2, hg⟩
  have r2 : Row w2 w.heap.size 25 #[.slice none 0 0] := (R0.below HB1.out (by omega)).same (hg.block _ (by omega) (fun e => by injection e; omega))
  have c2 := r2.cell 0
  have f2 := r2.free 0
  simp at c2
  have z2 := hg.size
  have bel2 : Below w.heap.size w w2 := A0.trans ((HB1.out.mono (by omega)).trans ⟨hg.os, hg.tape, hg.output, hg.size, fun k hk => hg.block k (by omega) (fun e => by injection e; omega)⟩)
  have FR : Hid (Rules (w2.setCell ⟨w.heap.size, 0, none⟩ v) w.heap.size (w2.setCell ⟨w.heap.size, 0, none⟩ v).heap.size v rs ∧ Below w.heap.size w (w2.setCell ⟨w.heap.size, 0, none⟩ v)) := Lib.hid ⟨((hr.keep (w' := w2.setCell ⟨w.heap.size, 0, none⟩ v) fun q h1 _ => Below.heap_setCell _ _ _ _ (by show q ≠ w.heap.size; omega)).more (by omega) (by simp [World.setCell])), bel2.setCell (Nat.le_refl _) _⟩
  obtain ⟨Av, cv, rfl, -⟩ := hr
  clear r2 bel2 hg hs2
  go_wp2
  exact bodyPost_ret (v := .agg #[.slice Av rs.length cv]) (by simp [results, Try.results11, go_sem, c2]) rfl ⟨_, rs, rfl, FR.out.1, FR.out.2⟩

def eleven : List ByteArray := [⟨#[]⟩, ⟨#[83, 32, 45, 62, 32, 126, 10]⟩, ⟨#[83, 32, 45, 62, 32, 97]⟩, ⟨#[83, 32, 45, 62, 10]⟩, ⟨#[83, 32, 45, 62, 32, 97, 32, 126, 10]⟩, ⟨#[115, 32, 45, 62, 32, 97, 10]⟩, ⟨#[83, 32, 45, 62, 32, 97, 32, 32, 98, 10]⟩, ⟨#[83, 32, 61, 62, 32, 97, 10]⟩, ⟨#[83, 32, 45, 62, 32, 97, 32, 98, 32, 99, 32, 100, 32, 101, 10]⟩, ⟨#[83, 32, 45, 62, 32, 97, 32, 98, 32, 99, 32, 100, 32, 101, 32, 102, 10]⟩, ⟨#[10]⟩]
set_option maxRecDepth 100000 in
set_option maxHeartbeats 2000000 in
theorem drawGramRead_any (w : World) (a : Option Addr) (len cap : Nat) (hb : IsBytes w w.heap.size a len) (hl : len ≤ 1048576) :
    Calls Try.prog 13 #[.slice a len cap] w (DrawT w 10000) := by
  go_enter Try.func13, Try.ntmps13
  go_wp2_with fail
  refine (source_any _ a len cap hb hl).mono ?_
  rintro e w1 ⟨rfl, hs1, hb1⟩
  go_wp2_with fail
  refine (gramOf_any _ _ _ hs1).mono ?_
  rintro e w2 ⟨v, xs, rfl, hf, -, -, -, -, hs2, hg2⟩
  have HB2 := Lib.hid (bel_grw hb1 hg2)
  have hru := hf.done.rules
  have hp2 := hs2.lt
  clear hb1 hg2 hs1
  go_wp2_with fail
  refine (specGramText_any _ v _ _ _ hru (Nat.le_refl _)).mono ?_
  rintro e w3 ⟨rfl, b3⟩
  have hts := gramT_size (xs.map (·.1))
  generalize gramT (xs.map (·.1)) = t at hts
  have hs3 : Src w3 w.heap.size w.heap.size := hs2.only fun k hk => b3.block k (by omega)
  have HB3 := Lib.hid (HB2.out.trans (b3.mono HB2.out.size))
  clear b3 hru hf hs2
  go_wp2_with fail
  refine (n_any _ _ _ 4 hs3 (by omega)).mono ?_
  rintro e w4 ⟨r, rfl, _, hr1, hs4, ho4⟩
  obtain ⟨hra, hrb⟩ := hr1 (by omega)
  obtain ⟨m, rfl⟩ := Int.eq_ofNat_of_zero_le hra
  have HB4 := Lib.hid (HB3.out.trans (ho4.below (Nat.le_refl _)))
  have hp4 := hs4.lt
  clear hr1 ho4 hs3
  by_cases m0 : m = 0
  · subst m0
    go_wp2_with fail
    refine (spoil_any _ _ _ t (by omega) hs4).mono ?_
    rintro e w5 ⟨u, rfl, hu, hs5, hg5⟩
    have HB5 := Lib.hid (bel_grw HB4.out hg5)
    clear hg5
    go_wp2
    go_ret
    exact ⟨u, rfl, by omega, HB5.out⟩
  have d0 : ((m : Int) == 0) = false := by simp; omega
  by_cases m1 : m = 1
  · subst m1
    go_wp2_with fail
    refine (pick_any _ _ _ w4.heap.size eleven 11 rfl (by omega) (by omega) (hs4.own (World.grownBy_alloc w4 _ none) hp4 (fun _ e => by cases e)) (Row.made w4 _ _) (by omega)).mono ?_
    rintro e w5 ⟨u, hu, rfl, hs5, ho5⟩
    have hsz := size_all (M := 100) (by decide +kernel) hu
    have HB5 := Lib.hid (HB4.out.trans (((al1 w4 _).mono HB4.out.size).trans (ho5.below (Nat.le_refl _))))
    clear hu ho5
    go_wp2
    go_ret
    exact ⟨u, rfl, by omega, HB5.out⟩
  have d1 : ((m : Int) == 1) = false := by simp; omega
  go_wp2
  go_ret
  exact ⟨t, rfl, by omega, HB4.out⟩
end Go.Proofs.Ytojmcjcdcneikaa.Dr
