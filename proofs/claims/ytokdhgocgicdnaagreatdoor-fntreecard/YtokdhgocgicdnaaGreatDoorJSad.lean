import Derived.Test.YtokdhgocgicdnaaGreatDoorJSsy
import Derived.Test.YtokdhgocgicdnaaGreatDoorJDcp
import Derived.Test.YtokdhgocgicdnaaGreatDoorJEq
import Derived.Test.YtokdhgocgicdnaaGreatDoorJTre
import Derived.Deep.RegionHeld3
import Derived.Test.YtokdhgocgicdnaaGreatDoorJStr
import Derived.Test.YtokdhgocgicdnaaGreatDoorJSyz
/- The draw of two trees: DrawTreeSame. -/
namespace Go.Proofs.YtokdhgocgicdnaaGreatDoor.Dr
open Go.RowKit
open Go.Proofs.YtokdhgocgicdnaaGreatDoor

theorem drew_size (w : World) : w.drew.heap.size = w.heap.size := rfl
theorem drew_heap (w : World) (k : Nat) : w.drew.heap[k]? = w.heap[k]? := rfl
set_option maxRecDepth 100000 in
set_option maxHeartbeats 40000000 in
theorem drawTreeSame_any (w : World) (a : Option Addr) (len cap : Nat) (hb : IsBytes w w.heap.size a len) (hl : len ≤ 1048576) :
    Calls Tryz.prog 8 #[.slice a len cap] w fun e w' => ∃ t u t2 u2, e = .returned (.tuple #[trV t u, trV t2 u2]) ∧ TopOk t ∧ TopOk t2 ∧ bulkT t ≤ 20000 ∧ bulkT t2 ≤ 20000 ∧ Kd true w' w.heap.size w'.heap.size u t.kids ∧ Kd true w' w.heap.size w'.heap.size u2 t2.kids ∧ Below w.heap.size w w' := by
  have A0 := al2 w (.cells #[.int .i64 0, .string ⟨#[]⟩, .slice none 0 0] 29) (.cells #[.int .i64 0, .string ⟨#[]⟩, .slice none 0 0] 29)
  have HB := Lib.hid (hb.later A0)
  have HR1 := Lib.hid ((Row.made w 29 #[.int .i64 0, .string ⟨#[]⟩, .slice none 0 0]).alloc (.cells #[.int .i64 0, .string ⟨#[]⟩, .slice none 0 0] 29))
  have HR2 : Hid (Row ((w.alloc (.cells #[.int .i64 0, .string ⟨#[]⟩, .slice none 0 0] 29)).alloc (.cells #[.int .i64 0, .string ⟨#[]⟩, .slice none 0 0] 29)) (w.heap.size + 1) 29 #[.int .i64 0, .string ⟨#[]⟩, .slice none 0 0]) := Lib.hid (by
    have := Row.made (w.alloc (.cells #[.int .i64 0, .string ⟨#[]⟩, .slice none 0 0] 29)) 29 #[.int .i64 0, .string ⟨#[]⟩, .slice none 0 0]
    simpa using this)
  have HZ0 : Hid (((w.alloc (.cells #[.int .i64 0, .string ⟨#[]⟩, .slice none 0 0] 29)).alloc (.cells #[.int .i64 0, .string ⟨#[]⟩, .slice none 0 0] 29)).heap.size = w.heap.size + 2) := Lib.hid (by simp)
  have HA0 := Lib.hid A0
  clear hb A0
  go_enter Tryz.func8, Tryz.ntmps8
  go_wp2_with fail
  generalize (w.alloc (.cells #[.int .i64 0, .string ⟨#[]⟩, .slice none 0 0] 29)).alloc (.cells #[.int .i64 0, .string ⟨#[]⟩, .slice none 0 0] 29) = w0 at HB HR1 HR2 HZ0 HA0 ⊢
  have HB' : Hid (IsBytes w0 w0.heap.size a len) := Lib.hid (by have := HB.out; exact this)
  refine (source_any _ a len cap HB'.out hl).mono ?_
  rintro e w1 ⟨rfl, hs1, hb1⟩
  have hs1' : Src w1 w0.heap.size w0.heap.size := by simpa using hs1
  have hp1 := hs1'.lt
  have HB1 : Hid (Below w0.heap.size w0 w1) := Lib.hid (by simpa using hb1)
  clear hb1 hs1
  go_wp2_with fail
  refine (two5_any _ _ _ hs1').mono ?_
  rintro e w2 ⟨v, rs, t, u, mid, rfl, hr, hmid0, hmid, hn1, hn2, hb5, ht, hbk, hk, hs2, hg⟩
  have z0 := HZ0.out
  have z1 := HB1.out.size
  have z2 := hg.size
  have r1 : Row w2 w.heap.size 29 #[.int .i64 0, .string ⟨#[]⟩, .slice none 0 0] := (HR1.out.below HB1.out (by omega)).same (hg.block _ (by omega) (fun e => by injection e; omega))
  have r2 : Row w2 (w.heap.size + 1) 29 #[.int .i64 0, .string ⟨#[]⟩, .slice none 0 0] := (HR2.out.below HB1.out (by omega)).same (hg.block _ (by omega) (fun e => by injection e; omega))
  have bel2 : Below w.heap.size w w2 := HA0.out.trans ((HB1.out.mono (by omega)).trans ⟨hg.os, hg.tape, hg.output, hg.size, fun k hk => hg.block k (by omega) (fun e => by injection e; omega)⟩)
  obtain ⟨Au, du, rfl⟩ := hk.shape
  have HRL := Lib.hid hr
  obtain ⟨Av, cv, rfl, hlc, hcm, hrc⟩ := hr
  obtain ⟨bv, ov, rfl, hbv1, hbv2, hrc⟩ := hrc (by omega)
  obtain ⟨hhm, hr0, -⟩ := hrc 0 (by omega)
  unfold maxLen at hcm
  simp only [Nat.zero_mul, Nat.add_zero] at hr0
  have HHM := Lib.hid hhm
  have HB5 := Lib.hid hb5
  have HT := Lib.hid ht
  have HBK := Lib.hid hbk
  have A3 := al2 w2 (.cells #[.slice (some ⟨bv, ov, none⟩) rs.length cv] 25) (.cells #[.int .i64 t.rule, .string t.tok, .slice Au t.kids.length du] 29)
  have RG3 := (Row.made w2 25 #[.slice (some ⟨bv, ov, none⟩) rs.length cv]).alloc (.cells #[.int .i64 t.rule, .string t.tok, .slice Au t.kids.length du] 29)
  have RT3 : Row ((w2.alloc (.cells #[.slice (some ⟨bv, ov, none⟩) rs.length cv] 25)).alloc (.cells #[.int .i64 t.rule, .string t.tok, .slice Au t.kids.length du] 29)) (w2.heap.size + 1) 29 #[.int .i64 t.rule, .string t.tok, .slice Au t.kids.length du] := by
    have := Row.made (w2.alloc (.cells #[.slice (some ⟨bv, ov, none⟩) rs.length cv] 25)) 29 #[.int .i64 t.rule, .string t.tok, .slice Au t.kids.length du]
    simpa using this
  have HZ3 : Hid (((w2.alloc (.cells #[.slice (some ⟨bv, ov, none⟩) rs.length cv] 25)).alloc (.cells #[.int .i64 t.rule, .string t.tok, .slice Au t.kids.length du] 29)).heap.size = w2.heap.size + 2) := Lib.hid (by simp)
  have HR13 := Lib.hid (r1.below A3 r1.lt)
  have HR23 := Lib.hid (r2.below A3 r2.lt)
  have HRG3 := Lib.hid RG3
  have HRT3 := Lib.hid RT3
  have HRL3 := Lib.hid (HRL.out.below A3 hmid)
  have HK3 := Lib.hid ((hk.below A3).kd)
  have HS3 := Lib.hid (hs2.only fun k hk => A3.block k (by have := hs2.1; have := hs2.lt; omega))
  have HB3 := Lib.hid (bel2.trans (A3.mono bel2.size))
  have hr3 := (A3.cell (p := ⟨bv, ov, none⟩) (by show bv < _; omega)).trans hr0
  have HP1 : Hid (w0.heap.size < w1.heap.size ∧ w1.heap.size ≤ mid ∧ mid ≤ w2.heap.size) := Lib.hid ⟨hp1, hmid0, hmid⟩
  have hp2 : w0.heap.size < w2.heap.size := hs2.lt
  have Z0 := Lib.hid z0
  have Z12 := Lib.hid (And.intro z1 z2)
  have BV := Lib.hid (And.intro hbv1 hbv2)
  clear r1 r2 bel2 hg hs2 hk RG3 RT3 A3 ht hbk z0 z1 z2 HB1 HRL hr0 hrc hb5 hhm
  unfold trV
  go_wp2_with fail
  generalize (w2.alloc (.cells #[.slice (some ⟨bv, ov, none⟩) rs.length cv] 25)).alloc (.cells #[.int .i64 t.rule, .string t.tok, .slice Au t.kids.length du] 29) = w3 at HZ3 HR13 HR23 HRG3 HRT3 HRL3 HK3 HS3 HB3 hr3 ⊢
  refine (one_any w3 w0.heap.size w0.heap.size 2 HS3.out (by omega)).mono ?_
  rintro e w6 ⟨bb, rfl, hs6, ho6⟩
  have HS6 := Lib.hid hs6
  have E6 : Hid (∀ k, k ≠ w0.heap.size → w6.heap[k]? = w3.heap[k]?) := Lib.hid fun k h2 => ho6.block k h2
  have z6 : w6.heap.size = w3.heap.size := ho6.size
  have Z6 := Lib.hid z6
  have Q6 : Hid (w6.os = w3.os ∧ w6.tape = w3.tape ∧ w6.output = w3.output) := Lib.hid ⟨ho6.os, ho6.tape, ho6.output⟩
  have HNE : Hid (w.heap.size ≠ w2.heap.size ∧ w.heap.size + 1 ≠ w2.heap.size ∧ w.heap.size ≠ w2.heap.size + 1 ∧ w.heap.size + 1 ≠ w2.heap.size + 1) := Lib.hid (by have := Z0.out; have := Z12.out.1; omega)
  have FINAL : Hid (∀ (wz : World) (t2 : TreeD) (u2 : Value) (lo2 : Nat), w3.heap.size ≤ wz.heap.size → (∀ k, k < w3.heap.size → k ≠ w0.heap.size → wz.heap[k]? = w3.heap[k]?) → wz.os = w3.os → wz.tape = w3.tape → wz.output = w3.output → w3.heap.size ≤ lo2 → Kd true wz lo2 wz.heap.size u2 t2.kids →
      Row wz w.heap.size 29 #[.int .i64 0, .string ⟨#[]⟩, .slice none 0 0] ∧ Row wz (w.heap.size + 1) 29 #[.int .i64 0, .string ⟨#[]⟩, .slice none 0 0] ∧ Row wz (w2.heap.size + 1) 29 #[.int .i64 t.rule, .string t.tok, .slice Au t.kids.length du] ∧
      Hid (Kd true ((((((wz.setCell ⟨w.heap.size, 0, none⟩ (.int .i64 t.rule)).setCell ⟨w.heap.size, 1, none⟩ (.string t.tok)).setCell ⟨w.heap.size, 2, none⟩ (.slice Au t.kids.length du)).setCell ⟨w.heap.size + 1, 0, none⟩ (.int .i64 t2.rule)).setCell ⟨w.heap.size + 1, 1, none⟩ (.string t2.tok)).setCell ⟨w.heap.size + 1, 2, none⟩ (u2)) w.heap.size wz.heap.size (.slice Au t.kids.length du) t.kids ∧ Kd true ((((((wz.setCell ⟨w.heap.size, 0, none⟩ (.int .i64 t.rule)).setCell ⟨w.heap.size, 1, none⟩ (.string t.tok)).setCell ⟨w.heap.size, 2, none⟩ (.slice Au t.kids.length du)).setCell ⟨w.heap.size + 1, 0, none⟩ (.int .i64 t2.rule)).setCell ⟨w.heap.size + 1, 1, none⟩ (.string t2.tok)).setCell ⟨w.heap.size + 1, 2, none⟩ (u2)) w.heap.size wz.heap.size u2 t2.kids ∧ Below w.heap.size w ((((((wz.setCell ⟨w.heap.size, 0, none⟩ (.int .i64 t.rule)).setCell ⟨w.heap.size, 1, none⟩ (.string t.tok)).setCell ⟨w.heap.size, 2, none⟩ (.slice Au t.kids.length du)).setCell ⟨w.heap.size + 1, 0, none⟩ (.int .i64 t2.rule)).setCell ⟨w.heap.size + 1, 1, none⟩ (.string t2.tok)).setCell ⟨w.heap.size + 1, 2, none⟩ (u2)) ∧ ((((((wz.setCell ⟨w.heap.size, 0, none⟩ (.int .i64 t.rule)).setCell ⟨w.heap.size, 1, none⟩ (.string t.tok)).setCell ⟨w.heap.size, 2, none⟩ (.slice Au t.kids.length du)).setCell ⟨w.heap.size + 1, 0, none⟩ (.int .i64 t2.rule)).setCell ⟨w.heap.size + 1, 1, none⟩ (.string t2.tok)).setCell ⟨w.heap.size + 1, 2, none⟩ (u2)).heap.size = wz.heap.size)) := Lib.hid (by
    intro wz t2 u2 lo2 hsz e ho htp hout hlo hk2
    have z0 := Z0.out
    obtain ⟨z1, z2⟩ := Z12.out
    have z3 := HZ3.out
    obtain ⟨p1, p2, p3⟩ := HP1.out
    have b0 : Below w.heap.size w wz := ⟨ho.trans HB3.out.os, htp.trans HB3.out.tape, hout.trans HB3.out.output, Nat.le_trans HB3.out.size hsz, fun k hk => (e k (by omega) (by omega)).trans (HB3.out.block k hk)⟩
    have far : ∀ k, k ≠ w.heap.size → k ≠ w.heap.size + 1 → ((((((wz.setCell ⟨w.heap.size, 0, none⟩ (.int .i64 t.rule)).setCell ⟨w.heap.size, 1, none⟩ (.string t.tok)).setCell ⟨w.heap.size, 2, none⟩ (.slice Au t.kids.length du)).setCell ⟨w.heap.size + 1, 0, none⟩ (.int .i64 t2.rule)).setCell ⟨w.heap.size + 1, 1, none⟩ (.string t2.tok)).setCell ⟨w.heap.size + 1, 2, none⟩ (u2)).heap[k]? = wz.heap[k]? := fun k k1 k2 => (set3_heap _ _ _ _ _ _ k2).trans (set3_heap _ _ _ _ _ _ k1)
    refine ⟨HR13.out.same (e _ (by omega) (by omega)), HR23.out.same (e _ (by omega) (by omega)), HRT3.out.same (e _ (by omega) (by omega)), Lib.hid ⟨?_, ?_, ?_, ?_⟩⟩
    · refine Kd.more (lo := mid) (hi := w3.heap.size) (HK3.out.keep (fun k k1 k2 => ?_)) (by omega) (by omega)
      exact (far k (by omega) (by omega)).trans (e k (by omega) (by omega))
    · refine Kd.more (lo := lo2) (hi := wz.heap.size) (hk2.keep (fun k k1 k2 => ?_)) (by omega) (by omega)
      exact far k (by omega) (by omega)
    · exact (((((b0.setCell (Nat.le_refl _) _).setCell (Nat.le_refl _) _).setCell (Nat.le_refl _) _).setCell (Nat.le_succ _) _).setCell (Nat.le_succ _) _).setCell (Nat.le_succ _) _
    · rw [set3_size, set3_size])
  have rt6 := HRT3.out.same (E6.out _ (by have := Z0.out; have := Z12.out; omega))
  have t0 := rt6.cell 0
  have t1 := rt6.cell 1
  have t2 := rt6.cell 2
  simp at t0 t1 t2
  have lt6 := rt6.lt
  obtain ⟨ne1, ne2, ne3, ne4⟩ := HNE.out
  clear hs6 ho6 z6 rt6
  cases bb with
  | true =>
    have HS6d := Lib.hid (HS6.out.heap (w' := w6.drew) rfl)
    have hs6a : ∀ o, Src (w6.alloc o).drew w0.heap.size w0.heap.size := fun o => (HS6.out.only (w' := w6.alloc o) fun k hk => (al1 w6 o).block k (by have := HS6.out.1; have := HS6.out.lt; omega)).heap rfl
    have hg6d : w6.grownBy w6.drew (some w0.heap.size) := grw_drew (grw_refl _ w6)
    have hg6a : ∀ o, w6.grownBy (w6.alloc o).drew (some w0.heap.size) := fun o => grw_drew (grw_alloc (grw_refl _ w6) o)
    have HC : Hid (∀ wx : World, Src wx w0.heap.size w0.heap.size → w6.grownBy wx (some w0.heap.size) → Calls Tryz.prog 28 #[.pointer (some ⟨w0.heap.size, 0, none⟩), .agg #[.slice (some ⟨bv, ov, none⟩) rs.length cv], .string rs[0].head, .int .i64 4] wx (DrawTr wx w0.heap.size w0.heap.size (bulkM 4))) :=
      Lib.hid fun wx hs9 hg9 => treeOf_any 4 (by omega) rs _ rs[0].head w1.heap.size mid w0.heap.size w0.heap.size wx hs9 HP1.out.1 (HRL3.out.keep fun k k1 k2 => (hg9.block k (by have := HP1.out; have := HZ3.out; have := Z6.out; omega) (fun e => by injection e with e; have := HP1.out; omega)).trans (E6.out k (by have := HP1.out; omega))) (by have := HP1.out; have := HZ3.out; have := Z6.out; have := hg9.size; omega) (by omega) HB5.out HHM.out
    have HB9 : Hid (∀ w9 : World, (w6.alloc (.cells #[.int .i64 0, .string ⟨#[]⟩, .slice none 0 0] 29)).drew.grownBy w9 (some w0.heap.size) → Row w9 w6.heap.size 29 #[.int .i64 0, .string ⟨#[]⟩, .slice none 0 0]) := Lib.hid fun w9 g => (show Row (w6.alloc (.cells #[.int .i64 0, .string ⟨#[]⟩, .slice none 0 0] 29)).drew w6.heap.size _ _ from Row.made w6 _ _).same (g.block _ (by simp) (fun e => by injection e with e; have := HS6.out.lt; omega))
    have rg6 := HRG3.out.same (E6.out w2.heap.size (by omega))
    have c2 := rg6.cell 0
    simp at c2
    have c2d : w6.drew.cell? ⟨w2.heap.size, 0, none⟩ = some (.slice (some ⟨bv, ov, none⟩) rs.length cv) := c2
    have r2d : w6.drew.cell? ⟨bv, ov, none⟩ = some (.string rs[0].head) := (World.cell?_of_block (a := ⟨bv, ov, none⟩) (E6.out bv (by have := BV.out; have := HP1.out; omega))).trans hr3
    have r26 : w6.cell? ⟨bv, ov, none⟩ = some (.string rs[0].head) := r2d
    have lg6 : w2.heap.size < w6.heap.size := rg6.lt
    have lb6 : bv < w6.heap.size := by have := BV.out; have := HP1.out; omega
    have n0 : 0 < rs.length := by omega
    have n1 : (rs.length : Int) ≤ (cv : Int) := by omega
    have n2 : (0 : Int) < (rs.length : Int) := by omega
    have HFA : Hid (∀ (w9 : World) (x : TreeD) (u : Value), w6.drew.grownBy w9 (some w0.heap.size) → KidsR w9 w6.drew.heap.size u x.kids → (w6.heap.size ≤ (w9.alloc (.cells #[.int .i64 x.rule, .string x.tok, u] 29)).heap.size ∧ (∀ k, k < w6.heap.size → k ≠ w0.heap.size → (w9.alloc (.cells #[.int .i64 x.rule, .string x.tok, u] 29)).heap[k]? = w6.heap[k]?) ∧ (w9.alloc (.cells #[.int .i64 x.rule, .string x.tok, u] 29)).os = w6.os ∧ (w9.alloc (.cells #[.int .i64 x.rule, .string x.tok, u] 29)).tape = w6.tape ∧ (w9.alloc (.cells #[.int .i64 x.rule, .string x.tok, u] 29)).output = w6.output ∧ Row (w9.alloc (.cells #[.int .i64 x.rule, .string x.tok, u] 29)) w9.heap.size 29 #[.int .i64 x.rule, .string x.tok, u] ∧ Kd true (w9.alloc (.cells #[.int .i64 x.rule, .string x.tok, u] 29)) w6.heap.size (w9.alloc (.cells #[.int .i64 x.rule, .string x.tok, u] 29)).heap.size u x.kids ∧ w6.heap.size ≤ w6.heap.size ∧ w6.heap.size ≤ w9.heap.size)) := Lib.hid fun w9 x u g hk => by
      have z := g.size
      have e2 : w6.drew.heap.size = w6.heap.size := rfl
      exact ⟨by simp; omega, fun k h1 h2 => (Below.heap_alloc _ _ _ (by omega)).trans (g.block k h1 (fun e => by injection e with e; omega)), g.os, g.tape, g.output, Row.made w9 _ _, (hk.kd.under (al1 w9 _) (Nat.le_refl _)).more (by omega) (by simp), Nat.le_refl _, by omega⟩
    have HFB : Hid (∀ (w9 : World) (o : Obj) (x : TreeD) (u : Value), Row w9 w6.heap.size 29 #[.int .i64 0, .string ⟨#[]⟩, .slice none 0 0] → (w6.alloc o).drew.grownBy w9 (some w0.heap.size) → KidsR w9 (w6.alloc o).drew.heap.size u x.kids → (w6.heap.size ≤ (((w9.setCell ⟨w6.heap.size, 0, none⟩ (.int .i64 x.rule)).setCell ⟨w6.heap.size, 1, none⟩ (.string x.tok)).setCell ⟨w6.heap.size, 2, none⟩ u).heap.size ∧ (∀ k, k < w6.heap.size → k ≠ w0.heap.size → (((w9.setCell ⟨w6.heap.size, 0, none⟩ (.int .i64 x.rule)).setCell ⟨w6.heap.size, 1, none⟩ (.string x.tok)).setCell ⟨w6.heap.size, 2, none⟩ u).heap[k]? = w6.heap[k]?) ∧ (((w9.setCell ⟨w6.heap.size, 0, none⟩ (.int .i64 x.rule)).setCell ⟨w6.heap.size, 1, none⟩ (.string x.tok)).setCell ⟨w6.heap.size, 2, none⟩ u).os = w6.os ∧ (((w9.setCell ⟨w6.heap.size, 0, none⟩ (.int .i64 x.rule)).setCell ⟨w6.heap.size, 1, none⟩ (.string x.tok)).setCell ⟨w6.heap.size, 2, none⟩ u).tape = w6.tape ∧ (((w9.setCell ⟨w6.heap.size, 0, none⟩ (.int .i64 x.rule)).setCell ⟨w6.heap.size, 1, none⟩ (.string x.tok)).setCell ⟨w6.heap.size, 2, none⟩ u).output = w6.output ∧ Row (((w9.setCell ⟨w6.heap.size, 0, none⟩ (.int .i64 x.rule)).setCell ⟨w6.heap.size, 1, none⟩ (.string x.tok)).setCell ⟨w6.heap.size, 2, none⟩ u) w6.heap.size 29 #[.int .i64 x.rule, .string x.tok, u] ∧ Kd true (((w9.setCell ⟨w6.heap.size, 0, none⟩ (.int .i64 x.rule)).setCell ⟨w6.heap.size, 1, none⟩ (.string x.tok)).setCell ⟨w6.heap.size, 2, none⟩ u) w6.heap.size (((w9.setCell ⟨w6.heap.size, 0, none⟩ (.int .i64 x.rule)).setCell ⟨w6.heap.size, 1, none⟩ (.string x.tok)).setCell ⟨w6.heap.size, 2, none⟩ u).heap.size u x.kids ∧ w6.heap.size ≤ w6.heap.size ∧ w6.heap.size ≤ w6.heap.size)) := Lib.hid fun w9 o x u hR g hk => by
      have z := g.size
      have e2 : (w6.alloc o).drew.heap.size = w6.heap.size + 1 := by show (w6.alloc o).heap.size = _; simp
      have hk' := hk.kd
      rw [e2] at hk'
      refine ⟨by rw [set3_size]; omega, fun k h1 h2 => (set3_heap _ _ _ _ _ _ (by omega)).trans ((g.block k (by omega) (fun e => by injection e with e; omega)).trans (Below.heap_alloc _ _ _ h1)), g.os, g.tape, g.output, set3_row hR _ _ _, ?_, Nat.le_refl _, Nat.le_refl _⟩
      rw [set3_size]
      exact (hk'.keep (fun k h1 _ => set3_heap _ _ _ _ _ _ (by omega))).more (by omega) (Nat.le_refl _)
    go_upto_region 4 with fail
    go_cut [7, 8] from 18 to 28 (fun s7 s8 wx => ∃ q x u ok, s7 = .pointer (some ⟨q, 0, none⟩) ∧ s8 = .bool ok ∧ TopOk x ∧ bulkT x ≤ bulkM 4 ∧ (w6.heap.size ≤ wx.heap.size ∧ (∀ k, k < w6.heap.size → k ≠ w0.heap.size → wx.heap[k]? = w6.heap[k]?) ∧ wx.os = w6.os ∧ wx.tape = w6.tape ∧ wx.output = w6.output ∧ Row wx q 29 #[.int .i64 x.rule, .string x.tok, u] ∧ Kd true wx w6.heap.size wx.heap.size u x.kids ∧ w6.heap.size ≤ w6.heap.size ∧ w6.heap.size ≤ q))
    case first =>
      go_region_law (go_simp; go_at_call 28; refine (HC.out _ (by first | exact HS6d.out | exact hs6a _) (by first | exact hg6d | exact hg6a _)).mono ?_; rintro e9 w9 ⟨x, u, ok, rfl, hx, hb, hK, hs9, hg9⟩; obtain ⟨Ax, dx, rfl⟩ := hK.shape; (try (have RB := HB9.out _ hg9; have rb0 := RB.cell 0; have rb1 := RB.cell 1; have rb2 := RB.cell 2; have rf0 := RB.free 0; have rf1 := RB.free 1; have rf2 := RB.free 2; simp at rb0 rb1 rb2)); unfold trV)
      all_goals
        go_wp2_with fail
        go_meet
        first
          | exact ⟨w9.heap.size, x, _, ok, rfl, rfl, hx, hb, HFA.out w9 x _ hg9 hK⟩
          | exact ⟨w6.heap.size, x, _, ok, rfl, rfl, hx, hb, HFB.out w9 _ x _ (HB9.out _ hg9) hg9 hK⟩
    case rest =>
      obtain ⟨q, x, u, ok, rfl, rfl, hx, hb, hW⟩ := hcut
      rename World => wy
      obtain ⟨hsz, he, ho, htp, hout, hbox, hkd, hlo, hqq⟩ := hW
      have hb4 : bulkM 4 = 3280 := by decide
      rw [hb4] at hb
      obtain ⟨Ax, dx, Ux, rfl, -⟩ := hkd.parts
      have z6 := Z6.out
      obtain ⟨R1, R2, RT, FIN⟩ := FINAL.out wy x (.slice Ax x.kids.length dx) w6.heap.size (by omega) (fun k h1 h2 => (he k (by omega) h2).trans (E6.out k h2)) (ho.trans Q6.out.1) (htp.trans Q6.out.2.1) (hout.trans Q6.out.2.2) (by omega) hkd
      have HX : Hid (TopOk x ∧ bulkT x ≤ 20000) := Lib.hid ⟨hx, by omega⟩
      have q0 := hbox.cell 0
      have q1 := hbox.cell 1
      have q2 := hbox.cell 2
      have qlt := hbox.lt
      have nq1 : w.heap.size ≠ q := by have := Z0.out; have := Z12.out; omega
      have nq2 : w.heap.size + 1 ≠ q := by have := Z0.out; have := Z12.out; omega
      have b0 := RT.cell 0
      have b1 := RT.cell 1
      have b2 := RT.cell 2
      have r0 := R1.cell 0
      have r1 := R1.cell 1
      have r2 := R1.cell 2
      have rf0 := R1.free 0
      have rf1 := R1.free 1
      have rf2 := R1.free 2
      have s0 := R2.cell 0
      have s1 := R2.cell 1
      have s2 := R2.cell 2
      have sf0 := R2.free 0
      have sf1 := R2.free 1
      have sf2 := R2.free 2
      simp at q0 q1 q2 b0 b1 b2 r0 r1 r2 s0 s1 s2
      have W1 := set3_row R1 (.int .i64 t.rule) (.string t.tok) (.slice Au t.kids.length du)
      have W2 := R2.same (set3_heap wy w.heap.size (.int .i64 t.rule) (.string t.tok) (.slice Au t.kids.length du) (w.heap.size + 1) (by omega))
      have V1 := W1.same (set3_heap (((wy.setCell ⟨w.heap.size, 0, none⟩ (.int .i64 t.rule)).setCell ⟨w.heap.size, 1, none⟩ (.string t.tok)).setCell ⟨w.heap.size, 2, none⟩ (.slice Au t.kids.length du)) (w.heap.size + 1) (.int .i64 x.rule) (.string x.tok) (.slice Ax x.kids.length dx) w.heap.size (by omega))
      have V2 := set3_row W2 (.int .i64 x.rule) (.string x.tok) (.slice Ax x.kids.length dx)
      have v0 := V1.cell 0
      have v1 := V1.cell 1
      have v2 := V1.cell 2
      have y0 := V2.cell 0
      have y1 := V2.cell 1
      have y2 := V2.cell 2
      simp at v0 v1 v2 y0 y1 y2
      have HFD : Hid (((((((wy.setCell ⟨w.heap.size, 0, none⟩ (.int .i64 t.rule)).setCell ⟨w.heap.size, 1, none⟩ (.string t.tok)).setCell ⟨w.heap.size, 2, none⟩ (.slice Au t.kids.length du)).setCell ⟨w.heap.size + 1, 0, none⟩ (.int .i64 x.rule)).setCell ⟨w.heap.size + 1, 1, none⟩ (.string x.tok)).setCell ⟨w.heap.size + 1, 2, none⟩ (.slice Ax x.kids.length dx)).drew.heap.size = wy.heap.size) := Lib.hid ((drew_size _).trans FIN.out.2.2.2)
      clear R1 R2 RT W1 W2 V1 V2 hbox hkd hx hb he ho htp hout HFA HFB HC hs6a hg6d hg6a c2 c2d r2d r26 rg6 z6
      go_wp2
      go_region_held3 (fun w' => w'.cell? ⟨w2.heap.size + 1, 0, none⟩ = some (.int .i64 t.rule) ∧ w'.cell? ⟨w2.heap.size + 1, 1, none⟩ = some (.string t.tok) ∧ w'.cell? ⟨w2.heap.size + 1, 2, none⟩ = some (.slice Au t.kids.length du) ∧ w'.cell? ⟨q, 0, none⟩ = some (.int .i64 x.rule) ∧ w'.cell? ⟨q, 1, none⟩ = some (.string x.tok) ∧ w'.cell? ⟨q, 2, none⟩ = some (.slice Ax x.kids.length dx))
        (go_keep)
        (fail)
      all_goals
        go_wp2
        exact bodyPost_ret (v := .tuple #[.agg #[.int .i64 t.rule, .string t.tok, .slice Au t.kids.length du], .agg #[.int .i64 x.rule, .string x.tok, .slice Ax x.kids.length dx]]) (by simp [results, Tryz.results8, go_sem, v0, v1, v2, y0, y1, y2]) rfl ⟨t, _, x, _, rfl, HT.out, HX.out.1, HBK.out, HX.out.2, by rw [HFD.out]; exact FIN.out.1.keep (fun k _ _ => drew_heap _ k), by rw [HFD.out]; exact FIN.out.2.1.keep (fun k _ _ => drew_heap _ k), FIN.out.2.2.1.drew⟩
  | false =>
    have HK6 : Hid (Kd true w6.drew mid w3.heap.size (.slice Au t.kids.length du) t.kids) := Lib.hid (HK3.out.keep fun k k1 k2 => E6.out k (by have := HP1.out; omega))
    have HC := Lib.hid (copy_any t (.slice Au t.kids.length du) mid w3.heap.size w6.drew HT.out HK6.out (by show w3.heap.size ≤ w6.heap.size; have := Z6.out; omega) HBK.out)
    have t0d : w6.drew.cell? ⟨w2.heap.size + 1, 0, none⟩ = some (.int .i64 t.rule) := t0
    have t1d : w6.drew.cell? ⟨w2.heap.size + 1, 1, none⟩ = some (.string t.tok) := t1
    have t2d : w6.drew.cell? ⟨w2.heap.size + 1, 2, none⟩ = some (.slice Au t.kids.length du) := t2
    have ltd : w2.heap.size + 1 < w6.drew.heap.size := lt6
    unfold trV at HC
    go_wp2
    go_region_law (go_simp; go_at_call 29; refine HC.out.mono ?_; rintro e w7 ⟨x7, rfl, hK7, hb7⟩; obtain ⟨Ax, dx, rfl⟩ := hK7.shape; obtain ⟨R1, R2, RT, FIN⟩ := FINAL.out w7 t (.slice Ax t.kids.length dx) w6.drew.heap.size (by have := hb7.size; have := Z6.out; show w3.heap.size ≤ _; have e : w6.drew.heap.size = w6.heap.size := rfl; omega) (fun k h1 h2 => (hb7.block k (by show k < w6.heap.size; have := Z6.out; omega)).trans (E6.out k h2)) (hb7.os.trans Q6.out.1) (hb7.tape.trans Q6.out.2.1) (hb7.output.trans Q6.out.2.2) (by show w3.heap.size ≤ w6.heap.size; have := Z6.out; omega) hK7.kd; have b0 := RT.cell 0; have b1 := RT.cell 1; have b2 := RT.cell 2; have r0 := R1.cell 0; have r1 := R1.cell 1; have r2 := R1.cell 2; have rf0 := R1.free 0; have rf1 := R1.free 1; have rf2 := R1.free 2; have s0 := R2.cell 0; have s1 := R2.cell 1; have s2 := R2.cell 2; have sf0 := R2.free 0; have sf1 := R2.free 1; have sf2 := R2.free 2; simp at b0 b1 b2 r0 r1 r2 s0 s1 s2; have W1 := set3_row R1 (.int .i64 t.rule) (.string t.tok) (.slice Au t.kids.length du); have W2 := R2.same (set3_heap w7 w.heap.size (.int .i64 t.rule) (.string t.tok) (.slice Au t.kids.length du) (w.heap.size + 1) (by omega)); have V1 := W1.same (set3_heap (((w7.setCell ⟨w.heap.size, 0, none⟩ (.int .i64 t.rule)).setCell ⟨w.heap.size, 1, none⟩ (.string t.tok)).setCell ⟨w.heap.size, 2, none⟩ (.slice Au t.kids.length du)) (w.heap.size + 1) (.int .i64 t.rule) (.string t.tok) (.slice Ax t.kids.length dx) w.heap.size (by omega)); have V2 := set3_row W2 (.int .i64 t.rule) (.string t.tok) (.slice Ax t.kids.length dx); have v0 := V1.cell 0; have v1 := V1.cell 1; have v2 := V1.cell 2; have y0 := V2.cell 0; have y1 := V2.cell 1; have y2 := V2.cell 2; simp at v0 v1 v2 y0 y1 y2; clear R1 R2 RT W1 W2 V1 V2; (try unfold trV))
    all_goals
      have HFS := Lib.hid FIN.out.2.2.2
      go_wp2
      exact bodyPost_ret (v := .tuple #[.agg #[.int .i64 t.rule, .string t.tok, .slice Au t.kids.length du], .agg #[.int .i64 t.rule, .string t.tok, .slice Ax t.kids.length dx]]) (by simp [results, Tryz.results8, go_sem, v0, v1, v2, y0, y1, y2]) rfl ⟨t, _, t, _, rfl, HT.out, HT.out, HBK.out, HBK.out, by rw [HFS.out]; exact FIN.out.1, by rw [HFS.out]; exact FIN.out.2.1, FIN.out.2.2.1⟩
end Go.Proofs.YtokdhgocgicdnaaGreatDoor.Dr

/- The law's own lwTexts. -/
namespace Go.Proofs.YtokdhgocgicdnaaGreatDoor
open Go.RowKit

set_option maxHeartbeats 1000000 in
theorem lwTexts_any (v u : Value) (ss ts : List ByteArray) (lo hi lo' hi' : Nat) (w : World) (h : Strs w lo hi v ss) (h' : Strs w lo' hi' u ts) :
    Calls Tryz.prog 12 #[v, u] w fun e w' => e = .returned (.bool (eqSs ss ts)) ∧ ∃ n, w' = w.drewN n := by
  obtain ⟨A, c, rfl, hlc, hc, hsz, hcell⟩ := h
  obtain ⟨A', c', rfl, hlc', hc', hsz', hcell'⟩ := h'
  unfold maxLen at hc hc'
  by_cases hn : ss.length = ts.length
  · have d0 : ((ss.length : Int) != (ts.length : Int)) = false := by rw [bne_eq_false_iff_eq]; omega
    have HN := Lib.hid hn
    have HC := Lib.hid hcell
    have HC' := Lib.hid hcell'
    clear hcell hsz hcell' hsz' hn
    go_enter Tryz.func12, Tryz.ntmps12
    go_wp2
    go_loopw [5] (fun i wr => ∃ (k n : Nat), k ≤ ss.length ∧ i = .int .i64 k ∧ wr = w.drewN n ∧ (∀ j (h : j < ss.length), j < k → ss[j] = ts[j]'(by have := HN.out; omega))) (fun i _ => ss.length - (intOf i).toNat)
    case atStart => exact ⟨0, 0, by omega, rfl, rfl, fun j _ hj => by omega⟩
    case round =>
      obtain ⟨k, n, hk, rfl, rfl, hall⟩ := hrel
      have HA := Lib.hid hall
      clear hall
      by_cases hlt : k < ss.length
      · have hlt' : k < ts.length := by have := HN.out; omega
        obtain ⟨b, off, rfl, _, hbh, hcc⟩ := HC.out (by omega)
        obtain ⟨b', off', rfl, _, hbh', hcc'⟩ := HC'.out (by omega)
        have hck := hcc k hlt
        have hck' := hcc' k hlt'
        have i1 : (k : Int) < (ss.length : Int) := by omega
        have i2 : (k : Int) < (ts.length : Int) := by omega
        clear hcc hcc'
        by_cases he : ss[k] = ts[k]
        · have d1 : (ss[k].toList == ts[k].toList) = true := by rw [list_eqE, decide_eq_true he]
          have HE := Lib.hid he
          clear he
          go_wp2
          go_quiet (fail)
          go_wp2
          go_roundw
          case rel => exact ⟨k + 1, _, by omega, by go_num, rfl, fun j hj hjk => by
            by_cases e : j = k
            · subst e; exact HE.out
            · exact HA.out j hj (by omega)⟩
          case measure => simp [intOf]; omega
        · have d1 : (ss[k].toList == ts[k].toList) = false := by rw [list_eqE, decide_eq_false he]
          go_wp2
          go_quiet (fail)
          go_wp2
          go_ret
          exact ⟨ret_boolE (eqSs_f (fun e => he (by subst e; rfl))).symm, _, World.drewN_drewN _ _ _⟩
      · go_wp2
        go_ret
        exact ⟨ret_boolE (eqSs_t (List.ext_getElem HN.out fun j h1 h2 => HA.out j h1 (by omega))).symm, _, rfl⟩
  · have d0 : ((ss.length : Int) != (ts.length : Int)) = true := by rw [bne_iff_ne]; omega
    go_enter Tryz.func12, Tryz.ntmps12
    go_wp2
    go_ret
    exact ⟨ret_boolE (eqSs_f (fun e => hn (by rw [e]))).symm, 0, rfl⟩
end Go.Proofs.YtokdhgocgicdnaaGreatDoor

/- Does a tree say a text? As data. -/
namespace Go.Proofs.YtokdhgocgicdnaaGreatDoor
open Go.RowKit

def startTr (rs : List RuleD) : ByteArray := match rs with | [] => ByteArray.empty | r :: _ => r.head
def saysB (rs : List RuleD) (ws : List ByteArray) (t : TreeD) : Bool := decide (ws.length ≤ 400) && decide ((rightS rs t).size ≠ 0) && decide (rightS rs t = startTr rs) && eqSs (yieldOf t) ws
section
variable {rs : List RuleD} {t : TreeD} {ws : List ByteArray}
theorem startTr_eq (h : 0 < rs.length) : startTr rs = rs[0].head := by
  cases rs with
  | nil => simp at h
  | cons r l => rfl
theorem right_gram (h : (rightS rs t).size ≠ 0) : gramB rs = true ∧ sizeT t ≤ 200 ∧ rightS rs t = symT rs t := by
  unfold rightS at h ⊢
  by_cases e : gramB rs = true ∧ sizeT t ≤ 200
  · rw [if_pos e]; exact ⟨e.1, e.2, rfl⟩
  · rw [if_neg e] at h; exact absurd rfl h
theorem right_yield (h : (rightS rs t).size ≠ 0) : yieldOf t = yieldT t := by unfold yieldOf; rw [if_pos (right_gram h).2.1]
theorem says_long (h : ¬ ws.length ≤ 400) : saysB rs ws t = false := by unfold saysB; rw [decide_eq_false h]; rfl
theorem says_wrong (h : (rightS rs t).size = 0) : saysB rs ws t = false := by unfold saysB; rw [show decide ((rightS rs t).size ≠ 0) = false from decide_eq_false (fun e => e h)]; simp
theorem says_other (h : rightS rs t ≠ startTr rs) : saysB rs ws t = false := by unfold saysB; rw [show decide (rightS rs t = startTr rs) = false from decide_eq_false h]; simp
theorem says_rest (h1 : ws.length ≤ 400) (h2 : (rightS rs t).size ≠ 0) (h3 : rightS rs t = startTr rs) : saysB rs ws t = eqSs (yieldT t) ws := by
  unfold saysB
  rw [decide_eq_true h1, decide_eq_true h2, decide_eq_true h3, right_yield h2]; rfl
/-- a right tree's symbol, by its Rule -/
theorem right_leaf (h : (rightS rs t).size ≠ 0) (hr : t.rule < 0) : rightS rs t ≠ startTr rs := by
  obtain ⟨hg, _, e⟩ := right_gram h
  rw [e] at h ⊢
  have h1 := (gramB_iff rs).1 hg
  rw [startTr_eq (by omega)]
  have hh := ((ruleB_iff _).1 (h1.2.2 0 (by omega))).1
  rcases symT_cases rs t with h0 | ⟨_, _, _, h4, h5⟩ | ⟨_, h3, _⟩
  · rw [h0] at h; exact absurd rfl h
  · intro e2
    rw [h5] at e2
    rw [e2, tok_no_head hh] at h4
    cases h4
  · omega
theorem right_node (h : (rightS rs t).size ≠ 0) (hr : 0 ≤ t.rule) : ∃ hl : t.rule.toNat < rs.length, rightS rs t = rs[t.rule.toNat].head := by
  obtain ⟨_, _, e⟩ := right_gram h
  rw [e] at h ⊢
  rcases symT_cases rs t with h0 | ⟨_, _, h3, _⟩ | ⟨_, _, hl, h4, _⟩
  · rw [h0] at h; exact absurd rfl h
  · omega
  · exact ⟨hl, h4⟩
end
end Go.Proofs.YtokdhgocgicdnaaGreatDoor
