import Derived.Test.YtokdhgocgicdnaaGreatDoorJSsy
import Derived.Test.YtokdhgocgicdnaaGreatDoorJSyz
import Derived.Test.YtokdhgocgicdnaaGreatDoorJDtx
/- The draw of a grammar, a text and a tree: DrawSays. -/
namespace Go.Proofs.YtokdhgocgicdnaaGreatDoor.Dr
open Go.RowKit
open Go.Proofs.YtokdhgocgicdnaaGreatDoor

set_option maxRecDepth 100000 in
set_option maxHeartbeats 2000000 in
theorem drawSays_any (w : World) (a : Option Addr) (len cap : Nat) (hb : IsBytes w w.heap.size a len) (hl : len ≤ 1048576) :
    Calls Tryz.prog 4 #[.slice a len cap] w fun e w' => ∃ v rs tv ts t u, e = .returned (.tuple #[.agg #[v], tv, trV t u]) ∧ Rules w' w.heap.size w'.heap.size v rs ∧ Strs w' w.heap.size w'.heap.size tv ts ∧ TopOk t ∧ bulkT t ≤ 20000 ∧ Kd true w' w.heap.size w'.heap.size u t.kids ∧ Below w.heap.size w w' := by
  obtain ⟨i0, hi0, hz0, hz1, hz2⟩ := info_parts Tryz.infoStr
  have A0 := al2 w (.cells #[.slice none 0 0] 25) (.cells #[.int .i64 0, .string ⟨#[]⟩, .slice none 0 0] 29)
  have HB := Lib.hid (hb.later A0)
  have HR1 := Lib.hid ((Row.made w 25 #[.slice none 0 0]).alloc (.cells #[.int .i64 0, .string ⟨#[]⟩, .slice none 0 0] 29))
  have HR2 : Hid (Row ((w.alloc (.cells #[.slice none 0 0] 25)).alloc (.cells #[.int .i64 0, .string ⟨#[]⟩, .slice none 0 0] 29)) (w.heap.size + 1) 29 #[.int .i64 0, .string ⟨#[]⟩, .slice none 0 0]) := Lib.hid (by
    have := Row.made (w.alloc (.cells #[.slice none 0 0] 25)) 29 #[.int .i64 0, .string ⟨#[]⟩, .slice none 0 0]
    simpa using this)
  have HZ0 : Hid (((w.alloc (.cells #[.slice none 0 0] 25)).alloc (.cells #[.int .i64 0, .string ⟨#[]⟩, .slice none 0 0] 29)).heap.size = w.heap.size + 2) := Lib.hid (by simp)
  have HA0 := Lib.hid A0
  clear hb A0
  go_enter Tryz.func4, Tryz.ntmps4
  go_wp2_with fail
  generalize (w.alloc (.cells #[.slice none 0 0] 25)).alloc (.cells #[.int .i64 0, .string ⟨#[]⟩, .slice none 0 0] 29) = w0 at HB HR1 HR2 HZ0 HA0 ⊢
  have HB' : Hid (IsBytes w0 w0.heap.size a len) := Lib.hid (by have := HB.out; exact this)
  refine (source_any _ a len cap HB'.out hl).mono ?_
  rintro e w1 ⟨rfl, hs1, hb1⟩
  have hs1' : Src w1 w0.heap.size w0.heap.size := by simpa using hs1
  have hp1 := hs1'.lt
  have HB1 : Hid (Below w0.heap.size w0 w1) := Lib.hid (by simpa using hb1)
  clear hb1 hs1
  go_wp2_with fail
  refine (two5_any _ _ _ hs1').mono ?_
  rintro e w2 ⟨v, rs, t, u, mid, rfl, hr, hmid0, hmid, -, -, -, ht, hbk, hk, hs2, hg⟩
  have z0 := HZ0.out
  have z1 := HB1.out.size
  have z2 := hg.size
  have r1 : Row w2 w.heap.size 25 #[.slice none 0 0] := (HR1.out.below HB1.out (by omega)).same (hg.block _ (by omega) (fun e => by injection e; omega))
  have r2 : Row w2 (w.heap.size + 1) 29 #[.int .i64 0, .string ⟨#[]⟩, .slice none 0 0] := (HR2.out.below HB1.out (by omega)).same (hg.block _ (by omega) (fun e => by injection e; omega))
  have bel2 : Below w.heap.size w w2 := HA0.out.trans ((HB1.out.mono (by omega)).trans ⟨hg.os, hg.tape, hg.output, hg.size, fun k hk => hg.block k (by omega) (fun e => by injection e; omega)⟩)
  obtain ⟨Au, du, rfl⟩ := hk.shape
  have HRL := Lib.hid hr
  obtain ⟨Av, cv, rfl, -⟩ := hr
  have HT := Lib.hid ht
  have HBK := Lib.hid hbk
  have A3 := al2 w2 (.cells #[.slice Av rs.length cv] 25) (.cells #[.int .i64 t.rule, .string t.tok, .slice Au t.kids.length du] 29)
  have RG3 := (Row.made w2 25 #[.slice Av rs.length cv]).alloc (.cells #[.int .i64 t.rule, .string t.tok, .slice Au t.kids.length du] 29)
  have RT3 : Row ((w2.alloc (.cells #[.slice Av rs.length cv] 25)).alloc (.cells #[.int .i64 t.rule, .string t.tok, .slice Au t.kids.length du] 29)) (w2.heap.size + 1) 29 #[.int .i64 t.rule, .string t.tok, .slice Au t.kids.length du] := by
    have := Row.made (w2.alloc (.cells #[.slice Av rs.length cv] 25)) 29 #[.int .i64 t.rule, .string t.tok, .slice Au t.kids.length du]
    simpa using this
  have HZ3 : Hid (((w2.alloc (.cells #[.slice Av rs.length cv] 25)).alloc (.cells #[.int .i64 t.rule, .string t.tok, .slice Au t.kids.length du] 29)).heap.size = w2.heap.size + 2) := Lib.hid (by simp)
  have HR13 := Lib.hid (r1.below A3 r1.lt)
  have HR23 := Lib.hid (r2.below A3 r2.lt)
  have HRG3 := Lib.hid RG3
  have HRT3 := Lib.hid RT3
  have HRL3 := Lib.hid (HRL.out.below A3 hmid)
  have HK3 := Lib.hid ((hk.below A3).kd)
  have HS3 := Lib.hid (hs2.only fun k hk => A3.block k (by have := hs2.1; have := hs2.lt; omega))
  have HB3 := Lib.hid (bel2.trans (A3.mono bel2.size))
  have hm0 : w.heap.size + 2 ≤ mid := by omega
  have HP1 : Hid (w0.heap.size < w1.heap.size ∧ w1.heap.size ≤ mid) := Lib.hid ⟨hp1, hmid0⟩
  have hp2 : w0.heap.size < w2.heap.size := hs2.lt
  have Z0 := Lib.hid z0
  have Z12 := Lib.hid (And.intro z1 z2)
  clear r1 r2 bel2 hg hs2 hk RG3 RT3 A3 ht hbk z0 z1 z2 HB1 HRL
  unfold trV
  go_wp2_with fail
  generalize (w2.alloc (.cells #[.slice Av rs.length cv] 25)).alloc (.cells #[.int .i64 t.rule, .string t.tok, .slice Au t.kids.length du] 29) = w3 at HZ3 HR13 HR23 HRG3 HRT3 HRL3 HK3 HS3 HB3 ⊢
  refine (specYield_sts t (.slice Au t.kids.length du) mid w3.heap.size w3 HT.out HK3.out (Nat.le_refl _) (by have := sizeT_le_bulkT t; have := HBK.out; omega)).mono ?_
  rintro e w5 ⟨yv, rfl, hys, hb5⟩
  have HY5 := Lib.hid hys
  have hyl := yieldOf_len t
  have HYS : Hid (∀ s ∈ yieldOf t, s.size ≤ maxLen) := Lib.hid (by
    intro s hs
    unfold yieldOf at hs
    split at hs
    · exact yieldT_small HT.out HK3.out s hs
    · cases hs)
  have HB5 := Lib.hid hb5
  obtain ⟨Ay, dy, rfl⟩ := hys.shape
  have HS5 : Hid (Src w5 w0.heap.size w0.heap.size) := Lib.hid (HS3.out.only fun k hk => HB5.out.block k (by have := HZ3.out; omega))
  clear hys hb5
  go_wp2_with fail
  refine (one_any w5 w0.heap.size w0.heap.size 4 HS5.out (by omega)).mono ?_
  rintro e w6 ⟨bb, rfl, hs6, ho6⟩
  have HO6 := Lib.hid ho6
  have HY6 : Hid (Sts w6 w3.heap.size (.slice Ay (yieldOf t).length dy) (yieldOf t)) := Lib.hid (Sts.only HY5.out ho6 (by have := HZ3.out; omega))
  generalize yieldOf t = ys at HY6 HYS hyl HY5 ⊢
  have FINAL : Hid (∀ (wz : World) (tv : Value) (ts : List ByteArray), w3.heap.size ≤ wz.heap.size → (∀ k, k < w3.heap.size → k ≠ w0.heap.size → wz.heap[k]? = w3.heap[k]?) → wz.os = w3.os → wz.tape = w3.tape → wz.output = w3.output → Sts wz w3.heap.size tv ts → (∀ s ∈ ts, s.size ≤ maxLen) →
      Row wz w.heap.size 25 #[.slice none 0 0] ∧ Row wz (w.heap.size + 1) 29 #[.int .i64 0, .string ⟨#[]⟩, .slice none 0 0] ∧ Row wz w2.heap.size 25 #[.slice Av rs.length cv] ∧ Row wz (w2.heap.size + 1) 29 #[.int .i64 t.rule, .string t.tok, .slice Au t.kids.length du] ∧
      Hid (Rules ((((wz.setCell ⟨w.heap.size, 0, none⟩ (.slice Av rs.length cv)).setCell ⟨w.heap.size + 1, 0, none⟩ (.int .i64 t.rule)).setCell ⟨w.heap.size + 1, 1, none⟩ (.string t.tok)).setCell ⟨w.heap.size + 1, 2, none⟩ (.slice Au t.kids.length du)).drew w.heap.size wz.heap.size (.slice Av rs.length cv) rs ∧
        Strs ((((wz.setCell ⟨w.heap.size, 0, none⟩ (.slice Av rs.length cv)).setCell ⟨w.heap.size + 1, 0, none⟩ (.int .i64 t.rule)).setCell ⟨w.heap.size + 1, 1, none⟩ (.string t.tok)).setCell ⟨w.heap.size + 1, 2, none⟩ (.slice Au t.kids.length du)).drew w.heap.size wz.heap.size tv ts ∧
        Kd true ((((wz.setCell ⟨w.heap.size, 0, none⟩ (.slice Av rs.length cv)).setCell ⟨w.heap.size + 1, 0, none⟩ (.int .i64 t.rule)).setCell ⟨w.heap.size + 1, 1, none⟩ (.string t.tok)).setCell ⟨w.heap.size + 1, 2, none⟩ (.slice Au t.kids.length du)).drew w.heap.size wz.heap.size (.slice Au t.kids.length du) t.kids ∧
        Below w.heap.size w ((((wz.setCell ⟨w.heap.size, 0, none⟩ (.slice Av rs.length cv)).setCell ⟨w.heap.size + 1, 0, none⟩ (.int .i64 t.rule)).setCell ⟨w.heap.size + 1, 1, none⟩ (.string t.tok)).setCell ⟨w.heap.size + 1, 2, none⟩ (.slice Au t.kids.length du)).drew)) := Lib.hid (by
    intro wz tv ts hsz e ho htp hout hst hsm
    have z0 := Z0.out
    obtain ⟨z1, z2⟩ := Z12.out
    have z3 := HZ3.out
    obtain ⟨p1, p2⟩ := HP1.out
    refine ⟨HR13.out.same (e _ (by omega) (by omega)), HR23.out.same (e _ (by omega) (by omega)), HRG3.out.same (e _ (by omega) (by omega)), HRT3.out.same (e _ (by omega) (by omega)), Lib.hid ⟨?_, ?_, ?_, ?_⟩⟩
    · exact (HRL3.out.keep (fun k k1 k2 => (tell2 k (by omega) (by omega)).trans (e k (by omega) (by omega)))).more (by omega) (by omega)
    · exact ((hst.strs hsm).keep (fun k k1 k2 => tell2 k (by omega) (by omega))).more (by omega) (by omega)
    · refine Kd.more (lo := mid) (hi := w3.heap.size) (HK3.out.keep (fun k k1 k2 => ?_)) (by omega) (by omega)
      exact (tell2 k (by omega) (by omega)).trans (e k (by omega) (by omega))
    · have b0 : Below w.heap.size w wz := ⟨ho.trans HB3.out.os, htp.trans HB3.out.tape, hout.trans HB3.out.output, Nat.le_trans HB3.out.size hsz, fun k hk => (e k (by omega) (by omega)).trans (HB3.out.block k hk)⟩
      exact ((((b0.setCell (Nat.le_refl _) _).setCell (Nat.le_succ _) _).setCell (Nat.le_succ _) _).setCell (Nat.le_succ _) _).drew)
  have E6 : Hid (∀ k, k < w3.heap.size → k ≠ w0.heap.size → w6.heap[k]? = w3.heap[k]?) := Lib.hid fun k h1 h2 => (HO6.out.block k h2).trans (HB5.out.block k h1)
  have z6 : w3.heap.size ≤ w6.heap.size := by have := HO6.out.size; have := HB5.out.size; omega
  have Q6 : Hid (w6.os = w3.os ∧ w6.tape = w3.tape ∧ w6.output = w3.output) := Lib.hid ⟨HO6.out.os.trans HB5.out.os, HO6.out.tape.trans HB5.out.tape, HO6.out.output.trans HB5.out.output⟩
  clear hs6 ho6 HS5 HB5 HY5 HO6 HR13 HR23 HRG3 HRT3
  have HNE : Hid (w.heap.size ≠ w2.heap.size ∧ w.heap.size + 1 ≠ w2.heap.size ∧ w.heap.size ≠ w2.heap.size + 1 ∧ w.heap.size + 1 ≠ w2.heap.size + 1) := Lib.hid (by have := Z0.out; have := Z12.out.1; omega)
  obtain ⟨ne1, ne2, ne3, ne4⟩ := HNE.out
  cases bb with
  | true =>
    go_wp2_with (at_builtin; refine wpList_append_own _ rfl _ _ 26 rfl w3.heap.size 9 i0 (.string ByteArray.empty) 1 16 Tryz.underlying26 hi0 hz0 hz1 hz2 rfl (by decide) _ _ _ rfl (World.ownsRow.alloc HY6.out _) ⟨w6.heap.size, 0, none⟩ 1 1 [.string ⟨#[97]⟩] rfl rfl (by simpa using cell_one_new w6 _ _) (one_str _) (by unfold maxLen; omega) (by omega) (by simp; omega) ?_)
    intro v7 w7 hown7 hg7 _
    have S7 := Sts.one ⟨#[97]⟩ hown7
    obtain ⟨A7, d7, rfl⟩ := S7.shape
    have hz7 : w6.heap.size + 1 ≤ w7.heap.size := by have := hg7.size; simpa using this
    obtain ⟨q1, q2, q3⟩ := Q6.out
    obtain ⟨R1, R2, RG, RT, FIN⟩ := FINAL.out w7 _ _ (by omega) (fun k h1 h2 => (hg7.block k (by simp; omega) (fun e => by have := (World.ownsRow.lt HY6.out _ e.symm).1; omega)).trans ((Below.heap_alloc _ _ _ (by omega)).trans (E6.out k h1 h2))) (hg7.os.trans q1) (hg7.tape.trans q2) (hg7.output.trans q3) S7 (by
      intro s hs
      rw [List.mem_append, List.mem_singleton] at hs
      rcases hs with hs | rfl
      · exact HYS.out s hs
      · show (⟨#[97]⟩ : ByteArray).size ≤ maxLen; unfold maxLen; decide)
    clear hown7 hg7 S7
    have g0 := RG.cell 0
    have b0 := RT.cell 0
    have b1 := RT.cell 1
    have b2 := RT.cell 2
    have r0 := R1.cell 0
    have rf0 := R1.free 0
    have s0 := R2.cell 0
    have s1 := R2.cell 1
    have s2 := R2.cell 2
    have sf0 := R2.free 0
    have sf1 := R2.free 1
    have sf2 := R2.free 2
    simp at g0 b0 b1 b2 r0 s0 s1 s2
    have W1 : Row (w7.setCell ⟨w.heap.size, 0, none⟩ (.slice Av rs.length cv)) w.heap.size 25 #[.slice Av rs.length cv] := by simpa using R1.put 0 (.slice Av rs.length cv)
    have W2 := R2.away (p := ⟨w.heap.size, 0, none⟩) (by show w.heap.size + 1 ≠ w.heap.size; omega) (.slice Av rs.length cv)
    have V1 := W1.same (set3_heap (w7.setCell ⟨w.heap.size, 0, none⟩ (.slice Av rs.length cv)) (w.heap.size + 1) (.int .i64 t.rule) (.string t.tok) (.slice Au t.kids.length du) w.heap.size (by omega))
    have V2 := set3_row W2 (.int .i64 t.rule) (.string t.tok) (.slice Au t.kids.length du)
    have v0 := V1.cell 0
    have y0 := V2.cell 0
    have y1 := V2.cell 1
    have y2 := V2.cell 2
    simp at v0 y0 y1 y2
    have HBT := HBK.out
    have HSZ : Hid (((((w7.setCell ⟨w.heap.size, 0, none⟩ (.slice Av rs.length cv)).setCell ⟨w.heap.size + 1, 0, none⟩ (.int .i64 t.rule)).setCell ⟨w.heap.size + 1, 1, none⟩ (.string t.tok)).setCell ⟨w.heap.size + 1, 2, none⟩ (.slice Au t.kids.length du)).drew.heap.size = w7.heap.size) := Lib.hid tell2_size
    clear W1 W2 V1 V2 R1 R2 RG RT
    go_wp2
    go_region
    all_goals
      go_wp2
      exact bodyPost_ret (v := .tuple #[.agg #[.slice Av rs.length cv], .slice A7 (ys ++ [(⟨#[97]⟩ : ByteArray)]).length d7, .agg #[.int .i64 t.rule, .string t.tok, .slice Au t.kids.length du]]) (by simp [results, Tryz.results4, go_sem, v0, y0, y1, y2]) rfl ⟨_, rs, _, _, t, _, rfl, by rw [HSZ.out]; exact FIN.out.1, by rw [HSZ.out]; exact FIN.out.2.1, HT.out, HBT, by rw [HSZ.out]; exact FIN.out.2.2.1, FIN.out.2.2.2⟩
  | false =>
    obtain ⟨q1, q2, q3⟩ := Q6.out
    obtain ⟨R1, R2, RG, RT, FIN⟩ := FINAL.out w6 _ _ z6 E6.out q1 q2 q3 HY6.out HYS.out
    have g0 := RG.cell 0
    have b0 := RT.cell 0
    have b1 := RT.cell 1
    have b2 := RT.cell 2
    have r0 := R1.cell 0
    have rf0 := R1.free 0
    have s0 := R2.cell 0
    have s1 := R2.cell 1
    have s2 := R2.cell 2
    have sf0 := R2.free 0
    have sf1 := R2.free 1
    have sf2 := R2.free 2
    simp at g0 b0 b1 b2 r0 s0 s1 s2
    have W1 : Row (w6.setCell ⟨w.heap.size, 0, none⟩ (.slice Av rs.length cv)) w.heap.size 25 #[.slice Av rs.length cv] := by simpa using R1.put 0 (.slice Av rs.length cv)
    have W2 := R2.away (p := ⟨w.heap.size, 0, none⟩) (by show w.heap.size + 1 ≠ w.heap.size; omega) (.slice Av rs.length cv)
    have V1 := W1.same (set3_heap (w6.setCell ⟨w.heap.size, 0, none⟩ (.slice Av rs.length cv)) (w.heap.size + 1) (.int .i64 t.rule) (.string t.tok) (.slice Au t.kids.length du) w.heap.size (by omega))
    have V2 := set3_row W2 (.int .i64 t.rule) (.string t.tok) (.slice Au t.kids.length du)
    have v0 := V1.cell 0
    have y0 := V2.cell 0
    have y1 := V2.cell 1
    have y2 := V2.cell 2
    simp at v0 y0 y1 y2
    have HBT := HBK.out
    have HSZ : Hid (((((w6.setCell ⟨w.heap.size, 0, none⟩ (.slice Av rs.length cv)).setCell ⟨w.heap.size + 1, 0, none⟩ (.int .i64 t.rule)).setCell ⟨w.heap.size + 1, 1, none⟩ (.string t.tok)).setCell ⟨w.heap.size + 1, 2, none⟩ (.slice Au t.kids.length du)).drew.heap.size = w6.heap.size) := Lib.hid tell2_size
    clear W1 W2 V1 V2 R1 R2 RG RT
    go_wp2
    go_region
    all_goals
      go_wp2
      exact bodyPost_ret (v := .tuple #[.agg #[.slice Av rs.length cv], .slice Ay ys.length dy, .agg #[.int .i64 t.rule, .string t.tok, .slice Au t.kids.length du]]) (by simp [results, Tryz.results4, go_sem, v0, y0, y1, y2]) rfl ⟨_, rs, _, _, t, _, rfl, by rw [HSZ.out]; exact FIN.out.1, by rw [HSZ.out]; exact FIN.out.2.1, HT.out, HBT, by rw [HSZ.out]; exact FIN.out.2.2.1, FIN.out.2.2.2⟩
end Go.Proofs.YtokdhgocgicdnaaGreatDoor.Dr

/- A tree copied: l05Copy. -/
namespace Go.Proofs.YtokdhgocgicdnaaGreatDoor.Dr
open Go.RowKit
open Go.Proofs.YtokdhgocgicdnaaGreatDoor

/-- what stands while a tree is copied: the box of what came in, that of the result, that of the copy, its Kids so far -/
structure CpI (w : World) (t : TreeD) (u kv : Value) (xs : List (TreeD × Value)) (wx : World) : Prop where
  arg : Row wx w.heap.size 29 #[.int .i64 t.rule, .string t.tok, u]
  res : Row wx (w.heap.size + 1) 29 #[.int .i64 0, .string ⟨#[]⟩, .slice none 0 0]
  out : Row wx (w.heap.size + 2) 29 #[.int .i64 t.rule, .string t.tok, kv]
  kids : KidsX wx (w.heap.size + 3) kv xs
  bel : Below w.heap.size w wx
section
variable {w wx wy : World} {t x : TreeD} {u kv y : Value} {xs : List (TreeD × Value)} {lo hi : Nat}
theorem CpI.next (h : CpI w t u kv xs wx) (b : Below wx.heap.size wx wy) : CpI w t u kv xs wy :=
  ⟨h.arg.below b h.arg.lt, h.res.below b h.res.lt, h.out.below b h.out.lt, h.kids.below b, h.bel.trans (b.mono h.bel.size)⟩
theorem CpI.drew (h : CpI w t u kv xs wx) : CpI w t u kv xs wx.drew := ⟨h.arg, h.res, h.out, h.kids.move (Nat.le_refl _) fun _ _ _ => rfl, h.bel.drew⟩
theorem CpI.push {g' cap : Nat} (h : CpI w t u kv xs wx) (ht : TopOk x) (hk : Kd true wx lo hi y x.kids) (h1 : w.heap.size + 3 ≤ lo) (h2 : hi ≤ wx.heap.size) (h3 : ∀ b, kv.ownBlock = some b → b < lo ∨ hi ≤ b)
    (ho : wy.ownsRow (w.heap.size + 3) 29 3 (.slice (some ⟨g', 0, none⟩) (xs.length + 1) cap) (xs.length + 1) (flatT xs ++ [.int .i64 x.rule, .string x.tok, y])) (hg : wx.grownBy wy kv.ownBlock) (hl : kv.ownBlock = some g' ∨ g' = wx.heap.size) :
    CpI w t u (.slice (some ⟨g', 0, none⟩) (xs.length + 1) cap) (xs ++ [(x, y)]) (wy.setCell ⟨w.heap.size + 2, 2, none⟩ (.slice (some ⟨g', 0, none⟩) (xs.length + 1) cap)) ∧ Row wy (w.heap.size + 2) 29 #[.int .i64 t.rule, .string t.tok, kv] := by
  have own := fun b e => (h.kids.own (g := b) e).1
  have hol := h.out.lt
  have e1 : ∀ k, k < w.heap.size + 3 → wy.heap[k]? = wx.heap[k]? := fun k hk => hg.block k (by omega) (fun e => by have := own _ e.symm; omega)
  have e2 : ∀ k, k ≠ w.heap.size + 2 → (wy.setCell ⟨w.heap.size + 2, 2, none⟩ (.slice (some ⟨g', 0, none⟩) (xs.length + 1) cap)).heap[k]? = wy.heap[k]? := fun k hk => Below.heap_setCell _ _ _ _ hk
  have ro := h.out.same (e1 (w.heap.size + 2) (by omega))
  refine ⟨⟨h.arg.same ((e2 _ (by omega)).trans (e1 _ (by omega))), h.res.same ((e2 _ (by omega)).trans (e1 _ (by omega))), by simpa using ro.put 2 (.slice (some ⟨g', 0, none⟩) (xs.length + 1) cap), (h.kids.push ht hk h1 h2 h3 ho hg hl).move (by simp [World.setCell]) fun i h1 _ => e2 i (by omega), ?_⟩, ro⟩
  have hb := h.bel.size
  refine (Below.setCell ?_ (by show w.heap.size ≤ w.heap.size + 2; omega) _)
  exact ⟨hg.os.trans h.bel.os, hg.tape.trans h.bel.tape, hg.output.trans h.bel.output, Nat.le_trans hb hg.size, fun k hk => (e1 k (by omega)).trans (h.bel.block k hk)⟩
end
def CpC (t : TreeD) : Prop := ∀ (u : Value) (lo hi : Nat) (w : World), TopOk t → Kd true w lo hi u t.kids → hi ≤ w.heap.size → bulkT t ≤ 20000 →
  Calls Tryz.prog 29 #[trV t u] w fun e w' => ∃ x, e = .returned (trV t x) ∧ KidsR w' w.heap.size x t.kids ∧ Below w.heap.size w w'
set_option maxRecDepth 100000 in
set_option maxHeartbeats 4000000 in
theorem copy_of (t : TreeD) (ih : ∀ i (h : i < t.kids.length), CpC t.kids[i]) : CpC t := by
  intro u lo hi w ht hk hh hn
  obtain ⟨i0, hi0, hz0, hz1, hz2⟩ := info_parts Tryz.infoTreeD
  have hbe := bulkT_eq t
  have hlen := length_bulkTs t.kids
  have h0 : t.kids.length ≤ 20000 := by omega
  have HN : Hid (∀ i (h : i < t.kids.length), bulkT t.kids[i] ≤ 20000) := Lib.hid fun i h => by have := bulkTs_get t.kids i h; omega
  have HT := Lib.hid ht
  have HK := Lib.hid hk
  have HI := Lib.hid ih
  obtain ⟨A, c, U, rfl, hlc, hcm, hs, hcell, hsub⟩ := hk.parts
  have HS := Lib.hid hs
  have HC := Lib.hid hcell
  have HSUB := Lib.hid hsub
  unfold maxLen at hcm
  have I0 : CpI w t (.slice A t.kids.length c) (.slice none 0 0) [] (((w.alloc (.cells #[.int .i64 t.rule, .string t.tok, .slice A t.kids.length c] 29)).alloc (.cells #[.int .i64 0, .string ⟨#[]⟩, .slice none 0 0] 29)).alloc (.cells #[.int .i64 t.rule, .string t.tok, .slice none 0 0] 29)) := by
    have r1 := Row.made (w.alloc (.cells #[.int .i64 t.rule, .string t.tok, .slice A t.kids.length c] 29)) 29 #[.int .i64 0, .string ⟨#[]⟩, .slice none 0 0]
    have r2 := Row.made ((w.alloc (.cells #[.int .i64 t.rule, .string t.tok, .slice A t.kids.length c] 29)).alloc (.cells #[.int .i64 0, .string ⟨#[]⟩, .slice none 0 0] 29)) 29 #[.int .i64 t.rule, .string t.tok, .slice none 0 0]
    refine ⟨((Row.made w 29 _).alloc _).alloc _, ?_, ?_, KidsX.nil _ _, al3 w _ _ _⟩
    · have := r1.alloc (.cells #[.int .i64 t.rule, .string t.tok, .slice none 0 0] 29); simpa using this
    · simpa using r2
  have HI0 := Lib.hid I0
  have HB0 := Lib.hid hn
  clear ht hk ih hs hcell hsub I0 hbe hlen hn
  unfold trV
  go_enter Tryz.func29, Tryz.ntmps29
  go_wp2
  generalize ((w.alloc (.cells #[.int .i64 t.rule, .string t.tok, .slice A t.kids.length c] 29)).alloc (.cells #[.int .i64 0, .string ⟨#[]⟩, .slice none 0 0] 29)).alloc (.cells #[.int .i64 t.rule, .string t.tok, .slice none 0 0] 29) = w3 at HI0 ⊢
  go_loopw [4] (fun i wv => ∃ (k : Nat) (xs : List (TreeD × Value)) (kv : Value), k ≤ t.kids.length ∧ i = .int .i64 (k : Int) ∧ xs.map (·.1) = t.kids.take k ∧ CpI w t (.slice A t.kids.length c) kv xs wv) (fun i _ => t.kids.length - (intOf i).toNat)
  case atStart => exact ⟨0, [], _, by omega, rfl, rfl, HI0.out⟩
  case round =>
    rename World => wv
    obtain ⟨k, xs, kv, hk, rfl, hxs, hI⟩ := hrel
    obtain ⟨Ak, dk, rfl⟩ := hI.kids.shape
    have HP := Lib.hid hI
    have HX := Lib.hid hxs
    have hxl : xs.length = k := by have := congrArg List.length hxs; rw [List.length_map, List.length_take] at this; omega
    have hx5 : xs.length ≤ 20000 := by omega
    have HXL := Lib.hid hxl
    have a0 := hI.arg.cell 0
    have a1 := hI.arg.cell 1
    have a2 := hI.arg.cell 2
    have o0 := hI.out.cell 0
    have o1 := hI.out.cell 1
    have o2 := hI.out.cell 2
    have of2 := hI.out.free 2
    simp at a0 a1 a2 o0 o1 o2
    have lo2 := hI.out.lt
    have la : w.heap.size < wv.heap.size := hI.arg.lt
    clear hI hxs hxl
    by_cases hlt : k < t.kids.length
    · obtain ⟨b, off, rfl, hbl, hbh, -, hcc⟩ := HC.out (by omega)
      obtain ⟨hc0, hc1, hc2⟩ := hcc k hlt
      have hbw := HP.out.bel
      have k0 := (hbw.cell (p := ⟨b, off + k * 3, none⟩) (by show b < _; omega)).trans hc0
      have k1 := (hbw.cell (p := ⟨b, off + k * 3 + 1, none⟩) (by show b < _; omega)).trans hc1
      have k2 := (hbw.cell (p := ⟨b, off + k * 3 + 2, none⟩) (by show b < _; omega)).trans hc2
      have hbv : b < wv.heap.size := by have := hbw.size; omega
      have hUk := HSUB.out k hlt
      obtain ⟨A2, c2, U2, e2, -⟩ := hUk.parts
      rw [e2] at k2 hUk
      have HTK : Hid (TopOk t.kids[k]) := Lib.hid (HS.out k hlt)
      have HCALL := Lib.hid (HI.out k hlt (.slice A2 t.kids[k].kids.length c2) lo hi wv.drew HTK.out (hUk.under hbw.drew (by omega)) (by show hi ≤ wv.heap.size; have := hbw.size; omega) (HN.out k hlt))
      have HOW := Lib.hid (fun b e => HP.out.kids.own (g := b) e)
      have n1 : (k : Int) < (t.kids.length : Int) := by omega
      have a2d : wv.drew.cell? ⟨w.heap.size, 2, none⟩ = some (.slice (some ⟨b, off, none⟩) t.kids.length c) := a2
      have o2d : wv.drew.cell? ⟨w.heap.size + 2, 2, none⟩ = some (.slice Ak xs.length dk) := o2
      have k0d : wv.drew.cell? ⟨b, off + k * 3, none⟩ = some (.int .i64 t.kids[k].rule) := k0
      have k1d : wv.drew.cell? ⟨b, off + k * 3 + 1, none⟩ = some (.string t.kids[k].tok) := k1
      have k2d : wv.drew.cell? ⟨b, off + k * 3 + 2, none⟩ = some (.slice A2 t.kids[k].kids.length c2) := k2
      clear hcc hc0 hc1 hc2 hbw hUk e2
      unfold trV at HCALL
      go_wp2
      go_region_law (first
        | (refine step_append_lies _ (by rfl) _ _ _ (by rfl) (w.heap.size + 3) 29 i0 _ 3 48 Tryz.underlying27 hi0 hz0 hz1 hz2 rfl (by omega) (.slice Ak xs.length dk) xs.length (flatT xs) (by rfl) (World.ownsRow.alloc HP7.out.kids.1 _) ⟨w7.heap.size, 0, none⟩ 1 1 [.int .i64 t.kids[k].rule, .string t.kids[k].tok, .slice Ax t.kids[k].kids.length dx] (by rfl) (by rfl) (World.news_of_block (cs := #[.int .i64 t.kids[k].rule, .string t.kids[k].tok, .slice Ax t.kids[k].kids.length dx]) (t := 29) (fr := (0, 0)) (heap_alloc_new w7 _)) (tree3_one _ _ _ _ _) (by omega) (by unfold maxLen; omega) (by omega) (by simp <;> omega) (w7.heap.size + 1) (by simp) ?_; intro g9 cap9 w9 hown9 hg9 hl9 hlt9; obtain ⟨P9, R9⟩ := (HP7.out.next (al1 w7 _)).push (x := t.kids[k]) HTK.out (HK7.out.under (al1 w7 _) (Nat.le_refl _)) (by show w.heap.size + 3 ≤ wv.heap.size; omega) (by simp) (fun b e => .inl (HOW.out b e).2) hown9 hg9 (by simpa using hl9); have HP9 := Lib.hid P9; have o9 := R9.cell 2; have of9 := R9.free 2; simp at o9)
        | (go_simp; go_at_call 29; refine HCALL.out.mono ?_; rintro e w7 ⟨x7, rfl, hK7, hb7⟩; obtain ⟨Ax, dx, rfl⟩ := hK7.shape; have HP7 := Lib.hid (HP.out.drew.next hb7); have HK7 := Lib.hid hK7.kd; have o7 := HP7.out.out.cell 2; have l7 := HP7.out.out.lt; simp at o7; (try unfold trV)))
      all_goals
        have HX9 : Hid ((xs ++ [(t.kids[k], (.slice Ax t.kids[k].kids.length dx : Value))]).map (·.1) = t.kids.take (k + 1)) := Lib.hid (by rw [List.map_append, HX.out, List.take_succ_eq_append_getElem hlt]; rfl)
        clear P9 R9
        go_wp2
        go_roundw
        case rel => exact ⟨k + 1, _, _, by omega, by go_num, HX9.out, HP9.out⟩
        case measure => simp [intOf]; omega
    · have hkl : k = t.kids.length := by omega
      have r0 := HP.out.res.cell 0
      have r1 := HP.out.res.cell 1
      have r2 := HP.out.res.cell 2
      have rf0 := HP.out.res.free 0
      have rf1 := HP.out.res.free 1
      have rf2 := HP.out.res.free 2
      simp at r0 r1 r2
      have R9 := set3_row HP.out.res (.int .i64 t.rule) (.string t.tok) (.slice Ak xs.length dk)
      have d0 := R9.cell 0
      have d1 := R9.cell 1
      have d2 := R9.cell 2
      simp at d0 d1 d2
      have FIN : Hid (KidsR (((wv.setCell ⟨w.heap.size + 1, 0, none⟩ (.int .i64 t.rule)).setCell ⟨w.heap.size + 1, 1, none⟩ (.string t.tok)).setCell ⟨w.heap.size + 1, 2, none⟩ (.slice Ak xs.length dk)) w.heap.size (.slice Ak xs.length dk) t.kids ∧ Below w.heap.size w (((wv.setCell ⟨w.heap.size + 1, 0, none⟩ (.int .i64 t.rule)).setCell ⟨w.heap.size + 1, 1, none⟩ (.string t.tok)).setCell ⟨w.heap.size + 1, 2, none⟩ (.slice Ak xs.length dk))) := Lib.hid
        ⟨⟨xs, by rw [HX.out, hkl, List.take_length], (HP.out.kids.move (by rw [set3_size]; exact Nat.le_refl _) fun i h1 _ => set3_heap _ _ _ _ _ _ (by omega)).lower (by omega)⟩, ((HP.out.bel.setCell (Nat.le_succ _) _).setCell (Nat.le_succ _) _).setCell (Nat.le_succ _) _⟩
      clear R9 hkl
      go_wp2
      exact bodyPost_ret (v := .agg #[.int .i64 t.rule, .string t.tok, .slice Ak xs.length dk]) (by simp [results, Tryz.results29, go_sem, d0, d1, d2]) rfl ⟨_, rfl, FIN.out.1, FIN.out.2⟩
theorem copy_any (t : TreeD) : CpC t := tree_ind copy_of t
end Go.Proofs.YtokdhgocgicdnaaGreatDoor.Dr
