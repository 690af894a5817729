import Derived.Test.YtokdhgocgicdnaaGreatDoorJEq
import Derived.Test.YtokdhgocgicdnaaGreatDoorJSplit
import Derived.Deep.RegionHeld3
import Derived.Deep.RegionWith
import Derived.Deep.LoopGhost
import Derived.StillTailTactics
import Derived.BigQuiet
import Derived.Test.YtokdhgocgicdnaaGreatDoorJTre
import Derived.MapKept
import Derived.LaidEql
import Derived.WalkKit
import Derived.Test.YtokdhgocgicdnaaGreatDoorJSsy
import Derived.Laws.StructEq
/- The symbol of a leaf, and of a node: (leaf).symbol, (node).symbol. -/
namespace Go.Proofs.YtokdhgocgicdnaaGreatDoor
open Go.RowKit

theorem partOf_below (t : TreeD) (A : Option Addr) (c : Nat) (w : World) :
    Calls Tryz.prog 49 #[.agg #[.int .i64 t.rule, .string t.tok, .slice A t.kids.length c]] w fun e w' => e = .returned (partV t (.slice A t.kids.length c)) ∧ Below w.heap.size w w' := by
  refine (partOf_any t A c w).mono ?_
  rintro e w' ⟨rfl, rfl⟩
  exact ⟨rfl, al1 _ _⟩
theorem methLeaf (a b : Value) (w : World) : (Go.method 310 97 (.agg #[a, b]) "loop.example/g00828/impl.symbol").run Tryz.prog w = .ok (132, .agg #[a, b]) w := by kernel_rfl
theorem methNode (a b c : Value) (w : World) : (Go.method 310 103 (.agg #[a, b, c]) "loop.example/g00828/impl.symbol").run Tryz.prog w = .ok (133, .agg #[a, b, c]) w := by kernel_rfl
theorem bytes_ext {a b : ByteArray} (h : a.toList = b.toList) : a = b := by
  apply ByteArray.ext
  apply Array.ext'
  simpa [ByteArray.toList_eq] using h
theorem ret_str {a b : ByteArray} (h : a = b) : Ending.returned (.string a) = .returned (.string b) := by rw [h]

set_option maxRecDepth 100000 in
set_option maxHeartbeats 1000000 in
theorem leafSymbol_any (rs : List RuleD) (t : TreeD) (v : Value) (w : World) (h1 : t.tok.size ≠ 0) (h2 : t.kids.length = 0) :
    Calls Tryz.prog 132 #[.agg #[.int .i64 t.rule, .string t.tok], v] w fun e w' => e = .returned (.string (symT rs t)) ∧ Below w.heap.size w w' := by
  by_cases h3 : t.rule = -1
  · cases h4 : tokB t.tok
    · have HE := Lib.hid (symT_leaf_no (rs := rs) h1 h2 (by rw [h4]; rintro ⟨_, h⟩; cases h))
      have H4 := Lib.hid h4
      clear h4 h1 h2
      go_enter Tryz.func132, Tryz.ntmps132
      go_wp2_with (go_at_call 74; refine (implIsToken_any t.tok _).mono ?_; rintro e w1 ⟨rfl, hb⟩; rw [H4.out])
      go_ret
      exact ⟨ret_str HE.out.symm, (al1 _ _).trans (hb.mono (by simp))⟩
    · have HE := Lib.hid (symT_leaf (rs := rs) h1 h2 h3 h4)
      have H4 := Lib.hid h4
      clear h4 h1 h2
      go_enter Tryz.func132, Tryz.ntmps132
      go_wp2_with fail
      refine (implIsToken_any t.tok _).mono ?_
      rintro e w1 ⟨rfl, hb⟩
      rw [H4.out]
      have R1 := (Row.made w 97 #[.int .i64 (-1), .string t.tok]).below hb (by simp)
      have c1 := R1.cell 1
      simp at c1
      clear R1
      go_wp2
      go_ret
      exact ⟨ret_str HE.out.symm, (al1 _ _).trans (hb.mono (by simp))⟩
  · have HE := Lib.hid (symT_leaf_no (rs := rs) h1 h2 (fun h => h3 h.1))
    clear h1 h2
    go_enter Tryz.func132, Tryz.ntmps132
    go_wp2
    go_ret
    exact ⟨ret_str HE.out.symm, al1 _ _⟩

def SyN (rs : List RuleD) (t : TreeD) : Prop := ∀ (z : Bool) (u v : Value) (lo hi lo2 hi2 : Nat) (w : World), ¬ (t.tok.size ≠ 0 ∧ t.kids.length = 0) → Kd z w lo hi u t.kids → Rules w lo2 hi2 v rs → hi ≤ w.heap.size → hi2 ≤ w.heap.size →
  Calls Tryz.prog 133 #[.agg #[.int .i64 t.rule, .string t.tok, u], v] w fun e w' => e = .returned (.string (symT rs t)) ∧ Below w.heap.size w w'

set_option maxRecDepth 100000 in
set_option maxHeartbeats 4000000 in
theorem nodeSymbol_of (rs : List RuleD) (t : TreeD) (ih : ∀ i (h : i < t.kids.length), SyN rs t.kids[i]) : SyN rs t := by
  intro z u v lo hi lo2 hi2 w hnl hkd hrl hh hh2
  have HV := Lib.hid hkd
  obtain ⟨A, c, U, rfl, hlc, hc, hs, hcell, hsub⟩ := hkd.parts
  have HC := Lib.hid hcell
  have HB := Lib.hid hsub
  obtain ⟨Ar, cr, rfl, hlr, hcr, hrcell⟩ := hrl
  have HR := Lib.hid hrcell
  unfold maxLen at hc hcr
  clear hkd hcell hsub hs hrcell
  by_cases h1 : t.tok.size = 0
  · have e1 : (t.tok.toList == []) = true := by rw [toks_empty, decide_eq_true h1]
    by_cases h2 : t.rule < 0
    · have HE := Lib.hid (symT_neg (rs := rs) h1 h2)
      go_enter Tryz.func133, Tryz.ntmps133
      go_wp2
      go_ret
      exact ⟨ret_str HE.out.symm, al1 _ _⟩
    · by_cases h3 : (rs.length : Int) ≤ t.rule
      · have HE := Lib.hid (symT_none (rs := rs) h1 h3)
        have g3 : decide (t.rule ≥ (rs.length : Int)) = true := decide_eq_true h3
        go_enter Tryz.func133, Tryz.ntmps133
        go_wp2
        go_ret
        exact ⟨ret_str HE.out.symm, al1 _ _⟩
      · have h4 : t.rule.toNat < rs.length := by omega
        obtain ⟨br, offr, rfl, _, hbr, hrc⟩ := HR.out (by omega)
        obtain ⟨hhd, hr0, ub, hr1, hbody⟩ := hrc t.rule.toNat h4
        have HBD := Lib.hid hbody
        obtain ⟨Ab, cb, rfl, hlb, hcb, hsb, hbcell⟩ := hbody
        have HBC := Lib.hid hbcell
        unfold maxLen at hcb
        have hlt3 : t.rule < (rs.length : Int) := by omega
        have hge3 : 0 ≤ t.rule := by omega
        have hbrw : br < w.heap.size := by omega
        clear hrc hbcell hsb
        by_cases h5 : t.kids.length = rs[t.rule.toNat].body.length
        · have R0 := Row.made w 103 #[.int .i64 t.rule, .string t.tok, .slice A t.kids.length c]
          have R1 := (Row.made w 103 #[.int .i64 t.rule, .string t.tok, .slice A t.kids.length c]).alloc (.cells #[.string rs[t.rule.toNat].head, .slice Ab rs[t.rule.toNat].body.length cb] 45)
          have R2 := Row.made (w.alloc (.cells #[.int .i64 t.rule, .string t.tok, .slice A t.kids.length c] 103)) 45 #[.string rs[t.rule.toNat].head, .slice Ab rs[t.rule.toNat].body.length cb]
          have hb0 := al2 w (.cells #[.int .i64 t.rule, .string t.tok, .slice A t.kids.length c] 103) (.cells #[.string rs[t.rule.toNat].head, .slice Ab rs[t.rule.toNat].body.length cb] 45)
          have hsz : (w.alloc (.cells #[.int .i64 t.rule, .string t.tok, .slice A t.kids.length c] 103)).heap.size = w.heap.size + 1 := by simp
          rw [hsz] at R2
          have hsz2 : ((w.alloc (.cells #[.int .i64 t.rule, .string t.tok, .slice A t.kids.length c] 103)).alloc (.cells #[.string rs[t.rule.toNat].head, .slice Ab rs[t.rule.toNat].body.length cb] 45)).heap.size = w.heap.size + 1 + 1 := by simp
          have H5 := Lib.hid h5
          have n5 : ((t.kids.length : Int) == (rs[t.rule.toNat].body.length : Int)) = true := by rw [beq_iff_eq]; omega
          have HRV : Hid (Rules w lo2 hi2 (.slice (some ⟨br, offr, none⟩) rs.length cr) rs) := Lib.hid ⟨_, _, rfl, hlr, hcr, HR.out⟩
          clear R0 hsz h5
          go_enter Tryz.func133, Tryz.ntmps133
          go_wp2
          generalize (w.alloc (.cells #[.int .i64 t.rule, .string t.tok, .slice A t.kids.length c] 103)).alloc (.cells #[.string rs[t.rule.toNat].head, .slice Ab rs[t.rule.toNat].body.length cb] 45) = w0 at R1 R2 hb0 hsz2 ⊢
          go_loopg [38] t.kids.length (fun gk i wr => ∃ k : Nat, k ≤ t.kids.length ∧ i = .int .i64 k ∧ Below w0.heap.size w0 wr ∧ (∀ j (h : j < t.kids.length), j < k → symT rs t.kids[j] = rs[t.rule.toNat].body[j]'(by have := H5.out; omega)) ∧ gk = t.kids.length - k)
          case atStart => exact ⟨0, by omega, rfl, Below.refl _ _, (fun j _ hj => by omega), rfl⟩
          case round =>
            obtain ⟨k, hk, rfl, hbw, hall, rfl⟩ := hrel
            have HA := Lib.hid hall
            clear hall
            have hsw := hbw.size
            have hws := hb0.size
            have R3 := R2.below hbw R2.lt
            have hlt3 := R3.lt
            have c0 := R3.cell 0
            have c1 := R3.cell 1
            simp at c0 c1
            have HBX := Lib.hid (hb0.trans (hbw.mono hws))
            by_cases hlt : k < t.kids.length
            · obtain ⟨b, off, rfl, _, hbh, _, hcc⟩ := HC.out (by omega)
              obtain ⟨hc0, hc1, hc2⟩ := hcc k hlt
              obtain ⟨bb, offb, rfl, _, hbbh, hbcc⟩ := HBC.out (by have := H5.out; omega)
              have hlt5 : k < rs[t.rule.toNat].body.length := by have := H5.out; omega
              have hbk := hbcc k hlt5
              have B0 := HBX.out
              have k0 := (B0.cell (p := ⟨b, off + k * 3, none⟩) (by show b < _; omega)).trans hc0
              have k1 := (B0.cell (p := ⟨b, off + k * 3 + 1, none⟩) (by show b < _; omega)).trans hc1
              have k2 := (B0.cell (p := ⟨b, off + k * 3 + 2, none⟩) (by show b < _; omega)).trans hc2
              have kb := (B0.cell (p := ⟨bb, offb + k, none⟩) (by show bb < _; omega)).trans hbk
              have HKD := Lib.hid ((HB.out k hlt).under B0 hh)
              obtain ⟨A2, c2, U2, e2, -⟩ := (HB.out k hlt).parts
              rw [e2] at k2 HKD
              have HRD := Lib.hid (HRV.out.below B0 hh2)
              have hzw : w.heap.size + 1 + 1 ≤ wr.heap.size := by omega
              have i1 : (k : Int) < (t.kids.length : Int) := by omega
              have i5 : (k : Int) < (rs[t.rule.toNat].body.length : Int) := by omega
              have hbwr : b < wr.heap.size := by omega
              have hbbwr : bb < wr.heap.size := by omega
              have hb1 := al1 wr (.cells #[.int .i64 t.kids[k].rule, .string t.kids[k].tok, .slice A2 t.kids[k].kids.length c2] 29)
              have HB1 := Lib.hid hb1
              have V5 : Kd z (wr.alloc (.cells #[.int .i64 t.kids[k].rule, .string t.kids[k].tok, .slice A2 t.kids[k].kids.length c2] 29)).drew lo hi (.slice A2 t.kids[k].kids.length c2) t.kids[k].kids := (HKD.out.under hb1 (by omega)).drewN 1
              have R5 : Rules (wr.alloc (.cells #[.int .i64 t.kids[k].rule, .string t.kids[k].tok, .slice A2 t.kids[k].kids.length c2] 29)).drew lo2 hi2 (.slice (some ⟨br, offr, none⟩) rs.length cr) rs := HRD.out.below (B := wr.heap.size) hb1.drew (by omega)
              clear hcc hc0 hc1 hc2 hbcc hbk e2 B0 hb1 R3
              have l0 : (wr.alloc (.cells #[.int .i64 t.kids[k].rule, .string t.kids[k].tok, .slice A2 t.kids[k].kids.length c2] 29)).cell? ⟨wr.heap.size, 0, none⟩ = some (.int .i64 t.kids[k].rule) := (Row.made wr _ _).cell 0
              have l1 : (wr.alloc (.cells #[.int .i64 t.kids[k].rule, .string t.kids[k].tok, .slice A2 t.kids[k].kids.length c2] 29)).cell? ⟨wr.heap.size, 1, none⟩ = some (.string t.kids[k].tok) := (Row.made wr _ _).cell 1
              have l2 : (wr.alloc (.cells #[.int .i64 t.kids[k].rule, .string t.kids[k].tok, .slice A2 t.kids[k].kids.length c2] 29)).cell? ⟨wr.heap.size, 2, none⟩ = some (.slice A2 t.kids[k].kids.length c2) := (Row.made wr _ _).cell 2
              have k1c := (HB1.out.cell (p := ⟨w.heap.size + 1, 1, none⟩) (by show w.heap.size + 1 < _; omega)).trans c1
              have k1b := (HB1.out.cell (p := ⟨bb, offb + k, none⟩) hbbwr).trans kb
              have hz5 : wr.heap.size < (wr.alloc (.cells #[.int .i64 t.kids[k].rule, .string t.kids[k].tok, .slice A2 t.kids[k].kids.length c2] 29)).heap.size := by simp
              by_cases heq : symT rs t.kids[k] = rs[t.rule.toNat].body[k]
              · have d1 : ((symT rs t.kids[k]).toList == rs[t.rule.toNat].body[k].toList) = true := by rw [heq]; simp
                have HEQ := Lib.hid heq
                clear heq
                by_cases hlf : t.kids[k].tok.size ≠ 0 ∧ t.kids[k].kids.length = 0
                · have HLF := Lib.hid hlf
                  have hmeth := methLeaf (.int .i64 t.kids[k].rule) (.string t.kids[k].tok)
                  clear hlf
                  go_wp2
                  generalize wr.alloc (.cells #[.int .i64 t.kids[k].rule, .string t.kids[k].tok, .slice A2 t.kids[k].kids.length c2] 29) = w5 at l0 l1 l2 V5 R5 HB1 k1c k1b hz5 ⊢
                  go_region_held3 (fun w' => (w'.cell? ⟨wr.heap.size, 0, none⟩ = some (.int .i64 t.kids[k].rule) ∧ w'.cell? ⟨wr.heap.size, 1, none⟩ = some (.string t.kids[k].tok) ∧ w'.cell? ⟨wr.heap.size, 2, none⟩ = some (.slice A2 t.kids[k].kids.length c2)) ∧ w'.cell? ⟨w.heap.size + 1, 1, none⟩ = some (.slice (some ⟨bb, offb, none⟩) rs[t.rule.toNat].body.length cb) ∧ w'.cell? ⟨bb, offb + k, none⟩ = some (.string rs[t.rule.toNat].body[k]))
                    (first | go_keep | (refine ⟨⟨?_, ?_, ?_⟩, ?_, ?_⟩ <;> (rw [b6.cell (by simp <;> omega)]; assumption)) | (refine ⟨⟨?_, ?_, ?_⟩, ?_, ?_⟩ <;> (rw [b7.cell (by simp <;> omega), b6.cell (by simp <;> omega)]; assumption)))
                    (first
                      | (go_at_call 49; refine (partOf_below t.kids[k] A2 c2 w5.drew).mono ?_; rintro e w6 ⟨rfl, b6⟩; have z6 : w5.heap.size ≤ w6.heap.size := b6.size; rw [partV_leaf HLF.out])
                      | (go_at_call 132; refine (leafSymbol_any rs t.kids[k] _ w6 HLF.out.1 HLF.out.2).mono ?_; rintro e w7 ⟨rfl, b7⟩))
                  have HB7 := Lib.hid ((((HB1.out.drew).trans (b6.mono (by simp <;> omega))).trans (b7.mono (by omega))).mono (B := wr.heap.size) (Nat.le_refl _))
                  clear b6 b7
                  go_wp2
                  go_roundg (t.kids.length - (k + 1))
                  case rel => exact ⟨k + 1, by omega, by go_num, hbw.trans (HB7.out.mono hsw), (fun j hj hjk => by
                    by_cases e : j = k
                    · subst e; exact HEQ.out
                    · exact HA.out j hj (by omega)), rfl⟩
                  case measure => omega
                · have HLF := Lib.hid hlf
                  have hmeth := methNode (.int .i64 t.kids[k].rule) (.string t.kids[k].tok) (.slice A2 t.kids[k].kids.length c2)
                  clear hlf
                  go_wp2
                  generalize wr.alloc (.cells #[.int .i64 t.kids[k].rule, .string t.kids[k].tok, .slice A2 t.kids[k].kids.length c2] 29) = w5 at l0 l1 l2 V5 R5 HB1 k1c k1b hz5 ⊢
                  go_region_held3 (fun w' => (w'.cell? ⟨wr.heap.size, 0, none⟩ = some (.int .i64 t.kids[k].rule) ∧ w'.cell? ⟨wr.heap.size, 1, none⟩ = some (.string t.kids[k].tok) ∧ w'.cell? ⟨wr.heap.size, 2, none⟩ = some (.slice A2 t.kids[k].kids.length c2)) ∧ w'.cell? ⟨w.heap.size + 1, 1, none⟩ = some (.slice (some ⟨bb, offb, none⟩) rs[t.rule.toNat].body.length cb) ∧ w'.cell? ⟨bb, offb + k, none⟩ = some (.string rs[t.rule.toNat].body[k]))
                    (first | go_keep | (refine ⟨⟨?_, ?_, ?_⟩, ?_, ?_⟩ <;> (rw [b6.cell (by simp <;> omega)]; assumption)) | (refine ⟨⟨?_, ?_, ?_⟩, ?_, ?_⟩ <;> (rw [b7.cell (by simp <;> omega), b6.cell (by simp <;> omega)]; assumption)))
                    (first
                      | (go_at_call 49; refine (partOf_below t.kids[k] A2 c2 w5.drew).mono ?_; rintro e w6 ⟨rfl, b6⟩; have z6 : w5.heap.size ≤ w6.heap.size := b6.size; rw [partV_node HLF.out])
                      | (go_at_call 133; refine (ih k hlt z _ _ lo hi lo2 hi2 w6 HLF.out (V5.under b6 (by simp; omega)) (R5.below b6 (by simp; omega)) (by omega) (by omega)).mono ?_; rintro e w7 ⟨rfl, b7⟩))
                  have HB7 := Lib.hid ((((HB1.out.drew).trans (b6.mono (by simp <;> omega))).trans (b7.mono (by omega))).mono (B := wr.heap.size) (Nat.le_refl _))
                  clear b6 b7
                  go_wp2
                  go_roundg (t.kids.length - (k + 1))
                  case rel => exact ⟨k + 1, by omega, by go_num, hbw.trans (HB7.out.mono hsw), (fun j hj hjk => by
                    by_cases e : j = k
                    · subst e; exact HEQ.out
                    · exact HA.out j hj (by omega)), rfl⟩
                  case measure => omega
              · have d1 : ((symT rs t.kids[k]).toList == rs[t.rule.toNat].body[k].toList) = false := by rw [beq_eq_false_iff_ne]; exact fun e => heq (bytes_ext e)
                have HK : Hid (symT rs t = ByteArray.empty) := Lib.hid (symT_kid h1 (by omega) h4 H5.out hlt heq)
                clear heq
                by_cases hlf : t.kids[k].tok.size ≠ 0 ∧ t.kids[k].kids.length = 0
                · have HLF := Lib.hid hlf
                  have hmeth := methLeaf (.int .i64 t.kids[k].rule) (.string t.kids[k].tok)
                  clear hlf
                  go_wp2
                  generalize wr.alloc (.cells #[.int .i64 t.kids[k].rule, .string t.kids[k].tok, .slice A2 t.kids[k].kids.length c2] 29) = w5 at l0 l1 l2 V5 R5 HB1 k1c k1b hz5 ⊢
                  go_region_held3 (fun w' => (w'.cell? ⟨wr.heap.size, 0, none⟩ = some (.int .i64 t.kids[k].rule) ∧ w'.cell? ⟨wr.heap.size, 1, none⟩ = some (.string t.kids[k].tok) ∧ w'.cell? ⟨wr.heap.size, 2, none⟩ = some (.slice A2 t.kids[k].kids.length c2)) ∧ w'.cell? ⟨w.heap.size + 1, 1, none⟩ = some (.slice (some ⟨bb, offb, none⟩) rs[t.rule.toNat].body.length cb) ∧ w'.cell? ⟨bb, offb + k, none⟩ = some (.string rs[t.rule.toNat].body[k]))
                    (first | go_keep | (refine ⟨⟨?_, ?_, ?_⟩, ?_, ?_⟩ <;> (rw [b6.cell (by simp <;> omega)]; assumption)) | (refine ⟨⟨?_, ?_, ?_⟩, ?_, ?_⟩ <;> (rw [b7.cell (by simp <;> omega), b6.cell (by simp <;> omega)]; assumption)))
                    (first
                      | (go_at_call 49; refine (partOf_below t.kids[k] A2 c2 w5.drew).mono ?_; rintro e w6 ⟨rfl, b6⟩; have z6 : w5.heap.size ≤ w6.heap.size := b6.size; rw [partV_leaf HLF.out])
                      | (go_at_call 132; refine (leafSymbol_any rs t.kids[k] _ w6 HLF.out.1 HLF.out.2).mono ?_; rintro e w7 ⟨rfl, b7⟩))
                  have HB7 := Lib.hid ((((HB1.out.drew).trans (b6.mono (by simp <;> omega))).trans (b7.mono (by omega))).mono (B := wr.heap.size) (Nat.le_refl _))
                  clear b6 b7
                  go_wp2
                  go_ret
                  exact ⟨ret_str HK.out.symm, HBX.out.trans (HB7.out.mono (by omega))⟩
                · have HLF := Lib.hid hlf
                  have hmeth := methNode (.int .i64 t.kids[k].rule) (.string t.kids[k].tok) (.slice A2 t.kids[k].kids.length c2)
                  clear hlf
                  go_wp2
                  generalize wr.alloc (.cells #[.int .i64 t.kids[k].rule, .string t.kids[k].tok, .slice A2 t.kids[k].kids.length c2] 29) = w5 at l0 l1 l2 V5 R5 HB1 k1c k1b hz5 ⊢
                  go_region_held3 (fun w' => (w'.cell? ⟨wr.heap.size, 0, none⟩ = some (.int .i64 t.kids[k].rule) ∧ w'.cell? ⟨wr.heap.size, 1, none⟩ = some (.string t.kids[k].tok) ∧ w'.cell? ⟨wr.heap.size, 2, none⟩ = some (.slice A2 t.kids[k].kids.length c2)) ∧ w'.cell? ⟨w.heap.size + 1, 1, none⟩ = some (.slice (some ⟨bb, offb, none⟩) rs[t.rule.toNat].body.length cb) ∧ w'.cell? ⟨bb, offb + k, none⟩ = some (.string rs[t.rule.toNat].body[k]))
                    (first | go_keep | (refine ⟨⟨?_, ?_, ?_⟩, ?_, ?_⟩ <;> (rw [b6.cell (by simp <;> omega)]; assumption)) | (refine ⟨⟨?_, ?_, ?_⟩, ?_, ?_⟩ <;> (rw [b7.cell (by simp <;> omega), b6.cell (by simp <;> omega)]; assumption)))
                    (first
                      | (go_at_call 49; refine (partOf_below t.kids[k] A2 c2 w5.drew).mono ?_; rintro e w6 ⟨rfl, b6⟩; have z6 : w5.heap.size ≤ w6.heap.size := b6.size; rw [partV_node HLF.out])
                      | (go_at_call 133; refine (ih k hlt z _ _ lo hi lo2 hi2 w6 HLF.out (V5.under b6 (by simp; omega)) (R5.below b6 (by simp; omega)) (by omega) (by omega)).mono ?_; rintro e w7 ⟨rfl, b7⟩))
                  have HB7 := Lib.hid ((((HB1.out.drew).trans (b6.mono (by simp <;> omega))).trans (b7.mono (by omega))).mono (B := wr.heap.size) (Nat.le_refl _))
                  clear b6 b7
                  go_wp2
                  go_ret
                  exact ⟨ret_str HK.out.symm, HBX.out.trans (HB7.out.mono (by omega))⟩
            · have HK : Hid (symT rs t = rs[t.rule.toNat].head) := Lib.hid (symT_ok h1 (by omega) h4 H5.out fun i hi hi' => HA.out i hi (by omega))
              clear R3
              go_wp2
              go_ret
              exact ⟨ret_str HK.out.symm, HBX.out⟩
        · have HE := Lib.hid (symT_len (rs := rs) h1 h2 h4 h5)
          have n5 : ((t.kids.length : Int) == (rs[t.rule.toNat].body.length : Int)) = false := by rw [beq_eq_false_iff_ne]; omega
          go_enter Tryz.func133, Tryz.ntmps133
          go_wp2
          go_ret
          exact ⟨ret_str HE.out.symm, al2 _ _ _⟩
  · have e1 : (t.tok.toList == []) = false := by rw [toks_empty, decide_eq_false h1]
    have h2 : t.kids.length ≠ 0 := by omega
    have HE := Lib.hid (symT_tok (rs := rs) h1 h2)
    go_enter Tryz.func133, Tryz.ntmps133
    go_wp2
    go_ret
    exact ⟨ret_str HE.out.symm, al1 _ _⟩
end Go.Proofs.YtokdhgocgicdnaaGreatDoor

/- Maps of the call's own whose keys may be addresses: what stands at each key, by a list of keys and values. No program stands in this text. -/
namespace Go.Proofs.YtokdhgocgicdnaaGreatDoor
open Go.RowKit

section
variable {κ ν : Type} {kv : κ → Value} {vv : ν → Value} {w w' : World} {b : Nat}
/-- block b is a map that holds just l -/
def PM (w : World) (b : Nat) (kv : κ → Value) (vv : ν → Value) (l : List (κ × ν)) : Prop :=
  ∃ es clock, w.heap[b]? = some (.map es clock) ∧ es.toList.map (fun e => (e.key, e.val)) = l.map fun x => (kv x.1, vv x.2)

theorem PM.lt {l : List (κ × ν)} (h : PM w b kv vv l) : b < w.heap.size := by
  obtain ⟨es, c, h, _⟩ := h
  rcases Nat.lt_or_ge b w.heap.size with h1 | h1
  · exact h1
  · rw [Array.getElem?_eq_none h1] at h; cases h
theorem PM.keep {l : List (κ × ν)} (h : PM w b kv vv l) (e : w'.heap[b]? = w.heap[b]?) : PM w' b kv vv l := by
  obtain ⟨es, c, h1, h2⟩ := h
  exact ⟨es, c, e.trans h1, h2⟩
theorem PM.made (w : World) : PM (w.alloc (.map #[] 0)) w.heap.size kv vv ([] : List (κ × ν)) := ⟨#[], 0, by show (w.heap.push _)[w.heap.size]? = _; simp, rfl⟩

end

section
variable {κ ν : Type} [DecidableEq κ]
def lk : List (κ × ν) → κ → Option ν
  | [], _ => none
  | x :: l, p => if p = x.1 then some x.2 else lk l p
def up : List (κ × ν) → κ → ν → List (κ × ν)
  | [], p, v => [(p, v)]
  | x :: l, p, v => if p = x.1 then (p, v) :: l else x :: up l p v
theorem lk_up (l : List (κ × ν)) (p q : κ) (v : ν) : lk (up l p v) q = if q = p then some v else lk l q := by
  induction l with
  | nil => simp [up, lk]
  | cons x l ih =>
    unfold up
    by_cases h : p = x.1
    · rw [if_pos h]
      simp only [lk]
      by_cases hq : q = p
      · simp [hq]
      · rw [if_neg hq, if_neg hq, if_neg (fun e => hq (by rw [e, h]))]
    · rw [if_neg h]
      simp only [lk]
      by_cases hq : q = x.1
      · rw [if_pos hq, if_neg (fun e => h (by rw [← e, hq])), if_pos hq]
      · rw [if_neg hq, ih, if_neg hq]
theorem lk_up_same (l : List (κ × ν)) (p : κ) (v : ν) : lk (up l p v) p = some v := by rw [lk_up, if_pos rfl]
theorem lk_up_other (l : List (κ × ν)) {p q : κ} (v : ν) (h : q ≠ p) : lk (up l p v) q = lk l q := by rw [lk_up, if_neg h]
theorem mem_up {l : List (κ × ν)} {p : κ} {v : ν} {x : κ × ν} (h : x ∈ up l p v) : x.1 = p ∨ x ∈ l := by
  induction l with
  | nil => simp [up] at h; left; rw [h]
  | cons y l ih =>
    unfold up at h
    split at h
    · rcases List.mem_cons.1 h with h | h
      · left; rw [h]
      · right; exact List.mem_cons_of_mem _ h
    · rcases List.mem_cons.1 h with h | h
      · right; rw [h]; exact List.mem_cons_self
      · rcases ih h with h | h
        · left; exact h
        · right; exact List.mem_cons_of_mem _ h
theorem up_length (l : List (κ × ν)) (p : κ) (v : ν) : (up l p v).length ≤ l.length + 1 := by
  induction l with
  | nil => simp [up]
  | cons y l ih => unfold up; split <;> simp; omega

/-- how keys of a type are told apart -/
structure KeyK (P : Program) (kt : TypeId) (kv : κ → Value) (Ok : World → κ → Prop) : Prop where
  und : ∃ d, P.underlying kt = some d ∧ ∀ a b, Instr.sameNow d a b = none
  eq : ∀ w p q, Ok w p → Ok w q → (Op.equal kt (kv p) (kv q)).run P w = .ok (decide (p = q)) w
  chk : ∀ w p e, (Instr.checkKey e 10000 kt (kv p)).run P w = .ok () w
  bits : ∀ p, Instr.sameBits 10000 (kv p) (kv p) = true

variable {P : Program} {kt et t : TypeId} {kv : κ → Value} {Ok : World → κ → Prop} {vv : ν → Value} {w w' : World} {b : Nat}

theorem askP_any (K : KeyK P kt kv Ok) (p : κ) (hp : Ok w p) : ∀ (l : List (κ × ν)) (es : List MapEntry) (i : Nat), es.map (fun e => (e.key, e.val)) = l.map (fun x => (kv x.1, vv x.2)) → (∀ x ∈ l, Ok w x.1) →
    (lk l p = none ∧ (Instr.findAsking kt (kv p) es i).run P w = .ok none w ∧ ∀ v, up l p v = l ++ [(p, v)]) ∨
    (∃ j v e, lk l p = some v ∧ (Instr.findAsking kt (kv p) es i).run P w = .ok (some (i + j, vv v)) w ∧ es[j]? = some e ∧ e.key = kv p ∧ ∀ v', (es.modify j fun e => { e with key := kv p, val := vv v' }).map (fun e => (e.key, e.val)) = (up l p v').map (fun x => (kv x.1, vv x.2)))
  | [], [], i, _, _ => Or.inl ⟨rfl, by simp [Instr.findAsking], fun _ => rfl⟩
  | [], _ :: _, _, h, _ => by simp at h
  | _ :: _, [], _, h, _ => by simp at h
  | x :: l, e :: es, i, h, hok => by
    simp only [List.map_cons, List.cons.injEq, Prod.mk.injEq] at h
    obtain ⟨⟨h1, h2⟩, h3⟩ := h
    have he := K.eq w p x.1 hp (hok x List.mem_cons_self)
    by_cases hx : p = x.1
    · right
      refine ⟨0, x.2, e, by simp [lk, hx], ?_, rfl, by rw [h1, hx], fun v' => ?_⟩
      · rw [decide_eq_true hx] at he
        simp [Instr.findAsking, h1, he, h2]
      · simp [up, hx, h3]
    · rw [decide_eq_false hx] at he
      rcases askP_any K p hp l es (i + 1) h3 (fun y hy => hok y (List.mem_cons_of_mem _ hy)) with ⟨a1, a2, a3⟩ | ⟨j, v, e', a1, a2, a3, a4, a5⟩
      · left
        refine ⟨by simp [lk, hx, a1], by simp [Instr.findAsking, h1, he, a2], fun v => by simp [up, hx, a3]⟩
      · right
        refine ⟨j + 1, v, e', by simp [lk, hx, a1], ?_, by simpa using a3, a4, fun v' => ?_⟩
        · simp [Instr.findAsking, h1, he, a2]; omega
        · simp [up, hx, a5, h1, h2]

theorem findP_any (K : KeyK P kt kv Ok) (p : κ) (hp : Ok w p) (l : List (κ × ν)) (es : List MapEntry) (h : es.map (fun e => (e.key, e.val)) = l.map (fun x => (kv x.1, vv x.2))) (hok : ∀ x ∈ l, Ok w x.1) :
    (lk l p = none ∧ (Instr.findKey kt (kv p) es).run P w = .ok none w ∧ ∀ v, up l p v = l ++ [(p, v)]) ∨
    (∃ j v e, lk l p = some v ∧ (Instr.findKey kt (kv p) es).run P w = .ok (some (j, vv v)) w ∧ es[j]? = some e ∧ e.key = kv p ∧ ∀ v', (es.modify j fun e => { e with key := kv p, val := vv v' }).map (fun e => (e.key, e.val)) = (up l p v').map (fun x => (kv x.1, vv x.2))) := by
  obtain ⟨d, hd, hno⟩ := K.und
  have hf : (Instr.findKey kt (kv p) es).run P w = (Instr.findAsking kt (kv p) es 0).run P w := by
    cases es with
    | nil => simp [Instr.findKey, run_underlying hd, Instr.findNow, Instr.findAsking]
    | cons e es => simp [Instr.findKey, run_underlying hd, Instr.findNow, hno]
  rw [hf]
  simpa using askP_any K p hp l es 0 h hok

theorem PM.look {l : List (κ × ν)} (h : PM w b kv vv l) (K : KeyK P kt kv Ok) (ht : P.underlying t = some (.map kt et)) (hok : ∀ x ∈ l, Ok w x.1) {z : Value} (hz : (zeroValue et).run P w = .ok z w) (p : κ) (hp : Ok w p) :
    (Instr.lookup t (.map (some b)) (kv p) false).run P w = .ok ((lk l p).elim z vv) w := by
  obtain ⟨es, c, h1, h2⟩ := h
  rcases findP_any K p hp l es.toList h2 hok with ⟨a1, a2, _⟩ | ⟨j, v, e, a1, a2, _⟩
  · simp [Instr.lookup, run_underlying ht, MapKept.run_getObj_map h1, K.chk, a2, a1, hz]
  · simp [Instr.lookup, run_underlying ht, MapKept.run_getObj_map h1, K.chk, a2, a1]
theorem PM.look2 {l : List (κ × ν)} (h : PM w b kv vv l) (K : KeyK P kt kv Ok) (ht : P.underlying t = some (.map kt et)) (hok : ∀ x ∈ l, Ok w x.1) {z : Value} (hz : (zeroValue et).run P w = .ok z w) (p : κ) (hp : Ok w p) :
    (Instr.lookup t (.map (some b)) (kv p) true).run P w = .ok (.tuple #[(lk l p).elim z vv, .bool (lk l p).isSome]) w := by
  obtain ⟨es, c, h1, h2⟩ := h
  rcases findP_any K p hp l es.toList h2 hok with ⟨a1, a2, _⟩ | ⟨j, v, e, a1, a2, _⟩
  · simp [Instr.lookup, run_underlying ht, MapKept.run_getObj_map h1, K.chk, a2, a1, hz]
  · simp [Instr.lookup, run_underlying ht, MapKept.run_getObj_map h1, K.chk, a2, a1]
theorem PM.put {l : List (κ × ν)} (h : PM w b kv vv l) (K : KeyK P kt kv Ok) (ht : P.underlying t = some (.map kt et)) (hok : ∀ x ∈ l, Ok w x.1) (p : κ) (hp : Ok w p) (v : ν) :
    ∃ w', (Instr.mapUpdate t (.map (some b)) (kv p) (vv v)).run P w = .ok () w' ∧ PM w' b kv vv (up l p v) ∧ Mid b (b + 1) w w' ∧ w'.heap.size = w.heap.size := by
  have hlt := h.lt
  obtain ⟨es, c, h1, h2⟩ := h
  have mid : ∀ o : Obj, Mid b (b + 1) w { w with heap := w.heap.setIfInBounds b o } := fun o => ⟨rfl, rfl, rfl, by simp, fun k hk hb => by
    show (w.heap.setIfInBounds b o)[k]? = _
    rw [Array.getElem?_setIfInBounds_ne (by omega)]⟩
  have at' : ∀ o : Obj, ({ w with heap := w.heap.setIfInBounds b o } : World).heap[b]? = some o := fun o => by
    show (w.heap.setIfInBounds b o)[b]? = _
    rw [Array.getElem?_setIfInBounds_self_of_lt hlt]
  rcases findP_any K p hp l es.toList h2 hok with ⟨a1, a2, a3⟩ | ⟨j, v0, e, a1, a2, a3, a4, a5⟩
  · refine ⟨_, by simp [Instr.mapUpdate, run_underlying ht, MapKept.run_getObj_map h1, K.chk, a2, MapKept.run_setObj_map _ h1]; rfl, ⟨_, _, at' _, ?_⟩, mid _, by simp⟩
    rw [a3]; simp [h2]
  · have hj : es[j]? = some e := by simpa using a3
    refine ⟨_, by simp [Instr.mapUpdate, run_underlying ht, MapKept.run_getObj_map h1, K.chk, a2, hj, a4, Instr.keyThatStays, K.bits, MapKept.run_setObj_map _ h1]; rfl, ⟨_, _, at' _, ?_⟩, mid _, by simp⟩
    rw [← a5 v]; simp
end
end Go.Proofs.YtokdhgocgicdnaaGreatDoor

/- Where a list of Kids lies, as a value and as a key: impl.placeOf. -/
namespace Go.Proofs.YtokdhgocgicdnaaGreatDoor
open Go.RowKit

/-- a place: the first tree's address, and how many there are -/
abbrev Place := Addr × Nat
def plV (p : Place) : Value := .agg #[.pointer (some p.1), .int .i64 (p.2 : Int)]
def plOk (w : World) (p : Place) : Prop := FreeB w p.1.block

set_option maxRecDepth 100000 in
set_option maxHeartbeats 1000000 in
theorem placeOf_any (b off n c : Nat) (w : World) (hn : 0 < n) :
    Calls Tryz.prog 62 #[.slice (some ⟨b, off, none⟩) n c] w fun e w' => e = .returned (plV (⟨b, off, none⟩, n)) ∧ Below w.heap.size w w' := by
  unfold plV
  go_enter Tryz.func62, Tryz.ntmps62
  go_wp2
  refine bodyPost_ret (v := .agg #[.pointer (some ⟨b, off, none⟩), .int .i64 (n : Int)]) (by simp [results, Tryz.results62, go_sem]) rfl ⟨rfl, ?_⟩
  exact al1 _ _

theorem heldPlace : Tryz.prog.stoodInHeld 116 = false := by kernel_rfl
theorem und0 : Tryz.prog.underlying 114 = some (.pointer 29) := Tryz.underlying114
theorem cellsTree : Tryz.prog.cellsOf 29 = 3 := by kernel_rfl
theorem eqPtr (d : Nat) (w : World) (a b : Addr) (ha : FreeB w a.block) (hb : FreeB w b.block) : (Op.equalIn (d + 1) 114 (.pointer (some a)) (.pointer (some b))).run Tryz.prog w = .ok (decide (a = b)) w := by
  obtain ⟨ca, ta, ha⟩ := ha
  obtain ⟨cb, tb, hb⟩ := hb
  obtain ⟨i0, hi0, hz0⟩ : ∃ i, Tryz.prog.info? 29 = some i ∧ i.size = 3 := by
    have : (Tryz.prog.info? 29).map (·.size) = some 3 := by kernel_rfl
    cases h : Tryz.prog.info? 29 with
    | none => rw [h] at this; cases this
    | some i => rw [h] at this; exact ⟨i, rfl, by simpa using this⟩
  by_cases h : a = b
  · subst h
    simp [Op.equalIn, run_underlying und0, sizeOf, typeInfo, hi0, run_sameAddr_same]
  · simp [Op.equalIn, run_underlying und0, sizeOf, typeInfo, hi0, hz0, run_sameAddr_other w h ha hb, h]

theorem partPtr (w : World) (xs : Array Value) (k : Nat) (v : Value) (hv : xs[k]? = some v) : (part 114 xs k).run Tryz.prog w = .ok v w := by simp [part, isAgg, run_underlying und0, hv]
theorem partInt (w : World) (xs : Array Value) (k : Nat) (v : Value) (hv : xs[k]? = some v) : (part 3 xs k).run Tryz.prog w = .ok v w := by simp [part, isAgg, run_underlying Tryz.underlying3, hv]
theorem place_eq (p q : Place) : decide (p = q) = (decide (p.1 = q.1) && ((p.2 : Int) == (q.2 : Int))) := by
  obtain ⟨a, n⟩ := p
  obtain ⟨b, m⟩ := q
  rw [Bool.eq_iff_iff]
  simp
  intro _
  omega
theorem eqPlace (d : Nat) (w : World) (p q : Place) (hp : plOk w p) (hq : plOk w q) : (Op.equalIn (d + 2) 116 (plV p) (plV q)).run Tryz.prog w = .ok (decide (p = q)) w := by
  unfold plV
  rw [run_equalIn_struct w (d + 1) 116 _ _ (by rw [Program.fieldsOf, Tryz.underlying116]) heldPlace]
  have e1 := eqPtr d w p.1 q.1 hp hq
  have e2 := run_equalIn_int (P := Tryz.prog) w d 3 .i64 .i64 (p.2 : Int) (q.2 : Int) Tryz.underlying3
  simp only [Program.fieldsOf, Tryz.underlying116]
  rw [place_eq]
  have p1 := partPtr w #[.pointer (some p.1), .int .i64 (p.2 : Int)] 0 _ rfl
  have p2 := partPtr w #[.pointer (some q.1), .int .i64 (q.2 : Int)] 0 _ rfl
  have p3 := partInt w #[.pointer (some p.1), .int .i64 (p.2 : Int)] 1 _ rfl
  have p4 := partInt w #[.pointer (some q.1), .int .i64 (q.2 : Int)] 1 _ rfl
  by_cases h : p.1 = q.1
  · rw [decide_eq_true h] at e1 ⊢
    cases h2 : ((p.2 : Int) == (q.2 : Int))
    all_goals
      rw [h2] at e2
      simp [Op.eqFields, p1, p2, p3, p4, e1, e2]
  · rw [decide_eq_false h] at e1 ⊢
    simp [Op.eqFields, p1, p2, e1]
theorem chkPlace (e : Bool) (n : Nat) (w : World) (p : Place) : (Instr.checkKey e (n + 2) 116 (plV p)).run Tryz.prog w = .ok () w := by
  have p1 := partPtr w #[.pointer (some p.1), .int .i64 (p.2 : Int)] 0 _ rfl
  have p3 := partInt w #[.pointer (some p.1), .int .i64 (p.2 : Int)] 1 _ rfl
  simp [Instr.checkKey, plV, run_underlying Tryz.underlying116, p1, p3, run_underlying und0, run_underlying Tryz.underlying3]
theorem bitsPlace (n : Nat) (p : Place) : Instr.sameBits (n + 2) (plV p) (plV p) = true := by simp [plV, Instr.sameBits]
theorem keyPlace : KeyK Tryz.prog 116 plV plOk where
  und := ⟨_, Tryz.underlying116, fun _ _ => rfl⟩
  eq := fun w p q hp hq => by
    show (Op.equalIn (9998 + 2) _ _ _).run _ _ = _
    exact eqPlace 9998 w p q hp hq
  chk := fun w p e => by
    show (Instr.checkKey e (9998 + 2) _ _).run _ _ = _
    exact chkPlace e 9998 w p
  bits := fun p => bitsPlace 9998 p
end Go.Proofs.YtokdhgocgicdnaaGreatDoor

/- The sum and the product of two sizes: impl.plus, impl.times. -/
namespace Go.Proofs.YtokdhgocgicdnaaGreatDoor
open Go.RowKit

theorem plus_any (a b : Int) (w : World) (a0 : 0 ≤ a) (a1 : a ≤ 4194304) (b0 : 0 ≤ b) (b1 : b ≤ 4194304) :
    Calls Tryz.prog 72 #[.int .i64 a, .int .i64 b] w fun e w' => e = .returned (.int .i64 (a + b)) ∧ w' = w := by
  have d : decide (b > 9223372036854775807 - a) = false := decide_eq_false (by omega)
  go_enter Tryz.func72, Tryz.ntmps72
  go_wp2
  go_ret
  exact ⟨rfl, rfl⟩
def endl : Int := 9223372036854775807
theorem stk3_one (A : Option Addr) (n c : Nat) (a b : Int) : ∀ u ∈ [Value.slice A n c, .int .i64 a, .int .i64 b], u.oneCell' = true := by
  intro u hu
  simp only [List.mem_cons, List.not_mem_nil, or_false] at hu
  rcases hu with rfl | rfl | rfl <;> rfl
theorem below_dn {B : Nat} {a w : World} (h : Below B a w) (n : Nat) : Below B a (w.drewN n) := ⟨h.os, h.tape, h.output, h.size, h.block⟩
theorem zeroI64 (w : World) : (zeroValue 2).run Tryz.prog w = .ok (.int .i64 0) w := by kernel_rfl
end Go.Proofs.YtokdhgocgicdnaaGreatDoor
