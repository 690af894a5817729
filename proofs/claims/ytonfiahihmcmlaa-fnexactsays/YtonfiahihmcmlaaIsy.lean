/- The symbol of a leaf, and of a node: (leaf).symbol, (node).symbol. -/
import Derived.Test.YtonfiahihmcmlaaIpo
import Derived.Test.YtonfiahihmcmlaaSym
import Derived.Deep.RegionHeld3
import Derived.Deep.RegionWith
import Derived.Deep.LoopGhost
import Derived.StillTailTactics
import Derived.BigQuiet
namespace Go.Proofs.Ytonfiahihmcmlaa
open Go.RowKit

theorem partOf_below (t : TreeD) (A : Option Addr) (c : Nat) (w : World) :
    Calls Try.prog 141 #[.agg #[.int .i64 t.rule, .string t.tok, .slice A t.kids.length c]] w fun e w' => e = .returned (partV t (.slice A t.kids.length c)) ∧ Below w.heap.size w w' := by
  refine (partOf_any t A c w).mono ?_
  rintro e w' ⟨rfl, rfl⟩
  exact ⟨rfl, al1 _ _⟩
theorem methLeaf (a b : Value) (w : World) : (Go.method 382 241 (.agg #[a, b]) "loop.example/g00828/impl.symbol").run Try.prog w = .ok (207, .agg #[a, b]) w := by kernel_rfl
theorem methNode (a b c : Value) (w : World) : (Go.method 382 243 (.agg #[a, b, c]) "loop.example/g00828/impl.symbol").run Try.prog w = .ok (208, .agg #[a, b, c]) w := by kernel_rfl
theorem bytes_ext {a b : ByteArray} (h : a.toList = b.toList) : a = b := by
  apply ByteArray.ext
  apply Array.ext'
  simpa [ByteArray.toList_eq] using h
theorem ret_str {a b : ByteArray} (h : a = b) : Ending.returned (.string a) = .returned (.string b) := by rw [h]

set_option maxRecDepth 100000 in
set_option maxHeartbeats 1000000 in
theorem leafSymbol_any (rs : List RuleD) (t : TreeD) (v : Value) (w : World) (h1 : t.tok.size ≠ 0) (h2 : t.kids.length = 0) :
    Calls Try.prog 207 #[.agg #[.int .i64 t.rule, .string t.tok], v] w fun e w' => e = .returned (.string (symT rs t)) ∧ Below w.heap.size w w' := by
  by_cases h3 : t.rule = -1
  · cases h4 : tokB t.tok
    · have HE := Lib.hid (symT_leaf_no (rs := rs) h1 h2 (by rw [h4]; rintro ⟨_, h⟩; cases h))
      have H4 := Lib.hid h4
      clear h4 h1 h2
      go_enter Try.func207, Try.ntmps207
      go_wp2_with (go_at_call 29; refine (implIsToken_any t.tok _).mono ?_; rintro e w1 ⟨rfl, hb⟩; rw [H4.out])
      go_ret
      exact ⟨ret_str HE.out.symm, (al1 _ _).trans (hb.mono (by simp))⟩
    · have HE := Lib.hid (symT_leaf (rs := rs) h1 h2 h3 h4)
      have H4 := Lib.hid h4
      clear h4 h1 h2
      go_enter Try.func207, Try.ntmps207
      go_wp2_with fail
      refine (implIsToken_any t.tok _).mono ?_
      rintro e w1 ⟨rfl, hb⟩
      rw [H4.out]
      have R1 := (Row.made w 241 #[.int .i64 (-1), .string t.tok]).below hb (by simp)
      have c1 := R1.cell 1
      simp at c1
      clear R1
      go_wp2
      go_ret
      exact ⟨ret_str HE.out.symm, (al1 _ _).trans (hb.mono (by simp))⟩
  · have HE := Lib.hid (symT_leaf_no (rs := rs) h1 h2 (fun h => h3 h.1))
    clear h1 h2
    go_enter Try.func207, Try.ntmps207
    go_wp2
    go_ret
    exact ⟨ret_str HE.out.symm, al1 _ _⟩

def SyN (rs : List RuleD) (t : TreeD) : Prop := ∀ (z : Bool) (u v : Value) (lo hi lo2 hi2 : Nat) (w : World), ¬ (t.tok.size ≠ 0 ∧ t.kids.length = 0) → Kd z w lo hi u t.kids → Rules w lo2 hi2 v rs → hi ≤ w.heap.size → hi2 ≤ w.heap.size →
  Calls Try.prog 208 #[.agg #[.int .i64 t.rule, .string t.tok, u], v] w fun e w' => e = .returned (.string (symT rs t)) ∧ Below w.heap.size w w'

set_option maxRecDepth 100000 in
set_option maxHeartbeats 4000000 in
theorem nodeSymbol_of (rs : List RuleD) (t : TreeD) (ih : ∀ i (h : i < t.kids.length), SyN rs t.kids[i]) : SyN rs t := by
  intro z u v lo hi lo2 hi2 w hnl hkd hrl hh hh2
  have HV := Lib.hid hkd
  obtain ⟨A, c, U, rfl, hlc, hc, hs, hcell, hsub⟩ := hkd.parts
  have HC := Lib.hid hcell
  have HB := Lib.hid hsub
  obtain ⟨Ar, cr, rfl, hlr, hcr, hrcell⟩ := hrl
  have HR := Lib.hid hrcell
  unfold maxLen at hc hcr
  clear hkd hcell hsub hs hrcell
  by_cases h1 : t.tok.size = 0
  · have e1 : (t.tok.toList == []) = true := by rw [toks_empty, decide_eq_true h1]
    by_cases h2 : t.rule < 0
    · have HE := Lib.hid (symT_neg (rs := rs) h1 h2)
      go_enter Try.func208, Try.ntmps208
      go_wp2
      go_ret
      exact ⟨ret_str HE.out.symm, al1 _ _⟩
    · by_cases h3 : (rs.length : Int) ≤ t.rule
      · have HE := Lib.hid (symT_none (rs := rs) h1 h3)
        have g3 : decide (t.rule ≥ (rs.length : Int)) = true := decide_eq_true h3
        go_enter Try.func208, Try.ntmps208
        go_wp2
        go_ret
        exact ⟨ret_str HE.out.symm, al1 _ _⟩
      · have h4 : t.rule.toNat < rs.length := by omega
        obtain ⟨br, offr, rfl, _, hbr, hrc⟩ := HR.out (by omega)
        obtain ⟨hhd, hr0, ub, hr1, hbody⟩ := hrc t.rule.toNat h4
        have HBD := Lib.hid hbody
        obtain ⟨Ab, cb, rfl, hlb, hcb, hsb, hbcell⟩ := hbody
        have HBC := Lib.hid hbcell
        unfold maxLen at hcb
        have hlt3 : t.rule < (rs.length : Int) := by omega
        have hge3 : 0 ≤ t.rule := by omega
        have hbrw : br < w.heap.size := by omega
        clear hrc hbcell hsb
        by_cases h5 : t.kids.length = rs[t.rule.toNat].body.length
        · have R0 := Row.made w 243 #[.int .i64 t.rule, .string t.tok, .slice A t.kids.length c]
          have R1 := (Row.made w 243 #[.int .i64 t.rule, .string t.tok, .slice A t.kids.length c]).alloc (.cells #[.string rs[t.rule.toNat].head, .slice Ab rs[t.rule.toNat].body.length cb] 49)
          have R2 := Row.made (w.alloc (.cells #[.int .i64 t.rule, .string t.tok, .slice A t.kids.length c] 243)) 49 #[.string rs[t.rule.toNat].head, .slice Ab rs[t.rule.toNat].body.length cb]
          have hb0 := al2 w (.cells #[.int .i64 t.rule, .string t.tok, .slice A t.kids.length c] 243) (.cells #[.string rs[t.rule.toNat].head, .slice Ab rs[t.rule.toNat].body.length cb] 49)
          have hsz : (w.alloc (.cells #[.int .i64 t.rule, .string t.tok, .slice A t.kids.length c] 243)).heap.size = w.heap.size + 1 := by simp
          rw [hsz] at R2
          have hsz2 : ((w.alloc (.cells #[.int .i64 t.rule, .string t.tok, .slice A t.kids.length c] 243)).alloc (.cells #[.string rs[t.rule.toNat].head, .slice Ab rs[t.rule.toNat].body.length cb] 49)).heap.size = w.heap.size + 1 + 1 := by simp
          have H5 := Lib.hid h5
          have n5 : ((t.kids.length : Int) == (rs[t.rule.toNat].body.length : Int)) = true := by rw [beq_iff_eq]; omega
          have HRV : Hid (Rules w lo2 hi2 (.slice (some ⟨br, offr, none⟩) rs.length cr) rs) := Lib.hid ⟨_, _, rfl, hlr, hcr, HR.out⟩
          clear R0 hsz h5
          go_enter Try.func208, Try.ntmps208
          go_wp2
          generalize (w.alloc (.cells #[.int .i64 t.rule, .string t.tok, .slice A t.kids.length c] 243)).alloc (.cells #[.string rs[t.rule.toNat].head, .slice Ab rs[t.rule.toNat].body.length cb] 49) = w0 at R1 R2 hb0 hsz2 ⊢
          go_loopg [38] t.kids.length (fun gk i wr => ∃ k : Nat, k ≤ t.kids.length ∧ i = .int .i64 k ∧ Below w0.heap.size w0 wr ∧ (∀ j (h : j < t.kids.length), j < k → symT rs t.kids[j] = rs[t.rule.toNat].body[j]'(by have := H5.out; omega)) ∧ gk = t.kids.length - k)
          case atStart => exact ⟨0, by omega, rfl, Below.refl _ _, (fun j _ hj => by omega), rfl⟩
          case round =>
            obtain ⟨k, hk, rfl, hbw, hall, rfl⟩ := hrel
            have HA := Lib.hid hall
            clear hall
            have hsw := hbw.size
            have hws := hb0.size
            have R3 := R2.below hbw R2.lt
            have hlt3 := R3.lt
            have c0 := R3.cell 0
            have c1 := R3.cell 1
            simp at c0 c1
            have HBX := Lib.hid (hb0.trans (hbw.mono hws))
            by_cases hlt : k < t.kids.length
            · obtain ⟨b, off, rfl, _, hbh, _, hcc⟩ := HC.out (by omega)
              obtain ⟨hc0, hc1, hc2⟩ := hcc k hlt
              obtain ⟨bb, offb, rfl, _, hbbh, hbcc⟩ := HBC.out (by have := H5.out; omega)
              have hlt5 : k < rs[t.rule.toNat].body.length := by have := H5.out; omega
              have hbk := hbcc k hlt5
              have B0 := HBX.out
              have k0 := (B0.cell (p := ⟨b, off + k * 3, none⟩) (by show b < _; omega)).trans hc0
              have k1 := (B0.cell (p := ⟨b, off + k * 3 + 1, none⟩) (by show b < _; omega)).trans hc1
              have k2 := (B0.cell (p := ⟨b, off + k * 3 + 2, none⟩) (by show b < _; omega)).trans hc2
              have kb := (B0.cell (p := ⟨bb, offb + k, none⟩) (by show bb < _; omega)).trans hbk
              have HKD := Lib.hid ((HB.out k hlt).under B0 hh)
              obtain ⟨A2, c2, U2, e2, -⟩ := (HB.out k hlt).parts
              rw [e2] at k2 HKD
              have HRD := Lib.hid (HRV.out.below B0 hh2)
              have hzw : w.heap.size + 1 + 1 ≤ wr.heap.size := by omega
              have i1 : (k : Int) < (t.kids.length : Int) := by omega
              have i5 : (k : Int) < (rs[t.rule.toNat].body.length : Int) := by omega
              have hbwr : b < wr.heap.size := by omega
              have hbbwr : bb < wr.heap.size := by omega
              have hb1 := al1 wr (.cells #[.int .i64 t.kids[k].rule, .string t.kids[k].tok, .slice A2 t.kids[k].kids.length c2] 62)
              have HB1 := Lib.hid hb1
              have V5 : Kd z (wr.alloc (.cells #[.int .i64 t.kids[k].rule, .string t.kids[k].tok, .slice A2 t.kids[k].kids.length c2] 62)).drew lo hi (.slice A2 t.kids[k].kids.length c2) t.kids[k].kids := (HKD.out.under hb1 (by omega)).drewN 1
              have R5 : Rules (wr.alloc (.cells #[.int .i64 t.kids[k].rule, .string t.kids[k].tok, .slice A2 t.kids[k].kids.length c2] 62)).drew lo2 hi2 (.slice (some ⟨br, offr, none⟩) rs.length cr) rs := HRD.out.below (B := wr.heap.size) hb1.drew (by omega)
              clear hcc hc0 hc1 hc2 hbcc hbk e2 B0 hb1 R3
              have l0 : (wr.alloc (.cells #[.int .i64 t.kids[k].rule, .string t.kids[k].tok, .slice A2 t.kids[k].kids.length c2] 62)).cell? ⟨wr.heap.size, 0, none⟩ = some (.int .i64 t.kids[k].rule) := (Row.made wr _ _).cell 0
              have l1 : (wr.alloc (.cells #[.int .i64 t.kids[k].rule, .string t.kids[k].tok, .slice A2 t.kids[k].kids.length c2] 62)).cell? ⟨wr.heap.size, 1, none⟩ = some (.string t.kids[k].tok) := (Row.made wr _ _).cell 1
              have l2 : (wr.alloc (.cells #[.int .i64 t.kids[k].rule, .string t.kids[k].tok, .slice A2 t.kids[k].kids.length c2] 62)).cell? ⟨wr.heap.size, 2, none⟩ = some (.slice A2 t.kids[k].kids.length c2) := (Row.made wr _ _).cell 2
              have k1c := (HB1.out.cell (p := ⟨w.heap.size + 1, 1, none⟩) (by show w.heap.size + 1 < _; omega)).trans c1
              have k1b := (HB1.out.cell (p := ⟨bb, offb + k, none⟩) hbbwr).trans kb
              have hz5 : wr.heap.size < (wr.alloc (.cells #[.int .i64 t.kids[k].rule, .string t.kids[k].tok, .slice A2 t.kids[k].kids.length c2] 62)).heap.size := by simp
              by_cases heq : symT rs t.kids[k] = rs[t.rule.toNat].body[k]
              · have d1 : ((symT rs t.kids[k]).toList == rs[t.rule.toNat].body[k].toList) = true := by rw [heq]; simp
                have HEQ := Lib.hid heq
                clear heq
                by_cases hlf : t.kids[k].tok.size ≠ 0 ∧ t.kids[k].kids.length = 0
                · have HLF := Lib.hid hlf
                  have hmeth := methLeaf (.int .i64 t.kids[k].rule) (.string t.kids[k].tok)
                  clear hlf
                  go_wp2
                  generalize wr.alloc (.cells #[.int .i64 t.kids[k].rule, .string t.kids[k].tok, .slice A2 t.kids[k].kids.length c2] 62) = w5 at l0 l1 l2 V5 R5 HB1 k1c k1b hz5 ⊢
                  go_region_held3 (fun w' => (w'.cell? ⟨wr.heap.size, 0, none⟩ = some (.int .i64 t.kids[k].rule) ∧ w'.cell? ⟨wr.heap.size, 1, none⟩ = some (.string t.kids[k].tok) ∧ w'.cell? ⟨wr.heap.size, 2, none⟩ = some (.slice A2 t.kids[k].kids.length c2)) ∧ w'.cell? ⟨w.heap.size + 1, 1, none⟩ = some (.slice (some ⟨bb, offb, none⟩) rs[t.rule.toNat].body.length cb) ∧ w'.cell? ⟨bb, offb + k, none⟩ = some (.string rs[t.rule.toNat].body[k]))
                    (first | go_keep | (refine ⟨⟨?_, ?_, ?_⟩, ?_, ?_⟩ <;> (rw [b6.cell (by simp <;> omega)]; assumption)) | (refine ⟨⟨?_, ?_, ?_⟩, ?_, ?_⟩ <;> (rw [b7.cell (by simp <;> omega), b6.cell (by simp <;> omega)]; assumption)))
                    (first
                      | (go_at_call 141; refine (partOf_below t.kids[k] A2 c2 w5.drew).mono ?_; rintro e w6 ⟨rfl, b6⟩; have z6 : w5.heap.size ≤ w6.heap.size := b6.size; rw [partV_leaf HLF.out])
                      | (go_at_call 207; refine (leafSymbol_any rs t.kids[k] _ w6 HLF.out.1 HLF.out.2).mono ?_; rintro e w7 ⟨rfl, b7⟩))
                  have HB7 := Lib.hid ((((HB1.out.drew).trans (b6.mono (by simp <;> omega))).trans (b7.mono (by omega))).mono (B := wr.heap.size) (Nat.le_refl _))
                  clear b6 b7
                  go_wp2
                  go_roundg (t.kids.length - (k + 1))
                  case rel => exact ⟨k + 1, by omega, by go_num, hbw.trans (HB7.out.mono hsw), (fun j hj hjk => by
                    by_cases e : j = k
                    · subst e; exact HEQ.out
                    · exact HA.out j hj (by omega)), rfl⟩
                  case measure => omega
                · have HLF := Lib.hid hlf
                  have hmeth := methNode (.int .i64 t.kids[k].rule) (.string t.kids[k].tok) (.slice A2 t.kids[k].kids.length c2)
                  clear hlf
                  go_wp2
                  generalize wr.alloc (.cells #[.int .i64 t.kids[k].rule, .string t.kids[k].tok, .slice A2 t.kids[k].kids.length c2] 62) = w5 at l0 l1 l2 V5 R5 HB1 k1c k1b hz5 ⊢
                  go_region_held3 (fun w' => (w'.cell? ⟨wr.heap.size, 0, none⟩ = some (.int .i64 t.kids[k].rule) ∧ w'.cell? ⟨wr.heap.size, 1, none⟩ = some (.string t.kids[k].tok) ∧ w'.cell? ⟨wr.heap.size, 2, none⟩ = some (.slice A2 t.kids[k].kids.length c2)) ∧ w'.cell? ⟨w.heap.size + 1, 1, none⟩ = some (.slice (some ⟨bb, offb, none⟩) rs[t.rule.toNat].body.length cb) ∧ w'.cell? ⟨bb, offb + k, none⟩ = some (.string rs[t.rule.toNat].body[k]))
                    (first | go_keep | (refine ⟨⟨?_, ?_, ?_⟩, ?_, ?_⟩ <;> (rw [b6.cell (by simp <;> omega)]; assumption)) | (refine ⟨⟨?_, ?_, ?_⟩, ?_, ?_⟩ <;> (rw [b7.cell (by simp <;> omega), b6.cell (by simp <;> omega)]; assumption)))
                    (first
                      | (go_at_call 141; refine (partOf_below t.kids[k] A2 c2 w5.drew).mono ?_; rintro e w6 ⟨rfl, b6⟩; have z6 : w5.heap.size ≤ w6.heap.size := b6.size; rw [partV_node HLF.out])
                      | (go_at_call 208; refine (ih k hlt z _ _ lo hi lo2 hi2 w6 HLF.out (V5.under b6 (by simp; omega)) (R5.below b6 (by simp; omega)) (by omega) (by omega)).mono ?_; rintro e w7 ⟨rfl, b7⟩))
                  have HB7 := Lib.hid ((((HB1.out.drew).trans (b6.mono (by simp <;> omega))).trans (b7.mono (by omega))).mono (B := wr.heap.size) (Nat.le_refl _))
                  clear b6 b7
                  go_wp2
                  go_roundg (t.kids.length - (k + 1))
                  case rel => exact ⟨k + 1, by omega, by go_num, hbw.trans (HB7.out.mono hsw), (fun j hj hjk => by
                    by_cases e : j = k
                    · subst e; exact HEQ.out
                    · exact HA.out j hj (by omega)), rfl⟩
                  case measure => omega
              · have d1 : ((symT rs t.kids[k]).toList == rs[t.rule.toNat].body[k].toList) = false := by rw [beq_eq_false_iff_ne]; exact fun e => heq (bytes_ext e)
                have HK : Hid (symT rs t = ByteArray.empty) := Lib.hid (symT_kid h1 (by omega) h4 H5.out hlt heq)
                clear heq
                by_cases hlf : t.kids[k].tok.size ≠ 0 ∧ t.kids[k].kids.length = 0
                · have HLF := Lib.hid hlf
                  have hmeth := methLeaf (.int .i64 t.kids[k].rule) (.string t.kids[k].tok)
                  clear hlf
                  go_wp2
                  generalize wr.alloc (.cells #[.int .i64 t.kids[k].rule, .string t.kids[k].tok, .slice A2 t.kids[k].kids.length c2] 62) = w5 at l0 l1 l2 V5 R5 HB1 k1c k1b hz5 ⊢
                  go_region_held3 (fun w' => (w'.cell? ⟨wr.heap.size, 0, none⟩ = some (.int .i64 t.kids[k].rule) ∧ w'.cell? ⟨wr.heap.size, 1, none⟩ = some (.string t.kids[k].tok) ∧ w'.cell? ⟨wr.heap.size, 2, none⟩ = some (.slice A2 t.kids[k].kids.length c2)) ∧ w'.cell? ⟨w.heap.size + 1, 1, none⟩ = some (.slice (some ⟨bb, offb, none⟩) rs[t.rule.toNat].body.length cb) ∧ w'.cell? ⟨bb, offb + k, none⟩ = some (.string rs[t.rule.toNat].body[k]))
                    (first | go_keep | (refine ⟨⟨?_, ?_, ?_⟩, ?_, ?_⟩ <;> (rw [b6.cell (by simp <;> omega)]; assumption)) | (refine ⟨⟨?_, ?_, ?_⟩, ?_, ?_⟩ <;> (rw [b7.cell (by simp <;> omega), b6.cell (by simp <;> omega)]; assumption)))
                    (first
                      | (go_at_call 141; refine (partOf_below t.kids[k] A2 c2 w5.drew).mono ?_; rintro e w6 ⟨rfl, b6⟩; have z6 : w5.heap.size ≤ w6.heap.size := b6.size; rw [partV_leaf HLF.out])
                      | (go_at_call 207; refine (leafSymbol_any rs t.kids[k] _ w6 HLF.out.1 HLF.out.2).mono ?_; rintro e w7 ⟨rfl, b7⟩))
                  have HB7 := Lib.hid ((((HB1.out.drew).trans (b6.mono (by simp <;> omega))).trans (b7.mono (by omega))).mono (B := wr.heap.size) (Nat.le_refl _))
                  clear b6 b7
                  go_wp2
                  go_ret
                  exact ⟨ret_str HK.out.symm, HBX.out.trans (HB7.out.mono (by omega))⟩
                · have HLF := Lib.hid hlf
                  have hmeth := methNode (.int .i64 t.kids[k].rule) (.string t.kids[k].tok) (.slice A2 t.kids[k].kids.length c2)
                  clear hlf
                  go_wp2
                  generalize wr.alloc (.cells #[.int .i64 t.kids[k].rule, .string t.kids[k].tok, .slice A2 t.kids[k].kids.length c2] 62) = w5 at l0 l1 l2 V5 R5 HB1 k1c k1b hz5 ⊢
                  go_region_held3 (fun w' => (w'.cell? ⟨wr.heap.size, 0, none⟩ = some (.int .i64 t.kids[k].rule) ∧ w'.cell? ⟨wr.heap.size, 1, none⟩ = some (.string t.kids[k].tok) ∧ w'.cell? ⟨wr.heap.size, 2, none⟩ = some (.slice A2 t.kids[k].kids.length c2)) ∧ w'.cell? ⟨w.heap.size + 1, 1, none⟩ = some (.slice (some ⟨bb, offb, none⟩) rs[t.rule.toNat].body.length cb) ∧ w'.cell? ⟨bb, offb + k, none⟩ = some (.string rs[t.rule.toNat].body[k]))
                    (first | go_keep | (refine ⟨⟨?_, ?_, ?_⟩, ?_, ?_⟩ <;> (rw [b6.cell (by simp <;> omega)]; assumption)) | (refine ⟨⟨?_, ?_, ?_⟩, ?_, ?_⟩ <;> (rw [b7.cell (by simp <;> omega), b6.cell (by simp <;> omega)]; assumption)))
                    (first
                      | (go_at_call 141; refine (partOf_below t.kids[k] A2 c2 w5.drew).mono ?_; rintro e w6 ⟨rfl, b6⟩; have z6 : w5.heap.size ≤ w6.heap.size := b6.size; rw [partV_node HLF.out])
                      | (go_at_call 208; refine (ih k hlt z _ _ lo hi lo2 hi2 w6 HLF.out (V5.under b6 (by simp; omega)) (R5.below b6 (by simp; omega)) (by omega) (by omega)).mono ?_; rintro e w7 ⟨rfl, b7⟩))
                  have HB7 := Lib.hid ((((HB1.out.drew).trans (b6.mono (by simp <;> omega))).trans (b7.mono (by omega))).mono (B := wr.heap.size) (Nat.le_refl _))
                  clear b6 b7
                  go_wp2
                  go_ret
                  exact ⟨ret_str HK.out.symm, HBX.out.trans (HB7.out.mono (by omega))⟩
            · have HK : Hid (symT rs t = rs[t.rule.toNat].head) := Lib.hid (symT_ok h1 (by omega) h4 H5.out fun i hi hi' => HA.out i hi (by omega))
              clear R3
              go_wp2
              go_ret
              exact ⟨ret_str HK.out.symm, HBX.out⟩
        · have HE := Lib.hid (symT_len (rs := rs) h1 h2 h4 h5)
          have n5 : ((t.kids.length : Int) == (rs[t.rule.toNat].body.length : Int)) = false := by rw [beq_eq_false_iff_ne]; omega
          go_enter Try.func208, Try.ntmps208
          go_wp2
          go_ret
          exact ⟨ret_str HE.out.symm, al2 _ _ _⟩
  · have e1 : (t.tok.toList == []) = false := by rw [toks_empty, decide_eq_false h1]
    have h2 : t.kids.length ≠ 0 := by omega
    have HE := Lib.hid (symT_tok (rs := rs) h1 h2)
    go_enter Try.func208, Try.ntmps208
    go_wp2
    go_ret
    exact ⟨ret_str HE.out.symm, al1 _ _⟩
end Go.Proofs.Ytonfiahihmcmlaa
