/- The program's text of Mades: MadesText. -/
import Derived.Test.YtbaofldcdcllfaaDoorJSmz
import Derived.Test.YtbaofldcdcllfaaDoorJXtt
namespace Go.Proofs.YtbaofldcdcllfaaDoor
open Go.RowKit
open Tx (symsT)

set_option maxRecDepth 100000 in
set_option maxHeartbeats 4000000 in
theorem implMadesText_any (v : Value) (ms : List MadeD) (lo hi : Nat) (w : World) (h : DM true w lo hi v ms) (hhi : hi ≤ w.heap.size) (hn : bulkDs ms ≤ 1048576) (B : Nat) (htn : Tens B w) (hB : B ≤ w.heap.size) :
    Calls Tryd.prog 13 #[v] w fun e w' => e = .returned (.string (tb (madesText ms))) ∧ Below w.heap.size w w' := by
  have HL := Lib.hid (madesT_len h.fits)
  have HF := Lib.hid h.fits
  have HTN := Lib.hid htn
  obtain ⟨A, c, rfl, hlc, hc, hcell⟩ := h
  unfold maxLen at hc
  have HC := Lib.hid hcell
  clear hcell htn
  by_cases hbig : 400 < ms.length
  · have HE : Hid (madesText ms = []) := Lib.hid (by unfold madesText; rw [if_neg (by omega)])
    go_enter Tryd.func13, Tryd.ntmps13
    go_wp2
    go_ret
    exact ⟨ret_tb (by rw [HE.out]; rfl), Below.refl _ _⟩
  have HE : Hid (madesText ms = madesT ms) := Lib.hid (by unfold madesText; rw [if_pos (by omega)])
  have a9 := al1 w (.cells #[.pointer none, .slice none 0 0] 47)
  have W9 : Hid (Wr w.heap.size w.heap.size [] (w.alloc (.cells #[.pointer none, .slice none 0 0] 47))) := Lib.hid (Lib.IsBuilderF.of (by simpa [Lib.byteCells] using Lib.fresh_isBuilder 47 5 w))
  go_enter Tryd.func13, Tryd.ntmps13
  go_wp2
  go_loopw [5, 7, 13, 25] (fun _ _ i _ wr => ∃ k : Nat, k ≤ ms.length ∧ i = .int .i64 k ∧ Wr w.heap.size w.heap.size (madesT (ms.take k)) wr ∧ Below w.heap.size w wr ∧ w.heap.size < wr.heap.size) (fun _ _ i _ _ => ms.length - (intOf i).toNat)
  case atStart => exact ⟨0, by omega, rfl, by simpa [madesT] using W9.out, a9, by simp⟩
  case round =>
    obtain ⟨k, hk, rfl, hwr, hbw, hgt⟩ := hrel
    have hsw := hbw.size
    by_cases hlt : k < ms.length
    · obtain ⟨b, off, rfl, _, hbh, _, hcc⟩ := HC.out (by omega)
      obtain ⟨hhs, htm, hc0, u, x, hc1, hc2, hc3, hc4, hst, hkm⟩ := hcc k hlt
      have k0 := (hbw.cell (p := ⟨b, off + k * 5, none⟩) (by show b < _; omega)).trans hc0
      have k1 := (hbw.cell (p := ⟨b, off + k * 5 + 1, none⟩) (by show b < _; omega)).trans hc1
      have k2 := (hbw.cell (p := ⟨b, off + k * 5 + 2, none⟩) (by show b < _; omega)).trans hc2
      have k3 := (hbw.cell (p := ⟨b, off + k * 5 + 3, none⟩) (by show b < _; omega)).trans hc3
      have k4 := (hbw.cell (p := ⟨b, off + k * 5 + 4, none⟩) (by show b < _; omega)).trans hc4
      have HKM := Lib.hid hkm
      obtain ⟨Au, cu, rfl, hluc, hcu, _, hsc⟩ := hst
      have HS := Lib.hid hsc
      obtain ⟨Ax, cx, Ux, rfl, -⟩ := hkm.parts
      have htl := HL.out k hk
      have hbl := bulkD_get hlt
      have hto := madesTo_le ms k
      have htt := termT_len _ (HF.out k hlt)
      rw [sizeM_eq] at htt
      have hkn : sizeMs ms[k].term.kids ≤ 1048576 := by unfold bulkD at hbl; omega
      have hhn : ms[k].head.size ≤ 1048576 := by unfold bulkD at hbl; omega
      have hbn : bulkS ms[k].body ≤ 1048576 := by unfold bulkD at hbl; omega
      have hbn2 : ms[k].body.length ≤ 1048576 := by unfold bulkS at hbn; omega
      have HT := Lib.hid (madesT_take ms k hlt)
      have HTM := Lib.hid htm
      have hap : ((ms[k].head ++ ⟨#[32]⟩) ++ ⟨#[45, 62]⟩ : ByteArray).size ≤ 1048579 := by rw [ByteArray.size_append, ByteArray.size_append]; show _ + 1 + 2 ≤ _; omega
      have ha := al1 wr (.cells #[.string ms[k].head, .slice Au ms[k].body.length cu, .int .i64 ms[k].term.kind, .int .i64 ms[k].term.num, .slice Ax ms[k].term.kids.length cx] 62)
      have R0 := Row.made wr 62 #[.string ms[k].head, .slice Au ms[k].body.length cu, .int .i64 ms[k].term.kind, .int .i64 ms[k].term.num, .slice Ax ms[k].term.kids.length cx]
      clear hcc hc0 hc1 hc2 hc3 hc4 hkm hsc htm
      generalize hl0 : madesT (ms.take k) = l0 at hwr HT htl
      have HW := Lib.hid (hwr.on ha)
      have HBW := Lib.hid hbw
      clear hwr hbw
      go_wp2_with fail
      refine (wrS_any w.heap.size w.heap.size l0 _ _ HW.out (by show _ + ByteArray.size _ ≤ _; omega) (by simp; omega)).mono ?_
      rintro e w1 ⟨rfl, W1, b1, q1⟩
      have R1 := (Kp.mk b1 q1).row R0 (by omega) (by decide)
      have hb1 : Below w.heap.size w w1 := (HBW.out.trans (ha.mono hsw)).trans b1
      have l1e : l0 ++ (((ms[k].head ++ ⟨#[32]⟩) ++ ⟨#[45, 62]⟩ : ByteArray)).data.toList = l0 ++ (ms[k].head.data.toList ++ [32, 45, 62]) := by simp [ByteArray.data_append]
      rw [l1e] at W1
      have g1 : w.heap.size < w1.heap.size := by have := R1.lt; omega
      clear b1 q1 R0 ha l1e k0 k1 k2 k3 k4
      generalize hl1 : l0 ++ (ms[k].head.data.toList ++ [32, 45, 62]) = l1 at W1
      have HL1 := Lib.hid hl1
      have hll : l1.length ≤ l0.length + 1048579 := by
        rw [← hl1]
        have : (ms[k].head.data.toList).length = ms[k].head.size := rfl
        simp only [List.length_append, List.length_cons, List.length_nil]; omega
      clear hl1
      have c1 := R1.cell 1
      simp at c1
      go_wp2
      go_loopw [7, 25] (fun _ i wr' => ∃ (j : Nat), j ≤ ms[k].body.length ∧ i = .int .i64 j ∧ Wr w.heap.size w.heap.size (l1 ++ symsT (ms[k].body.take j)) wr' ∧ Row wr' wr.heap.size 62 #[.string ms[k].head, .slice Au ms[k].body.length cu, .int .i64 ms[k].term.kind, .int .i64 ms[k].term.num, .slice Ax ms[k].term.kids.length cx] ∧ Below w.heap.size w wr' ∧ w.heap.size < wr'.heap.size) (fun _ i _ => ms[k].body.length - (intOf i).toNat)
      case atStart => exact ⟨0, by omega, rfl, by simpa [symsT] using W1, R1, hb1, g1⟩
      case round =>
        obtain ⟨j, hj, rfl, W2, R2, hbb, g2⟩ := hrel
        clear W1 R1 hb1 g1 c1
        have hsb := hbb.size
        have hsl := symsT_part ms[k].body j
        by_cases hjl : j < ms[k].body.length
        · obtain ⟨b1, off1, rfl, _, hbh1, hcc1⟩ := HS.out (by omega)
          have hcb := (hbb.cell (p := ⟨b1, off1 + j, none⟩) (by show b1 < _; omega)).trans (hcc1 j hjl)
          have h4 : ms[k].body[j].size ≤ bulkS ms[k].body := by have := sizes_mem (List.getElem_mem hjl); unfold bulkS; omega
          have hap2 : (⟨#[32]⟩ ++ ms[k].body[j] : ByteArray).size ≤ 1048577 := by rw [ByteArray.size_append]; show 1 + _ ≤ _; omega
          clear hcc1
          have HTE : Hid (l1 ++ symsT (ms[k].body.take j) ++ (⟨#[32]⟩ ++ ms[k].body[j] : ByteArray).data.toList = l1 ++ symsT (ms[k].body.take (j + 1))) := Lib.hid (by
            rw [Tx.symsT_take _ _ hjl]; simp [ByteArray.data_append, List.append_assoc])
          have hll2 : (l1 ++ symsT (ms[k].body.take j)).length ≤ l0.length + 1048579 + 1048576 := by rw [List.length_append]; omega
          have HR2 := Lib.hid R2
          have HBB := Lib.hid hbb
          clear hbb R2
          go_wp2_with fail
          refine (wrS_any w.heap.size w.heap.size _ _ _ W2 (by omega) (by omega)).mono ?_
          rintro e w3 ⟨rfl, W3, b3, q3⟩
          rw [HTE.out] at W3
          have FIN := Lib.hid (And.intro W3 (And.intro ((Kp.mk b3 q3).row HR2.out (by omega) (by decide)) (HBB.out.trans b3)))
          have g3 : w.heap.size < w3.heap.size := by have := FIN.out.2.1.lt; omega
          clear W3 b3 q3 W2
          go_wp2
          go_roundw
          case rel => exact ⟨j + 1, by omega, by go_num, FIN.out.1, FIN.out.2.1, FIN.out.2.2, g3⟩
          case measure => simp [intOf]; omega
        · have hjk : j = ms[k].body.length := by omega
          subst hjk
          rw [List.take_length] at W2 hsl
          have c2 := R2.cell 2
          have c3 := R2.cell 3
          have c4 := R2.cell 4
          simp at c2 c3 c4
          have HK2 := Lib.hid (HKM.out.under hbb hhi)
          generalize hl2 : l1 ++ symsT ms[k].body = l2 at W2
          have hll2 : l2.length ≤ l0.length + 1048579 + 1048576 := by rw [← hl2, List.length_append]; omega
          have HL2 := Lib.hid hl2
          have HBB := Lib.hid hbb
          have HTN2 := Lib.hid (HTN.out.on (hbb.mono hB))
          have HW2 := Lib.hid W2
          clear hl2 hbb W2
          go_wp2_with fail
          refine (implTermText_t ms[k].term _ lo hi _ HTM.out HK2.out (by omega) hkn B HTN2.out (by omega)).mono ?_
          rintro e w3 ⟨rfl, b3⟩
          have W3 := HW2.out.on b3
          have hb3 := HBB.out.trans (b3.mono hsb)
          have g3 : w.heap.size < w3.heap.size := by have := b3.size; omega
          have htz : (tb (termT ms[k].term)).size ≤ 25165848 := by rw [tb_size]; omega
          have hap3 : (((⟨#[32, 58, 32]⟩ : ByteArray) ++ tb (termT ms[k].term)) ++ ⟨#[10]⟩).size ≤ 25165852 := by
            rw [ByteArray.size_append, ByteArray.size_append]; show 3 + _ + 1 ≤ _; omega
          have HTE : Hid (l2 ++ (((⟨#[32, 58, 32]⟩ : ByteArray) ++ tb (termT ms[k].term)) ++ ⟨#[10]⟩).data.toList = madesT (ms.take (k + 1))) := Lib.hid (by
            rw [HT.out, ← HL2.out, ← HL1.out]
            simp [madeT, tb, ByteArray.data_append, List.append_assoc])
          have HB3 := Lib.hid hb3
          clear b3 hb3
          go_wp2_with fail
          refine (wrS_any w.heap.size w.heap.size _ _ _ W3 (by omega) (by omega)).mono ?_
          rintro e w4 ⟨rfl, W4, b4, q4⟩
          rw [HTE.out] at W4
          have FIN := Lib.hid (And.intro W4 (HB3.out.trans b4))
          have g4 : w.heap.size < w4.heap.size := W4.lt
          clear W4 b4 q4 W3
          go_wp2
          go_roundw
          case rel => exact ⟨k + 1, by omega, by go_num, FIN.out.1, FIN.out.2, g4⟩
          case measure => simp [intOf]; omega
    · have hks : k = ms.length := by omega
      subst hks
      rw [List.take_length] at hwr
      go_wp2_with fail
      refine (Tryd.Builder_String_any_k w.heap.size w.heap.size (madesT ms) _ hwr (by omega)).mono ?_
      rintro e w2 ⟨rfl, _, b2, _⟩
      go_wp2
      go_ret
      exact ⟨ret_tb (by rw [HE.out]; rfl), hbw.trans (b2.mono (by omega))⟩
end Go.Proofs.YtbaofldcdcllfaaDoor
