/- The model's text of Mades: MadesText. -/
import Derived.Test.YtbaofldcdcllfaaDoorJSmz
import Derived.Test.YtbaofldcdcllfaaDoorJXtt
namespace Go.Proofs.YtbaofldcdcllfaaDoor
open Go.RowKit
open Tx (Bts symsT)

set_option maxRecDepth 100000 in
set_option maxHeartbeats 4000000 in
theorem specMadesText_any (v : Value) (ms : List MadeD) (lo hi : Nat) (w : World) (h : DM true w lo hi v ms) (hhi : hi ≤ w.heap.size) (hn : bulkDs ms ≤ 1048576) :
    Calls Tryd.prog 11 #[v] w fun e w' => e = .returned (.string (tb (madesText ms))) ∧ Below w.heap.size w w' := by
  obtain ⟨i0, hi0, hz0, hz1, hz2⟩ := info_parts Tx.infoB
  have HL := Lib.hid (madesT_len h.fits)
  have HF := Lib.hid h.fits
  obtain ⟨A, c, rfl, hlc, hc, hcell⟩ := h
  unfold maxLen at hc
  have HC := Lib.hid hcell
  clear hcell
  by_cases hbig : 400 < ms.length
  · have HE : Hid (madesText ms = []) := Lib.hid (by unfold madesText; rw [if_neg (by omega)])
    go_enter Tryd.func11, Tryd.ntmps11
    go_wp2
    go_ret
    exact ⟨ret_tb (by rw [HE.out]; rfl), Below.refl _ _⟩
  have HE : Hid (madesText ms = madesT ms) := Lib.hid (by unfold madesText; rw [if_pos (by omega)])
  go_enter Tryd.func11, Tryd.ntmps11
  go_wp2
  go_loopw [3, 4, 5] (fun x i _ wr => ∃ k : Nat, k ≤ ms.length ∧ i = .int .i64 k ∧ Bts wr w.heap.size x (madesT (ms.take k)) ∧ Below w.heap.size w wr) (fun _ i _ _ => ms.length - (intOf i).toNat)
  case atStart => exact ⟨0, by omega, rfl, by simpa [madesT] using Tx.Bts.nil w (Nat.le_refl _), al1 _ _⟩
  case round =>
    obtain ⟨k, hk, rfl, hbts, hbw⟩ := hrel
    have hsw := hbw.size
    by_cases hlt : k < ms.length
    · obtain ⟨b, off, rfl, _, hbh, _, hcc⟩ := HC.out (by omega)
      obtain ⟨hhs, htm, hc0, u, x, hc1, hc2, hc3, hc4, hst, hkm⟩ := hcc k hlt
      have HM5 := Lib.hid (And.intro hc0 (And.intro hc1 (And.intro hc2 (And.intro hc3 (And.intro hc4 hkm)))))
      have k0 := (hbw.cell (p := ⟨b, off + k * 5, none⟩) (by show b < _; omega)).trans hc0
      obtain ⟨Au, cu, rfl, hluc, hcu, _, hsc⟩ := hst
      have HS := Lib.hid hsc
      obtain ⟨Ax, cx, Ux, rfl, -⟩ := hkm.parts
      have htl := HL.out k hk
      have hml := madeT_len _ (HF.out k hlt)
      have hbl := bulkD_get hlt
      have hto := madesTo_le ms k
      have hss := symsT_size ms[k].body
      have htt := termT_len _ (HF.out k hlt)
      rw [sizeM_eq] at htt
      have hkn : sizeMs ms[k].term.kids ≤ 1048576 := by unfold bulkD at hbl; omega
      have hhn : ms[k].head.size ≤ 1048576 := by unfold bulkD at hbl; omega
      have hbn : bulkS ms[k].body ≤ 1048576 := by unfold bulkD at hbl; omega
      have hbn2 : ms[k].body.length ≤ 1048576 := by unfold bulkS at hbn; omega
      have HT := Lib.hid (madesT_take ms k hlt)
      have HTM := Lib.hid htm
      have hap : (ms[k].head ++ ⟨#[32, 45, 62]⟩ : ByteArray).size ≤ 1048579 := by rw [ByteArray.size_append]; show _ + 3 ≤ _; omega
      clear hcc hc0 hc1 hc2 hc3 hc4 hkm hsc htm hml hss
      generalize hl0 : madesT (ms.take k) = l0 at hbts HT htl
      go_wp2_with (at_builtin; refine Lib.wpList_append_own_string _ rfl _ _ 45 9 rfl w.heap.size 5 i0 Tryd.underlying45 Tryd.underlying9 hi0 hz0 hz1 hz2 _ _ _ rfl hbts (ms[k].head ++ ⟨#[32, 45, 62]⟩) rfl (by unfold maxLen; omega) (by omega) (by omega) ?_)
      intro v1 w1 hown1 hg1 _
      have hb1 : Below w.heap.size w w1 := Tx.below_grown hbw hbts hg1 hsw (by omega)
      have t1 : Bts w1 w.heap.size v1 (l0 ++ (ms[k].head.data.toList ++ [32, 45, 62])) := by
        have := Tx.Bts.str (l := l0) (s := ms[k].head ++ ⟨#[32, 45, 62]⟩) (by rw [ByteArray.size_append]; rfl) hown1
        exact this.to (by rw [Tx.bs_app]; rfl)
      clear hown1 hg1 hbts hbw hsw k0
      generalize hl1 : l0 ++ (ms[k].head.data.toList ++ [32, 45, 62]) = l1 at t1
      have HL1 := Lib.hid hl1
      have hll : l1.length ≤ l0.length + 1048579 := by
        rw [← hl1]
        have : (ms[k].head.data.toList).length = ms[k].head.size := rfl
        simp only [List.length_append, List.length_cons, List.length_nil]; omega
      clear hl1
      go_wp2
      go_loopw [3, 5] (fun x i wr' => ∃ (j : Nat), j ≤ ms[k].body.length ∧ i = .int .i64 j ∧ Bts wr' w.heap.size x (l1 ++ symsT (ms[k].body.take j)) ∧ Below w.heap.size w wr') (fun _ i _ => ms[k].body.length - (intOf i).toNat)
      case atStart => exact ⟨0, by omega, rfl, t1.to (by simp [symsT]), hb1⟩
      case round =>
        obtain ⟨j, hj, rfl, tbj, hbb⟩ := hrel
        clear t1 hb1
        have hsb := hbb.size
        have hsl := symsT_part ms[k].body j
        have m1 := (hbb.cell (p := ⟨b, off + k * 5 + 1, none⟩) (by show b < _; omega)).trans HM5.out.2.1
        by_cases hjl : j < ms[k].body.length
        · obtain ⟨b1, off1, rfl, _, hbh1, hcc1⟩ := HS.out (by omega)
          have hcb := (hbb.cell (p := ⟨b1, off1 + j, none⟩) (by show b1 < _; omega)).trans (hcc1 j hjl)
          have h4 : ms[k].body[j].size ≤ bulkS ms[k].body := by have := sizes_mem (List.getElem_mem hjl); unfold bulkS; omega
          have hap2 : (⟨#[32]⟩ ++ ms[k].body[j] : ByteArray).size ≤ 1048577 := by rw [ByteArray.size_append]; show 1 + _ ≤ _; omega
          clear hcc1
          generalize hl2 : l1 ++ symsT (ms[k].body.take j) = l2 at tbj
          have hll2 : l2.length ≤ l0.length + 1048579 + 1048576 := by rw [← hl2, List.length_append]; omega
          have HL2 := Lib.hid hl2
          clear hl2
          go_wp2_with (at_builtin; refine Lib.wpList_append_own_string _ rfl _ _ 45 9 rfl w.heap.size 5 i0 Tryd.underlying45 Tryd.underlying9 hi0 hz0 hz1 hz2 _ _ _ rfl tbj (⟨#[32]⟩ ++ ms[k].body[j]) rfl (by unfold maxLen; omega) (by omega) (by omega) ?_)
          intro v2 w2 hown2 hg2 _
          have hb2 : Below w.heap.size w w2 := Tx.below_grown hbb tbj hg2 hsb (by omega)
          have t2 : Bts w2 w.heap.size v2 (l1 ++ symsT (ms[k].body.take (j + 1))) := by
            have := Tx.Bts.str (l := l2) (s := ⟨#[32]⟩ ++ ms[k].body[j]) (by rw [ByteArray.size_append]; rfl) hown2
            exact this.to (by rw [← HL2.out, Tx.bs_app, Tx.symsT_take _ _ hjl, List.append_assoc]; rfl)
          clear hown2 hg2 tbj hbb
          go_wp2
          go_roundw
          case rel => exact ⟨j + 1, by omega, by go_num, t2, hb2⟩
          case measure => simp [intOf]; omega
        · have hjk : j = ms[k].body.length := by omega
          subst hjk
          rw [List.take_length] at tbj hsl
          have m2 := (hbb.cell (p := ⟨b, off + k * 5 + 2, none⟩) (by show b < _; omega)).trans HM5.out.2.2.1
          have m3 := (hbb.cell (p := ⟨b, off + k * 5 + 3, none⟩) (by show b < _; omega)).trans HM5.out.2.2.2.1
          have m4 := (hbb.cell (p := ⟨b, off + k * 5 + 4, none⟩) (by show b < _; omega)).trans HM5.out.2.2.2.2.1
          have HKM := Lib.hid (HM5.out.2.2.2.2.2.under hbb hhi)
          generalize hl2 : l1 ++ symsT ms[k].body = l2 at tbj
          have hll2 : l2.length ≤ l0.length + 1048579 + 1048576 := by rw [← hl2, List.length_append]; omega
          have HL2 := Lib.hid hl2
          have HBB := Lib.hid hbb
          clear hl2 hbb
          go_wp2_with fail
          refine (specTermText_t ms[k].term _ lo hi _ HTM.out HKM.out (by omega) hkn).mono ?_
          rintro e w3 ⟨rfl, b3⟩
          have t3 := tbj.on b3
          have hb3 := HBB.out.trans (b3.mono hsb)
          have hs3 := hb3.size
          have htz : (tb (termT ms[k].term)).size ≤ 25165848 := by rw [tb_size]; omega
          have hap3 : (((⟨#[32, 58, 32]⟩ : ByteArray) ++ tb (termT ms[k].term)) ++ ⟨#[10]⟩).size ≤ 25165852 := by
            rw [ByteArray.size_append, ByteArray.size_append]; show 3 + _ + 1 ≤ _; omega
          clear tbj b3
          go_wp2_with (at_builtin; refine Lib.wpList_append_own_string _ rfl _ _ 45 9 rfl w.heap.size 5 i0 Tryd.underlying45 Tryd.underlying9 hi0 hz0 hz1 hz2 _ _ _ rfl t3 (((⟨#[32, 58, 32]⟩ : ByteArray) ++ tb (termT ms[k].term)) ++ ⟨#[10]⟩) rfl (by unfold maxLen; omega) (by omega) (by omega) ?_)
          intro v4 w4 hown4 hg4 _
          have hb4 : Below w.heap.size w w4 := Tx.below_grown hb3 t3 hg4 hs3 (by omega)
          have t4 : Bts w4 w.heap.size v4 (madesT (ms.take (k + 1))) := by
            have := Tx.Bts.str (l := l2) (s := ((⟨#[32, 58, 32]⟩ : ByteArray) ++ tb (termT ms[k].term)) ++ ⟨#[10]⟩) (by first | rfl | (rw [ByteArray.size_append, ByteArray.size_append]; rfl) | (simp [ByteArray.size_append]; rfl)) hown4
            refine this.to ?_
            rw [HT.out, ← HL2.out, ← HL1.out]
            simp [madeT, tb, ByteArray.data_append, List.append_assoc]
          clear hown4 hg4 t3 hb3
          go_wp2
          go_roundw
          case rel => exact ⟨k + 1, by omega, by go_num, t4, hb4⟩
          case measure => simp [intOf]; omega
    · have hks : k = ms.length := by omega
      subst hks
      rw [List.take_length] at hbts
      have hcv := hbts.conv
      go_wp2
      go_ret
      exact ⟨ret_tb (by rw [HE.out]; rfl), hbw⟩
end Go.Proofs.YtbaofldcdcllfaaDoor
