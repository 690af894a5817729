/- The walk of the model's l03Sort. -/
import Derived.Test.YtmhdbjoljonhdaaFixS
import Derived.Deep.AppendLies
namespace Go.Proofs.Ytmhdbjoljonhdaa
open Go.RowKit

def filtB (hs ins : List ByteArray) (k : Nat) : List ByteArray := (hs.take k).filter fun s => inB ins s
theorem filtB_t {hs ins : List ByteArray} {k : Nat} (h : k < hs.length) (hb : inB ins hs[k] = true) : filtB hs ins (k + 1) = filtB hs ins k ++ [hs[k]] := by
  unfold filtB; rw [List.take_succ_eq_append_getElem h, List.filter_append]; simp [hb]
theorem filtB_f {hs ins : List ByteArray} {k : Nat} (h : k < hs.length) (hb : inB ins hs[k] = false) : filtB hs ins (k + 1) = filtB hs ins k := by
  unfold filtB; rw [List.take_succ_eq_append_getElem h, List.filter_append]; simp [hb]
theorem filtB_mem {hs ins : List ByteArray} {k : Nat} {s : ByteArray} (h : s ∈ filtB hs ins k) : s ∈ hs := List.mem_of_mem_take (List.mem_filter.1 h).1
theorem filtB_len (hs ins : List ByteArray) (k : Nat) : (filtB hs ins k).length ≤ k := by
  unfold filtB
  refine Nat.le_trans (List.length_filter_le _ _) ?_
  rw [List.length_take]; omega

set_option maxRecDepth 100000 in
set_option maxHeartbeats 2000000 in
theorem specSort_any (rs : List RuleD) (v x : Value) (ins : List ByteArray) (lo hi lo' hi' : Nat) (w : World) (h : Rules w lo hi v rs) (hh : hi ≤ w.heap.size) (hl20 : rs.length ≤ 1000) (hx : Strs w lo' hi' x ins) (hh' : hi' ≤ w.heap.size) :
    Calls Try.prog 71 #[.agg #[v], x] w (MadeS w ((hsOf rs).filter fun s => inB ins s)) := by
  obtain ⟨i0, hi0, hz0, hz1, hz2⟩ := info_parts Try.infoStr
  have HV := Lib.hid h
  have HX := Lib.hid hx
  obtain ⟨A, c, rfl, -⟩ := h
  obtain ⟨X, xc, rfl, -⟩ := hx
  have hb := al2 w (.cells #[.slice A rs.length c] 25) (.cells #[] 9)
  have R0 := (Row.made w 25 #[.slice A rs.length c]).alloc (.cells #[] 9)
  have c0 := R0.cell 0
  simp at c0
  have hln := headsTo_len rs rs.length
  clear R0
  go_enter Try.func71, Try.ntmps71
  go_wp2_with fail
  refine (specHeadsOf_any rs _ lo hi _ (HV.out.below hb hh) (by simp; omega) (by omega)).mono ?_
  rintro e w1 ⟨u, g, rfl, ho, hg, b1⟩
  change OwnS w1 g u (hsOf rs) at ho
  change (hsOf rs).length ≤ rs.length at hln
  have hg1 : hsOf rs ≠ [] → w.heap.size + 2 ≤ g ∧ g < w1.heap.size := fun hn => by have := hg hn; simpa using this
  have ST := ho.strs hg1
  have hs1 := b1.size
  have N0 : Sts w1 (w.heap.size + 1) (.slice (some ⟨w.heap.size + 1, 0, none⟩) 0 0) [] := by
    have h0 : Sts _ _ (.slice (some ⟨(w.alloc (.cells #[.slice A rs.length c] 25)).heap.size, 0, none⟩) 0 0) [] := Sts.nil (w.alloc (.cells #[.slice A rs.length c] 25)) (base := w.heap.size + 1) (by simp)
    have e : (w.alloc (.cells #[.slice A rs.length c] 25)).heap.size = w.heap.size + 1 := by simp
    rw [e] at h0
    exact h0.below b1
  have hb1 := hb.trans (b1.mono (by simp; omega))
  have hsz : w.heap.size + 2 ≤ w1.heap.size := by simpa using hs1
  have HST := Lib.hid ST
  have HXS := Lib.hid ((HX.out.below hb1 hh'))
  obtain ⟨Ah, ch, rfl, hlc, hc, hss, hcell⟩ := ST
  unfold maxLen at hc
  have HC := Lib.hid hcell
  have HZ : Hid (∀ k, ∀ s ∈ filtB (hsOf rs) ins k, s.size ≤ maxLen) := Lib.hid fun k s hs => hss s (filtB_mem hs)
  have HB1 := Lib.hid hb1
  clear hcell hss b1 hb ho hg hg1 hb1
  go_wp2
  go_loopw [5, 7] (fun y i wr => ∃ k : Nat, k ≤ (hsOf rs).length ∧ i = .int .i64 k ∧ Sts wr (w.heap.size + 1) y (filtB (hsOf rs) ins k) ∧ (∀ b, y.ownBlock = some b → b = w.heap.size + 1 ∨ w1.heap.size ≤ b) ∧ Keeps (w.heap.size + 2) w1.heap.size w1 wr ∧ Below w.heap.size w wr ∧ w1.heap.size ≤ wr.heap.size) (fun _ i _ => (hsOf rs).length - (intOf i).toNat)
  case atStart => exact ⟨0, by omega, rfl, N0, fun b hb => by simp [Value.ownBlock] at hb; omega, Keeps.refl _ _ _, HB1.out, Nat.le_refl _⟩
  case round =>
    obtain ⟨k, hk, rfl, hsts, how, hkp, hbw, hsw⟩ := hrel
    have hfl := filtB_len (hsOf rs) ins k
    by_cases hlt : k < (hsOf rs).length
    · obtain ⟨b, off, rfl, hbl, hbh, hcc⟩ := HC.out (by omega)
      have hck := (hkp.cell (p := ⟨b, off + k, none⟩) hbl hbh).trans (hcc k hlt)
      have HXr := Lib.hid (HX.out.below hbw hh')
      clear hcc
      cases hin : inB ins (hsOf rs)[k]
      · have HI := Lib.hid hin
        have HF := Lib.hid (filtB_f hlt hin)
        clear hin
        go_wp2_with fail
        refine (specIn_any _ ins (hsOf rs)[k] lo' hi' _ HXr.out).mono ?_
        rintro e w2 ⟨rfl, rfl⟩
        rw [HI.out]
        go_wp2
        go_roundw
        case rel => exact ⟨k + 1, by omega, by go_num, by rw [HF.out]; exact hsts, how, hkp, hbw, hsw⟩
        case measure => simp [intOf]; omega
      · have HI := Lib.hid hin
        have HF := Lib.hid (filtB_t hlt hin)
        clear hin
        have HS := Lib.hid hsts
        have HOW := Lib.hid how
        have HKP := Lib.hid hkp
        obtain ⟨By, dy, rfl⟩ := hsts.form
        clear hsts how hkp
        go_wp2_with fail
        refine (specIn_any _ ins (hsOf rs)[k] lo' hi' _ HXr.out).mono ?_
        rintro e w2 ⟨rfl, rfl⟩
        rw [HI.out]
        go_wp2_with (at_builtin; refine wpList_append_lies _ rfl _ _ 27 rfl (w.heap.size + 1) 9 i0 (.string ByteArray.empty) 1 16 Try.underlying27 hi0 hz0 hz1 hz2 rfl (by decide) _ _ _ rfl (World.ownsRow.alloc HS.out _) ⟨wr.heap.size, 0, none⟩ 1 1 [.string (hsOf rs)[k]] rfl rfl (cell_one_new _ _ _) (one_str _) (by omega) (by unfold maxLen; omega) (by omega) (by simp; omega) (wr.heap.size + 1) (by simp) ?_)
        intro gg cap w3 hown3 hg3 hat3 hlt3
        have s3 : Sts w3 (w.heap.size + 1) (.slice (some ⟨gg, 0, none⟩) ((filtB (hsOf rs) ins k).length + 1) cap) (filtB (hsOf rs) ins (k + 1)) := by
          rw [HF.out]
          exact Sts.one _ hown3
        have B3 : Below w.heap.size w w3 := Tx.below_grown (hbw.trans ((al1 wr _).mono hbw.size)) (World.ownsRow.alloc HS.out _) hg3 (by simp; omega) (by omega)
        have z3 : w1.heap.size ≤ w3.heap.size := by have := hg3.size; simp at this; omega
        have o3 : ∀ b, (Value.slice (some ⟨gg, 0, none⟩) ((filtB (hsOf rs) ins k).length + 1) cap).ownBlock = some b → b = w.heap.size + 1 ∨ w1.heap.size ≤ b := fun b hb => by
          have : gg = b := by simpa [Value.ownBlock] using hb
          subst this
          rcases hat3 with hat | hat
          · exact HOW.out _ hat
          · omega
        have K3 : Keeps (w.heap.size + 2) w1.heap.size w1 w3 := HKP.out.trans fun j hj1 hj2 => (hg3.block j (by simp; omega) fun e => by
          have := HOW.out j e.symm
          omega).trans (Below.heap_alloc _ _ _ (by omega))
        clear hown3 hg3 hat3 hlt3
        go_wp2
        go_roundw
        case rel => exact ⟨k + 1, by omega, by go_num, s3, o3, K3, B3, z3⟩
        case measure => simp [intOf]; omega
    · have hks : k = (hsOf rs).length := by omega
      subst hks
      obtain ⟨g, ho, hg⟩ := hsts.own (HZ.out _)
      have HE : Hid (filtB (hsOf rs) ins (hsOf rs).length = (hsOf rs).filter fun s => inB ins s) := Lib.hid (by unfold filtB; rw [List.take_length])
      rw [HE.out] at ho hg
      clear hsts
      go_wp2
      go_ret
      exact ⟨_, g, rfl, ho, fun hn => by have := hg hn; omega, hbw⟩
end Go.Proofs.Ytmhdbjoljonhdaa
