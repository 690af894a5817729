/- The texts of a tree: the model's spec.Yield. -/
import Derived.Test.YtonfiahihmcmlaaSys
namespace Go.Proofs.Ytonfiahihmcmlaa
open Go.RowKit

def yieldOf (t : TreeD) : List ByteArray := if sizeT t ≤ 200 then yieldT t else []
theorem yieldT_small {z : Bool} {w : World} {lo hi : Nat} {v : Value} {t : TreeD} (ht : TopOk t) (h : Kd z w lo hi v t.kids) : ∀ s ∈ yieldT t, s.size ≤ maxLen := by
  intro s hs
  rw [yieldT_eq, List.mem_append] at hs
  rcases hs with hs | hs
  · split at hs
    · simp at hs
    · rw [List.mem_singleton] at hs; rw [hs]; exact ht.1
  · exact yieldTs_small h s hs
theorem yieldOf_len (t : TreeD) : (yieldOf t).length ≤ 1000 := by
  unfold yieldOf
  split
  · have := yieldT_len t; omega
  · simp

set_option maxRecDepth 100000 in
set_option maxHeartbeats 4000000 in
theorem specYield_any (t : TreeD) (u : Value) (lo hi : Nat) (w : World) (ht : TopOk t) (hk : Kd true w lo hi u t.kids) (hh : hi ≤ w.heap.size) (hn : sizeT t ≤ 2097152) :
    Calls Try.prog 48 #[trV t u] w fun e w' => MadeS w (yieldOf t) e w' := by
  have b0 := al1 w (.cells #[.int .i64 t.rule, .string t.tok, u] 62)
  have R0 := Row.made w 62 #[.int .i64 t.rule, .string t.tok, u]
  have HK := Lib.hid (hk.under b0 hh)
  have HSM := Lib.hid (yieldT_small ht hk)
  have hsz : (w.alloc (.cells #[.int .i64 t.rule, .string t.tok, u] 62)).heap.size = w.heap.size + 1 := by simp
  have HSZ := Lib.hid hsz
  have HB0 := Lib.hid b0
  obtain ⟨A, c, U, rfl, -⟩ := hk.parts
  clear hk ht hsz b0
  unfold trV
  go_enter Try.func48, Try.ntmps48
  go_wp2_with fail
  generalize w.alloc (.cells #[.int .i64 t.rule, .string t.tok, .slice A t.kids.length c] 62) = w0 at R0 HK HSZ HB0 ⊢
  have z0 := HSZ.out
  refine (specSize5_any t true _ lo hi 200 w0 HK.out (by omega) hn (by omega) (by omega)).mono ?_
  rintro e w1 ⟨r, rfl, hup, b1⟩
  have HU := Lib.hid (upto_big hup)
  have z1 := b1.size
  have B1 := Lib.hid (HB0.out.trans (b1.mono (by omega)))
  have R1 := R0.below b1 (by omega)
  have c0 := R1.cell 0
  have c1 := R1.cell 1
  have c2 := R1.cell 2
  simp at c0 c1 c2
  have hl1 := R1.lt
  have HK1 := Lib.hid (HK.out.under b1 (by omega))
  clear hup R1 R0
  by_cases hbig : sizeT t ≤ 200
  · have nb : decide (r > 200) = false := by rw [HU.out]; simp [hbig]
    have HY : Hid (yieldOf t = yieldT t) := Lib.hid (by unfold yieldOf; rw [if_pos hbig])
    have HNIL := Lib.hid (Sts.nil w1 (base := w.heap.size + 1) (by omega))
    have A1 := al1 w1 (.cells #[] 9)
    have HA1 := Lib.hid A1
    have HK2 := Lib.hid (HK1.out.under A1 (by omega))
    clear b1 A1
    go_wp2_with fail
    refine (specYieldL_any t true _ _ [] (w.heap.size + 1) lo hi _ HK2.out HNIL.out (by omega) (by simp; omega) (by simp; omega)).mono ?_
    rintro e w2 ⟨v2, rfl, hs2, hg2⟩
    have HS2 := Lib.hid hs2
    have HG2 := Lib.hid hg2
    obtain ⟨A2, c2', rfl⟩ := hs2.shape
    clear hs2 hg2
    go_wp2
    go_ret
    have hs3 := HS2.out
    rw [List.nil_append] at hs3
    obtain ⟨g, h1, h2⟩ := Sts.own hs3 HSM.out
    rw [HY.out]
    refine ⟨_, g, rfl, h1, fun hne => ?_, ?_⟩
    · have := h2 hne; omega
    · refine (B1.out.trans (HA1.out.mono (by omega))).trans (HG2.out.to_below (B := w.heap.size) (by simp; omega) (fun g' hg' => ?_))
      have : w1.heap.size = g' := by simpa [Value.ownBlock] using hg'
      omega
  · have nb : decide (r > 200) = true := by rw [HU.out]; simp [hbig]
    have HY : Hid (yieldOf t = []) := Lib.hid (by unfold yieldOf; rw [if_neg hbig])
    clear b1
    go_wp2
    go_ret
    rw [HY.out]
    exact ⟨_, 0, rfl, ⟨_, _, rfl, Nat.le_refl _, by unfold maxLen; omega, by simp, fun h => by simp at h⟩, fun h => absurd rfl h, B1.out.trans ((al1 w1 _).mono (by omega))⟩
end Go.Proofs.Ytonfiahihmcmlaa
