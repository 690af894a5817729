/- How many parts a tree has: impl.SizeOf. -/
import Derived.Test.YtonfiahihmcmlaaIso
namespace Go.Proofs.Ytonfiahihmcmlaa
open Go.RowKit

/-- a list of just one tree, in a new block -/
theorem one_kd {z : Bool} {w : World} {lo hi : Nat} {u : Value} {t : TreeD} (h : Kd z w lo hi u t.kids) (ht : TopOk t) (hhi : hi ≤ w.heap.size) :
    Kd z (w.alloc (.cells #[.int .i64 t.rule, .string t.tok, u] 62)) 0 (w.heap.size + 1) (.slice (some ⟨w.heap.size, 0, none⟩) 1 1) [t] := by
  have r := Row.made w 62 #[.int .i64 t.rule, .string t.tok, u]
  refine .mk (some ⟨w.heap.size, 0, none⟩) 1 [t] (fun _ => u) (Nat.le_refl _) (by unfold maxLen; omega) (fun i hi => ?_) (fun _ => ⟨w.heap.size, 0, rfl, Nat.zero_le _, by omega, fun _ => ⟨_, _, r⟩, fun i hi => ?_⟩) (fun i hi => ?_)
  · obtain rfl : i = 0 := by simpa using hi
    exact ht
  · obtain rfl : i = 0 := by simpa using hi
    exact ⟨by rw [r.cell]; rfl, by rw [r.cell]; rfl, by rw [r.cell]; rfl⟩
  · obtain rfl : i = 0 := by simpa using hi
    exact (h.under (B := w.heap.size) (al1 _ _) hhi).more (Nat.zero_le _) (by omega)

set_option maxRecDepth 100000 in
set_option maxHeartbeats 1000000 in
theorem implSizeOf_any (t : TreeD) (u : Value) (lo hi : Nat) (w : World) (ht : TopOk t) (h : Kd true w lo hi u t.kids) (hhi : hi ≤ w.heap.size) (hn : sizeT t ≤ 2097152) :
    Calls Try.prog 59 #[trV t u] w fun e w' => e = .returned (.int .i64 (sizeT t : Int)) ∧ Below w.heap.size w w' := by
  have b1 := al1 w (.cells #[.int .i64 t.rule, .string t.tok, u] 62)
  have h1 := h.under b1 hhi
  have k := one_kd h1 ht (by simp; omega)
  have hs : sizeTs [t] = sizeT t := by simp [sizeTs]
  have hsz : (w.alloc (.cells #[.int .i64 t.rule, .string t.tok, u] 62)).heap.size = w.heap.size + 1 := by simp
  rw [hsz] at k
  have K := Lib.hid k
  have HS := Lib.hid hs
  clear hs
  have b2 := al2 w (.cells #[.int .i64 t.rule, .string t.tok, u] 62) (.cells #[.int .i64 t.rule, .string t.tok, u] 62)
  have HB := Lib.hid b2
  obtain ⟨A, c, U, rfl, -⟩ := h.parts
  unfold trV
  clear h h1 k b1 b2 hsz
  go_enter Try.func59, Try.ntmps59
  go_wp2_with fail
  refine (sizeOfAll_any (.slice (some ⟨w.heap.size + 1, 0, none⟩) 1 1) [t] 0 (w.heap.size + 1 + 1) _ K.out (by simp) (by rw [HS.out]; exact hn)).mono ?_
  rintro e w1 ⟨rfl, hb⟩
  rw [HS.out]
  go_wp2
  go_ret
  exact ⟨rfl, HB.out.trans (hb.mono (by simp; omega))⟩
end Go.Proofs.Ytonfiahihmcmlaa
