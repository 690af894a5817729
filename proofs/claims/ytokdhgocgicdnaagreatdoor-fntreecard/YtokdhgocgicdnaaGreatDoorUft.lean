/- Are two trees the same? impl.TreeSame. -/
import Derived.Test.YtokdhgocgicdnaaGreatDoorUfs
import Derived.Test.YtokdhgocgicdnaaGreatDoorJIyh
namespace Go.Proofs.YtokdhgocgicdnaaGreatDoor
open Go.RowKit

set_option maxRecDepth 100000 in
set_option maxHeartbeats 2000000 in
theorem implTreeSame_any (a b : TreeD) (u v : Value) (lo hi : Nat) (w : World) (ta : TopOk a) (tb : TopOk b) (ha : Kd true w lo hi u a.kids) (hb : Kd true w lo hi v b.kids) (hh : hi ≤ w.heap.size) (hn : sizeT a ≤ 2097152) :
    Calls Tryz.prog 18 #[trV a u, trV b v] w fun e w' => ∃ r, e = .returned (.bool r) ∧ (r = true ↔ a = b) ∧ Below w.heap.size w w' := by
  have b2 := al2 w (.cells #[.int .i64 a.rule, .string a.tok, u] 29) (.cells #[.int .i64 b.rule, .string b.tok, v] 29)
  have z2 : ((w.alloc (.cells #[.int .i64 a.rule, .string a.tok, u] 29)).alloc (.cells #[.int .i64 b.rule, .string b.tok, v] 29)).heap.size = w.heap.size + 2 := by simp
  have R0 := (Row.made w 29 #[.int .i64 a.rule, .string a.tok, u]).alloc (.cells #[.int .i64 b.rule, .string b.tok, v] 29)
  have R1 : Row ((w.alloc (.cells #[.int .i64 a.rule, .string a.tok, u] 29)).alloc (.cells #[.int .i64 b.rule, .string b.tok, v] 29)) (w.heap.size + 1) 29 #[.int .i64 b.rule, .string b.tok, v] := by
    simpa using Row.made (w.alloc (.cells #[.int .i64 a.rule, .string a.tok, u] 29)) 29 #[.int .i64 b.rule, .string b.tok, v]
  have HA := Lib.hid (ha.under b2 hh)
  have HB := Lib.hid (hb.under b2 hh)
  have HB2 := Lib.hid b2
  have HZ2 := Lib.hid z2
  have HR0 := Lib.hid R0
  have HR1 := Lib.hid R1
  obtain ⟨A, c, U, rfl, -⟩ := ha.parts
  obtain ⟨B, d, V, rfl, -⟩ := hb.parts
  have hsa : sizeTs [a] = sizeT a := by simp [sizeTs]
  clear ha hb b2 z2 R0 R1
  have e0 := HR0.out.cell 0
  have e1 := HR0.out.cell 1
  have e2 := HR0.out.cell 2
  have f0 := HR1.out.cell 0
  have f1 := HR1.out.cell 1
  have f2 := HR1.out.cell 2
  simp at e0 e1 e2 f0 f1 f2
  have K1 : Hid (Kd true ((((w.alloc (.cells #[.int .i64 a.rule, .string a.tok, .slice A a.kids.length c] 29)).alloc (.cells #[.int .i64 b.rule, .string b.tok, .slice B b.kids.length d] 29)).alloc (.cells #[.int .i64 a.rule, .string a.tok, .slice A a.kids.length c] 29)).alloc (.cells #[.int .i64 b.rule, .string b.tok, .slice B b.kids.length d] 29)) 0 (w.heap.size + 4) (.slice (some ⟨w.heap.size + 2, 0, none⟩) 1 1) [a] ∧
      Kd true ((((w.alloc (.cells #[.int .i64 a.rule, .string a.tok, .slice A a.kids.length c] 29)).alloc (.cells #[.int .i64 b.rule, .string b.tok, .slice B b.kids.length d] 29)).alloc (.cells #[.int .i64 a.rule, .string a.tok, .slice A a.kids.length c] 29)).alloc (.cells #[.int .i64 b.rule, .string b.tok, .slice B b.kids.length d] 29)) 0 (w.heap.size + 4) (.slice (some ⟨w.heap.size + 3, 0, none⟩) 1 1) [b] ∧
      Below w.heap.size w ((((w.alloc (.cells #[.int .i64 a.rule, .string a.tok, .slice A a.kids.length c] 29)).alloc (.cells #[.int .i64 b.rule, .string b.tok, .slice B b.kids.length d] 29)).alloc (.cells #[.int .i64 a.rule, .string a.tok, .slice A a.kids.length c] 29)).alloc (.cells #[.int .i64 b.rule, .string b.tok, .slice B b.kids.length d] 29))) := Lib.hid (by
    generalize hw2 : (w.alloc (.cells #[.int .i64 a.rule, .string a.tok, .slice A a.kids.length c] 29)).alloc (.cells #[.int .i64 b.rule, .string b.tok, .slice B b.kids.length d] 29) = w2 at HA HB HB2 HZ2 ⊢
    have z2 := HZ2.out
    have k1 := one_kd HA.out ta (by omega)
    have a3 := al1 w2 (.cells #[.int .i64 a.rule, .string a.tok, .slice A a.kids.length c] 29)
    have z3 : (w2.alloc (.cells #[.int .i64 a.rule, .string a.tok, .slice A a.kids.length c] 29)).heap.size = w.heap.size + 3 := by simp; omega
    have a4 := al1 (w2.alloc (.cells #[.int .i64 a.rule, .string a.tok, .slice A a.kids.length c] 29)) (.cells #[.int .i64 b.rule, .string b.tok, .slice B b.kids.length d] 29)
    have k2 := one_kd (HB.out.under a3 (by omega)) tb (by omega)
    have k1' := k1.under a4 (by omega)
    rw [z2] at k1'
    rw [z3] at k2
    exact ⟨k1'.more (Nat.zero_le _) (by omega), k2.more (Nat.zero_le _) (Nat.le_refl _), (HB2.out.trans (a3.mono (by omega))).trans (a4.mono (by omega))⟩)
  have hf0 : w.heap.size < w.heap.size + 2 := by omega
  clear HA HB HB2 HZ2 HR0 HR1
  unfold trV
  go_enter Tryz.func18, Tryz.ntmps18
  go_wp2_with fail
  refine (sameAll_any [a] [b] _ _ (w.heap.size + 4) _ K1.out.1 K1.out.2.1 (by simp) (by omega)).mono ?_
  rintro e w9 ⟨r, rfl, hr, b9⟩
  have FIN : Hid ((r = true ↔ a = b) ∧ Below w.heap.size w w9) := Lib.hid ⟨hr.trans (by simp), K1.out.2.2.trans (b9.mono (by simp; omega))⟩
  clear hr b9
  go_wp2
  go_ret
  exact ⟨r, rfl, FIN.out⟩
end Go.Proofs.YtokdhgocgicdnaaGreatDoor
