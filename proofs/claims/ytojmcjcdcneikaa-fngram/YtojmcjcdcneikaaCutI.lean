/- The program's cutText and cutAt. -/
import Derived.Test.YtojmcjcdcneikaaCuts
import Derived.WalkKit
import Derived.Laws.CopyOwn
import Derived.Lib.BufferWrite
import Derived.Lib.OthersKept
import Derived.Deep.OwnRows
import Derived.Laws.BytesArg
namespace Go.Proofs.Ytojmcjcdcneikaa.Tx
open Go.RowKit

theorem wpList_copy_str {P : Program} {w : World} {ops : Array Oper} {rest : List Oper} {o : Oper} {a : Act} {Q : Exit → Act → World → Prop} (hgd : o.guard = none) (d s : Operand) (dT sT : TypeId)
    (ho : o.op = .call { callee := .builtin .copy, args := #[d, s], argTypes := #[dT, sT] }) (elem : TypeId) (hu : P.underlying dT = some (.slice elem)) (hsz : (P.info? elem).map (·.size) = some 1)
    (dp : Option Addr) (dLen dCap : Nat) (t : ByteArray) (hd : a.eval d = .slice dp dLen dCap) (hs : a.eval s = .string t)
    (g off : Nat) (cur : List Value) (ty : TypeId) (hg : w.heap[g]? = some (.cells cur.toArray ty (0, 0))) (hle : t.size ≤ dLen)
    (hpos : 0 < t.size → dp = some ⟨g, off, none⟩) (hfit : off + t.size ≤ cur.length) (B : Nat) (w0 : World) (hb : Below B w0 w) (hBg : B ≤ g)
    (h : ∀ w', Hid (w'.heap[g]? = some (.cells (splice cur off (t.data.toList.map bv)).toArray ty (0, 0))) → Below B w0 w' → wpList P ops Q rest (a.put o.dst (goInt t.size)) w') :
    wpList P ops Q (o :: rest) a w := by
  have hlen : (t.data.toList.map bv).length = t.size := by rw [List.length_map]; rfl
  refine wpList_plain hgd fun K hK => ?_
  by_cases h0 : t.size = 0
  · have hrun := Lib.run_copy_empty_string (P := P) w dT sT o.type elem dp dLen dCap t hu (by cases hq : P.info? elem <;> simp [hq] at hsz ⊢) h0
    unfold Oper.wp
    simp [execOp, ho, resolve, invoke, builtin, hd, hs, hrun, Result.andThen]
    have hnil : t.data.toList.map bv = [] := List.eq_nil_of_length_eq_zero (by rw [hlen]; exact h0)
    have h1 := h w (show _ = _ by rw [hnil]; simpa [splice] using hg) hb
    rw [h0] at h1
    exact hK _ _ h1
  · obtain rfl := hpos (by omega)
    have hrun := Lib.run_copy_row_string (P := P) w dT sT o.type elem g off dLen dCap t cur.toArray ty hu hsz hg hle (by simpa using hfit)
    unfold Oper.wp
    simp [execOp, ho, resolve, invoke, builtin, hd, hs, hrun, Result.andThen]
    refine hK _ _ (h _ ?_ (below_setRow hb hBg _))
    show _ = _
    rw [setRow_heap w g _ _ ty _ hg]
    simp [splice, Lib.byteCells, bv]

theorem splice_whole {α : Type} (Z X : List α) (hZ : Z.length = X.length) : splice Z 0 X = X := by
  simp [splice, List.drop_eq_nil_of_le, hZ]
theorem sizeB : (Try.prog.info? 5).map (·.size) = some 1 := by kernel_rfl
theorem madeList (n : Nat) : madeCells #[Value.int .u8 0] n = (List.replicate n (Value.int .u8 0)).toArray := by
  have := toList_madeCells_one (.int .u8 0) n
  rw [← this]
theorem join_str {w : World} {g n : Nat} {L : List Value} (t : ByteArray) (hT : Hid (L = t.data.toList.map bv)) (hC : Hid (t.data.toList.length = n)) (hg : Hid (w.heap[g]? = some (.cells L.toArray 5 (0, 0)))) (hn : n ≤ 9223372036854775807) :
    (convert 22 9 (.slice (some ⟨g, 0, none⟩) n n)).run Try.prog w = .ok (.string t) w := by
  have h := hg.out
  rw [hT.out] at h
  have h2 : Bts w 0 (.slice (some ⟨g, 0, none⟩) n n) t.data.toList := by
    unfold Bts
    refine ⟨by simp, .inr ⟨g, n, _, by rw [hC.out], Nat.zero_le _, h, by rw [hC.out]; exact Nat.le_refl _, by unfold maxLen; omega, by simp only [List.size_toArray, List.length_map, Nat.mul_one]; exact hC.out, ?_⟩⟩
    simp only [Nat.mul_one]
    exact List.take_of_length_le (by simp)
  exact h2.conv

set_option maxRecDepth 100000 in
set_option maxHeartbeats 1000000 in
theorem cutText_any (s : ByteArray) (i j : Nat) (w : World) (hs : s.size ≤ 1000000) (hij : i ≤ j) (hj : j ≤ s.size) :
    Calls Try.prog 79 #[.string s, .int .i64 (i : Int), .int .i64 (j : Int)] w fun e w' => e = .returned (.string (s.extract i j)) ∧ Below w.heap.size w w' := by
  have hmk := run_make_row' (P := Try.prog) 22 5 (.int .u8 0) 1 Try.underlying22 infoB rfl .i64 .i64 (j - i) (by omega) (by omega)
  rw [show ((j - i : Nat) : Int) = (j : Int) - (i : Int) by omega] at hmk
  have he : (s.extract i j).size = j - i := by rw [ByteArray.size_extract]; omega
  have HE := Lib.hid he
  have HML := Lib.hid (madeList (j - i))
  have HL : Hid (((s.extract i j).data.toList.map bv).length = j - i) := Lib.hid (by rw [List.length_map]; exact he)
  have HT : Hid (splice (List.replicate (j - i) (Value.int .u8 0)) 0 ((s.extract i j).data.toList.map bv) = (s.extract i j).data.toList.map bv) := Lib.hid (splice_whole _ _ (by rw [HL.out]; simp))
  have HC : Hid ((s.extract i j).data.toList.length = j - i) := Lib.hid he
  clear he
  go_enter Try.func79, Try.ntmps79
  go_wp2_with (with_reducible refine wpList_copy_str (o := ⟨some 17, _, _, _, _, _⟩) rfl (.tmp 12) (.tmp 16) 22 9 rfl 5 Try.underlying22 sizeB _ _ _ (s.extract i j) rfl rfl w.heap.size 0 (List.replicate (j - i) (.int .u8 0)) 5 (by rw [HML.out]; exact heap_alloc_new w _) (by rw [HE.out]; exact Nat.le_refl _) (fun _ => rfl) (by rw [HE.out]; simp) w.heap.size w ((Below.refl _ _).alloc (Nat.le_refl _) _) (Nat.le_refl _) ?_; intro w1 hg1 hb1; have hcv := join_str (s.extract i j) HT HC hg1 (by omega))
  go_ret
  exact ⟨rfl, hb1⟩

end Go.Proofs.Ytojmcjcdcneikaa.Tx
