/- copy out of a text into a row of the call's own, as a law for the walk; and what two such copies leave. -/
import Derived.Test.YtldencefagnhfaaDoorNum
import Derived.WalkKit
import Derived.Laws.CopyOwn
import Derived.Lib.BufferWrite
import Derived.Lib.Hide
import Derived.Deep.OwnRows
import Derived.Laws.BytesArg
namespace Go.Proofs.YtldencefagnhfaaDoor
open Go.RowKit

theorem wpList_copy_str {P : Program} {w : World} {ops : Array Oper} {rest : List Oper} {o : Oper} {a : Act} {Q : Exit → Act → World → Prop} (hgd : o.guard = none) (d s : Operand) (dT sT : TypeId)
    (ho : o.op = .call { callee := .builtin .copy, args := #[d, s], argTypes := #[dT, sT] }) (elem : TypeId) (hu : P.underlying dT = some (.slice elem)) (hsz : (P.info? elem).map (·.size) = some 1)
    (dp : Option Addr) (dLen dCap : Nat) (t : ByteArray) (hd : a.eval d = .slice dp dLen dCap) (hs : a.eval s = .string t)
    (g off : Nat) (cur : List Value) (ty : TypeId) (hg : w.heap[g]? = some (.cells cur.toArray ty (0, 0))) (hle : t.size ≤ dLen)
    (hpos : 0 < t.size → dp = some ⟨g, off, none⟩) (hfit : off + t.size ≤ cur.length) (B : Nat) (w0 : World) (hb : Below B w0 w) (hBg : B ≤ g)
    (h : ∀ w', Hid (w'.heap[g]? = some (.cells (splice cur off (t.data.toList.map bv)).toArray ty (0, 0))) → Below B w0 w' → wpList P ops Q rest (a.put o.dst (goInt t.size)) w') :
    wpList P ops Q (o :: rest) a w := by
  have hlen : (t.data.toList.map bv).length = t.size := by rw [List.length_map]; rfl
  refine wpList_plain hgd fun K hK => ?_
  by_cases h0 : t.size = 0
  · have hrun := Lib.run_copy_empty_string (P := P) w dT sT o.type elem dp dLen dCap t hu (by cases hq : P.info? elem <;> simp [hq] at hsz ⊢) h0
    unfold Oper.wp
    simp [execOp, ho, resolve, invoke, builtin, hd, hs, hrun, Result.andThen]
    have hnil : t.data.toList.map bv = [] := List.eq_nil_of_length_eq_zero (by rw [hlen]; exact h0)
    have h1 := h w (show _ = _ by rw [hnil]; simpa [splice] using hg) hb
    rw [h0] at h1
    exact hK _ _ h1
  · obtain rfl := hpos (by omega)
    have hrun := Lib.run_copy_row_string (P := P) w dT sT o.type elem g off dLen dCap t cur.toArray ty hu hsz hg hle (by simpa using hfit)
    unfold Oper.wp
    simp [execOp, ho, resolve, invoke, builtin, hd, hs, hrun, Result.andThen]
    refine hK _ _ (h _ ?_ (below_setRow hb hBg _))
    show _ = _
    rw [setRow_heap w g _ _ ty _ hg]
    simp [splice, Lib.byteCells, bv]

/-- two copies that fill a row -/
theorem splice_two {α : Type} (Z X Y : List α) (hZ : Z.length = X.length + Y.length) : splice (splice Z 0 X) X.length Y = X ++ Y := by
  simp [splice, List.drop_eq_nil_of_le, hZ]
theorem splice_whole {α : Type} (Z X : List α) (hZ : Z.length = X.length) : splice Z 0 X = X := by
  simp [splice, List.drop_eq_nil_of_le, hZ]

/-- a row that is known whole is owned -/
theorem owns_of_block {w : World} {base g : Nat} {l : List Value} {ty : TypeId} (hb : base ≤ g) (hm : l.length ≤ maxLen) (h : w.heap[g]? = some (.cells l.toArray ty (0, 0))) :
    w.ownsRow base ty 1 (.slice (some ⟨g, 0, none⟩) l.length l.length) l.length l :=
  ⟨by simp, .inr ⟨g, l.length, l.toArray, rfl, hb, h, Nat.le_refl _, hm, by simp, by simp⟩⟩
end Go.Proofs.YtldencefagnhfaaDoor
