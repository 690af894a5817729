/- SizeOf, of the model and of the program, in one form. -/
import Derived.Test.YtonfiahihmcmlaaIsf
import Derived.Test.YtonfiahihmcmlaaSsz
namespace Go.Proofs.Ytonfiahihmcmlaa
open Go.RowKit
theorem specSizeOf_t (t : TreeD) (u : Value) (lo hi : Nat) (w : World) (_ : TopOk t) (h : Kd true w lo hi u t.kids) (hhi : hi ≤ w.heap.size) (hn : bulkT t ≤ 1048576) :
    Calls Try.prog 58 #[trV t u] w fun e w' => e = .returned (.int .i64 (sizeT t : Int)) ∧ Below w.heap.size w w' :=
  specSizeOf_any t true u lo hi w h hhi (by have := sizeT_le_bulkT t; omega)
theorem implSizeOf_t (t : TreeD) (u : Value) (lo hi : Nat) (w : World) (ht : TopOk t) (h : Kd true w lo hi u t.kids) (hhi : hi ≤ w.heap.size) (hn : bulkT t ≤ 1048576) :
    Calls Try.prog 59 #[trV t u] w fun e w' => e = .returned (.int .i64 (sizeT t : Int)) ∧ Below w.heap.size w w' :=
  implSizeOf_any t u lo hi w ht h hhi (by have := sizeT_le_bulkT t; omega)
end Go.Proofs.Ytonfiahihmcmlaa
