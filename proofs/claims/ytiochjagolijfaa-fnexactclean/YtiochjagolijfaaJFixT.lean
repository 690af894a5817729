import Derived.Test.YtiochjagolijfaaJFixS
import Derived.Deep.AppendLies
/- The walk of the model's l03Sort. -/
namespace Go.Proofs.Ytiochjagolijfaa
open Go.RowKit

def filtB (hs ins : List ByteArray) (k : Nat) : List ByteArray := (hs.take k).filter fun s => inB ins s
theorem filtB_t {hs ins : List ByteArray} {k : Nat} (h : k < hs.length) (hb : inB ins hs[k] = true) : filtB hs ins (k + 1) = filtB hs ins k ++ [hs[k]] := by
  unfold filtB; rw [List.take_succ_eq_append_getElem h, List.filter_append]; simp [hb]
theorem filtB_f {hs ins : List ByteArray} {k : Nat} (h : k < hs.length) (hb : inB ins hs[k] = false) : filtB hs ins (k + 1) = filtB hs ins k := by
  unfold filtB; rw [List.take_succ_eq_append_getElem h, List.filter_append]; simp [hb]
theorem filtB_mem {hs ins : List ByteArray} {k : Nat} {s : ByteArray} (h : s ∈ filtB hs ins k) : s ∈ hs := List.mem_of_mem_take (List.mem_filter.1 h).1
theorem filtB_len (hs ins : List ByteArray) (k : Nat) : (filtB hs ins k).length ≤ k := by
  unfold filtB
  refine Nat.le_trans (List.length_filter_le _ _) ?_
  rw [List.length_take]; omega

end Go.Proofs.Ytiochjagolijfaa

/- The walk of the model's l03Fix, and of its Nullable and Productive. -/
namespace Go.Proofs.Ytiochjagolijfaa
open Go.RowKit

theorem cell_one_new1 (w : World) (o : Obj) (x : Value) (t : TypeId) : ∀ j u, [x][j]? = some u → ((w.alloc o).alloc (.cells #[x] t)).cell? ((⟨w.heap.size + 1, 0, none⟩ : Addr).add j) = some u := by
  have e : (w.alloc o).heap.size = w.heap.size + 1 := by simp
  rw [← e]
  exact cell_one_new (w.alloc o) x t
/-- what stands in the list on the way: no two alike, and each comes to it -/
structure Way (tok : Bool) (rs : List RuleD) (ins : List ByteArray) : Prop where
  nodup : ins.Nodup
  com : ∀ s ∈ ins, Com tok rs s
theorem Way.len {tok : Bool} {rs : List RuleD} {ins : List ByteArray} (h : Way tok rs ins) (R : Rt rs) : ins.length ≤ 20 :=
  Nat.le_trans (h.nodup.length_le_of_subset fun s hs => (h.com s hs).in) R.hs_len
theorem Way.more {tok : Bool} {rs : List RuleD} {ins : List ByteArray} (h : Way tok rs ins) {i : Nat} (hi : i < rs.length) (h1 : inB ins rs[i].head = false) (h2 : allB rs[i].body ins tok = true) : Way tok rs (ins ++ [rs[i].head]) := by
  refine ⟨?_, fun s hs => ?_⟩
  · rw [List.nodup_append]
    refine ⟨h.nodup, by simp, fun a ha b hb e => ?_⟩
    rw [List.mem_singleton] at hb
    subst hb e
    rw [(inB_iff _ _).2 ha] at h1; cases h1
  · rw [List.mem_append, List.mem_singleton] at hs
    rcases hs with hs | rfl
    · exact h.com s hs
    · exact .mk i hi fun t ht hn => h.com t ((allB_iff _ _ _).1 h2 t ht hn)
theorem Way.full {tok : Bool} {rs : List RuleD} {ins : List ByteArray} (h : Way tok rs ins) (hc : ∀ i (hi : i < rs.length), allB rs[i].body ins tok = true → inB ins rs[i].head = true) (s : ByteArray) : inB ins s = true ↔ Com tok rs s := by
  rw [inB_iff]
  constructor
  · exact h.com s
  · intro hs
    induction hs with
    | mk i hi _ ih => exact (inB_iff _ _).1 (hc i hi ((allB_iff _ _ _).2 ih))
theorem Way.out {tok : Bool} {rs : List RuleD} {ins : List ByteArray} (h : Way tok rs ins) (hg : gramB rs = true) (hc : ∀ i (hi : i < rs.length), allB rs[i].body ins tok = true → inB ins rs[i].head = true) : ((hsOf rs).filter fun s => inB ins s) = comOf tok rs := by
  unfold comOf
  rw [show headsOf rs = hsOf rs from headsOf_t hg]
  apply List.filter_congr
  intro s _
  rw [Bool.eq_iff_iff, h.full hc]
  simp

end Go.Proofs.Ytiochjagolijfaa
