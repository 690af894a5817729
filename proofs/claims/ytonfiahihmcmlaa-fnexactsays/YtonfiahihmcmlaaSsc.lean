/- Does a tree say a text? The model: spec.Says, whole. -/
import Derived.Test.YtonfiahihmcmlaaSsb
namespace Go.Proofs.Ytonfiahihmcmlaa
open Go.RowKit

theorem specSays_any (rs : List RuleD) (ws : List ByteArray) (t : TreeD) (v tv u : Value) (lo hi lo2 hi2 lo3 hi3 : Nat) (w : World) (hr : Rules w lo2 hi2 v rs) (hw : Strs w lo3 hi3 tv ws) (ht : TopOk t) (hk : Kd true w lo hi u t.kids) (hh : hi ≤ w.heap.size) (hh2 : hi2 ≤ w.heap.size) (hh3 : hi3 ≤ w.heap.size) (hb : bulkT t ≤ 1048576) :
    Calls Try.prog 55 #[.agg #[v], tv, trV t u] w fun e w' => e = .returned (.bool (saysB rs ws t)) ∧ Below w.heap.size w w' := by
  by_cases h : ws.length ≤ 400 ∧ rightB rs t = true ∧ 0 ≤ t.rule
  · exact specSays_node rs ws t v tv u lo hi lo2 hi2 lo3 hi3 w hr hw ht hk hh hh2 hh3 hb h.1 h.2.1 h.2.2
  · exact specSays_no rs ws t v tv u lo hi lo2 hi2 lo3 hi3 w hr hw ht hk hh hh2 hh3 hb h
end Go.Proofs.Ytonfiahihmcmlaa
