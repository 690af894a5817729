/- What came in, laid anew: toStringS, toRule, toRuleS, toGram. -/
import Derived.Test.YtonfiahihmcmlaaOwns
import Derived.WalkKit
import Derived.WalkSpells
import Derived.WalkLawsBesides
import Derived.Deep.OwnRows
namespace Go.Proofs.Ytonfiahihmcmlaa
open Go.RowKit

theorem Try.infoStr : (Try.prog.info? 9).map (fun i => (i.zero, i.size, i.bytes)) = some (some (.string ByteArray.empty), 1, 16) := by kernel_rfl

set_option maxHeartbeats 1000000 in
theorem toStringS_any (v : Value) (ss : List ByteArray) (lo hi : Nat) (w : World) (h : Strs w lo hi v ss) (hhi : hi ≤ w.heap.size) (hn : ss.length ≤ 1048576) :
    Calls Try.prog 56 #[v] w fun e w' => ∃ u, e = .returned u ∧ OwnS w' w.heap.size u ss ∧ w.heap.size < w'.heap.size ∧ Below w.heap.size w w' := by
  obtain ⟨A, c, rfl, hlc, hc, hsz, hcell⟩ := h
  have hmk := run_make_row' (P := Try.prog) 34 9 (.string ByteArray.empty) 16 Try.underlying34 Try.infoStr rfl .i64 .i64 ss.length (by omega) (by omega)
  have HC := Lib.hid hcell
  have HZ := Lib.hid hsz
  clear hcell hsz
  go_enter Try.func56, Try.ntmps56
  go_wp2
  go_loopw [4] (fun i wr => ∃ (k : Nat) (cur : Array Value), k ≤ ss.length ∧ i = .int .i64 k ∧ Row wr w.heap.size 9 cur ∧ cur.size = ss.length ∧ (∀ j (h : j < ss.length), j < k → cur[j]? = some (.string ss[j])) ∧ Below w.heap.size w wr) (fun i _ => ss.length - (intOf i).toNat)
  case atStart => exact ⟨0, _, by omega, rfl, Row.made w _ _, size_madeCells _ _, fun j _ hj => by omega, (Below.refl _ _).alloc (Nat.le_refl _) _⟩
  case round =>
    obtain ⟨k, cur, hk, rfl, hrow, hcs, hall, hbw⟩ := hrel
    have HR := Lib.hid hrow
    have HS := Lib.hid hcs
    have HA := Lib.hid hall
    by_cases hlt : k < ss.length
    · obtain ⟨b, off, rfl, _, hbh, hcc⟩ := HC.out (by omega)
      have hck := (hbw.cell (p := ⟨b, off + k, none⟩) (by show b < _; omega)).trans (hcc k hlt)
      obtain ⟨u0, hdst⟩ := hrow.there (show k < cur.size by omega)
      have hfr := hrow.free k
      clear hcc hrow hcs hall
      go_wp2
      go_roundw
      case rel =>
        refine ⟨k + 1, _, by omega, by go_num, HR.out.put k _, by simp [HS.out], fun j hj hjk => ?_, hbw.setCell (Nat.le_refl _) _⟩
        by_cases hjk2 : j = k
        · subst hjk2; rw [Array.getElem?_setIfInBounds_self_of_lt (by rw [HS.out]; exact hj)]
        · rw [Array.getElem?_setIfInBounds_ne (by omega)]; exact HA.out j hj (by omega)
      case measure => simp [intOf]; omega
    · have hks : k = ss.length := by omega
      clear hrow hcs hall
      go_wp2
      go_ret
      exact ⟨_, rfl, ⟨_, _, rfl, Nat.le_refl _, by unfold maxLen; omega, HZ.out, fun hp => ⟨0, cur, rfl, HR.out, fun i hi => by rw [Nat.zero_add]; exact HA.out i hi (by omega)⟩⟩, HR.out.lt, hbw⟩
end Go.Proofs.Ytonfiahihmcmlaa
