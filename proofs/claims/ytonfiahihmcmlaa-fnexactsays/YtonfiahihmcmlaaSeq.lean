/- Are two lists of texts alike? slices.Equal. -/
import Derived.Test.YtonfiahihmcmlaaEq
namespace Go.Proofs.Ytonfiahihmcmlaa
open Go.RowKit

set_option maxRecDepth 100000 in
set_option maxHeartbeats 1000000 in
theorem slicesEqual_any (v u : Value) (ss ts : List ByteArray) (lo hi lo' hi' : Nat) (w : World) (h : Strs w lo hi v ss) (h' : Strs w lo' hi' u ts) :
    Calls Try.prog 113 #[v, u] w fun e w' => e = .returned (.bool (eqSs ss ts)) ∧ ∃ n, w' = w.drewN n := by
  obtain ⟨A, c, rfl, hlc, hc, hsz, hcell⟩ := h
  obtain ⟨A', c', rfl, hlc', hc', hsz', hcell'⟩ := h'
  unfold maxLen at hc hc'
  by_cases hn : ss.length = ts.length
  · have d0 : ((ss.length : Int) != (ts.length : Int)) = false := by rw [bne_eq_false_iff_eq]; omega
    have HN := Lib.hid hn
    have HC := Lib.hid hcell
    have HC' := Lib.hid hcell'
    clear hcell hsz hcell' hsz' hn
    go_enter Try.func113, Try.ntmps113
    go_wp2
    go_loopw [13] (fun i wr => ∃ (k n : Nat), k ≤ ss.length ∧ i = .int .i64 k ∧ wr = w.drewN n ∧ (∀ j (h : j < ss.length), j < k → ss[j] = ts[j]'(by have := HN.out; omega))) (fun i _ => ss.length - (intOf i).toNat)
    case atStart => exact ⟨0, 0, by omega, rfl, rfl, fun j _ hj => by omega⟩
    case round =>
      obtain ⟨k, n, hk, rfl, rfl, hall⟩ := hrel
      have HA := Lib.hid hall
      clear hall
      by_cases hlt : k < ss.length
      · have hlt' : k < ts.length := by have := HN.out; omega
        obtain ⟨b, off, rfl, _, hbh, hcc⟩ := HC.out (by omega)
        obtain ⟨b', off', rfl, _, hbh', hcc'⟩ := HC'.out (by omega)
        have hck := hcc k hlt
        have hck' := hcc' k hlt'
        have i1 : (k : Int) < (ss.length : Int) := by omega
        have i2 : (k : Int) < (ts.length : Int) := by omega
        clear hcc hcc'
        by_cases he : ss[k] = ts[k]
        · have d1 : (ss[k].toList == ts[k].toList) = true := by rw [list_eqE, decide_eq_true he]
          have HE := Lib.hid he
          clear he
          go_wp2
          go_quiet (fail)
          go_wp2
          go_roundw
          case rel => exact ⟨k + 1, _, by omega, by go_num, rfl, fun j hj hjk => by
            by_cases e : j = k
            · subst e; exact HE.out
            · exact HA.out j hj (by omega)⟩
          case measure => simp [intOf]; omega
        · have d1 : (ss[k].toList == ts[k].toList) = false := by rw [list_eqE, decide_eq_false he]
          go_wp2
          go_quiet (fail)
          go_wp2
          go_ret
          exact ⟨ret_boolE (eqSs_f (fun e => he (by subst e; rfl))).symm, _, World.drewN_drewN _ _ _⟩
      · go_wp2
        go_ret
        exact ⟨ret_boolE (eqSs_t (List.ext_getElem HN.out fun j h1 h2 => HA.out j h1 (by omega))).symm, _, rfl⟩
  · have d0 : ((ss.length : Int) != (ts.length : Int)) = true := by rw [bne_iff_ne]; omega
    go_enter Try.func113, Try.ntmps113
    go_wp2
    go_ret
    exact ⟨ret_boolE (eqSs_f (fun e => hn (by rw [e]))).symm, 0, rfl⟩

end Go.Proofs.Ytonfiahihmcmlaa
