/- Are two lists of texts, two grammars alike? The law's own lwTexts and lwGram. -/
import Derived.Test.YtojmcjcdcneikaaEq
import Derived.Test.YtojmcjcdcneikaaOwns
import Derived.Deep.RegionHeld3
namespace Go.Proofs.Ytojmcjcdcneikaa
open Go.RowKit

set_option maxHeartbeats 1000000 in
theorem lwTexts_any (v u : Value) (ss ts : List ByteArray) (lo hi lo' hi' : Nat) (w : World) (h : Strs w lo hi v ss) (h' : Strs w lo' hi' u ts) :
    Calls Try.prog 20 #[v, u] w fun e w' => e = .returned (.bool (eqSs ss ts)) ∧ ∃ n, w' = w.drewN n := by
  obtain ⟨A, c, rfl, hlc, hc, hsz, hcell⟩ := h
  obtain ⟨A', c', rfl, hlc', hc', hsz', hcell'⟩ := h'
  unfold maxLen at hc hc'
  by_cases hn : ss.length = ts.length
  · have d0 : ((ss.length : Int) != (ts.length : Int)) = false := by rw [bne_eq_false_iff_eq]; omega
    have HN := Lib.hid hn
    have HC := Lib.hid hcell
    have HC' := Lib.hid hcell'
    clear hcell hsz hcell' hsz' hn
    go_enter Try.func20, Try.ntmps20
    go_wp2
    go_loopw [5] (fun i wr => ∃ (k n : Nat), k ≤ ss.length ∧ i = .int .i64 k ∧ wr = w.drewN n ∧ (∀ j (h : j < ss.length), j < k → ss[j] = ts[j]'(by have := HN.out; omega))) (fun i _ => ss.length - (intOf i).toNat)
    case atStart => exact ⟨0, 0, by omega, rfl, rfl, fun j _ hj => by omega⟩
    case round =>
      obtain ⟨k, n, hk, rfl, rfl, hall⟩ := hrel
      have HA := Lib.hid hall
      clear hall
      by_cases hlt : k < ss.length
      · have hlt' : k < ts.length := by have := HN.out; omega
        obtain ⟨b, off, rfl, _, hbh, hcc⟩ := HC.out (by omega)
        obtain ⟨b', off', rfl, _, hbh', hcc'⟩ := HC'.out (by omega)
        have hck := hcc k hlt
        have hck' := hcc' k hlt'
        have i1 : (k : Int) < (ss.length : Int) := by omega
        have i2 : (k : Int) < (ts.length : Int) := by omega
        clear hcc hcc'
        by_cases he : ss[k] = ts[k]
        · have d1 : (ss[k].toList == ts[k].toList) = true := by rw [list_eqE, decide_eq_true he]
          have HE := Lib.hid he
          clear he
          go_wp2
          go_quiet (fail)
          go_wp2
          go_roundw
          case rel => exact ⟨k + 1, _, by omega, by go_num, rfl, fun j hj hjk => by
            by_cases e : j = k
            · subst e; exact HE.out
            · exact HA.out j hj (by omega)⟩
          case measure => simp [intOf]; omega
        · have d1 : (ss[k].toList == ts[k].toList) = false := by rw [list_eqE, decide_eq_false he]
          go_wp2
          go_quiet (fail)
          go_wp2
          go_ret
          exact ⟨ret_boolE (eqSs_f (fun e => he (by subst e; rfl))).symm, _, World.drewN_drewN _ _ _⟩
      · go_wp2
        go_ret
        exact ⟨ret_boolE (eqSs_t (List.ext_getElem HN.out fun j h1 h2 => HA.out j h1 (by omega))).symm, _, rfl⟩
  · have d0 : ((ss.length : Int) != (ts.length : Int)) = true := by rw [bne_iff_ne]; omega
    go_enter Try.func20, Try.ntmps20
    go_wp2
    go_ret
    exact ⟨ret_boolE (eqSs_f (fun e => hn (by rw [e]))).symm, 0, rfl⟩


set_option maxRecDepth 100000 in
set_option maxHeartbeats 2000000 in
theorem lwGram_same (v u : Value) (rs : List RuleD) (lo hi lo' hi' : Nat) (w : World) (h : Rules w lo hi v rs) (h' : Rules w lo' hi' u rs) (hh : hi ≤ w.heap.size) (hh' : hi' ≤ w.heap.size) :
    Calls Try.prog 19 #[.agg #[v], .agg #[u]] w fun e w' => e = .returned (.bool true) ∧ Below w.heap.size w w' := by
  have hb := al2 w (.cells #[v] 25) (.cells #[u] 25)
  have R1 := (Row.made w 25 #[v]).alloc (.cells #[u] 25)
  have R2 : Row ((w.alloc (.cells #[v] 25)).alloc (.cells #[u] 25)) (w.heap.size + 1) 25 #[u] := by
    simpa using Row.made (w.alloc (.cells #[v] 25)) 25 #[u]
  have HV := Lib.hid (h.below hb hh)
  have HU := Lib.hid (h'.below hb hh')
  obtain ⟨A, c, rfl, hlc, hc, hcell⟩ := h
  obtain ⟨A', c', rfl, hlc', hc', hcell'⟩ := h'
  unfold maxLen at hc hc'
  have HR := Lib.hid (And.intro R1 R2)
  have HB := Lib.hid hb
  clear R1 R2 hb hcell hcell'
  go_enter Try.func19, Try.ntmps19
  go_wp2
  go_loopw [5] (fun i wr => ∃ (k n : Nat), k ≤ rs.length ∧ i = .int .i64 k ∧ wr = ((w.alloc (.cells #[.slice A rs.length c] 25)).alloc (.cells #[.slice A' rs.length c'] 25)).drewN n) (fun i _ => rs.length - (intOf i).toNat)
  case atStart => exact ⟨0, 0, by omega, rfl, rfl⟩
  case round =>
    obtain ⟨k, n, hk, rfl, hwr⟩ := hrel
    have HW := Lib.hid hwr
    have b1 : Row wr w.heap.size 25 #[.slice A rs.length c] := by rw [hwr]; exact HR.out.1
    have b2 : Row wr (w.heap.size + 1) 25 #[.slice A' rs.length c'] := by rw [hwr]; exact HR.out.2
    have VV : Rules wr lo hi (.slice A rs.length c) rs := by rw [hwr]; exact HV.out
    have UU : Rules wr lo' hi' (.slice A' rs.length c') rs := by rw [hwr]; exact HU.out
    have cb1 := b1.cell 0
    have cb2 := b2.cell 0
    simp at cb1 cb2
    clear hwr b1 b2
    by_cases hlt : k < rs.length
    · obtain ⟨A0, c0, e0, _, _, hcell⟩ := VV
      obtain ⟨A1, c1, e1, _, _, hcell'⟩ := UU
      obtain ⟨b, off, e2, _, hbh, hcc⟩ := hcell (by omega)
      obtain ⟨b', off', e3, _, hbh', hcc'⟩ := hcell' (by omega)
      obtain ⟨_, hc0, u0, hc1, hst⟩ := hcc k hlt
      obtain ⟨_, hd0, u1, hd1, hst'⟩ := hcc' k hlt
      injection e0 with e0 _ e0c
      injection e1 with e1 _ e1c
      subst e0 e0c e1 e1c e2 e3
      have i1 : (k : Int) < (rs.length : Int) := by omega
      have i0 : (0 : Int) ≤ (k : Int) := by omega
      have hstd : Strs wr.drew lo hi u0 rs[k].body := hst
      have hstd' : Strs wr.drew lo' hi' u1 rs[k].body := hst'
      have HES := Lib.hid (eqSs_t (rfl : rs[k].body = rs[k].body))
      have deq : (rs[k].head.toList == rs[k].head.toList) = true := by simp
      clear hcell hcell' hcc hcc' hst hst'
      go_wp2
      go_region_held3 (fun w' => w'.cell? ⟨w.heap.size, 0, none⟩ = some (.slice (some ⟨b, off, none⟩) rs.length c) ∧ w'.cell? ⟨w.heap.size + 1, 0, none⟩ = some (.slice (some ⟨b', off', none⟩) rs.length c') ∧ w'.cell? ⟨b, off + k * 2, none⟩ = some (.string rs[k].head) ∧ w'.cell? ⟨b', off' + k * 2, none⟩ = some (.string rs[k].head) ∧ w'.cell? ⟨b, off + k * 2 + 1, none⟩ = some u0 ∧ w'.cell? ⟨b', off' + k * 2 + 1, none⟩ = some u1)
        (first | go_keep)
        ((go_at_call 20; refine (lwTexts_any u0 u1 rs[k].body rs[k].body lo hi lo' hi' _ hstd hstd').mono ?_; rintro e w7 ⟨rfl, nq, rfl⟩; rw [HES.out]))
      go_wp2
      go_roundw
      case rel => exact ⟨k + 1, n + (1 + nq), by omega, by go_num, by rw [HW.out]; exact World.drewN_drewN _ _ _⟩
      case measure => simp [intOf]; omega
    · go_wp2
      go_ret
      exact ⟨rfl, by rw [HW.out]; exact ⟨HB.out.os, HB.out.tape, HB.out.output, HB.out.size, HB.out.block⟩⟩
end Go.Proofs.Ytojmcjcdcneikaa
