/- The model's GramRight. -/
import Derived.Test.YtonfiahihmcmlaaRight
namespace Go.Proofs.Ytonfiahihmcmlaa
open Go.RowKit

set_option maxRecDepth 100000 in
set_option maxHeartbeats 2000000 in
theorem specGramRight_any (rs : List RuleD) (v : Value) (lo hi : Nat) (w : World) (h : Rules w lo hi v rs) (hh : hi ≤ w.heap.size) :
    Calls Try.prog 26 #[.agg #[v]] w fun e w' => e = .returned (.bool (gramB rs)) ∧ Below w.heap.size w w' := by
  obtain ⟨A, c, rfl, hlc, hc, hcell⟩ := h
  unfold maxLen at hc
  have HC := Lib.hid hcell
  clear hcell
  go_enter Try.func26, Try.ntmps26
  go_wp2
  go_loopw [3, 4, 5] (fun i _ _ wr => ∃ (k : Nat), k ≤ rs.length ∧ k ≤ 21 ∧ i = .int .i64 k ∧ Row wr w.heap.size 25 #[.slice A rs.length c] ∧ Below w.heap.size w wr ∧ (∀ j (h : j < rs.length), j < k → ruleB rs[j] = true)) (fun i _ _ _ => rs.length - (intOf i).toNat)
  case atStart => exact ⟨0, by omega, by omega, rfl, Row.made _ _ _, al1 _ _, fun j _ hj => by omega⟩
  case round =>
    obtain ⟨k, hk, hk21, rfl, hrow, hbw, hall⟩ := hrel
    have HA := Lib.hid hall
    have hsw := hbw.size
    have hc0 := hrow.cell 0
    simp at hc0
    have HW := Lib.hid hrow
    have hwl := hrow.lt
    clear hall hrow
    by_cases hlt : k < rs.length
    · by_cases h20 : k ≤ 20
      · obtain ⟨b, off, rfl, _, hbh, hcc⟩ := HC.out (by omega)
        obtain ⟨hhs, hd0, u, hd1, hst⟩ := hcc k hlt
        have hd0' := (hbw.cell (p := ⟨b, off + k * 2, none⟩) (by show b < _; omega)).trans hd0
        have hd1' := (hbw.cell (p := ⟨b, off + k * 2 + 1, none⟩) (by show b < _; omega)).trans hd1
        have hst' := hst.below hbw hh
        clear hcc hd0 hd1 hst
        have HS := Lib.hid hst'
        obtain ⟨A', c', rfl, hlc', hc', hsz', hcell'⟩ := hst'
        have HZ := Lib.hid hsz'
        unfold maxLen at hc'
        have ha := al1 wr (.cells #[.string rs[k].head, .slice A' rs[k].body.length c'] 49)
        clear hsz' hcell'
        cases h3 : headB rs[k].head
        · have H3 := Lib.hid h3
          clear h3
          go_wp2_with fail
          refine (specIsHead_any _ _ hhs).mono ?_
          rintro e w2 ⟨rfl, rfl⟩
          rw [H3.out]
          go_wp2
          go_ret
          exact ⟨ret_bool (gramB_f fun ⟨_, _, a⟩ => by have := ((ruleB_iff _).1 (a k hlt)).1; rw [H3.out] at this; cases this).symm, hbw.trans (ha.mono hsw)⟩
        · have H3 := Lib.hid h3
          clear h3
          by_cases h5 : 5 < rs[k].body.length
          · go_wp2_with fail
            refine (specIsHead_any _ _ hhs).mono ?_
            rintro e w2 ⟨rfl, rfl⟩
            rw [H3.out]
            go_wp2
            go_ret
            exact ⟨ret_bool (gramB_f fun ⟨_, _, a⟩ => by have := ((ruleB_iff _).1 (a k hlt)).2.1; omega).symm, hbw.trans (ha.mono hsw)⟩
          · go_wp2_with fail
            refine (specIsHead_any _ _ hhs).mono ?_
            rintro e w2 ⟨rfl, rfl⟩
            rw [H3.out]
            go_wp2
            go_loop [5] (fun i => ∃ (j : Nat), j ≤ rs[k].body.length ∧ i = .int .i64 j ∧ (∀ m (h : m < rs[k].body.length), m < j → symOK rs[k].body[m] = true)) (fun i => rs[k].body.length - (intOf i).toNat)
            case atStart => exact ⟨0, by omega, rfl, fun j _ hj => by omega⟩
            case round =>
              obtain ⟨j, hj, rfl, hsym⟩ := hrel
              have HY := Lib.hid hsym
              clear hsym
              by_cases hjl : j < rs[k].body.length
              · obtain ⟨_, _, e0, _, _, _, hcellb⟩ := HS.out
                injection e0 with e1 _ e2
                subst e1 e2
                obtain ⟨b1, off1, rfl, _, hbh1, hcc1⟩ := hcellb (by omega)
                have hcb := (ha.cell (p := ⟨b1, off1 + j, none⟩) (by show b1 < _; omega)).trans (hcc1 j hjl)
                have hsz := HZ.out _ (List.getElem_mem hjl)
                clear hcellb hcc1
                cases h6 : headB rs[k].body[j]
                · have H6 := Lib.hid h6
                  clear h6
                  cases h7 : tokB rs[k].body[j]
                  · have H7 := Lib.hid h7
                    clear h7
                    go_wp2_with fail
                    refine (specIsHead_any _ _ hsz).mono ?_
                    rintro e w2 ⟨rfl, rfl⟩
                    rw [H6.out]
                    go_wp2_with fail
                    refine (specIsToken_any _ _ hsz).mono ?_
                    rintro e w2 ⟨rfl, rfl⟩
                    rw [H7.out]
                    go_wp2
                    go_ret
                    exact ⟨ret_bool (gramB_f fun ⟨_, _, a⟩ => by have := a k hlt; rw [symOK_no hjl H6.out H7.out] at this; cases this).symm, hbw.trans (ha.mono hsw)⟩
                  · have H7 := Lib.hid h7
                    clear h7
                    go_wp2_with fail
                    refine (specIsHead_any _ _ hsz).mono ?_
                    rintro e w2 ⟨rfl, rfl⟩
                    rw [H6.out]
                    go_wp2_with fail
                    refine (specIsToken_any _ _ hsz).mono ?_
                    rintro e w2 ⟨rfl, rfl⟩
                    rw [H7.out]
                    go_wp2
                    go_round
                    case rel => exact ⟨j + 1, by omega, by go_num, fun m hm hmj => by
                      by_cases e : m = j
                      · subst e; unfold symOK; rw [H7.out, Bool.or_true]
                      · exact HY.out m hm (by omega)⟩
                    case measure => simp [intOf]; omega
                · have H6 := Lib.hid h6
                  clear h6
                  go_wp2_with fail
                  refine (specIsHead_any _ _ hsz).mono ?_
                  rintro e w2 ⟨rfl, rfl⟩
                  rw [H6.out]
                  go_wp2
                  go_round
                  case rel => exact ⟨j + 1, by omega, by go_num, fun m hm hmj => by
                    by_cases e : m = j
                    · subst e; unfold symOK; rw [H6.out, Bool.true_or]
                    · exact HY.out m hm (by omega)⟩
                  case measure => simp [intOf]; omega
              · go_wp2
                go_roundw
                case rel => exact ⟨k + 1, by omega, by omega, by go_num, HW.out.below ha hwl, hbw.trans (ha.mono hsw), fun j' hj' hjk => by
                  by_cases e : j' = k
                  · subst e; exact (ruleB_iff _).2 ⟨H3.out, by omega, fun i hi => HY.out i hi (by omega)⟩
                  · exact HA.out j' hj' (by omega)⟩
                case measure => simp [intOf]; omega
      · have d0 : decide ((k : Int) ≤ 20) = false := decide_eq_false (by omega)
        go_wp2
        go_ret
        exact ⟨ret_bool (by rw [gramB_f fun ⟨_, a, _⟩ => by omega]; simp; omega), hbw⟩
    · by_cases h1 : 1 ≤ rs.length
      · go_wp2
        go_ret
        refine ⟨ret_bool ?_, hbw⟩
        rw [Bool.eq_iff_iff, gramB_iff]
        simp
        exact ⟨fun h => ⟨by omega, by omega, fun i hi => HA.out i hi (by omega)⟩, fun h => by omega⟩
      · go_wp2
        go_ret
        exact ⟨ret_bool (by rw [gramB_f fun ⟨a, _⟩ => by omega]), hbw⟩
end Go.Proofs.Ytonfiahihmcmlaa
