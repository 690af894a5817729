import Derived.Test.YtbaofldcdcllfaaRight
import Derived.Test.YtbaofldcdcllfaaJSetN
import Derived.Test.YtbaofldcdcllfaaTxt
/- The model's GramRight. -/
namespace Go.Proofs.Ytbaofldcdcllfaa
open Go.RowKit

set_option maxRecDepth 100000 in
set_option maxHeartbeats 2000000 in
theorem specGramRight_any (rs : List RuleD) (v : Value) (lo hi : Nat) (w : World) (h : Rules w lo hi v rs) (hh : hi ≤ w.heap.size) :
    Calls Try.prog 36 #[.agg #[v]] w fun e w' => e = .returned (.bool (gramB rs)) ∧ Below w.heap.size w w' := by
  obtain ⟨A, c, rfl, hlc, hc, hcell⟩ := h
  unfold maxLen at hc
  have HC := Lib.hid hcell
  clear hcell
  go_enter Try.func36, Try.ntmps36
  go_wp2
  go_loopw [3, 4, 5] (fun i _ _ wr => ∃ (k : Nat), k ≤ rs.length ∧ k ≤ 21 ∧ i = .int .i64 k ∧ Row wr w.heap.size 41 #[.slice A rs.length c] ∧ Below w.heap.size w wr ∧ (∀ j (h : j < rs.length), j < k → ruleB rs[j] = true)) (fun i _ _ _ => rs.length - (intOf i).toNat)
  case atStart => exact ⟨0, by omega, by omega, rfl, Row.made _ _ _, al1 _ _, fun j _ hj => by omega⟩
  case round =>
    obtain ⟨k, hk, hk21, rfl, hrow, hbw, hall⟩ := hrel
    have HA := Lib.hid hall
    have hsw := hbw.size
    have hc0 := hrow.cell 0
    simp at hc0
    have HW := Lib.hid hrow
    have hwl := hrow.lt
    clear hall hrow
    by_cases hlt : k < rs.length
    · by_cases h20 : k ≤ 20
      · obtain ⟨b, off, rfl, _, hbh, hcc⟩ := HC.out (by omega)
        obtain ⟨hhs, hd0, u, hd1, hst⟩ := hcc k hlt
        have hd0' := (hbw.cell (p := ⟨b, off + k * 2, none⟩) (by show b < _; omega)).trans hd0
        have hd1' := (hbw.cell (p := ⟨b, off + k * 2 + 1, none⟩) (by show b < _; omega)).trans hd1
        have hst' := hst.below hbw hh
        clear hcc hd0 hd1 hst
        have HS := Lib.hid hst'
        obtain ⟨A', c', rfl, hlc', hc', hsz', hcell'⟩ := hst'
        have HZ := Lib.hid hsz'
        unfold maxLen at hc'
        have ha := al1 wr (.cells #[.string rs[k].head, .slice A' rs[k].body.length c'] 101)
        clear hsz' hcell'
        cases h3 : headB rs[k].head
        · have H3 := Lib.hid h3
          clear h3
          go_wp2_with fail
          refine (specIsHead_any _ _ hhs).mono ?_
          rintro e w2 ⟨rfl, rfl⟩
          rw [H3.out]
          go_wp2
          go_ret
          exact ⟨ret_bool (gramB_f fun ⟨_, _, a⟩ => by have := ((ruleB_iff _).1 (a k hlt)).1; rw [H3.out] at this; cases this).symm, hbw.trans (ha.mono hsw)⟩
        · have H3 := Lib.hid h3
          clear h3
          by_cases h5 : 5 < rs[k].body.length
          · go_wp2_with fail
            refine (specIsHead_any _ _ hhs).mono ?_
            rintro e w2 ⟨rfl, rfl⟩
            rw [H3.out]
            go_wp2
            go_ret
            exact ⟨ret_bool (gramB_f fun ⟨_, _, a⟩ => by have := ((ruleB_iff _).1 (a k hlt)).2.1; omega).symm, hbw.trans (ha.mono hsw)⟩
          · go_wp2_with fail
            refine (specIsHead_any _ _ hhs).mono ?_
            rintro e w2 ⟨rfl, rfl⟩
            rw [H3.out]
            go_wp2
            go_loop [5] (fun i => ∃ (j : Nat), j ≤ rs[k].body.length ∧ i = .int .i64 j ∧ (∀ m (h : m < rs[k].body.length), m < j → symOK rs[k].body[m] = true)) (fun i => rs[k].body.length - (intOf i).toNat)
            case atStart => exact ⟨0, by omega, rfl, fun j _ hj => by omega⟩
            case round =>
              obtain ⟨j, hj, rfl, hsym⟩ := hrel
              have HY := Lib.hid hsym
              clear hsym
              by_cases hjl : j < rs[k].body.length
              · obtain ⟨_, _, e0, _, _, _, hcellb⟩ := HS.out
                injection e0 with e1 _ e2
                subst e1 e2
                obtain ⟨b1, off1, rfl, _, hbh1, hcc1⟩ := hcellb (by omega)
                have hcb := (ha.cell (p := ⟨b1, off1 + j, none⟩) (by show b1 < _; omega)).trans (hcc1 j hjl)
                have hsz := HZ.out _ (List.getElem_mem hjl)
                clear hcellb hcc1
                cases h6 : headB rs[k].body[j]
                · have H6 := Lib.hid h6
                  clear h6
                  cases h7 : tokB rs[k].body[j]
                  · have H7 := Lib.hid h7
                    clear h7
                    go_wp2_with fail
                    refine (specIsHead_any _ _ hsz).mono ?_
                    rintro e w2 ⟨rfl, rfl⟩
                    rw [H6.out]
                    go_wp2_with fail
                    refine (specIsToken_any _ _ hsz).mono ?_
                    rintro e w2 ⟨rfl, rfl⟩
                    rw [H7.out]
                    go_wp2
                    go_ret
                    exact ⟨ret_bool (gramB_f fun ⟨_, _, a⟩ => by have := a k hlt; rw [symOK_no hjl H6.out H7.out] at this; cases this).symm, hbw.trans (ha.mono hsw)⟩
                  · have H7 := Lib.hid h7
                    clear h7
                    go_wp2_with fail
                    refine (specIsHead_any _ _ hsz).mono ?_
                    rintro e w2 ⟨rfl, rfl⟩
                    rw [H6.out]
                    go_wp2_with fail
                    refine (specIsToken_any _ _ hsz).mono ?_
                    rintro e w2 ⟨rfl, rfl⟩
                    rw [H7.out]
                    go_wp2
                    go_round
                    case rel => exact ⟨j + 1, by omega, by go_num, fun m hm hmj => by
                      by_cases e : m = j
                      · subst e; unfold symOK; rw [H7.out, Bool.or_true]
                      · exact HY.out m hm (by omega)⟩
                    case measure => simp [intOf]; omega
                · have H6 := Lib.hid h6
                  clear h6
                  go_wp2_with fail
                  refine (specIsHead_any _ _ hsz).mono ?_
                  rintro e w2 ⟨rfl, rfl⟩
                  rw [H6.out]
                  go_wp2
                  go_round
                  case rel => exact ⟨j + 1, by omega, by go_num, fun m hm hmj => by
                    by_cases e : m = j
                    · subst e; unfold symOK; rw [H6.out, Bool.true_or]
                    · exact HY.out m hm (by omega)⟩
                  case measure => simp [intOf]; omega
              · go_wp2
                go_roundw
                case rel => exact ⟨k + 1, by omega, by omega, by go_num, HW.out.below ha hwl, hbw.trans (ha.mono hsw), fun j' hj' hjk => by
                  by_cases e : j' = k
                  · subst e; exact (ruleB_iff _).2 ⟨H3.out, by omega, fun i hi => HY.out i hi (by omega)⟩
                  · exact HA.out j' hj' (by omega)⟩
                case measure => simp [intOf]; omega
      · have d0 : decide ((k : Int) ≤ 20) = false := decide_eq_false (by omega)
        go_wp2
        go_ret
        exact ⟨ret_bool (by rw [gramB_f fun ⟨_, a, _⟩ => by omega]; simp; omega), hbw⟩
    · by_cases h1 : 1 ≤ rs.length
      · go_wp2
        go_ret
        refine ⟨ret_bool ?_, hbw⟩
        rw [Bool.eq_iff_iff, gramB_iff]
        simp
        exact ⟨fun h => ⟨by omega, by omega, fun i hi => HA.out i hi (by omega)⟩, fun h => by omega⟩
      · go_wp2
        go_ret
        exact ⟨ret_bool (by rw [gramB_f fun ⟨a, _⟩ => by omega]), hbw⟩
end Go.Proofs.Ytbaofldcdcllfaa

/- The walks of the model's l02In, l02Heads and Heads. -/
namespace Go.Proofs.Ytbaofldcdcllfaa
open Go.RowKit

theorem list_eqH (a b : ByteArray) : (a.toList == b.toList) = decide (a = b) := by
  rw [Bool.eq_iff_iff]; simp only [beq_iff_eq, decide_eq_true_eq]
  constructor
  · intro h
    apply ByteArray.ext
    apply Array.ext'
    simpa [ByteArray.toList_eq] using h
  · rintro rfl; rfl
/-- texts in a row of the call's own -/
def Sts (w : World) (base : Nat) (v : Value) (ss : List ByteArray) : Prop := w.ownsRow base 9 1 v ss.length (ss.map Value.string)
theorem Sts.nil (w : World) {base : Nat} (hb : base ≤ w.heap.size) : Sts (w.alloc (.cells #[] 9)) base (.slice (some ⟨w.heap.size, 0, none⟩) 0 0) [] := World.ownsRow_lit w #[] 0 hb (by unfold maxLen; omega) rfl
theorem Sts.one {w : World} {base : Nat} {v : Value} {ss : List ByteArray} (s : ByteArray) (h : w.ownsRow base 9 1 v (ss.length + 1) (ss.map Value.string ++ [.string s])) : Sts w base v (ss ++ [s]) := by
  unfold Sts
  rw [List.length_append, List.map_append]
  exact h
theorem Sts.own {w : World} {base : Nat} {v : Value} {ss : List ByteArray} (h : Sts w base v ss) (hz : ∀ s ∈ ss, s.size ≤ maxLen) : ∃ g, OwnS w g v ss ∧ (ss ≠ [] → base ≤ g ∧ g < w.heap.size) := by
  rcases h.2 with ⟨rfl, h0⟩ | ⟨g, cap, cur, rfl, hb, hh, hc, hm, hs, ht⟩
  · obtain rfl : ss = [] := List.eq_nil_of_length_eq_zero h0
    exact ⟨0, OwnS.nil w 0, fun hn => absurd rfl hn⟩
  · have hr : Row w g 9 cur := hh
    refine ⟨g, ⟨_, cap, rfl, hc, hm, hz, fun _ => ⟨0, cur, rfl, hr, fun i hi => ?_⟩⟩, fun _ => ⟨hb, hr.lt⟩⟩
    have h1 : (cur.toList.take (ss.length * 1))[i]? = some (.string ss[i]) := by rw [ht, List.getElem?_map, List.getElem?_eq_getElem hi]; rfl
    rw [List.getElem?_take_of_lt (by omega)] at h1
    rw [Nat.zero_add, ← Array.getElem?_toList]
    exact h1
theorem Sts.strs {w : World} {base : Nat} {v : Value} {ss : List ByteArray} (h : Sts w base v ss) (hz : ∀ s ∈ ss, s.size ≤ maxLen) : Strs w base w.heap.size v ss := by
  obtain ⟨g, ho, hg⟩ := h.own hz
  exact ho.strs hg
theorem one_str (s : ByteArray) : ∀ u ∈ [Value.string s], u.oneCell' = true := by
  intro u hu
  rw [List.mem_singleton] at hu; subst hu; rfl
theorem inB_t {ss : List ByteArray} {s : ByteArray} {k : Nat} (h : k < ss.length) (e : ss[k] = s) : inB ss s = true := (inB_iff _ _).2 (e ▸ List.getElem_mem h)
theorem inB_f {ss : List ByteArray} {s : ByteArray} (h : ∀ i (h : i < ss.length), ss[i] ≠ s) : inB ss s = false := by
  rw [Bool.eq_false_iff]
  intro e
  obtain ⟨i, hi, e2⟩ := List.getElem_of_mem ((inB_iff _ _).1 e)
  exact h i hi e2

set_option maxHeartbeats 1000000 in
theorem specIn_any (v : Value) (ss : List ByteArray) (s : ByteArray) (lo hi : Nat) (w : World) (h : Strs w lo hi v ss) :
    Calls Try.prog 85 #[v, .string s] w fun e w' => e = .returned (.bool (inB ss s)) ∧ w = w' := by
  obtain ⟨A, c, rfl, hlc, hc, hsz, hcell⟩ := h
  unfold maxLen at hc
  have HC := Lib.hid hcell
  clear hcell hsz
  go_enter Try.func85, Try.ntmps85
  go_wp2
  go_loop [5] (fun i => ∃ k : Nat, k ≤ ss.length ∧ i = .int .i64 k ∧ ∀ j (h : j < ss.length), j < k → ss[j] ≠ s) (fun i => ss.length - (intOf i).toNat)
  case atStart => exact ⟨0, by omega, rfl, fun j _ hj => by omega⟩
  case round =>
    obtain ⟨k, hk, rfl, hall⟩ := hrel
    have HA := Lib.hid hall
    clear hall
    by_cases hlt : k < ss.length
    · obtain ⟨b, off, rfl, _, _, hcc⟩ := HC.out (by omega)
      have hck := hcc k hlt
      clear hcc
      by_cases he : ss[k] = s
      · have d1 : (ss[k].toList == s.toList) = true := by rw [list_eqH, decide_eq_true he]
        have HE := Lib.hid he
        clear he
        go_wp2
        go_ret
        exact ⟨ret_bool (inB_t hlt HE.out).symm, rfl⟩
      · have d1 : (ss[k].toList == s.toList) = false := by rw [list_eqH, decide_eq_false he]
        go_wp2
        go_round
        case rel => exact ⟨k + 1, by omega, by go_num, fun j hj hjk => by
          by_cases e : j = k
          · subst e; exact he
          · exact HA.out j hj (by omega)⟩
        case measure => simp [intOf]; omega
    · go_wp2
      go_ret
      exact ⟨ret_bool (inB_f fun i hi => HA.out i hi (by omega)).symm, rfl⟩

set_option maxRecDepth 100000 in
set_option maxHeartbeats 2000000 in
theorem specHeadsOf_any (rs : List RuleD) (v : Value) (lo hi : Nat) (w : World) (h : Rules w lo hi v rs) (hh : hi ≤ w.heap.size) (hl20 : rs.length ≤ 1000) :
    Calls Try.prog 75 #[.agg #[v]] w (MadeS w (headsTo rs rs.length)) := by
  obtain ⟨i0, hi0, hz0, hz1, hz2⟩ := info_parts Try.infoStr
  obtain ⟨A, c, rfl, hlc, hc, hcell⟩ := h
  unfold maxLen at hc
  have hsz : ∀ k s, s ∈ headsTo rs k → s.size ≤ maxLen := fun k s hs => by
    obtain ⟨i, hi, rfl⟩ := headsTo_mem hs
    obtain ⟨_, _, _, _, _, hcc⟩ := hcell (by omega)
    exact (hcc i hi).1
  have HC := Lib.hid hcell
  have HZ := Lib.hid hsz
  clear hcell hsz
  go_enter Try.func75, Try.ntmps75
  go_wp2
  go_loopw [3, 4] (fun x i wr => ∃ (k : Nat), k ≤ rs.length ∧ i = .int .i64 k ∧ Sts wr (w.heap.size + 1) x (headsTo rs k) ∧ Row wr w.heap.size 41 #[.slice A rs.length c] ∧ Below w.heap.size w wr) (fun _ i _ => rs.length - (intOf i).toNat)
  case atStart => exact ⟨0, by omega, rfl, by simpa [headsTo] using Sts.nil (w.alloc (.cells #[.slice A rs.length c] 41)) (base := w.heap.size + 1) (by simp), (Row.made _ _ _).alloc _, al2 _ _ _⟩
  case round =>
    obtain ⟨k, hk, rfl, hsts, hrow, hbw⟩ := hrel
    have hsw := hbw.size
    have hc0 := hrow.cell 0
    simp at hc0
    have hwl := hrow.lt
    have HW := Lib.hid hrow
    have hln := headsTo_len rs k
    clear hrow
    by_cases hlt : k < rs.length
    · obtain ⟨b, off, rfl, _, hbh, hcc⟩ := HC.out (by omega)
      obtain ⟨hhs, hd0, u, hd1, hst⟩ := hcc k hlt
      have hd0' := (hbw.cell (p := ⟨b, off + k * 2, none⟩) (by show b < _; omega)).trans hd0
      have HSU := Lib.hid (headsTo_succ hlt)
      clear hcc hd0 hd1 hst
      cases hin : inB (headsTo rs k) rs[k].head
      · have HI := Lib.hid hin
        have HA := Lib.hid (addSym_out hin)
        clear hin
        go_wp2_with fail
        refine (specIn_any _ (headsTo rs k) rs[k].head _ _ _ (hsts.strs (HZ.out k))).mono ?_
        rintro e w1 ⟨rfl, rfl⟩
        rw [HI.out]
        go_wp2_with (at_builtin; refine wpList_append_own _ rfl _ _ 66 rfl (w.heap.size + 1) 9 i0 (.string ByteArray.empty) 1 16 Try.underlying66 hi0 hz0 hz1 hz2 rfl (by decide) _ _ _ rfl (World.ownsRow.alloc hsts _) ⟨wr.heap.size, 0, none⟩ 1 1 [.string rs[k].head] rfl rfl (cell_one_new _ _ _) (one_str _) (by unfold maxLen; omega) (by omega) (by simp; omega) ?_)
        intro v1 w1 hown1 hg1 _
        have s1 : Sts w1 (w.heap.size + 1) v1 (headsTo rs (k + 1)) := by
          rw [HSU.out, HA.out]
          exact Sts.one _ hown1
        have q1 := Tx.row_grown (HW.out.alloc _) (World.ownsRow.alloc hsts _) (by decide) hg1
        have hb1 : Below w.heap.size w w1 := Tx.below_grown (hbw.trans ((al1 wr _).mono hsw)) (World.ownsRow.alloc hsts _) hg1 (by simp; omega) (by omega)
        clear hown1 hg1 hsts
        go_wp2
        go_roundw
        case rel => exact ⟨k + 1, by omega, by go_num, s1, q1, hb1⟩
        case measure => simp [intOf]; omega
      · have HI := Lib.hid hin
        have HA := Lib.hid (addSym_in hin)
        clear hin
        go_wp2_with fail
        refine (specIn_any _ (headsTo rs k) rs[k].head _ _ _ (hsts.strs (HZ.out k))).mono ?_
        rintro e w1 ⟨rfl, rfl⟩
        rw [HI.out]
        go_wp2
        go_roundw
        case rel => exact ⟨k + 1, by omega, by go_num, by rw [HSU.out, HA.out]; exact hsts, HW.out, hbw⟩
        case measure => simp [intOf]; omega
    · have hks : k = rs.length := by omega
      subst hks
      obtain ⟨g, ho, hg⟩ := hsts.own (HZ.out _)
      clear hsts
      go_wp2
      go_ret
      exact ⟨_, g, rfl, ho, fun hn => by have := hg hn; omega, hbw⟩
end Go.Proofs.Ytbaofldcdcllfaa
