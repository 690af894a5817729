/- The walks of the model's l02In, l02Heads and Heads. -/
import Derived.Test.YtonfiahihmcmlaaHeads
import Derived.Test.YtonfiahihmcmlaaRightb
import Derived.Test.YtonfiahihmcmlaaTxt
namespace Go.Proofs.Ytonfiahihmcmlaa
open Go.RowKit

theorem list_eqH (a b : ByteArray) : (a.toList == b.toList) = decide (a = b) := by
  rw [Bool.eq_iff_iff]; simp only [beq_iff_eq, decide_eq_true_eq]
  constructor
  · intro h
    apply ByteArray.ext
    apply Array.ext'
    simpa [ByteArray.toList_eq] using h
  · rintro rfl; rfl
/-- texts in a row of the call's own -/
def Sts (w : World) (base : Nat) (v : Value) (ss : List ByteArray) : Prop := w.ownsRow base 9 1 v ss.length (ss.map Value.string)
theorem Sts.nil (w : World) {base : Nat} (hb : base ≤ w.heap.size) : Sts (w.alloc (.cells #[] 9)) base (.slice (some ⟨w.heap.size, 0, none⟩) 0 0) [] := World.ownsRow_lit w #[] 0 hb (by unfold maxLen; omega) rfl
theorem Sts.one {w : World} {base : Nat} {v : Value} {ss : List ByteArray} (s : ByteArray) (h : w.ownsRow base 9 1 v (ss.length + 1) (ss.map Value.string ++ [.string s])) : Sts w base v (ss ++ [s]) := by
  unfold Sts
  rw [List.length_append, List.map_append]
  exact h
theorem Sts.own {w : World} {base : Nat} {v : Value} {ss : List ByteArray} (h : Sts w base v ss) (hz : ∀ s ∈ ss, s.size ≤ maxLen) : ∃ g, OwnS w g v ss ∧ (ss ≠ [] → base ≤ g ∧ g < w.heap.size) := by
  rcases h.2 with ⟨rfl, h0⟩ | ⟨g, cap, cur, rfl, hb, hh, hc, hm, hs, ht⟩
  · obtain rfl : ss = [] := List.eq_nil_of_length_eq_zero h0
    exact ⟨0, OwnS.nil w 0, fun hn => absurd rfl hn⟩
  · have hr : Row w g 9 cur := hh
    refine ⟨g, ⟨_, cap, rfl, hc, hm, hz, fun _ => ⟨0, cur, rfl, hr, fun i hi => ?_⟩⟩, fun _ => ⟨hb, hr.lt⟩⟩
    have h1 : (cur.toList.take (ss.length * 1))[i]? = some (.string ss[i]) := by rw [ht, List.getElem?_map, List.getElem?_eq_getElem hi]; rfl
    rw [List.getElem?_take_of_lt (by omega)] at h1
    rw [Nat.zero_add, ← Array.getElem?_toList]
    exact h1
theorem Sts.strs {w : World} {base : Nat} {v : Value} {ss : List ByteArray} (h : Sts w base v ss) (hz : ∀ s ∈ ss, s.size ≤ maxLen) : Strs w base w.heap.size v ss := by
  obtain ⟨g, ho, hg⟩ := h.own hz
  exact ho.strs hg
theorem one_str (s : ByteArray) : ∀ u ∈ [Value.string s], u.oneCell' = true := by
  intro u hu
  rw [List.mem_singleton] at hu; subst hu; rfl
theorem inB_t {ss : List ByteArray} {s : ByteArray} {k : Nat} (h : k < ss.length) (e : ss[k] = s) : inB ss s = true := (inB_iff _ _).2 (e ▸ List.getElem_mem h)
theorem inB_f {ss : List ByteArray} {s : ByteArray} (h : ∀ i (h : i < ss.length), ss[i] ≠ s) : inB ss s = false := by
  rw [Bool.eq_false_iff]
  intro e
  obtain ⟨i, hi, e2⟩ := List.getElem_of_mem ((inB_iff _ _).1 e)
  exact h i hi e2

set_option maxHeartbeats 1000000 in
theorem specIn_any (v : Value) (ss : List ByteArray) (s : ByteArray) (lo hi : Nat) (w : World) (h : Strs w lo hi v ss) :
    Calls Try.prog 84 #[v, .string s] w fun e w' => e = .returned (.bool (inB ss s)) ∧ w = w' := by
  obtain ⟨A, c, rfl, hlc, hc, hsz, hcell⟩ := h
  unfold maxLen at hc
  have HC := Lib.hid hcell
  clear hcell hsz
  go_enter Try.func84, Try.ntmps84
  go_wp2
  go_loop [5] (fun i => ∃ k : Nat, k ≤ ss.length ∧ i = .int .i64 k ∧ ∀ j (h : j < ss.length), j < k → ss[j] ≠ s) (fun i => ss.length - (intOf i).toNat)
  case atStart => exact ⟨0, by omega, rfl, fun j _ hj => by omega⟩
  case round =>
    obtain ⟨k, hk, rfl, hall⟩ := hrel
    have HA := Lib.hid hall
    clear hall
    by_cases hlt : k < ss.length
    · obtain ⟨b, off, rfl, _, _, hcc⟩ := HC.out (by omega)
      have hck := hcc k hlt
      clear hcc
      by_cases he : ss[k] = s
      · have d1 : (ss[k].toList == s.toList) = true := by rw [list_eqH, decide_eq_true he]
        have HE := Lib.hid he
        clear he
        go_wp2
        go_ret
        exact ⟨ret_bool (inB_t hlt HE.out).symm, rfl⟩
      · have d1 : (ss[k].toList == s.toList) = false := by rw [list_eqH, decide_eq_false he]
        go_wp2
        go_round
        case rel => exact ⟨k + 1, by omega, by go_num, fun j hj hjk => by
          by_cases e : j = k
          · subst e; exact he
          · exact HA.out j hj (by omega)⟩
        case measure => simp [intOf]; omega
    · go_wp2
      go_ret
      exact ⟨ret_bool (inB_f fun i hi => HA.out i hi (by omega)).symm, rfl⟩

set_option maxRecDepth 100000 in
set_option maxHeartbeats 2000000 in
theorem specHeadsOf_any (rs : List RuleD) (v : Value) (lo hi : Nat) (w : World) (h : Rules w lo hi v rs) (hh : hi ≤ w.heap.size) (hl20 : rs.length ≤ 1000) :
    Calls Try.prog 83 #[.agg #[v]] w (MadeS w (headsTo rs rs.length)) := by
  obtain ⟨i0, hi0, hz0, hz1, hz2⟩ := info_parts Try.infoStr
  obtain ⟨A, c, rfl, hlc, hc, hcell⟩ := h
  unfold maxLen at hc
  have hsz : ∀ k s, s ∈ headsTo rs k → s.size ≤ maxLen := fun k s hs => by
    obtain ⟨i, hi, rfl⟩ := headsTo_mem hs
    obtain ⟨_, _, _, _, _, hcc⟩ := hcell (by omega)
    exact (hcc i hi).1
  have HC := Lib.hid hcell
  have HZ := Lib.hid hsz
  clear hcell hsz
  go_enter Try.func83, Try.ntmps83
  go_wp2
  go_loopw [3, 4] (fun x i wr => ∃ (k : Nat), k ≤ rs.length ∧ i = .int .i64 k ∧ Sts wr (w.heap.size + 1) x (headsTo rs k) ∧ Row wr w.heap.size 25 #[.slice A rs.length c] ∧ Below w.heap.size w wr) (fun _ i _ => rs.length - (intOf i).toNat)
  case atStart => exact ⟨0, by omega, rfl, by simpa [headsTo] using Sts.nil (w.alloc (.cells #[.slice A rs.length c] 25)) (base := w.heap.size + 1) (by simp), (Row.made _ _ _).alloc _, al2 _ _ _⟩
  case round =>
    obtain ⟨k, hk, rfl, hsts, hrow, hbw⟩ := hrel
    have hsw := hbw.size
    have hc0 := hrow.cell 0
    simp at hc0
    have hwl := hrow.lt
    have HW := Lib.hid hrow
    have hln := headsTo_len rs k
    clear hrow
    by_cases hlt : k < rs.length
    · obtain ⟨b, off, rfl, _, hbh, hcc⟩ := HC.out (by omega)
      obtain ⟨hhs, hd0, u, hd1, hst⟩ := hcc k hlt
      have hd0' := (hbw.cell (p := ⟨b, off + k * 2, none⟩) (by show b < _; omega)).trans hd0
      have HSU := Lib.hid (headsTo_succ hlt)
      clear hcc hd0 hd1 hst
      cases hin : inB (headsTo rs k) rs[k].head
      · have HI := Lib.hid hin
        have HA := Lib.hid (addSym_out hin)
        clear hin
        go_wp2_with fail
        refine (specIn_any _ (headsTo rs k) rs[k].head _ _ _ (hsts.strs (HZ.out k))).mono ?_
        rintro e w1 ⟨rfl, rfl⟩
        rw [HI.out]
        go_wp2_with (at_builtin; refine wpList_append_own _ rfl _ _ 34 rfl (w.heap.size + 1) 9 i0 (.string ByteArray.empty) 1 16 Try.underlying34 hi0 hz0 hz1 hz2 rfl (by decide) _ _ _ rfl (World.ownsRow.alloc hsts _) ⟨wr.heap.size, 0, none⟩ 1 1 [.string rs[k].head] rfl rfl (cell_one_new _ _ _) (one_str _) (by unfold maxLen; omega) (by omega) (by simp; omega) ?_)
        intro v1 w1 hown1 hg1 _
        have s1 : Sts w1 (w.heap.size + 1) v1 (headsTo rs (k + 1)) := by
          rw [HSU.out, HA.out]
          exact Sts.one _ hown1
        have q1 := Tx.row_grown (HW.out.alloc _) (World.ownsRow.alloc hsts _) (by decide) hg1
        have hb1 : Below w.heap.size w w1 := Tx.below_grown (hbw.trans ((al1 wr _).mono hsw)) (World.ownsRow.alloc hsts _) hg1 (by simp; omega) (by omega)
        clear hown1 hg1 hsts
        go_wp2
        go_roundw
        case rel => exact ⟨k + 1, by omega, by go_num, s1, q1, hb1⟩
        case measure => simp [intOf]; omega
      · have HI := Lib.hid hin
        have HA := Lib.hid (addSym_in hin)
        clear hin
        go_wp2_with fail
        refine (specIn_any _ (headsTo rs k) rs[k].head _ _ _ (hsts.strs (HZ.out k))).mono ?_
        rintro e w1 ⟨rfl, rfl⟩
        rw [HI.out]
        go_wp2
        go_roundw
        case rel => exact ⟨k + 1, by omega, by go_num, by rw [HSU.out, HA.out]; exact hsts, HW.out, hbw⟩
        case measure => simp [intOf]; omega
    · have hks : k = rs.length := by omega
      subst hks
      obtain ⟨g, ho, hg⟩ := hsts.own (HZ.out _)
      clear hsts
      go_wp2
      go_ret
      exact ⟨_, g, rfl, ho, fun hn => by have := hg hn; omega, hbw⟩
end Go.Proofs.Ytonfiahihmcmlaa
