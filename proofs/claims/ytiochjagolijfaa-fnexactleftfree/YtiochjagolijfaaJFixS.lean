import Derived.Test.YtiochjagolijfaaJHeads
import Derived.Test.YtiochjagolijfaaJTxt
import Derived.Test.YtiochjagolijfaaJCom
/- The walks of the model's l02In, l02Heads and Heads. -/
namespace Go.Proofs.Ytiochjagolijfaa
open Go.RowKit

theorem list_eqH (a b : ByteArray) : (a.toList == b.toList) = decide (a = b) := by
  rw [Bool.eq_iff_iff]; simp only [beq_iff_eq, decide_eq_true_eq]
  constructor
  · intro h
    apply ByteArray.ext
    apply Array.ext'
    simpa [ByteArray.toList_eq] using h
  · rintro rfl; rfl
/-- texts in a row of the call's own -/
def Sts (w : World) (base : Nat) (v : Value) (ss : List ByteArray) : Prop := w.ownsRow base 9 1 v ss.length (ss.map Value.string)
theorem Sts.nil (w : World) {base : Nat} (hb : base ≤ w.heap.size) : Sts (w.alloc (.cells #[] 9)) base (.slice (some ⟨w.heap.size, 0, none⟩) 0 0) [] := World.ownsRow_lit w #[] 0 hb (by unfold maxLen; omega) rfl
theorem Sts.one {w : World} {base : Nat} {v : Value} {ss : List ByteArray} (s : ByteArray) (h : w.ownsRow base 9 1 v (ss.length + 1) (ss.map Value.string ++ [.string s])) : Sts w base v (ss ++ [s]) := by
  unfold Sts
  rw [List.length_append, List.map_append]
  exact h
theorem Sts.own {w : World} {base : Nat} {v : Value} {ss : List ByteArray} (h : Sts w base v ss) (hz : ∀ s ∈ ss, s.size ≤ maxLen) : ∃ g, OwnS w g v ss ∧ (ss ≠ [] → base ≤ g ∧ g < w.heap.size) := by
  rcases h.2 with ⟨rfl, h0⟩ | ⟨g, cap, cur, rfl, hb, hh, hc, hm, hs, ht⟩
  · obtain rfl : ss = [] := List.eq_nil_of_length_eq_zero h0
    exact ⟨0, OwnS.nil w 0, fun hn => absurd rfl hn⟩
  · have hr : Row w g 9 cur := hh
    refine ⟨g, ⟨_, cap, rfl, hc, hm, hz, fun _ => ⟨0, cur, rfl, hr, fun i hi => ?_⟩⟩, fun _ => ⟨hb, hr.lt⟩⟩
    have h1 : (cur.toList.take (ss.length * 1))[i]? = some (.string ss[i]) := by rw [ht, List.getElem?_map, List.getElem?_eq_getElem hi]; rfl
    rw [List.getElem?_take_of_lt (by omega)] at h1
    rw [Nat.zero_add, ← Array.getElem?_toList]
    exact h1
theorem Sts.strs {w : World} {base : Nat} {v : Value} {ss : List ByteArray} (h : Sts w base v ss) (hz : ∀ s ∈ ss, s.size ≤ maxLen) : Strs w base w.heap.size v ss := by
  obtain ⟨g, ho, hg⟩ := h.own hz
  exact ho.strs hg
theorem one_str (s : ByteArray) : ∀ u ∈ [Value.string s], u.oneCell' = true := by
  intro u hu
  rw [List.mem_singleton] at hu; subst hu; rfl
theorem inB_t {ss : List ByteArray} {s : ByteArray} {k : Nat} (h : k < ss.length) (e : ss[k] = s) : inB ss s = true := (inB_iff _ _).2 (e ▸ List.getElem_mem h)
theorem inB_f {ss : List ByteArray} {s : ByteArray} (h : ∀ i (h : i < ss.length), ss[i] ≠ s) : inB ss s = false := by
  rw [Bool.eq_false_iff]
  intro e
  obtain ⟨i, hi, e2⟩ := List.getElem_of_mem ((inB_iff _ _).1 e)
  exact h i hi e2

set_option maxHeartbeats 1000000 in
theorem specIn_any (v : Value) (ss : List ByteArray) (s : ByteArray) (lo hi : Nat) (w : World) (h : Strs w lo hi v ss) :
    Calls Try.prog 40 #[v, .string s] w fun e w' => e = .returned (.bool (inB ss s)) ∧ w = w' := by
  obtain ⟨A, c, rfl, hlc, hc, hsz, hcell⟩ := h
  unfold maxLen at hc
  have HC := Lib.hid hcell
  clear hcell hsz
  go_enter Try.func40, Try.ntmps40
  go_wp2
  go_loop [5] (fun i => ∃ k : Nat, k ≤ ss.length ∧ i = .int .i64 k ∧ ∀ j (h : j < ss.length), j < k → ss[j] ≠ s) (fun i => ss.length - (intOf i).toNat)
  case atStart => exact ⟨0, by omega, rfl, fun j _ hj => by omega⟩
  case round =>
    obtain ⟨k, hk, rfl, hall⟩ := hrel
    have HA := Lib.hid hall
    clear hall
    by_cases hlt : k < ss.length
    · obtain ⟨b, off, rfl, _, _, hcc⟩ := HC.out (by omega)
      have hck := hcc k hlt
      clear hcc
      by_cases he : ss[k] = s
      · have d1 : (ss[k].toList == s.toList) = true := by rw [list_eqH, decide_eq_true he]
        have HE := Lib.hid he
        clear he
        go_wp2
        go_ret
        exact ⟨ret_bool (inB_t hlt HE.out).symm, rfl⟩
      · have d1 : (ss[k].toList == s.toList) = false := by rw [list_eqH, decide_eq_false he]
        go_wp2
        go_round
        case rel => exact ⟨k + 1, by omega, by go_num, fun j hj hjk => by
          by_cases e : j = k
          · subst e; exact he
          · exact HA.out j hj (by omega)⟩
        case measure => simp [intOf]; omega
    · go_wp2
      go_ret
      exact ⟨ret_bool (inB_f fun i hi => HA.out i hi (by omega)).symm, rfl⟩

end Go.Proofs.Ytiochjagolijfaa

/- The walks of the model's l03All, l03Sort, l03Fix, Nullable and Productive. -/
namespace Go.Proofs.Ytiochjagolijfaa
open Go.RowKit

theorem Sts.below {w w' : World} {base : Nat} {v : Value} {ss : List ByteArray} (h : Sts w base v ss) (k : Below w.heap.size w w') : Sts w' base v ss := by
  refine ⟨h.1, ?_⟩
  rcases h.2 with a | ⟨g, cap, cur, rfl, hb, hh, r⟩
  · exact .inl a
  · have hr : Row w g 9 cur := hh
    exact .inr ⟨g, cap, cur, rfl, hb, (k.block g hr.lt).trans hh, r⟩
theorem Sts.shape {w : World} {base : Nat} {v : Value} {ss : List ByteArray} (h : Sts w base v ss) : ∃ B d, v = .slice B ss.length d := by
  rcases h.2 with ⟨rfl, h0⟩ | ⟨g, cap, cur, rfl, _⟩
  · exact ⟨none, 0, by rw [h0]⟩
  · exact ⟨_, _, rfl⟩
/-- is all of a body among some, or a token, if these count? -/
def allB (body some : List ByteArray) (tok : Bool) : Bool := body.all fun s => inB some s || (tok && tokB s)
theorem allB_iff (body ins : List ByteArray) (tok : Bool) : allB body ins tok = true ↔ ∀ s ∈ body, (tok && tokB s) = false → s ∈ ins := by
  unfold allB
  rw [List.all_eq_true]
  constructor
  · intro h s hs ht
    have := h s hs
    rw [ht, Bool.or_false] at this
    exact (inB_iff _ _).1 this
  · intro h s hs
    cases ht : (tok && tokB s)
    · rw [(inB_iff _ _).2 (h s hs ht), Bool.true_or]
    · rw [Bool.or_true]
theorem allB_no {body ins : List ByteArray} {tok : Bool} {k : Nat} (h : k < body.length) (h1 : (inB ins body[k] || (tok && tokB body[k])) = false) : allB body ins tok = false := by
  rw [Bool.eq_false_iff]
  intro e
  unfold allB at e
  rw [List.all_eq_true] at e
  have := e _ (List.getElem_mem h)
  rw [h1] at this; cases this
theorem allB_yes {body ins : List ByteArray} {tok : Bool} (h : ∀ k (h : k < body.length), (inB ins body[k] || (tok && tokB body[k])) = true) : allB body ins tok = true := by
  unfold allB
  rw [List.all_eq_true]
  intro s hs
  obtain ⟨k, hk, rfl⟩ := List.getElem_of_mem hs
  exact h k hk

set_option maxRecDepth 100000 in
set_option maxHeartbeats 2000000 in
theorem specAll_any (v x : Value) (body ins : List ByteArray) (tok : Bool) (lo hi lo' hi' : Nat) (w : World) (h : Strs w lo hi v body) (hx : Strs w lo' hi' x ins) :
    Calls Try.prog 67 #[v, x, .bool tok] w fun e w' => e = .returned (.bool (allB body ins tok)) ∧ w = w' := by
  have HX := Lib.hid hx
  obtain ⟨X, xc, rfl, -⟩ := hx
  obtain ⟨A, c, rfl, hlc, hc, hsz, hcell⟩ := h
  unfold maxLen at hc
  have HC := Lib.hid hcell
  have HZ := Lib.hid hsz
  clear hcell hsz
  go_enter Try.func67, Try.ntmps67
  go_wp2
  go_loop [7] (fun i => ∃ k : Nat, k ≤ body.length ∧ i = .int .i64 k ∧ ∀ j (h : j < body.length), j < k → (inB ins body[j] || (tok && tokB body[j])) = true) (fun i => body.length - (intOf i).toNat)
  case atStart => exact ⟨0, by omega, rfl, fun j _ hj => by omega⟩
  case round =>
    obtain ⟨k, hk, rfl, hall⟩ := hrel
    have HA := Lib.hid hall
    clear hall
    by_cases hlt : k < body.length
    · obtain ⟨b, off, rfl, _, _, hcc⟩ := HC.out (by omega)
      have hck := hcc k hlt
      have hks := HZ.out _ (List.getElem_mem hlt)
      clear hcc
      cases hi : inB ins body[k]
      · have HI := Lib.hid hi
        clear hi
        cases tok
        · go_wp2_with fail
          refine (specIn_any _ ins body[k] lo' hi' _ HX.out).mono ?_
          rintro e w1 ⟨rfl, rfl⟩
          rw [HI.out]
          go_wp2
          go_ret
          exact ⟨ret_bool (allB_no hlt (by rw [HI.out]; rfl)).symm, rfl⟩
        · cases ht : tokB body[k]
          · have HT := Lib.hid ht
            clear ht
            go_wp2_with fail
            refine (specIn_any _ ins body[k] lo' hi' _ HX.out).mono ?_
            rintro e w1 ⟨rfl, rfl⟩
            rw [HI.out]
            go_wp2_with fail
            refine (specIsToken_any _ _ hks).mono ?_
            rintro e w1 ⟨rfl, rfl⟩
            rw [HT.out]
            go_wp2
            go_ret
            exact ⟨ret_bool (allB_no hlt (by rw [HI.out, HT.out]; rfl)).symm, rfl⟩
          · have HT := Lib.hid ht
            clear ht
            go_wp2_with fail
            refine (specIn_any _ ins body[k] lo' hi' _ HX.out).mono ?_
            rintro e w1 ⟨rfl, rfl⟩
            rw [HI.out]
            go_wp2_with fail
            refine (specIsToken_any _ _ hks).mono ?_
            rintro e w1 ⟨rfl, rfl⟩
            rw [HT.out]
            go_wp2
            go_round
            case rel => exact ⟨k + 1, by omega, by go_num, fun j hj hjk => by
              by_cases e : j = k
              · subst e; rw [HT.out]; simp
              · exact HA.out j hj (by omega)⟩
            case measure => simp [intOf]; omega
      · have HI := Lib.hid hi
        clear hi
        go_wp2_with fail
        refine (specIn_any _ ins body[k] lo' hi' _ HX.out).mono ?_
        rintro e w1 ⟨rfl, rfl⟩
        rw [HI.out]
        go_wp2
        go_round
        case rel => exact ⟨k + 1, by omega, by go_num, fun j hj hjk => by
          by_cases e : j = k
          · subst e; rw [HI.out]; simp
          · exact HA.out j hj (by omega)⟩
        case measure => simp [intOf]; omega
    · go_wp2
      go_ret
      exact ⟨ret_bool (allB_yes fun k hk => HA.out k hk (by omega)).symm, rfl⟩
end Go.Proofs.Ytiochjagolijfaa
