import Derived.Test.YtiochjagolijfaaNums
import Derived.Test.YtiochjagolijfaaJOi
import Derived.Test.YtiochjagolijfaaShelf
import Derived.Maps.RangeWalk
import Derived.Test.YtiochjagolijfaaRows
import Derived.WalkKit
import Derived.WalkSpells
import Derived.WalkLawsBesides
import Derived.Lib.Hide
import Derived.Below
import Derived.Laws.RangeAny
/- The symbols of a map, told by their numbers: the walk of told. -/
namespace Go.Proofs.Ytiochjagolijfaa
open Go.RowKit Go.Maps

set_option maxHeartbeats 400000 in
theorem clone_any (s : ByteArray) (w : World) (h : s.size ≤ 281474976710656) :
    Calls Try.prog 70 #[.string s] w fun e w' => e = .returned (.string s) ∧ Below w.heap.size w w' := by
  go_enter Try.func70, Try.ntmps70
  go_wp2_with fail
  refine (Try.stringslite_Clone s _ h).mono ?_
  rintro e w1 ⟨rfl, b1⟩
  go_wp2
  go_ret
  exact ⟨rfl, b1⟩

theorem nodup_ne {acc : List ByteArray} (h : acc.Nodup) {i j : Nat} (hi : i < acc.length) (hj : j < acc.length) (hne : i ≠ j) : acc[i] ≠ acc[j] := by
  rcases Nat.lt_or_gt_of_ne hne with hl | hl
  · exact List.pairwise_iff_getElem.1 h i j hi hj hl
  · exact fun e => List.pairwise_iff_getElem.1 h j i hj hi hl e.symm
theorem invKey : ∀ (key : Value) (kl : Lit), keyOf Try.prog 9 key = some kl → ∃ x, key = Value.string x := fun key kl h => by
  obtain ⟨s, h1, _⟩ := WideMaps.string_of_keyOf Try.underlying9 h
  exact ⟨s, h1⟩
theorem invNum : ∀ (v : Value) (y : DataW Unit × List MemPlace), plainElem Try.prog 3 v = some y → ∃ c, v = Value.int .i64 c := fun v y h => by
  obtain ⟨c, h1, _⟩ := plainElem_int_inv Try.underlying3 h
  exact ⟨c, h1⟩
set_option maxRecDepth 100000 in
/-- what an entry of the map says -/
theorem entry_says {acc : List ByteArray} (hn : acc.Nodup) {x : ByteArray} {c : Int} {kl : Lit} {y : DataW Unit × List MemPlace} (hk : keyOf Try.prog 9 (.string x) = some kl) (hv : plainElem Try.prog 3 (.int .i64 c) = some y) (hat : ∀ z, (mapD acc).atKey kl z = y.1) :
    kl = symKey x ∧ ∃ i, ∃ h : i < acc.length, x = acc[i] ∧ c = (i : Int) := by
  obtain ⟨s, h1, h2, _⟩ := WideMaps.string_of_keyOf Try.underlying9 hk
  injection h1 with h1
  subst h1
  subst h2
  obtain ⟨c', e1, e2, _⟩ := plainElem_int_inv Try.underlying3 hv
  injection e1 with _ e1
  subst e1
  have hin := (mapD_has acc x).symm.trans (has_true_of_atKey (D := mapD acc) (k := symKey x) hat)
  obtain ⟨i, hi, rfl⟩ := List.getElem_of_mem ((inB_iff _ _).1 hin)
  refine ⟨rfl, i, hi, rfl, ?_⟩
  have h3 := (mapD_at acc hn i hi (.map [])).symm.trans (hat (.map []))
  rw [e2] at h3
  unfold symNum at h3
  injection h3 with h3
  injection h3 with _ h3
  exact h3.symm

end Go.Proofs.Ytiochjagolijfaa

/- The walks of isSymbol and l02Of, of IsHead and IsToken: both programs say of a text whether it is a symbol by one and the same function, symB. -/
namespace Go.Proofs.Ytiochjagolijfaa
open Go.RowKit

theorem ret_bool {a b : Bool} (h : a = b) : Ending.returned (.bool a) = .returned (.bool b) := by rw [h]

/-- is each of the first k bytes of s one from lo to hi? -/
def AllIn (lo hi : Nat) (s : ByteArray) (k : Nat) : Prop := ∀ j, (h : j < s.size) → j < k → lo ≤ s[j].toNat ∧ s[j].toNat ≤ hi
def symB (lo hi : Nat) (s : ByteArray) : Bool := decide (1 ≤ s.size) && decide (s.size ≤ 4) && s.data.toList.all (fun c => decide (lo ≤ c.toNat) && decide (c.toNat ≤ hi))

theorem symB_iff (lo hi : Nat) (s : ByteArray) : symB lo hi s = true ↔ 1 ≤ s.size ∧ s.size ≤ 4 ∧ AllIn lo hi s s.size := by
  simp only [symB, Bool.and_eq_true, decide_eq_true_eq, List.all_eq_true, AllIn]
  constructor
  · rintro ⟨⟨h1, h2⟩, h3⟩
    exact ⟨h1, h2, fun j hj _ => h3 s[j] (by show s.data[j] ∈ _; simp)⟩
  · rintro ⟨h1, h2, h3⟩
    refine ⟨⟨h1, h2⟩, fun c hc => ?_⟩
    obtain ⟨j, hj, rfl⟩ := List.getElem_of_mem hc
    exact h3 j (by simpa using hj) (by simpa using hj)
theorem symB_t {lo hi : Nat} {s : ByteArray} (h1 : 1 ≤ s.size) (h2 : s.size ≤ 4) (h : AllIn lo hi s s.size) : symB lo hi s = true := (symB_iff lo hi s).2 ⟨h1, h2, h⟩
theorem symB_f {lo hi : Nat} {s : ByteArray} {k : Nat} (h1 : k < s.size) (h : ¬ (lo ≤ s[k].toNat ∧ s[k].toNat ≤ hi)) : symB lo hi s = false := by
  rw [Bool.eq_false_iff]; intro e
  exact h (((symB_iff lo hi s).1 e).2.2 k h1 h1)
theorem symB_len {lo hi : Nat} {s : ByteArray} (h : ¬ (1 ≤ s.size ∧ s.size ≤ 4)) : symB lo hi s = false := by
  rw [Bool.eq_false_iff]; intro e
  have := (symB_iff lo hi s).1 e
  exact h ⟨this.1, this.2.1⟩
theorem AllIn.succ {lo hi : Nat} {s : ByteArray} {k : Nat} (h : AllIn lo hi s k) (hk : k < s.size) (h1 : lo ≤ s[k].toNat ∧ s[k].toNat ≤ hi) : AllIn lo hi s (k + 1) := by
  intro j hj hjk
  rcases Nat.lt_or_ge j k with h2 | h2
  · exact h j hj h2
  · have : j = k := by omega
    subst this; exact h1

set_option maxHeartbeats 1000000 in
theorem implIsSymbol_any (s : ByteArray) (lo hi : Nat) (w : World) (hhi : hi < 128) (hlo : lo ≤ hi) :
    Calls Try.prog 77 #[.string s, .int .i32 lo, .int .i32 hi] w fun e w' => e = .returned (.bool (symB lo hi s)) ∧ Below w.heap.size w w' := by
  by_cases h1 : s.size < 1
  · go_enter Try.func77, Try.ntmps77
    go_wp2
    go_ret
    exact ⟨ret_bool (by rw [symB_len (by omega)]), Below.refl _ _⟩
  by_cases h2 : 4 < s.size
  · go_enter Try.func77, Try.ntmps77
    go_wp2
    go_ret
    exact ⟨ret_bool (by rw [symB_len (by omega)]), Below.refl _ _⟩
  go_enter Try.func77, Try.ntmps77
  go_wp2
  go_loopw [] (fun w' => ∃ (pos : Nat), w' = w.iter s pos ∧ pos ≤ s.size ∧ AllIn lo hi s pos) (fun w' => s.size - w'.iterPos w.heap.size)
  case atStart => exact ⟨0, rfl, by omega, fun j _ hj => by omega⟩
  case round =>
    obtain ⟨pos, rfl, hps, hall⟩ := hrel
    have HA := Lib.hid hall
    clear hall
    by_cases hp : pos < s.size
    · by_cases ha : (s[pos]'hp).toNat < 128
      · have hnx : ∀ ty, (Instr.next (.pointer (some ⟨w.heap.size, 0, none⟩)) true ty).run Try.prog (w.iter s pos) = _ := fun ty => run_next_ascii w s pos ty hp ha
        by_cases c1 : ((s[pos]'hp).toNat : Int) < (lo : Int)
        · go_wp2
          go_ret
          exact ⟨ret_bool (symB_f hp (by omega)).symm, (Below.refl _ _).alloc (Nat.le_refl _) _⟩
        · have d1 : decide (((s[pos]'hp).toNat : Int) < (lo : Int)) = false := decide_eq_false c1
          by_cases c2 : ((s[pos]'hp).toNat : Int) > (hi : Int)
          · have d2 : decide (((s[pos]'hp).toNat : Int) > (hi : Int)) = true := decide_eq_true c2
            go_wp2
            go_ret
            exact ⟨ret_bool (symB_f hp (by omega)).symm, (Below.refl _ _).alloc (Nat.le_refl _) _⟩
          · have d2 : decide (((s[pos]'hp).toNat : Int) > (hi : Int)) = false := decide_eq_false c2
            go_wp2
            go_roundw
            case rel => exact ⟨pos + 1, rfl, by omega, HA.out.succ hp (by omega)⟩
            case measure => simp; omega
      · have hnx : ∀ ty, (Instr.next (.pointer (some ⟨w.heap.size, 0, none⟩)) true ty).run Try.prog (w.iter s pos) = _ := fun ty => run_next_any w s pos ty hp
        have hh := decode_high s pos hp (by omega)
        have d1 : decide (((Utf8.decode s pos).1 : Int) < (lo : Int)) = false := decide_eq_false (by omega)
        have d2 : decide (((Utf8.decode s pos).1 : Int) > (hi : Int)) = true := decide_eq_true (by omega)
        go_wp2
        go_ret
        exact ⟨ret_bool (symB_f hp (by omega)).symm, (Below.refl _ _).alloc (Nat.le_refl _) _⟩
    · have hnx : ∀ ty, (Instr.next (.pointer (some ⟨w.heap.size, 0, none⟩)) true ty).run Try.prog (w.iter s pos) = _ := fun ty => run_next_end w s pos ty hp
      have hks : pos = s.size := by omega
      have HK := Lib.hid hks
      clear hks
      go_wp2
      go_ret
      exact ⟨ret_bool (symB_t (by omega) (by omega) (by have := HA.out; rwa [HK.out] at this)).symm, (Below.refl _ _).alloc (Nat.le_refl _) _⟩

set_option maxHeartbeats 1000000 in
theorem specOf_any (s : ByteArray) (lo hi : Nat) (w : World) (hs : s.size ≤ maxLen) :
    Calls Try.prog 75 #[.string s, .int .u8 lo, .int .u8 hi] w fun e w' => e = .returned (.bool (symB lo hi s)) ∧ w = w' := by
  unfold maxLen at hs
  go_enter Try.func75, Try.ntmps75
  go_wp2
  go_loop [7] (fun i => ∃ k : Nat, k ≤ s.size ∧ i = .int .i64 k ∧ AllIn lo hi s k) (fun i => s.size - (intOf i).toNat)
  case atStart => exact ⟨0, by omega, rfl, fun j _ hj => by omega⟩
  case round =>
    obtain ⟨k, hk, rfl, hall⟩ := hrel
    have HA := Lib.hid hall
    clear hall
    by_cases hlt : k < s.size
    · by_cases c1 : ((s[k]'hlt).toNat : Int) < (lo : Int)
      · go_wp2
        go_ret
        exact ⟨ret_bool (symB_f hlt (by omega)).symm, rfl⟩
      · have d1 : decide (((s[k]'hlt).toNat : Int) < (lo : Int)) = false := decide_eq_false c1
        by_cases c2 : ((s[k]'hlt).toNat : Int) > (hi : Int)
        · have d2 : decide (((s[k]'hlt).toNat : Int) > (hi : Int)) = true := decide_eq_true c2
          go_wp2
          go_ret
          exact ⟨ret_bool (symB_f hlt (by omega)).symm, rfl⟩
        · have d2 : decide (((s[k]'hlt).toNat : Int) > (hi : Int)) = false := decide_eq_false c2
          go_wp2
          go_round
          case rel => exact ⟨k + 1, by omega, by go_num, HA.out.succ hlt (by omega)⟩
          case measure => simp [intOf]; omega
    · have hks : k = s.size := by omega
      have HK := Lib.hid hks
      clear hks
      by_cases h1 : 1 ≤ s.size
      · by_cases h4 : s.size ≤ 4
        · go_wp2
          go_ret
          exact ⟨ret_bool (by rw [symB_t (by omega) (by omega) (by have := HA.out; rwa [HK.out] at this)]; simp; omega), rfl⟩
        · go_wp2
          go_ret
          exact ⟨ret_bool (by rw [symB_len (by omega)]; simp; omega), rfl⟩
      · go_wp2
        go_ret
        exact ⟨ret_bool (by rw [symB_len (by omega)]), rfl⟩

def headB (s : ByteArray) : Bool := symB 65 90 s
def tokB (s : ByteArray) : Bool := symB 97 122 s

set_option maxHeartbeats 400000 in
theorem implIsToken_any (s : ByteArray) (w : World) :
    Calls Try.prog 45 #[.string s] w fun e w' => e = .returned (.bool (tokB s)) ∧ Below w.heap.size w w' := by
  go_enter Try.func45, Try.ntmps45
  go_wp2_with (go_at_call 77; refine (implIsSymbol_any s 97 122 _ (by omega) (by omega)).mono ?_; rintro e w' ⟨rfl, hb⟩)
  go_ret
  exact ⟨rfl, hb⟩
set_option maxHeartbeats 400000 in
theorem specIsToken_any (s : ByteArray) (w : World) (hs : s.size ≤ maxLen) :
    Calls Try.prog 39 #[.string s] w fun e w' => e = .returned (.bool (tokB s)) ∧ w = w' := by
  go_enter Try.func39, Try.ntmps39
  go_wp2_with (go_at_call 75; refine (specOf_any s 97 122 _ hs).mono ?_; rintro e w' ⟨rfl, rfl⟩)
  go_ret
  exact ⟨rfl, rfl⟩
end Go.Proofs.Ytiochjagolijfaa
