import Derived.Test.YtbaofldcdcllfaaNums
import Derived.Test.YtbaofldcdcllfaaJOi
import Derived.Test.YtbaofldcdcllfaaShelf
import Derived.Maps.RangeWalk
import Derived.Test.YtbaofldcdcllfaaRows
import Derived.WalkKit
import Derived.WalkSpells
import Derived.WalkLawsBesides
import Derived.Lib.Hide
import Derived.Below
import Derived.Laws.RangeAny
/- The symbols of a map, told by their numbers: the walk of told. -/
namespace Go.Proofs.Ytbaofldcdcllfaa
open Go.RowKit Go.Maps

set_option maxHeartbeats 400000 in
theorem clone_any (s : ByteArray) (w : World) (h : s.size ≤ 281474976710656) :
    Calls Try.prog 67 #[.string s] w fun e w' => e = .returned (.string s) ∧ Below w.heap.size w w' := by
  go_enter Try.func67, Try.ntmps67
  go_wp2_with fail
  refine (Try.stringslite_Clone s _ h).mono ?_
  rintro e w1 ⟨rfl, b1⟩
  go_wp2
  go_ret
  exact ⟨rfl, b1⟩

theorem nodup_ne {acc : List ByteArray} (h : acc.Nodup) {i j : Nat} (hi : i < acc.length) (hj : j < acc.length) (hne : i ≠ j) : acc[i] ≠ acc[j] := by
  rcases Nat.lt_or_gt_of_ne hne with hl | hl
  · exact List.pairwise_iff_getElem.1 h i j hi hj hl
  · exact fun e => List.pairwise_iff_getElem.1 h j i hj hi hl e.symm
theorem invKey : ∀ (key : Value) (kl : Lit), keyOf Try.prog 9 key = some kl → ∃ x, key = Value.string x := fun key kl h => by
  obtain ⟨s, h1, _⟩ := WideMaps.string_of_keyOf Try.underlying9 h
  exact ⟨s, h1⟩
theorem invNum : ∀ (v : Value) (y : DataW Unit × List MemPlace), plainElem Try.prog 3 v = some y → ∃ c, v = Value.int .i64 c := fun v y h => by
  obtain ⟨c, h1, _⟩ := plainElem_int_inv Try.underlying3 h
  exact ⟨c, h1⟩
set_option maxRecDepth 100000 in
/-- what an entry of the map says -/
theorem entry_says {acc : List ByteArray} (hn : acc.Nodup) {x : ByteArray} {c : Int} {kl : Lit} {y : DataW Unit × List MemPlace} (hk : keyOf Try.prog 9 (.string x) = some kl) (hv : plainElem Try.prog 3 (.int .i64 c) = some y) (hat : ∀ z, (mapD acc).atKey kl z = y.1) :
    kl = symKey x ∧ ∃ i, ∃ h : i < acc.length, x = acc[i] ∧ c = (i : Int) := by
  obtain ⟨s, h1, h2, _⟩ := WideMaps.string_of_keyOf Try.underlying9 hk
  injection h1 with h1
  subst h1
  subst h2
  obtain ⟨c', e1, e2, _⟩ := plainElem_int_inv Try.underlying3 hv
  injection e1 with _ e1
  subst e1
  have hin := (mapD_has acc x).symm.trans (has_true_of_atKey (D := mapD acc) (k := symKey x) hat)
  obtain ⟨i, hi, rfl⟩ := List.getElem_of_mem ((inB_iff _ _).1 hin)
  refine ⟨rfl, i, hi, rfl, ?_⟩
  have h3 := (mapD_at acc hn i hi (.map [])).symm.trans (hat (.map []))
  rw [e2] at h3
  unfold symNum at h3
  injection h3 with h3
  injection h3 with _ h3
  exact h3.symm

set_option maxRecDepth 100000 in
set_option maxHeartbeats 2000000 in
theorem told_any (b : Nat) (acc : List ByteArray) (w : World) (h : Nums w b acc) (hn : acc.Nodup) (hl : acc.length ≤ 1000000) (hs : ∀ s ∈ acc, s.size ≤ 1000000) :
    Calls Try.prog 80 #[.agg #[.map (some b)]] w fun e w' => ∃ u g, e = .returned u ∧ OwnS w' g u acc ∧ w.heap.size ≤ g ∧ g < w'.heap.size ∧ Below w.heap.size w w' := by
  have HS := Lib.hid (mapD_size acc hn)
  have HN := Lib.hid hn
  have HZ := Lib.hid hs
  have hbl := h.lt
  have hmk := run_make_row' (P := Try.prog) 66 9 (.string ByteArray.empty) 16 Try.underlying66 Try.infoStr rfl .i64 .i64 acc.length (by omega) (by omega)
  clear hn hs
  go_enter Try.func80, Try.ntmps80
  go_wp2_with (first | (at_len; refine wpList_len_own _ rfl _ 116 rfl 9 3 Try.underlying116 _ b _ _ rfl (World.ownsMap.alloc h _) ?_; rw [HS.out]) | (at_range; refine wpList_range_own _ rfl _ 116 rfl 9 3 keyLaw Try.underlying116 _ b _ _ rfl (World.ownsMap.alloc (World.ownsMap.alloc h _) _) ?_; intro w0 hrg0 hg0 hs0))
  go_frame
  have hr : ((w.alloc (Obj.cells #[Value.map (some b)] 120)).alloc (Obj.cells (madeCells #[Value.string ByteArray.empty] acc.length) 9)).heap.size = w.heap.size + 2 := by simp
  have row0 : Row w0 (w.heap.size + 1) 9 (madeCells #[Value.string ByteArray.empty] acc.length) := by
    have := Row.made (w.alloc (Obj.cells #[Value.map (some b)] 120)) 9 (madeCells #[Value.string ByteArray.empty] acc.length)
    exact Row.same (by simpa using this) (hg0.block _ (by rw [hr]; omega) (by simp))
  have bel0 : Below w.heap.size w w0 := (al2 w _ _).grown hg0 (by rw [hr]; omega) (fun k hk => by cases hk)
  generalize ((w.alloc (Obj.cells #[Value.map (some b)] 120)).alloc (Obj.cells (madeCells #[Value.string ByteArray.empty] acc.length) 9)).heap.size = r at *
  have hr2 : w.heap.size + 1 < r := by omega
  have HR := Lib.hid hr
  clear hr hg0 hs0
  go_loopw [4, 5] (fun _ _ wr => ∃ (left : Lit → Bool) (cnt : Nat) (cur : Array Value), wr.ranges Try.prog 9 (plainElem Try.prog 3) b r acc.length (mapD acc) left cnt ∧ Row wr (w.heap.size + 1) 9 cur ∧ cur.size = acc.length ∧
    (∀ i (h : i < acc.length), left (symKey acc[i]) = false → cur[i]? = some (.string acc[i])) ∧ Below w.heap.size w wr) (fun _ _ wr => wr.rangeLeft b r)
  case atStart => exact ⟨_, _, _, hrg0, row0, size_madeCells _ _, (fun i hi hf => by rw [mapD_has, (inB_iff _ _).2 (List.getElem_mem hi)] at hf; cases hf), bel0⟩
  case round =>
    obtain ⟨left, cnt, cur, hrg, hrow, hcs, hall, hbw⟩ := hrel
    have HRG := Lib.hid hrg
    have HRW := Lib.hid hrow
    have HCS := Lib.hid hcs
    have HALL := Lib.hid hall
    have hsw := hbw.size
    have hgl := hrow.lt
    clear hrg hrow hcs hall hrg0 row0 bel0
    go_wp2_with (at_next; refine wpList_next_ranges _ rfl _ rfl 9 keyLaw (plainElem Try.prog 3) Value.string (Value.int .i64) invKey invNum b r acc.length (mapD acc) left cnt rfl HRG.out ?_ ?_)
    · intro _ hl0
      go_wp2
      go_ret
      refine ⟨_, w.heap.size + 1, rfl, ⟨_, _, rfl, Nat.le_refl _, by unfold maxLen; omega, fun s hs => by have := HZ.out s hs; unfold maxLen; omega, fun _ => ⟨0, cur, rfl, HRW.out, fun i hi => ?_⟩⟩, by omega, hgl, hbw⟩
      rw [Nat.zero_add]
      exact HALL.out i hi (hl0 _)
    · intro x c kl y ps w1 cnt1 hkx hlk hvc hat hrg1 hlt1 hg1 hs1 hen
      obtain ⟨hkl, i, hi, hx, hc⟩ := entry_says (y := (y, ps)) HN.out hkx hvc hat
      subst hc
      have hxs : x.size ≤ 281474976710656 := by rw [hx]; have := HZ.out acc[i] (List.getElem_mem hi); omega
      have HX := Lib.hid hx
      have HKL := Lib.hid hkl
      have HG1 := Lib.hid hg1
      have HS1 := Lib.hid hs1
      have HR1 := Lib.hid hrg1
      have hneb : b ≠ w.heap.size + 1 := by omega
      clear hat hkx hlk hvc hg1 hs1 hrg1 hx hkl
      go_wp2_with fail
      refine (clone_any x _ hxs).mono ?_
      rintro e w2 ⟨rfl, b2⟩
      have row1 : Row w1 (w.heap.size + 1) 9 cur := HRW.out.same (HG1.out.block _ hgl (by simp; omega))
      have row2 := row1.below b2 row1.lt
      obtain ⟨u0, hd⟩ := row2.there (show i < cur.size by rw [HCS.out]; exact hi)
      have hf := row2.free i
      have HROW2 := Lib.hid row2
      have hrl := HR1.out.lt
      have hbl1 := HR1.out.owns.lt
      have hrg2 : w2.ranges Try.prog 9 (plainElem Try.prog 3) b r acc.length (mapD acc) (fun z => left z && !z.sameKey kl) cnt1 := HR1.out.kept (row := none) ⟨b2.os, b2.tape, b2.output, b2.size, fun k hk _ => b2.block k hk⟩ (by simp) (by simp)
      have HRG2 := Lib.hid hrg2
      have hb1 : Below w.heap.size w w1 := hbw.grown HG1.out hsw (fun k hk => by injection hk with hk; omega)
      have hb2 := hb1.trans (b2.mono hb1.size)
      clear row1 row2 hrg2 hen
      have hii : (i : Int) < (acc.length : Int) := by omega
      have hnew : (w2.setCell ⟨w.heap.size + 1, i, none⟩ (.string x)).ranges Try.prog 9 (plainElem Try.prog 3) b r acc.length (mapD acc) (fun z => left z && !z.sameKey kl) cnt1 := HRG2.out.kept (row := some (w.heap.size + 1)) ⟨rfl, rfl, rfl, by simp [World.setCell], fun k _ hne => Below.heap_setCell _ _ _ _ (fun e => hne (by rw [e]))⟩ (by simp; omega) (by simp; omega)
      have HNEW := Lib.hid hnew
      clear hnew
      go_wp2
      go_roundw
      case rel =>
        refine ⟨_, cnt1, _, HNEW.out, HROW2.out.put i _, by simp [HCS.out], fun j hj hfalse => ?_, hb2.setCell (by simp) _⟩
        by_cases e : j = i
        · subst e; rw [Array.getElem?_setIfInBounds_self_of_lt (by rw [HCS.out]; exact hj), HX.out]
        · rw [Array.getElem?_setIfInBounds_ne (by omega)]
          refine HALL.out j hj ?_
          rw [HKL.out, HX.out] at hfalse
          have hne : acc[j] ≠ acc[i] := nodup_ne HN.out hj hi e
          rw [sameKey_ne (sameKey_ne' hne)] at hfalse
          simpa using hfalse
      case measure => rw [HNEW.out.left_eq, HRG.out.left_eq]; exact hlt1
end Go.Proofs.Ytbaofldcdcllfaa

/- The walks of isSymbol and l02Of, of IsHead and IsToken: both programs say of a text whether it is a symbol by one and the same function, symB. -/
namespace Go.Proofs.Ytbaofldcdcllfaa
open Go.RowKit

theorem ret_bool {a b : Bool} (h : a = b) : Ending.returned (.bool a) = .returned (.bool b) := by rw [h]

/-- is each of the first k bytes of s one from lo to hi? -/
def AllIn (lo hi : Nat) (s : ByteArray) (k : Nat) : Prop := ∀ j, (h : j < s.size) → j < k → lo ≤ s[j].toNat ∧ s[j].toNat ≤ hi
def symB (lo hi : Nat) (s : ByteArray) : Bool := decide (1 ≤ s.size) && decide (s.size ≤ 4) && s.data.toList.all (fun c => decide (lo ≤ c.toNat) && decide (c.toNat ≤ hi))

theorem symB_iff (lo hi : Nat) (s : ByteArray) : symB lo hi s = true ↔ 1 ≤ s.size ∧ s.size ≤ 4 ∧ AllIn lo hi s s.size := by
  simp only [symB, Bool.and_eq_true, decide_eq_true_eq, List.all_eq_true, AllIn]
  constructor
  · rintro ⟨⟨h1, h2⟩, h3⟩
    exact ⟨h1, h2, fun j hj _ => h3 s[j] (by show s.data[j] ∈ _; simp)⟩
  · rintro ⟨h1, h2, h3⟩
    refine ⟨⟨h1, h2⟩, fun c hc => ?_⟩
    obtain ⟨j, hj, rfl⟩ := List.getElem_of_mem hc
    exact h3 j (by simpa using hj) (by simpa using hj)
theorem symB_t {lo hi : Nat} {s : ByteArray} (h1 : 1 ≤ s.size) (h2 : s.size ≤ 4) (h : AllIn lo hi s s.size) : symB lo hi s = true := (symB_iff lo hi s).2 ⟨h1, h2, h⟩
theorem symB_f {lo hi : Nat} {s : ByteArray} {k : Nat} (h1 : k < s.size) (h : ¬ (lo ≤ s[k].toNat ∧ s[k].toNat ≤ hi)) : symB lo hi s = false := by
  rw [Bool.eq_false_iff]; intro e
  exact h (((symB_iff lo hi s).1 e).2.2 k h1 h1)
theorem symB_len {lo hi : Nat} {s : ByteArray} (h : ¬ (1 ≤ s.size ∧ s.size ≤ 4)) : symB lo hi s = false := by
  rw [Bool.eq_false_iff]; intro e
  have := (symB_iff lo hi s).1 e
  exact h ⟨this.1, this.2.1⟩
theorem AllIn.succ {lo hi : Nat} {s : ByteArray} {k : Nat} (h : AllIn lo hi s k) (hk : k < s.size) (h1 : lo ≤ s[k].toNat ∧ s[k].toNat ≤ hi) : AllIn lo hi s (k + 1) := by
  intro j hj hjk
  rcases Nat.lt_or_ge j k with h2 | h2
  · exact h j hj h2
  · have : j = k := by omega
    subst this; exact h1

set_option maxHeartbeats 1000000 in
theorem implIsSymbol_any (s : ByteArray) (lo hi : Nat) (w : World) (hhi : hi < 128) (hlo : lo ≤ hi) :
    Calls Try.prog 122 #[.string s, .int .i32 lo, .int .i32 hi] w fun e w' => e = .returned (.bool (symB lo hi s)) ∧ Below w.heap.size w w' := by
  by_cases h1 : s.size < 1
  · go_enter Try.func122, Try.ntmps122
    go_wp2
    go_ret
    exact ⟨ret_bool (by rw [symB_len (by omega)]), Below.refl _ _⟩
  by_cases h2 : 4 < s.size
  · go_enter Try.func122, Try.ntmps122
    go_wp2
    go_ret
    exact ⟨ret_bool (by rw [symB_len (by omega)]), Below.refl _ _⟩
  go_enter Try.func122, Try.ntmps122
  go_wp2
  go_loopw [] (fun w' => ∃ (pos : Nat), w' = w.iter s pos ∧ pos ≤ s.size ∧ AllIn lo hi s pos) (fun w' => s.size - w'.iterPos w.heap.size)
  case atStart => exact ⟨0, rfl, by omega, fun j _ hj => by omega⟩
  case round =>
    obtain ⟨pos, rfl, hps, hall⟩ := hrel
    have HA := Lib.hid hall
    clear hall
    by_cases hp : pos < s.size
    · by_cases ha : (s[pos]'hp).toNat < 128
      · have hnx : ∀ ty, (Instr.next (.pointer (some ⟨w.heap.size, 0, none⟩)) true ty).run Try.prog (w.iter s pos) = _ := fun ty => run_next_ascii w s pos ty hp ha
        by_cases c1 : ((s[pos]'hp).toNat : Int) < (lo : Int)
        · go_wp2
          go_ret
          exact ⟨ret_bool (symB_f hp (by omega)).symm, (Below.refl _ _).alloc (Nat.le_refl _) _⟩
        · have d1 : decide (((s[pos]'hp).toNat : Int) < (lo : Int)) = false := decide_eq_false c1
          by_cases c2 : ((s[pos]'hp).toNat : Int) > (hi : Int)
          · have d2 : decide (((s[pos]'hp).toNat : Int) > (hi : Int)) = true := decide_eq_true c2
            go_wp2
            go_ret
            exact ⟨ret_bool (symB_f hp (by omega)).symm, (Below.refl _ _).alloc (Nat.le_refl _) _⟩
          · have d2 : decide (((s[pos]'hp).toNat : Int) > (hi : Int)) = false := decide_eq_false c2
            go_wp2
            go_roundw
            case rel => exact ⟨pos + 1, rfl, by omega, HA.out.succ hp (by omega)⟩
            case measure => simp; omega
      · have hnx : ∀ ty, (Instr.next (.pointer (some ⟨w.heap.size, 0, none⟩)) true ty).run Try.prog (w.iter s pos) = _ := fun ty => run_next_any w s pos ty hp
        have hh := decode_high s pos hp (by omega)
        have d1 : decide (((Utf8.decode s pos).1 : Int) < (lo : Int)) = false := decide_eq_false (by omega)
        have d2 : decide (((Utf8.decode s pos).1 : Int) > (hi : Int)) = true := decide_eq_true (by omega)
        go_wp2
        go_ret
        exact ⟨ret_bool (symB_f hp (by omega)).symm, (Below.refl _ _).alloc (Nat.le_refl _) _⟩
    · have hnx : ∀ ty, (Instr.next (.pointer (some ⟨w.heap.size, 0, none⟩)) true ty).run Try.prog (w.iter s pos) = _ := fun ty => run_next_end w s pos ty hp
      have hks : pos = s.size := by omega
      have HK := Lib.hid hks
      clear hks
      go_wp2
      go_ret
      exact ⟨ret_bool (symB_t (by omega) (by omega) (by have := HA.out; rwa [HK.out] at this)).symm, (Below.refl _ _).alloc (Nat.le_refl _) _⟩

set_option maxHeartbeats 1000000 in
theorem specOf_any (s : ByteArray) (lo hi : Nat) (w : World) (hs : s.size ≤ maxLen) :
    Calls Try.prog 96 #[.string s, .int .u8 lo, .int .u8 hi] w fun e w' => e = .returned (.bool (symB lo hi s)) ∧ w = w' := by
  unfold maxLen at hs
  go_enter Try.func96, Try.ntmps96
  go_wp2
  go_loop [7] (fun i => ∃ k : Nat, k ≤ s.size ∧ i = .int .i64 k ∧ AllIn lo hi s k) (fun i => s.size - (intOf i).toNat)
  case atStart => exact ⟨0, by omega, rfl, fun j _ hj => by omega⟩
  case round =>
    obtain ⟨k, hk, rfl, hall⟩ := hrel
    have HA := Lib.hid hall
    clear hall
    by_cases hlt : k < s.size
    · by_cases c1 : ((s[k]'hlt).toNat : Int) < (lo : Int)
      · go_wp2
        go_ret
        exact ⟨ret_bool (symB_f hlt (by omega)).symm, rfl⟩
      · have d1 : decide (((s[k]'hlt).toNat : Int) < (lo : Int)) = false := decide_eq_false c1
        by_cases c2 : ((s[k]'hlt).toNat : Int) > (hi : Int)
        · have d2 : decide (((s[k]'hlt).toNat : Int) > (hi : Int)) = true := decide_eq_true c2
          go_wp2
          go_ret
          exact ⟨ret_bool (symB_f hlt (by omega)).symm, rfl⟩
        · have d2 : decide (((s[k]'hlt).toNat : Int) > (hi : Int)) = false := decide_eq_false c2
          go_wp2
          go_round
          case rel => exact ⟨k + 1, by omega, by go_num, HA.out.succ hlt (by omega)⟩
          case measure => simp [intOf]; omega
    · have hks : k = s.size := by omega
      have HK := Lib.hid hks
      clear hks
      by_cases h1 : 1 ≤ s.size
      · by_cases h4 : s.size ≤ 4
        · go_wp2
          go_ret
          exact ⟨ret_bool (by rw [symB_t (by omega) (by omega) (by have := HA.out; rwa [HK.out] at this)]; simp; omega), rfl⟩
        · go_wp2
          go_ret
          exact ⟨ret_bool (by rw [symB_len (by omega)]; simp; omega), rfl⟩
      · go_wp2
        go_ret
        exact ⟨ret_bool (by rw [symB_len (by omega)]), rfl⟩

def headB (s : ByteArray) : Bool := symB 65 90 s
def tokB (s : ByteArray) : Bool := symB 97 122 s

set_option maxHeartbeats 400000 in
theorem implIsHead_any (s : ByteArray) (w : World) :
    Calls Try.prog 119 #[.string s] w fun e w' => e = .returned (.bool (headB s)) ∧ Below w.heap.size w w' := by
  go_enter Try.func119, Try.ntmps119
  go_wp2_with (go_at_call 122; refine (implIsSymbol_any s 65 90 _ (by omega) (by omega)).mono ?_; rintro e w' ⟨rfl, hb⟩)
  go_ret
  exact ⟨rfl, hb⟩
set_option maxHeartbeats 400000 in
theorem implIsToken_any (s : ByteArray) (w : World) :
    Calls Try.prog 111 #[.string s] w fun e w' => e = .returned (.bool (tokB s)) ∧ Below w.heap.size w w' := by
  go_enter Try.func111, Try.ntmps111
  go_wp2_with (go_at_call 122; refine (implIsSymbol_any s 97 122 _ (by omega) (by omega)).mono ?_; rintro e w' ⟨rfl, hb⟩)
  go_ret
  exact ⟨rfl, hb⟩
set_option maxHeartbeats 400000 in
theorem specIsHead_any (s : ByteArray) (w : World) (hs : s.size ≤ maxLen) :
    Calls Try.prog 62 #[.string s] w fun e w' => e = .returned (.bool (headB s)) ∧ w = w' := by
  go_enter Try.func62, Try.ntmps62
  go_wp2_with (go_at_call 96; refine (specOf_any s 65 90 _ hs).mono ?_; rintro e w' ⟨rfl, rfl⟩)
  go_ret
  exact ⟨rfl, rfl⟩
set_option maxHeartbeats 400000 in
theorem specIsToken_any (s : ByteArray) (w : World) (hs : s.size ≤ maxLen) :
    Calls Try.prog 63 #[.string s] w fun e w' => e = .returned (.bool (tokB s)) ∧ w = w' := by
  go_enter Try.func63, Try.ntmps63
  go_wp2_with (go_at_call 96; refine (specOf_any s 97 122 _ hs).mono ?_; rintro e w' ⟨rfl, rfl⟩)
  go_ret
  exact ⟨rfl, rfl⟩
end Go.Proofs.Ytbaofldcdcllfaa
