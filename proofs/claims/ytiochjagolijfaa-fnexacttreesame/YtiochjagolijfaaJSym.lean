import Derived.Test.YtiochjagolijfaaJIad
import Derived.Test.YtiochjagolijfaaIsz
import Derived.Deep.AppendLies
import Derived.Test.YtiochjagolijfaaRows
import Derived.WalkKit
import Derived.WalkSpells
import Derived.WalkLawsBesides
import Derived.Lib.Hide
import Derived.Below
import Derived.Laws.RangeAny
/- Lists of trees to be held against each other: the stack of them in memory; what two trees have of their own. -/
namespace Go.Proofs.Ytiochjagolijfaa
open Go.RowKit

def ownT (t : TreeD) : Int × ByteArray := (t.rule, t.tok)
def OwnsEq (x y : List TreeD) : Prop := x.length = y.length ∧ ∀ i (h : i < x.length) (h' : i < y.length), ownT x[i] = ownT y[i]
theorem ownsEq_of {x y : List TreeD} (h : x = y) : OwnsEq x y := by subst h; exact ⟨rfl, fun _ _ _ => rfl⟩
theorem ext_own (a b : TreeD) (h : ownT a = ownT b) (k : a.kids = b.kids) : a = b := by
  unfold ownT at h
  injection h with h1 h2
  exact TreeD.ext_of h1 h2 k
theorem kids_less (x : List TreeD) (i : Nat) (h : i < x.length) : sizeTs x[i].kids < sizeTs x := by
  have a := sizeTs_get x i h
  have b := sizeT_eq x[i]
  omega
def costQ (L : List (Pr2 TreeD)) : Nat := (L.map fun p => sizeTs p.a + 1).sum
theorem costQ_snoc (L : List (Pr2 TreeD)) (p : Pr2 TreeD) : costQ (L ++ [p]) = costQ L + (sizeTs p.a + 1) := by simp [costQ]
theorem costQ_len (L : List (Pr2 TreeD)) : L.length ≤ costQ L := by
  induction L with
  | nil => simp
  | cons p L ih => simp [costQ] at ih ⊢; omega
/-- the stack in memory -/
def flatQ (L : List (Pr2 TreeD)) : List Value := L.flatMap fun p => [p.va, p.vb]
theorem flatQ_snoc (L : List (Pr2 TreeD)) (p : Pr2 TreeD) : flatQ (L ++ [p]) = flatQ L ++ [p.va, p.vb] := by simp [flatQ]
theorem flatQ_len (L : List (Pr2 TreeD)) : (flatQ L).length = L.length * 2 := by
  induction L with
  | nil => rfl
  | cons x l ih => simp only [flatQ, List.flatMap_cons, List.length_append, List.length_cons, List.length_nil] at ih ⊢; omega
def Stq (w : World) (base : Nat) (v : Value) (L : List (Pr2 TreeD)) : Prop := w.ownsRow base 125 2 v L.length (flatQ L)
theorem Stq.keep {w w' : World} {base : Nat} {v : Value} {L : List (Pr2 TreeD)} (h : Stq w base v L) (k : ∀ g, v.ownBlock = some g → w'.heap[g]? = w.heap[g]?) : Stq w' base v L := by
  refine ⟨h.1, ?_⟩
  rcases h.2 with a | ⟨g, cap, cur, rfl, hb, hh, rest⟩
  · exact .inl a
  · exact .inr ⟨g, cap, cur, rfl, hb, (k g rfl).trans hh, rest⟩
theorem Stq.block {w : World} {base : Nat} {v : Value} {L : List (Pr2 TreeD)} (h : Stq w base v L) : ∀ g, v.ownBlock = some g → base ≤ g ∧ g < w.heap.size := fun g hg => World.ownsRow.lt h g hg
theorem Stq.form {w : World} {base : Nat} {v : Value} {L : List (Pr2 TreeD)} (h : Stq w base v L) : ∃ A cap, v = .slice A L.length cap ∧ L.length ≤ cap ∧ cap ≤ maxLen := by
  rcases h.2 with ⟨rfl, h0⟩ | ⟨g, cap, cur, rfl, hb, hh, h1, h2, _⟩
  · exact ⟨none, 0, by rw [h0], by omega, by unfold maxLen; omega⟩
  · exact ⟨_, cap, rfl, h1, h2⟩
theorem Stq.parts {w : World} {base : Nat} {v : Value} {L : List (Pr2 TreeD)} {p : Pr2 TreeD} (h : Stq w base v (L ++ [p])) :
    ∃ g cap, v = .slice (some ⟨g, 0, none⟩) (L.length + 1) cap ∧ base ≤ g ∧ g < w.heap.size ∧ L.length + 1 ≤ cap ∧ cap ≤ maxLen ∧
      w.cell? ⟨g, L.length * 2, none⟩ = some p.va ∧ w.cell? ⟨g, L.length * 2 + 1, none⟩ = some p.vb ∧ Stq w base (.slice (some ⟨g, 0, none⟩) L.length cap) L := by
  have hl : (L ++ [p]).length = L.length + 1 := by simp
  unfold Stq at h
  rw [flatQ_snoc, hl] at h
  have hf := flatQ_len L
  obtain ⟨h1, h2⟩ := h
  rcases h2 with ⟨_, h0⟩ | ⟨g, cap, cur, rfl, hb, hh, hc, hm, hs, ht⟩
  · omega
  have hr : Row w g 125 cur := hh
  have cell : ∀ j, j < (L.length + 1) * 2 → cur[j]? = (flatQ L ++ [p.va, p.vb])[j]? := fun j hj => by
    rw [← ht, List.getElem?_take_of_lt hj, Array.getElem?_toList]
  refine ⟨g, cap, rfl, hb, hr.lt, hc, hm, ?_, ?_, ?_⟩
  · rw [hr.cell, cell _ (by omega), List.getElem?_append_right (by omega), hf]; simp
  · rw [hr.cell, cell _ (by omega), List.getElem?_append_right (by omega), hf]; simp [show L.length * 2 + 1 - L.length * 2 = 1 by omega]
  · refine ⟨hf, .inr ⟨g, cap, cur, rfl, hb, hh, by omega, hm, hs, ?_⟩⟩
    have := congrArg (List.take (L.length * 2)) ht
    rw [List.take_take, Nat.min_eq_left (by omega), List.take_append_of_le_length (by omega)] at this
    rw [this]
    exact List.take_of_length_le (by omega)
theorem Stq.made (w : World) (base : Nat) (p : Pr2 TreeD) (hb : base ≤ w.heap.size) : Stq (w.alloc (.cells #[p.va, p.vb] 125)) base (.slice (some ⟨w.heap.size, 0, none⟩) 1 1) [p] := by
  refine ⟨by simp [flatQ], .inr ⟨w.heap.size, 1, _, rfl, hb, heap_alloc_new w _, by simp, by unfold maxLen; omega, rfl, ?_⟩⟩
  simp [flatQ]
theorem Try.infoTwoU : (Try.prog.info? 125).map (fun i => (i.zero, i.size, i.bytes)) = some (some (.agg #[.slice none 0 0, .slice none 0 0]), 2, 48) := by kernel_rfl
theorem twoU_one (A B : Option Addr) (n c m d : Nat) : ∀ u ∈ [Value.slice A n c, .slice B m d], u.oneCell' = true := by
  intro u hu
  simp only [List.mem_cons, List.not_mem_nil, or_false] at hu
  rcases hu with rfl | rfl <;> rfl
theorem twoU_new (w : World) (a b : Value) : ∀ j u, [a, b][j]? = some u → (w.alloc (.cells #[a, b] 125)).cell? ((⟨w.heap.size, 0, none⟩ : Addr).add j) = some u :=
  World.news_of_block (cs := #[a, b]) (t := 125) (fr := (0, 0)) (heap_alloc_new _ _)
end Go.Proofs.Ytiochjagolijfaa

/- The walks of isSymbol and l02Of, of IsHead and IsToken: both programs say of a text whether it is a symbol by one and the same function, symB. -/
namespace Go.Proofs.Ytiochjagolijfaa
open Go.RowKit

theorem ret_bool {a b : Bool} (h : a = b) : Ending.returned (.bool a) = .returned (.bool b) := by rw [h]

/-- is each of the first k bytes of s one from lo to hi? -/
def AllIn (lo hi : Nat) (s : ByteArray) (k : Nat) : Prop := ∀ j, (h : j < s.size) → j < k → lo ≤ s[j].toNat ∧ s[j].toNat ≤ hi
def symB (lo hi : Nat) (s : ByteArray) : Bool := decide (1 ≤ s.size) && decide (s.size ≤ 4) && s.data.toList.all (fun c => decide (lo ≤ c.toNat) && decide (c.toNat ≤ hi))

theorem symB_iff (lo hi : Nat) (s : ByteArray) : symB lo hi s = true ↔ 1 ≤ s.size ∧ s.size ≤ 4 ∧ AllIn lo hi s s.size := by
  simp only [symB, Bool.and_eq_true, decide_eq_true_eq, List.all_eq_true, AllIn]
  constructor
  · rintro ⟨⟨h1, h2⟩, h3⟩
    exact ⟨h1, h2, fun j hj _ => h3 s[j] (by show s.data[j] ∈ _; simp)⟩
  · rintro ⟨h1, h2, h3⟩
    refine ⟨⟨h1, h2⟩, fun c hc => ?_⟩
    obtain ⟨j, hj, rfl⟩ := List.getElem_of_mem hc
    exact h3 j (by simpa using hj) (by simpa using hj)
theorem symB_t {lo hi : Nat} {s : ByteArray} (h1 : 1 ≤ s.size) (h2 : s.size ≤ 4) (h : AllIn lo hi s s.size) : symB lo hi s = true := (symB_iff lo hi s).2 ⟨h1, h2, h⟩
theorem symB_f {lo hi : Nat} {s : ByteArray} {k : Nat} (h1 : k < s.size) (h : ¬ (lo ≤ s[k].toNat ∧ s[k].toNat ≤ hi)) : symB lo hi s = false := by
  rw [Bool.eq_false_iff]; intro e
  exact h (((symB_iff lo hi s).1 e).2.2 k h1 h1)
theorem symB_len {lo hi : Nat} {s : ByteArray} (h : ¬ (1 ≤ s.size ∧ s.size ≤ 4)) : symB lo hi s = false := by
  rw [Bool.eq_false_iff]; intro e
  have := (symB_iff lo hi s).1 e
  exact h ⟨this.1, this.2.1⟩
theorem AllIn.succ {lo hi : Nat} {s : ByteArray} {k : Nat} (h : AllIn lo hi s k) (hk : k < s.size) (h1 : lo ≤ s[k].toNat ∧ s[k].toNat ≤ hi) : AllIn lo hi s (k + 1) := by
  intro j hj hjk
  rcases Nat.lt_or_ge j k with h2 | h2
  · exact h j hj h2
  · have : j = k := by omega
    subst this; exact h1

set_option maxHeartbeats 1000000 in
theorem implIsSymbol_any (s : ByteArray) (lo hi : Nat) (w : World) (hhi : hi < 128) (hlo : lo ≤ hi) :
    Calls Try.prog 77 #[.string s, .int .i32 lo, .int .i32 hi] w fun e w' => e = .returned (.bool (symB lo hi s)) ∧ Below w.heap.size w w' := by
  by_cases h1 : s.size < 1
  · go_enter Try.func77, Try.ntmps77
    go_wp2
    go_ret
    exact ⟨ret_bool (by rw [symB_len (by omega)]), Below.refl _ _⟩
  by_cases h2 : 4 < s.size
  · go_enter Try.func77, Try.ntmps77
    go_wp2
    go_ret
    exact ⟨ret_bool (by rw [symB_len (by omega)]), Below.refl _ _⟩
  go_enter Try.func77, Try.ntmps77
  go_wp2
  go_loopw [] (fun w' => ∃ (pos : Nat), w' = w.iter s pos ∧ pos ≤ s.size ∧ AllIn lo hi s pos) (fun w' => s.size - w'.iterPos w.heap.size)
  case atStart => exact ⟨0, rfl, by omega, fun j _ hj => by omega⟩
  case round =>
    obtain ⟨pos, rfl, hps, hall⟩ := hrel
    have HA := Lib.hid hall
    clear hall
    by_cases hp : pos < s.size
    · by_cases ha : (s[pos]'hp).toNat < 128
      · have hnx : ∀ ty, (Instr.next (.pointer (some ⟨w.heap.size, 0, none⟩)) true ty).run Try.prog (w.iter s pos) = _ := fun ty => run_next_ascii w s pos ty hp ha
        by_cases c1 : ((s[pos]'hp).toNat : Int) < (lo : Int)
        · go_wp2
          go_ret
          exact ⟨ret_bool (symB_f hp (by omega)).symm, (Below.refl _ _).alloc (Nat.le_refl _) _⟩
        · have d1 : decide (((s[pos]'hp).toNat : Int) < (lo : Int)) = false := decide_eq_false c1
          by_cases c2 : ((s[pos]'hp).toNat : Int) > (hi : Int)
          · have d2 : decide (((s[pos]'hp).toNat : Int) > (hi : Int)) = true := decide_eq_true c2
            go_wp2
            go_ret
            exact ⟨ret_bool (symB_f hp (by omega)).symm, (Below.refl _ _).alloc (Nat.le_refl _) _⟩
          · have d2 : decide (((s[pos]'hp).toNat : Int) > (hi : Int)) = false := decide_eq_false c2
            go_wp2
            go_roundw
            case rel => exact ⟨pos + 1, rfl, by omega, HA.out.succ hp (by omega)⟩
            case measure => simp; omega
      · have hnx : ∀ ty, (Instr.next (.pointer (some ⟨w.heap.size, 0, none⟩)) true ty).run Try.prog (w.iter s pos) = _ := fun ty => run_next_any w s pos ty hp
        have hh := decode_high s pos hp (by omega)
        have d1 : decide (((Utf8.decode s pos).1 : Int) < (lo : Int)) = false := decide_eq_false (by omega)
        have d2 : decide (((Utf8.decode s pos).1 : Int) > (hi : Int)) = true := decide_eq_true (by omega)
        go_wp2
        go_ret
        exact ⟨ret_bool (symB_f hp (by omega)).symm, (Below.refl _ _).alloc (Nat.le_refl _) _⟩
    · have hnx : ∀ ty, (Instr.next (.pointer (some ⟨w.heap.size, 0, none⟩)) true ty).run Try.prog (w.iter s pos) = _ := fun ty => run_next_end w s pos ty hp
      have hks : pos = s.size := by omega
      have HK := Lib.hid hks
      clear hks
      go_wp2
      go_ret
      exact ⟨ret_bool (symB_t (by omega) (by omega) (by have := HA.out; rwa [HK.out] at this)).symm, (Below.refl _ _).alloc (Nat.le_refl _) _⟩

set_option maxHeartbeats 1000000 in
theorem specOf_any (s : ByteArray) (lo hi : Nat) (w : World) (hs : s.size ≤ maxLen) :
    Calls Try.prog 75 #[.string s, .int .u8 lo, .int .u8 hi] w fun e w' => e = .returned (.bool (symB lo hi s)) ∧ w = w' := by
  unfold maxLen at hs
  go_enter Try.func75, Try.ntmps75
  go_wp2
  go_loop [7] (fun i => ∃ k : Nat, k ≤ s.size ∧ i = .int .i64 k ∧ AllIn lo hi s k) (fun i => s.size - (intOf i).toNat)
  case atStart => exact ⟨0, by omega, rfl, fun j _ hj => by omega⟩
  case round =>
    obtain ⟨k, hk, rfl, hall⟩ := hrel
    have HA := Lib.hid hall
    clear hall
    by_cases hlt : k < s.size
    · by_cases c1 : ((s[k]'hlt).toNat : Int) < (lo : Int)
      · go_wp2
        go_ret
        exact ⟨ret_bool (symB_f hlt (by omega)).symm, rfl⟩
      · have d1 : decide (((s[k]'hlt).toNat : Int) < (lo : Int)) = false := decide_eq_false c1
        by_cases c2 : ((s[k]'hlt).toNat : Int) > (hi : Int)
        · have d2 : decide (((s[k]'hlt).toNat : Int) > (hi : Int)) = true := decide_eq_true c2
          go_wp2
          go_ret
          exact ⟨ret_bool (symB_f hlt (by omega)).symm, rfl⟩
        · have d2 : decide (((s[k]'hlt).toNat : Int) > (hi : Int)) = false := decide_eq_false c2
          go_wp2
          go_round
          case rel => exact ⟨k + 1, by omega, by go_num, HA.out.succ hlt (by omega)⟩
          case measure => simp [intOf]; omega
    · have hks : k = s.size := by omega
      have HK := Lib.hid hks
      clear hks
      by_cases h1 : 1 ≤ s.size
      · by_cases h4 : s.size ≤ 4
        · go_wp2
          go_ret
          exact ⟨ret_bool (by rw [symB_t (by omega) (by omega) (by have := HA.out; rwa [HK.out] at this)]; simp; omega), rfl⟩
        · go_wp2
          go_ret
          exact ⟨ret_bool (by rw [symB_len (by omega)]; simp; omega), rfl⟩
      · go_wp2
        go_ret
        exact ⟨ret_bool (by rw [symB_len (by omega)]), rfl⟩

def headB (s : ByteArray) : Bool := symB 65 90 s
def tokB (s : ByteArray) : Bool := symB 97 122 s

set_option maxHeartbeats 400000 in
theorem implIsToken_any (s : ByteArray) (w : World) :
    Calls Try.prog 45 #[.string s] w fun e w' => e = .returned (.bool (tokB s)) ∧ Below w.heap.size w w' := by
  go_enter Try.func45, Try.ntmps45
  go_wp2_with (go_at_call 77; refine (implIsSymbol_any s 97 122 _ (by omega) (by omega)).mono ?_; rintro e w' ⟨rfl, hb⟩)
  go_ret
  exact ⟨rfl, hb⟩
set_option maxHeartbeats 400000 in
theorem specIsToken_any (s : ByteArray) (w : World) (hs : s.size ≤ maxLen) :
    Calls Try.prog 39 #[.string s] w fun e w' => e = .returned (.bool (tokB s)) ∧ w = w' := by
  go_enter Try.func39, Try.ntmps39
  go_wp2_with (go_at_call 75; refine (specOf_any s 97 122 _ hs).mono ?_; rintro e w' ⟨rfl, rfl⟩)
  go_ret
  exact ⟨rfl, rfl⟩
end Go.Proofs.Ytiochjagolijfaa
