import Derived.Test.YtokdhgocgicdnaaGreatDoorRows
import Derived.WalkKit
import Derived.WalkSpells
import Derived.WalkLawsBesides
import Derived.Lib.Hide
import Derived.Below
import Derived.Laws.RangeAny
import Derived.Test.YtokdhgocgicdnaaGreatDoorJTre
import Derived.Deep.OwnRows
import Derived.Lib.AppendStr
import Derived.Laws.IdiomStrings
import Derived.Laws.BytesArg
/- The walks of isSymbol and l02Of, of IsHead and IsToken: both programs say of a text whether it is a symbol by one and the same function, symB. -/
namespace Go.Proofs.YtokdhgocgicdnaaGreatDoor
open Go.RowKit

theorem ret_bool {a b : Bool} (h : a = b) : Ending.returned (.bool a) = .returned (.bool b) := by rw [h]

/-- is each of the first k bytes of s one from lo to hi? -/
def AllIn (lo hi : Nat) (s : ByteArray) (k : Nat) : Prop := ∀ j, (h : j < s.size) → j < k → lo ≤ s[j].toNat ∧ s[j].toNat ≤ hi
def symB (lo hi : Nat) (s : ByteArray) : Bool := decide (1 ≤ s.size) && decide (s.size ≤ 4) && s.data.toList.all (fun c => decide (lo ≤ c.toNat) && decide (c.toNat ≤ hi))

theorem symB_iff (lo hi : Nat) (s : ByteArray) : symB lo hi s = true ↔ 1 ≤ s.size ∧ s.size ≤ 4 ∧ AllIn lo hi s s.size := by
  simp only [symB, Bool.and_eq_true, decide_eq_true_eq, List.all_eq_true, AllIn]
  constructor
  · rintro ⟨⟨h1, h2⟩, h3⟩
    exact ⟨h1, h2, fun j hj _ => h3 s[j] (by show s.data[j] ∈ _; simp)⟩
  · rintro ⟨h1, h2, h3⟩
    refine ⟨⟨h1, h2⟩, fun c hc => ?_⟩
    obtain ⟨j, hj, rfl⟩ := List.getElem_of_mem hc
    exact h3 j (by simpa using hj) (by simpa using hj)
theorem symB_t {lo hi : Nat} {s : ByteArray} (h1 : 1 ≤ s.size) (h2 : s.size ≤ 4) (h : AllIn lo hi s s.size) : symB lo hi s = true := (symB_iff lo hi s).2 ⟨h1, h2, h⟩
theorem symB_f {lo hi : Nat} {s : ByteArray} {k : Nat} (h1 : k < s.size) (h : ¬ (lo ≤ s[k].toNat ∧ s[k].toNat ≤ hi)) : symB lo hi s = false := by
  rw [Bool.eq_false_iff]; intro e
  exact h (((symB_iff lo hi s).1 e).2.2 k h1 h1)
theorem symB_len {lo hi : Nat} {s : ByteArray} (h : ¬ (1 ≤ s.size ∧ s.size ≤ 4)) : symB lo hi s = false := by
  rw [Bool.eq_false_iff]; intro e
  have := (symB_iff lo hi s).1 e
  exact h ⟨this.1, this.2.1⟩
theorem AllIn.succ {lo hi : Nat} {s : ByteArray} {k : Nat} (h : AllIn lo hi s k) (hk : k < s.size) (h1 : lo ≤ s[k].toNat ∧ s[k].toNat ≤ hi) : AllIn lo hi s (k + 1) := by
  intro j hj hjk
  rcases Nat.lt_or_ge j k with h2 | h2
  · exact h j hj h2
  · have : j = k := by omega
    subst this; exact h1

set_option maxHeartbeats 1000000 in
theorem implIsSymbol_any (s : ByteArray) (lo hi : Nat) (w : World) (hhi : hi < 128) (hlo : lo ≤ hi) :
    Calls Tryz.prog 85 #[.string s, .int .i32 lo, .int .i32 hi] w fun e w' => e = .returned (.bool (symB lo hi s)) ∧ Below w.heap.size w w' := by
  by_cases h1 : s.size < 1
  · go_enter Tryz.func85, Tryz.ntmps85
    go_wp2
    go_ret
    exact ⟨ret_bool (by rw [symB_len (by omega)]), Below.refl _ _⟩
  by_cases h2 : 4 < s.size
  · go_enter Tryz.func85, Tryz.ntmps85
    go_wp2
    go_ret
    exact ⟨ret_bool (by rw [symB_len (by omega)]), Below.refl _ _⟩
  go_enter Tryz.func85, Tryz.ntmps85
  go_wp2
  go_loopw [] (fun w' => ∃ (pos : Nat), w' = w.iter s pos ∧ pos ≤ s.size ∧ AllIn lo hi s pos) (fun w' => s.size - w'.iterPos w.heap.size)
  case atStart => exact ⟨0, rfl, by omega, fun j _ hj => by omega⟩
  case round =>
    obtain ⟨pos, rfl, hps, hall⟩ := hrel
    have HA := Lib.hid hall
    clear hall
    by_cases hp : pos < s.size
    · by_cases ha : (s[pos]'hp).toNat < 128
      · have hnx : ∀ ty, (Instr.next (.pointer (some ⟨w.heap.size, 0, none⟩)) true ty).run Tryz.prog (w.iter s pos) = _ := fun ty => run_next_ascii w s pos ty hp ha
        by_cases c1 : ((s[pos]'hp).toNat : Int) < (lo : Int)
        · go_wp2
          go_ret
          exact ⟨ret_bool (symB_f hp (by omega)).symm, (Below.refl _ _).alloc (Nat.le_refl _) _⟩
        · have d1 : decide (((s[pos]'hp).toNat : Int) < (lo : Int)) = false := decide_eq_false c1
          by_cases c2 : ((s[pos]'hp).toNat : Int) > (hi : Int)
          · have d2 : decide (((s[pos]'hp).toNat : Int) > (hi : Int)) = true := decide_eq_true c2
            go_wp2
            go_ret
            exact ⟨ret_bool (symB_f hp (by omega)).symm, (Below.refl _ _).alloc (Nat.le_refl _) _⟩
          · have d2 : decide (((s[pos]'hp).toNat : Int) > (hi : Int)) = false := decide_eq_false c2
            go_wp2
            go_roundw
            case rel => exact ⟨pos + 1, rfl, by omega, HA.out.succ hp (by omega)⟩
            case measure => simp; omega
      · have hnx : ∀ ty, (Instr.next (.pointer (some ⟨w.heap.size, 0, none⟩)) true ty).run Tryz.prog (w.iter s pos) = _ := fun ty => run_next_any w s pos ty hp
        have hh := decode_high s pos hp (by omega)
        have d1 : decide (((Utf8.decode s pos).1 : Int) < (lo : Int)) = false := decide_eq_false (by omega)
        have d2 : decide (((Utf8.decode s pos).1 : Int) > (hi : Int)) = true := decide_eq_true (by omega)
        go_wp2
        go_ret
        exact ⟨ret_bool (symB_f hp (by omega)).symm, (Below.refl _ _).alloc (Nat.le_refl _) _⟩
    · have hnx : ∀ ty, (Instr.next (.pointer (some ⟨w.heap.size, 0, none⟩)) true ty).run Tryz.prog (w.iter s pos) = _ := fun ty => run_next_end w s pos ty hp
      have hks : pos = s.size := by omega
      have HK := Lib.hid hks
      clear hks
      go_wp2
      go_ret
      exact ⟨ret_bool (symB_t (by omega) (by omega) (by have := HA.out; rwa [HK.out] at this)).symm, (Below.refl _ _).alloc (Nat.le_refl _) _⟩

set_option maxHeartbeats 1000000 in
theorem specOf_any (s : ByteArray) (lo hi : Nat) (w : World) (hs : s.size ≤ maxLen) :
    Calls Tryz.prog 54 #[.string s, .int .u8 lo, .int .u8 hi] w fun e w' => e = .returned (.bool (symB lo hi s)) ∧ w = w' := by
  unfold maxLen at hs
  go_enter Tryz.func54, Tryz.ntmps54
  go_wp2
  go_loop [7] (fun i => ∃ k : Nat, k ≤ s.size ∧ i = .int .i64 k ∧ AllIn lo hi s k) (fun i => s.size - (intOf i).toNat)
  case atStart => exact ⟨0, by omega, rfl, fun j _ hj => by omega⟩
  case round =>
    obtain ⟨k, hk, rfl, hall⟩ := hrel
    have HA := Lib.hid hall
    clear hall
    by_cases hlt : k < s.size
    · by_cases c1 : ((s[k]'hlt).toNat : Int) < (lo : Int)
      · go_wp2
        go_ret
        exact ⟨ret_bool (symB_f hlt (by omega)).symm, rfl⟩
      · have d1 : decide (((s[k]'hlt).toNat : Int) < (lo : Int)) = false := decide_eq_false c1
        by_cases c2 : ((s[k]'hlt).toNat : Int) > (hi : Int)
        · have d2 : decide (((s[k]'hlt).toNat : Int) > (hi : Int)) = true := decide_eq_true c2
          go_wp2
          go_ret
          exact ⟨ret_bool (symB_f hlt (by omega)).symm, rfl⟩
        · have d2 : decide (((s[k]'hlt).toNat : Int) > (hi : Int)) = false := decide_eq_false c2
          go_wp2
          go_round
          case rel => exact ⟨k + 1, by omega, by go_num, HA.out.succ hlt (by omega)⟩
          case measure => simp [intOf]; omega
    · have hks : k = s.size := by omega
      have HK := Lib.hid hks
      clear hks
      by_cases h1 : 1 ≤ s.size
      · by_cases h4 : s.size ≤ 4
        · go_wp2
          go_ret
          exact ⟨ret_bool (by rw [symB_t (by omega) (by omega) (by have := HA.out; rwa [HK.out] at this)]; simp; omega), rfl⟩
        · go_wp2
          go_ret
          exact ⟨ret_bool (by rw [symB_len (by omega)]; simp; omega), rfl⟩
      · go_wp2
        go_ret
        exact ⟨ret_bool (by rw [symB_len (by omega)]), rfl⟩

def headB (s : ByteArray) : Bool := symB 65 90 s
def tokB (s : ByteArray) : Bool := symB 97 122 s

set_option maxHeartbeats 400000 in
theorem implIsHead_any (s : ByteArray) (w : World) :
    Calls Tryz.prog 82 #[.string s] w fun e w' => e = .returned (.bool (headB s)) ∧ Below w.heap.size w w' := by
  go_enter Tryz.func82, Tryz.ntmps82
  go_wp2_with (go_at_call 85; refine (implIsSymbol_any s 65 90 _ (by omega) (by omega)).mono ?_; rintro e w' ⟨rfl, hb⟩)
  go_ret
  exact ⟨rfl, hb⟩
set_option maxHeartbeats 400000 in
theorem implIsToken_any (s : ByteArray) (w : World) :
    Calls Tryz.prog 74 #[.string s] w fun e w' => e = .returned (.bool (tokB s)) ∧ Below w.heap.size w w' := by
  go_enter Tryz.func74, Tryz.ntmps74
  go_wp2_with (go_at_call 85; refine (implIsSymbol_any s 97 122 _ (by omega) (by omega)).mono ?_; rintro e w' ⟨rfl, hb⟩)
  go_ret
  exact ⟨rfl, hb⟩
set_option maxHeartbeats 400000 in
theorem specIsHead_any (s : ByteArray) (w : World) (hs : s.size ≤ maxLen) :
    Calls Tryz.prog 53 #[.string s] w fun e w' => e = .returned (.bool (headB s)) ∧ w = w' := by
  go_enter Tryz.func53, Tryz.ntmps53
  go_wp2_with (go_at_call 54; refine (specOf_any s 65 90 _ hs).mono ?_; rintro e w' ⟨rfl, rfl⟩)
  go_ret
  exact ⟨rfl, rfl⟩
set_option maxHeartbeats 400000 in
theorem specIsToken_any (s : ByteArray) (w : World) (hs : s.size ≤ maxLen) :
    Calls Tryz.prog 33 #[.string s] w fun e w' => e = .returned (.bool (tokB s)) ∧ w = w' := by
  go_enter Tryz.func33, Tryz.ntmps33
  go_wp2_with (go_at_call 54; refine (specOf_any s 97 122 _ hs).mono ?_; rintro e w' ⟨rfl, rfl⟩)
  go_ret
  exact ⟨rfl, rfl⟩
end Go.Proofs.YtokdhgocgicdnaaGreatDoor

/- The walks of GramRight: both programs say of a grammar whether it is right by one and the same function, gramB. -/
namespace Go.Proofs.YtokdhgocgicdnaaGreatDoor
open Go.RowKit

def symOK (s : ByteArray) : Bool := headB s || tokB s
def ruleB (r : RuleD) : Bool := headB r.head && decide (r.body.length ≤ 5) && r.body.all symOK
def gramB (rs : List RuleD) : Bool := decide (1 ≤ rs.length) && decide (rs.length ≤ 20) && rs.all ruleB

theorem ruleB_iff (r : RuleD) : ruleB r = true ↔ headB r.head = true ∧ r.body.length ≤ 5 ∧ ∀ i (h : i < r.body.length), symOK r.body[i] = true := by
  simp only [ruleB, Bool.and_eq_true, decide_eq_true_eq, List.all_eq_true, and_assoc]
  refine ⟨fun ⟨a, b, c⟩ => ⟨a, b, fun i h => c _ (List.getElem_mem h)⟩, fun ⟨a, b, c⟩ => ⟨a, b, fun s hs => ?_⟩⟩
  obtain ⟨i, hi, rfl⟩ := List.getElem_of_mem hs
  exact c i hi
theorem gramB_iff (rs : List RuleD) : gramB rs = true ↔ 1 ≤ rs.length ∧ rs.length ≤ 20 ∧ ∀ i (h : i < rs.length), ruleB rs[i] = true := by
  simp only [gramB, Bool.and_eq_true, decide_eq_true_eq, List.all_eq_true, and_assoc]
  refine ⟨fun ⟨a, b, c⟩ => ⟨a, b, fun i h => c _ (List.getElem_mem h)⟩, fun ⟨a, b, c⟩ => ⟨a, b, fun s hs => ?_⟩⟩
  obtain ⟨i, hi, rfl⟩ := List.getElem_of_mem hs
  exact c i hi
theorem ruleB_f {r : RuleD} (h : ¬ (headB r.head = true ∧ r.body.length ≤ 5 ∧ ∀ i (h : i < r.body.length), symOK r.body[i] = true)) : ruleB r = false := by
  rw [Bool.eq_false_iff]; exact fun e => h ((ruleB_iff r).1 e)
theorem gramB_f {rs : List RuleD} (h : ¬ (1 ≤ rs.length ∧ rs.length ≤ 20 ∧ ∀ i (h : i < rs.length), ruleB rs[i] = true)) : gramB rs = false := by
  rw [Bool.eq_false_iff]; exact fun e => h ((gramB_iff rs).1 e)
theorem symOK_no {r : RuleD} {k : Nat} (h : k < r.body.length) (h1 : headB r.body[k] = false) (h2 : tokB r.body[k] = false) : ruleB r = false :=
  ruleB_f fun ⟨_, _, h3⟩ => by have := h3 k h; unfold symOK at this; rw [h1, h2] at this; cases this

set_option maxRecDepth 100000 in
set_option maxHeartbeats 1000000 in
theorem implRuleRight_any (r : RuleD) (u : Value) (lo hi : Nat) (w : World) (h : Strs w lo hi u r.body) (hh : hi ≤ w.heap.size) :
    Calls Tryz.prog 68 #[.agg #[.string r.head, u]] w fun e w' => e = .returned (.bool (ruleB r)) ∧ Below w.heap.size w w' := by
  obtain ⟨A, c, rfl, hlc, hc, hsz, hcell⟩ := h
  unfold maxLen at hc
  have HC := Lib.hid hcell
  clear hcell hsz
  have hb := al1 w (.cells #[.string r.head, .slice A r.body.length c] 45)
  cases h1 : headB r.head
  · have HR := Lib.hid (show ruleB r = false from ruleB_f fun ⟨a, _⟩ => by rw [h1] at a; cases a)
    have H1 := Lib.hid h1
    clear h1
    go_enter Tryz.func68, Tryz.ntmps68
    go_wp2_with fail
    refine (implIsHead_any _ _).mono ?_
    rintro e w1 ⟨rfl, hb1⟩
    rw [H1.out]
    go_wp2
    go_ret
    exact ⟨ret_bool HR.out.symm, hb.trans (hb1.mono (by simp))⟩
  · have H1 := Lib.hid h1
    clear h1
    by_cases h5 : 5 < r.body.length
    · have HR := Lib.hid (show ruleB r = false from ruleB_f fun ⟨_, a, _⟩ => by omega)
      go_enter Tryz.func68, Tryz.ntmps68
      go_wp2_with fail
      refine (implIsHead_any _ _).mono ?_
      rintro e w1 ⟨rfl, hb1⟩
      rw [H1.out]
      have R1 := (Row.made w 45 #[.string r.head, .slice A r.body.length c]).below hb1 (by simp)
      have c1 := R1.cell 1
      simp at c1
      clear R1
      go_wp2
      go_ret
      exact ⟨ret_bool HR.out.symm, hb.trans (hb1.mono (by simp))⟩
    · go_enter Tryz.func68, Tryz.ntmps68
      go_wp2_with fail
      refine (implIsHead_any _ _).mono ?_
      rintro e w1 ⟨rfl, hb1⟩
      rw [H1.out]
      have R1 := (Row.made w 45 #[.string r.head, .slice A r.body.length c]).below hb1 (by simp)
      have c1 := R1.cell 1
      simp at c1
      clear R1
      have hbw1 : Below w.heap.size w w1 := hb.trans (hb1.mono (by simp))
      go_wp2
      go_loopw [4, 18] (fun _ i wr => ∃ (k : Nat), k ≤ r.body.length ∧ i = .int .i64 k ∧ Below w.heap.size w wr ∧ (∀ j (h : j < r.body.length), j < k → symOK r.body[j] = true)) (fun _ i _ => r.body.length - (intOf i).toNat)
      case atStart => exact ⟨0, by omega, rfl, hbw1, fun j _ hj => by omega⟩
      case round =>
        obtain ⟨k, hk, rfl, hbw, hall⟩ := hrel
        have HA := Lib.hid hall
        have hsw := hbw.size
        clear hall hb1 hbw1
        by_cases hlt : k < r.body.length
        · obtain ⟨b, off, rfl, _, hbh, hcc⟩ := HC.out (by omega)
          have hck := (hbw.cell (p := ⟨b, off + k, none⟩) (by show b < _; omega)).trans (hcc k hlt)
          clear hcc
          cases h2 : headB r.body[k]
          · have H2 := Lib.hid h2
            clear h2
            cases h3 : tokB r.body[k]
            · have H3 := Lib.hid h3
              clear h3
              go_wp2_with fail
              refine (implIsHead_any _ _).mono ?_
              rintro e w2 ⟨rfl, hb2⟩
              rw [H2.out]
              go_wp2_with fail
              refine (implIsToken_any _ _).mono ?_
              rintro e w3 ⟨rfl, hb3⟩
              rw [H3.out]
              go_wp2
              go_ret
              exact ⟨ret_bool (symOK_no hlt H2.out H3.out).symm, (hbw.trans (hb2.mono hsw)).trans (hb3.mono (by have := hb2.size; omega))⟩
            · have H3 := Lib.hid h3
              clear h3
              go_wp2_with fail
              refine (implIsHead_any _ _).mono ?_
              rintro e w2 ⟨rfl, hb2⟩
              rw [H2.out]
              go_wp2_with fail
              refine (implIsToken_any _ _).mono ?_
              rintro e w3 ⟨rfl, hb3⟩
              rw [H3.out]
              go_wp2
              go_roundw
              case rel => exact ⟨k + 1, by omega, by go_num, (hbw.trans (hb2.mono hsw)).trans (hb3.mono (by have := hb2.size; omega)), fun j hj hjk => by
                by_cases e : j = k
                · subst e; unfold symOK; rw [H3.out, Bool.or_true]
                · exact HA.out j hj (by omega)⟩
              case measure => simp [intOf]; omega
          · have H2 := Lib.hid h2
            clear h2
            go_wp2_with fail
            refine (implIsHead_any _ _).mono ?_
            rintro e w2 ⟨rfl, hb2⟩
            rw [H2.out]
            go_wp2
            go_roundw
            case rel => exact ⟨k + 1, by omega, by go_num, hbw.trans (hb2.mono hsw), fun j hj hjk => by
              by_cases e : j = k
              · subst e; unfold symOK; rw [H2.out, Bool.true_or]
              · exact HA.out j hj (by omega)⟩
            case measure => simp [intOf]; omega
        · go_wp2
          go_ret
          exact ⟨ret_bool ((ruleB_iff r).2 ⟨H1.out, by omega, fun i hi => HA.out i hi (by omega)⟩).symm, hbw⟩

set_option maxRecDepth 100000 in
set_option maxHeartbeats 1000000 in
theorem implGramRight_any (rs : List RuleD) (v : Value) (lo hi : Nat) (w : World) (h : Rules w lo hi v rs) (hh : hi ≤ w.heap.size) :
    Calls Tryz.prog 48 #[.agg #[v]] w fun e w' => e = .returned (.bool (gramB rs)) ∧ Below w.heap.size w w' := by
  obtain ⟨A, c, rfl, hlc, hc, hcell⟩ := h
  unfold maxLen at hc
  have HC := Lib.hid hcell
  clear hcell
  have hb := al1 w (.cells #[.slice A rs.length c] 25)
  by_cases h1 : rs.length < 1
  · go_enter Tryz.func48, Tryz.ntmps48
    go_wp2
    go_ret
    exact ⟨ret_bool (gramB_f fun ⟨a, _⟩ => by omega).symm, hb⟩
  by_cases h2 : 20 < rs.length
  · go_enter Tryz.func48, Tryz.ntmps48
    go_wp2
    go_ret
    exact ⟨ret_bool (gramB_f fun ⟨_, a, _⟩ => by omega).symm, hb⟩
  go_enter Tryz.func48, Tryz.ntmps48
  go_wp2
  go_loopw [4, 18] (fun _ i wr => ∃ (k : Nat), k ≤ rs.length ∧ i = .int .i64 k ∧ Below w.heap.size w wr ∧ (∀ j (h : j < rs.length), j < k → ruleB rs[j] = true)) (fun _ i _ => rs.length - (intOf i).toNat)
  case atStart => exact ⟨0, by omega, rfl, hb, fun j _ hj => by omega⟩
  case round =>
    obtain ⟨k, hk, rfl, hbw, hall⟩ := hrel
    have HA := Lib.hid hall
    have hsw := hbw.size
    clear hall hb
    by_cases hlt : k < rs.length
    · obtain ⟨b, off, rfl, _, hbh, hcc⟩ := HC.out (by omega)
      obtain ⟨_, hc0, u, hc1, hst⟩ := hcc k hlt
      have hc0' := (hbw.cell (p := ⟨b, off + k * 2, none⟩) (by show b < _; omega)).trans hc0
      have hc1' := (hbw.cell (p := ⟨b, off + k * 2 + 1, none⟩) (by show b < _; omega)).trans hc1
      have hst' := hst.below hbw hh
      clear hcc hc0 hc1 hst
      have HS := Lib.hid hst'
      obtain ⟨A', c', rfl, -⟩ := hst'
      have ha := al1 wr (.cells #[.string rs[k].head, .slice A' rs[k].body.length c'] 45)
      cases h3 : ruleB rs[k]
      · have H3 := Lib.hid h3
        clear h3
        go_wp2_with fail
        refine (implRuleRight_any rs[k] _ lo hi _ (HS.out.below ha (by omega)) (by simp; omega)).mono ?_
        rintro e w2 ⟨rfl, hb2⟩
        rw [H3.out]
        go_wp2
        go_ret
        exact ⟨ret_bool (gramB_f fun ⟨_, _, a⟩ => by have := a k hlt; rw [H3.out] at this; cases this).symm, (hbw.trans (ha.mono hsw)).trans (hb2.mono (by simp; omega))⟩
      · have H3 := Lib.hid h3
        clear h3
        go_wp2_with fail
        refine (implRuleRight_any rs[k] _ lo hi _ (HS.out.below ha (by omega)) (by simp; omega)).mono ?_
        rintro e w2 ⟨rfl, hb2⟩
        rw [H3.out]
        go_wp2
        go_roundw
        case rel => exact ⟨k + 1, by omega, by go_num, (hbw.trans (ha.mono hsw)).trans (hb2.mono (by simp; omega)), fun j hj hjk => by
          by_cases e : j = k
          · subst e; exact H3.out
          · exact HA.out j hj (by omega)⟩
        case measure => simp [intOf]; omega
    · go_wp2
      go_ret
      exact ⟨ret_bool ((gramB_iff rs).2 ⟨by omega, by omega, fun i hi => HA.out i hi (by omega)⟩).symm, hbw⟩
end Go.Proofs.YtokdhgocgicdnaaGreatDoor

/- Bytes of the call's own, and the text of a grammar, as lists. No program stands in this text but its types' numbers. -/
namespace Go.Proofs.YtokdhgocgicdnaaGreatDoor.Tx
open Go.RowKit

def bv (b : UInt8) : Value := .int .u8 (b.toNat : Int)
def bs (l : List UInt8) : ByteArray := ⟨l.toArray⟩
theorem bs_size (l : List UInt8) : (bs l).size = l.length := rfl
theorem bs_of (s : ByteArray) : bs s.data.toList = s := rfl
theorem bs_app (a b : ByteArray) : a ++ b = bs (a.data.toList ++ b.data.toList) := ByteArray.mk_append_mk a.data.toList b.data.toList
theorem bs_inj {a b : List UInt8} (h : bs a = bs b) : a = b := by
  have := congrArg (fun x : ByteArray => x.data.toList) h
  simpa [bs] using this
theorem infoB : (Tryz.prog.info? 5).map (fun i => (i.zero, i.size, i.bytes)) = some (some (.int .u8 0), 1, 1) := by kernel_rfl
/-- these bytes, in a row of the call's own -/
def Bts (w : World) (base : Nat) (v : Value) (l : List UInt8) : Prop := w.ownsRow base 5 1 v l.length (l.map bv)
theorem Bts.nil (w : World) {base : Nat} (hb : base ≤ w.heap.size) : Bts (w.alloc (.cells #[] 5)) base (.slice (some ⟨w.heap.size, 0, none⟩) 0 0) [] := World.ownsRow_lit w #[] 0 hb (by unfold maxLen; omega) rfl
theorem Bts.to {w : World} {base : Nat} {v : Value} {l l' : List UInt8} (h : Bts w base v l) (e : l = l') : Bts w base v l' := e ▸ h
theorem Bts.str {w : World} {base n : Nat} {v : Value} {l : List UInt8} {s : ByteArray} (hn : n = s.size) (h : w.ownsRow base 5 1 v (l.length + n) (l.map bv ++ Lib.strCells s)) : Bts w base v (l ++ s.data.toList) := by
  subst hn
  have e : (l ++ s.data.toList).length = l.length + s.size := by rw [List.length_append]; rfl
  unfold Bts
  rw [e, List.map_append]
  exact h
theorem Bts.one {w : World} {base : Nat} {v : Value} {l : List UInt8} (b : UInt8) (h : w.ownsRow base 5 1 v (l.length + 1) (l.map bv ++ [.int .u8 (b.toNat : Int)])) : Bts w base v (l ++ [b]) := by
  unfold Bts
  rw [List.length_append, List.map_append]
  exact h
theorem Bts.conv {w : World} {base : Nat} {v : Value} {l : List UInt8} (h : Bts w base v l) : (convert 22 9 v).run Tryz.prog w = .ok (.string (bs l)) w := by
  rcases h.2 with ⟨rfl, h0⟩ | ⟨g, cap, cur, rfl, hb, hh, hc, hm, hs, ht⟩
  · obtain rfl : l = [] := List.eq_nil_of_length_eq_zero h0
    exact run_convert_bytes_nil w 22 5 Tryz.underlying22 Tryz.underlying5 0 0 9 Tryz.underlying9
  · exact run_convert_bytes_back w 22 9 5 ⟨g, 0, none⟩ cap l Tryz.underlying22 Tryz.underlying5 Tryz.underlying9 (fun j hj => by
      refine World.ownsRow.cells h (g := g) rfl j _ ?_
      rw [List.getElem?_map, List.getElem?_eq_getElem hj]; rfl)
theorem one_cell {k : IntKind} (c : Int) : ∀ u ∈ [Value.int k c], u.oneCell' = true := by
  intro u hu
  rw [List.mem_singleton] at hu; subst hu; rfl
/-- a row of another type stands while bytes of the call's own grow -/
theorem row_grown {w w' : World} {g base : Nat} {t : TypeId} {cur : Array Value} {v : Value} {n size : Nat} {e : TypeId} {xs : List Value} (r : Row w g t cur) (ho : w.ownsRow base e size v n xs) (hne : t ≠ e) (hg : w.grownBy w' v.ownBlock) : Row w' g t cur := by
  refine r.same (hg.block g r.lt fun h => ?_)
  rcases ho.2 with ⟨rfl, _⟩ | ⟨g', cap, cur', rfl, _, hh, _⟩
  · simp [Value.ownBlock] at h
  · have : g = g' := by simpa [Value.ownBlock] using h
    subst this
    exact r.apart (t' := e) (cur' := cur') hh hne rfl
theorem below_grown {B base : Nat} {a w w' : World} {v : Value} {n size : Nat} {e : TypeId} {xs : List Value} (h : Below B a w) (ho : w.ownsRow base e size v n xs) (hg : w.grownBy w' v.ownBlock) (hB : B ≤ w.heap.size) (hb : B ≤ base) : Below B a w' :=
  h.grown hg hB (fun k hk => Nat.le_trans hb (ho.lt k hk).1)

/-- the text of a list of symbols, of a rule, of a grammar -/
def symsT (ss : List ByteArray) : List UInt8 := ss.flatMap fun s => 32 :: s.data.toList
def lineT (r : RuleD) : List UInt8 := r.head.data.toList ++ [32, 45, 62] ++ (if r.body = [] then [32, 126] else symsT r.body) ++ [10]
theorem lineT_some {r : RuleD} {l : List UInt8} (h : r.body ≠ []) : l ++ (r.head.data.toList ++ [32, 45, 62]) ++ symsT r.body ++ [10] = l ++ lineT r := by simp [lineT, h, List.append_assoc]
theorem lineT_none {r : RuleD} {l : List UInt8} (h : r.body = []) : l ++ (r.head.data.toList ++ [32, 45, 62]) ++ symsT [] ++ [32, 126] ++ [10] = l ++ lineT r := by simp [lineT, h, symsT, List.append_assoc]
def textT (rs : List RuleD) : List UInt8 := rs.flatMap lineT
theorem symsT_snoc (ss : List ByteArray) (s : ByteArray) : symsT (ss ++ [s]) = symsT ss ++ (32 :: s.data.toList) := by simp [symsT]
theorem symsT_take (ss : List ByteArray) (k : Nat) (h : k < ss.length) : symsT (ss.take (k + 1)) = symsT (ss.take k) ++ (32 :: ss[k].data.toList) := by
  rw [List.take_succ_eq_append_getElem h, symsT_snoc]
theorem textT_take (rs : List RuleD) (k : Nat) (h : k < rs.length) : textT (rs.take (k + 1)) = textT (rs.take k) ++ lineT rs[k] := by
  unfold textT; rw [List.take_succ_eq_append_getElem h, List.flatMap_append]; simp
theorem symB_size {lo hi : Nat} {s : ByteArray} (h : symB lo hi s = true) : s.size ≤ 4 := ((symB_iff lo hi s).1 h).2.1
theorem symOK_size {s : ByteArray} (h : symOK s = true) : s.size ≤ 4 := by
  unfold symOK at h
  rcases Bool.or_eq_true_iff.1 h with h | h
  · exact symB_size h
  · exact symB_size h
theorem symsT_len {ss : List ByteArray} (h : ∀ i (h : i < ss.length), ss[i].size ≤ 4) (k : Nat) (hk : k ≤ ss.length) : (symsT (ss.take k)).length ≤ 5 * k := by
  induction k with
  | zero => simp [symsT]
  | succ k ih =>
    rw [symsT_take ss k (by omega), List.length_append]
    have := ih (by omega)
    have h2 := h k (by omega)
    have h3 : (ss[k].data.toList).length = ss[k].size := rfl
    simp only [List.length_cons]
    omega
/-- a rule whose parts are short -/
def Short (r : RuleD) : Prop := r.head.size ≤ 4 ∧ r.body.length ≤ 5 ∧ ∀ i (h : i < r.body.length), r.body[i].size ≤ 4
theorem short_of {r : RuleD} (h : ruleB r = true) : Short r := by
  obtain ⟨h1, h2, h3⟩ := (ruleB_iff r).1 h
  exact ⟨symB_size h1, h2, fun i hi => symOK_size (h3 i hi)⟩
theorem lineT_len {r : RuleD} (h : Short r) : (lineT r).length ≤ 40 := by
  obtain ⟨h1, h2, h3⟩ := h
  have h4 := symsT_len h3 r.body.length (Nat.le_refl _)
  rw [List.take_length] at h4
  have h5 : (r.head.data.toList).length = r.head.size := rfl
  unfold lineT
  simp only [List.length_append, List.length_cons, List.length_nil]
  split
  · simp only [List.length_cons, List.length_nil]; omega
  · omega
theorem textT_len {rs : List RuleD} (h : ∀ i (h : i < rs.length), Short rs[i]) (k : Nat) (hk : k ≤ rs.length) : (textT (rs.take k)).length ≤ 40 * k := by
  induction k with
  | zero => simp [textT]
  | succ k ih =>
    rw [textT_take rs k (by omega), List.length_append]
    have := ih (by omega)
    have h2 := lineT_len (h k (by omega))
    omega
end Go.Proofs.YtokdhgocgicdnaaGreatDoor.Tx

/- A text cut at a byte, as lists; and what a grammar's text is read as. No program stands in this text. -/
namespace Go.Proofs.YtokdhgocgicdnaaGreatDoor
open Go.RowKit
open Tx (bs textT lineT symsT)

def splitGo (m : UInt8) : List UInt8 → List UInt8 → List (List UInt8)
  | cur, [] => [cur]
  | cur, c :: l => if c = m then cur :: splitGo m [] l else splitGo m (cur ++ [c]) l
/-- what stands ahead of each m, and behind the last one -/
def splitB (m : UInt8) (l : List UInt8) : List (List UInt8) := splitGo m [] l
theorem splitGo_hit {m : UInt8} {cur l : List UInt8} : splitGo m cur (m :: l) = cur :: splitGo m [] l := by simp [splitGo]
theorem splitGo_miss {m c : UInt8} {cur l : List UInt8} (h : c ≠ m) : splitGo m cur (c :: l) = splitGo m (cur ++ [c]) l := by simp [splitGo, h]
theorem splitGo_run {m : UInt8} (a : List UInt8) (h : m ∉ a) (cur l : List UInt8) : splitGo m cur (a ++ l) = splitGo m (cur ++ a) l := by
  induction a generalizing cur with
  | nil => simp
  | cons c a ih =>
    have hc : c ≠ m := fun e => h (by rw [e]; simp)
    rw [List.cons_append, splitGo_miss hc, ih (fun hm => h (by simp [hm])), List.append_assoc]
    rfl
theorem splitB_app {m : UInt8} {a l : List UInt8} (h : m ∉ a) : splitB m (a ++ m :: l) = a :: splitB m l := by
  unfold splitB; rw [splitGo_run a h, splitGo_hit]; rfl
theorem splitB_one {m : UInt8} {a : List UInt8} (h : m ∉ a) : splitB m a = [a] := by
  have := splitGo_run a h [] []
  rw [List.append_nil] at this
  unfold splitB; rw [this]; rfl
theorem splitGo_ne (m : UInt8) (cur l : List UInt8) : splitGo m cur l ≠ [] := by
  induction l generalizing cur with
  | nil => simp [splitGo]
  | cons c l ih =>
    unfold splitGo
    split
    · simp
    · exact ih _
theorem splitB_ne (m : UInt8) (l : List UInt8) : splitB m l ≠ [] := splitGo_ne m [] l
theorem splitB_pos (m : UInt8) (l : List UInt8) : 0 < (splitB m l).length := List.length_pos_iff.2 (splitB_ne m l)
theorem splitGo_len (m : UInt8) (cur l : List UInt8) : (splitGo m cur l).length ≤ l.length + 1 := by
  induction l generalizing cur with
  | nil => simp [splitGo]
  | cons c l ih =>
    unfold splitGo
    split
    · have := ih []; simp only [List.length_cons]; omega
    · have := ih (cur ++ [c]); simp only [List.length_cons]; omega
theorem splitB_len (m : UInt8) (l : List UInt8) : (splitB m l).length ≤ l.length + 1 := splitGo_len m [] l

/-- pieces put together again -/
def joinB (m : UInt8) : List (List UInt8) → List UInt8
  | [] => []
  | [x] => x
  | x :: y :: r => x ++ m :: joinB m (y :: r)
theorem joinB_cons {m : UInt8} {x : List UInt8} {r : List (List UInt8)} (h : r ≠ []) : joinB m (x :: r) = x ++ m :: joinB m r := by
  cases r with
  | nil => exact absurd rfl h
  | cons y r => rfl
theorem joinB_splitGo (m : UInt8) (cur l : List UInt8) : joinB m (splitGo m cur l) = cur ++ l := by
  induction l generalizing cur with
  | nil => simp [splitGo, joinB]
  | cons c l ih =>
    unfold splitGo
    split
    · rename_i e
      subst e
      rw [joinB_cons (splitGo_ne _ _ _), ih]; rfl
    · rw [ih, List.append_assoc]; rfl
theorem joinB_splitB (m : UInt8) (l : List UInt8) : joinB m (splitB m l) = l := joinB_splitGo m [] l

/-- the rule of a line, as the program reads it -/
def readR (line : List UInt8) : Option RuleD :=
  let ws := splitB 32 line
  if ws.length < 3 ∨ ws[1]?.getD [] ≠ [45, 62] then none
  else some ⟨bs (ws[0]?.getD []), if 3 < ws.length ∨ ws[2]?.getD [] ≠ [126] then (ws.drop 2).map bs else []⟩
def readAll : List (List UInt8) → Option (List RuleD)
  | [] => some []
  | l :: r => match readR l with
    | none => none
    | some x => match readAll r with
      | none => none
      | some y => some (x :: y)
/-- the right grammar of a text -/
def parseT (t : List UInt8) : Option (List RuleD) :=
  let ls := splitB 10 t
  if ls.getLastD [] ≠ [] then none
  else match readAll ls.dropLast with
    | none => none
    | some rs => if gramB rs = true then some rs else none
/-- the rule of a line, as the model takes it -/
def takeR (line : List UInt8) : RuleD :=
  let ws := splitB 32 line
  ⟨bs (ws[0]?.getD []), (((ws.take 8).drop 2).filter fun x => decide (x ≠ [126]) || decide (3 < ws.length)).map bs⟩
def takeAll (t : List UInt8) : List RuleD := ((splitB 10 t).dropLast.take 21).map takeR

theorem data_bs (l : List UInt8) : (bs l).data.toList = l := rfl
theorem map_data (l : List (List UInt8)) : (l.map bs).map (fun s => s.data.toList) = l := by
  rw [List.map_map]
  conv => rhs; rw [← List.map_id l]
  rfl
theorem syms_join {l : List (List UInt8)} (h : l ≠ []) : symsT (l.map bs) = 32 :: joinB 32 l := by
  induction l with
  | nil => exact absurd rfl h
  | cons x r ih =>
    by_cases hr : r = []
    · subst hr; simp [symsT, joinB, data_bs]
    · rw [joinB_cons hr, ← ih hr]
      simp [symsT, data_bs]
/-- a line without its line feed -/
def lineU (r : RuleD) : List UInt8 := r.head.data.toList ++ [32, 45, 62] ++ (if r.body = [] then [32, 126] else symsT r.body)
theorem lineT_U (r : RuleD) : lineT r = lineU r ++ [10] := rfl

theorem three {ws : List (List UInt8)} (h : ¬ ws.length < 3) : ∃ a b c r, ws = a :: b :: c :: r := by
  match ws, h with
  | a :: b :: c :: r, _ => exact ⟨a, b, c, r, rfl⟩
  | [], h => simp at h
  | [_], h => simp at h
  | [_, _], h => simp at h
/-- what is read as a rule is its line -/
theorem readR_line {line : List UInt8} {r : RuleD} (h : readR line = some r) : lineU r = line := by
  unfold readR at h
  have hj := joinB_splitB 32 line
  generalize splitB 32 line = ws at h hj
  simp only at h
  split at h
  · cases h
  · rename_i hn
    have h3 : ¬ ws.length < 3 := fun e => hn (.inl e)
    have h1 : ws[1]?.getD [] = [45, 62] := by
      by_cases e : ws[1]?.getD [] = [45, 62]
      · exact e
      · exact absurd (.inr e) hn
    obtain ⟨a, b, c, rest, rfl⟩ := three h3
    simp only [List.getElem?_cons_succ, List.getElem?_cons_zero, Option.getD_some] at h1
    subst h1
    injection h with h
    subst h
    rw [joinB_cons (by simp), joinB_cons (by simp)] at hj
    unfold lineU
    rw [← hj]
    simp only [List.getElem?_cons_zero, Option.getD_some, data_bs, List.getElem?_cons_succ, List.drop_succ_cons, List.drop_zero]
    by_cases h4 : 3 < ([a, [45, 62], c] ++ rest).length ∨ c ≠ [126]
    · have h4' : 3 < (a :: [45, 62] :: c :: rest).length ∨ c ≠ [126] := h4
      rw [if_pos h4', if_neg (by simp), syms_join (by simp)]
      simp
    · have h4' : ¬ (3 < (a :: [45, 62] :: c :: rest).length ∨ c ≠ [126]) := h4
      rw [if_neg h4', if_pos rfl]
      have hr : rest = [] := List.eq_nil_of_length_eq_zero (by
        have : ¬ 3 < (a :: [45, 62] :: c :: rest).length := fun e => h4' (.inl e)
        simp only [List.length_cons] at this
        omega)
      have hc : c = [126] := by
        by_cases e : c = [126]
        · exact e
        · exact absurd (.inr e) h4'
      subst hr hc
      simp [joinB]
theorem readAll_text {ls : List (List UInt8)} {rs : List RuleD} (h : readAll ls = some rs) : textT rs = ls.flatMap (· ++ [10]) ∧ rs.length = ls.length := by
  induction ls generalizing rs with
  | nil => unfold readAll at h; injection h with h; subst h; exact ⟨rfl, rfl⟩
  | cons l r ih =>
    unfold readAll at h
    split at h
    · cases h
    · rename_i x hx
      split at h
      · cases h
      · rename_i y hy
        injection h with h
        subst h
        obtain ⟨h1, h2⟩ := ih hy
        refine ⟨?_, by simp [h2]⟩
        rw [List.flatMap_cons, ← h1, ← readR_line hx, ← lineT_U]
        rfl
theorem join_last {m : UInt8} {ls : List (List UInt8)} (h : ls ≠ []) (hl : ls.getLastD [] = []) : joinB m ls = ls.dropLast.flatMap (· ++ [m]) := by
  induction ls with
  | nil => exact absurd rfl h
  | cons x r ih =>
    by_cases hr : r = []
    · subst hr
      simp only [List.getLastD_cons, List.getLastD_nil] at hl
      subst hl
      rfl
    · rw [joinB_cons hr, List.dropLast_cons_of_ne_nil hr, List.flatMap_cons, ← ih hr (by
        cases r with
        | nil => exact absurd rfl hr
        | cons y r => simpa using hl)]
      simp
/-- what is read has that text -/
theorem parseT_text {t : List UInt8} {rs : List RuleD} (h : parseT t = some rs) : textT rs = t ∧ gramB rs = true := by
  unfold parseT at h
  have hj := joinB_splitB 10 t
  have hne := splitB_ne 10 t
  generalize splitB 10 t = ls at h hj hne
  simp only at h
  split at h
  · cases h
  · rename_i hl
    have hl' : ls.getLastD [] = [] := by
      by_cases e : ls.getLastD [] = []
      · exact e
      · exact absurd e hl
    split at h
    · cases h
    · rename_i rs' hr
      split at h
      · rename_i hg
        injection h with h
        subst h
        exact ⟨by rw [(readAll_text hr).1, ← join_last hne hl', hj], hg⟩
      · cases h
end Go.Proofs.YtokdhgocgicdnaaGreatDoor
