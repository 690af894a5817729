import Derived.Test.YtokdhgocgicdnaaGreatDoorJItn
import Derived.Deep.RegionHeld3
import Derived.Deep.RegionLaw
import Derived.Deep.AppendLies
import Derived.Test.YtokdhgocgicdnaaGreatDoorJHeadsS
import Derived.Laws.BitsAllLaws
/- The draw of a text that a head comes to: l04Word, its first loop. -/
namespace Go.Proofs.YtokdhgocgicdnaaGreatDoor.Dr
open Go.RowKit
open Go.Proofs.YtokdhgocgicdnaaGreatDoor

/-- the numbers of the rules of a head -/
def rulesOf (rs : List RuleD) (h : ByteArray) (k : Nat) : List Nat := (List.range k).filter fun i => decide ((rs.getD i ⟨ByteArray.empty, []⟩).head = h)
theorem rulesOf_lt {rs : List RuleD} {h : ByteArray} {k i : Nat} (hi : i ∈ rulesOf rs h k) : i < k := by
  unfold rulesOf at hi
  exact List.mem_range.1 (List.mem_filter.1 hi).1
theorem rulesOf_t {rs : List RuleD} {h : ByteArray} {k : Nat} (hk : k < rs.length) (e : rs[k].head = h) : rulesOf rs h (k + 1) = rulesOf rs h k ++ [k] := by
  unfold rulesOf
  rw [List.range_succ, List.filter_append]
  simp [hk, e]
theorem rulesOf_f {rs : List RuleD} {h : ByteArray} {k : Nat} (hk : k < rs.length) (e : rs[k].head ≠ h) : rulesOf rs h (k + 1) = rulesOf rs h k := by
  unfold rulesOf
  rw [List.range_succ, List.filter_append]
  simp [hk, e]
theorem rulesOf_len (rs : List RuleD) (h : ByteArray) (k : Nat) : (rulesOf rs h k).length ≤ k := by
  unfold rulesOf
  refine Nat.le_trans (List.length_filter_le _ _) ?_
  rw [List.length_range]
  exact Nat.le_refl _
/-- what a draw of a text leaves -/
def DrawW (w : World) (p B : Nat) (e : Ending) (w' : World) : Prop :=
  ∃ v ss ok, e = .returned (.tuple #[v, .bool ok]) ∧ Sts w' w.heap.size v ss ∧ (ok = true → ss.length ≤ 12 ∧ ∃ g c, v = .slice (some ⟨g, 0, none⟩) ss.length c) ∧ (∀ s ∈ ss, s.size ≤ 10) ∧ Src w' p B ∧ w.grownBy w' (some p)
end Go.Proofs.YtokdhgocgicdnaaGreatDoor.Dr

/- Sets as numbers, a bit a symbol; what a slice of such sets reads as; what a fixed point is. -/
namespace Go.Proofs.YtokdhgocgicdnaaGreatDoor
open Go.RowKit

def joinAll (l : List Nat) : Nat := l.foldl (· ||| ·) 0
theorem joinAll_nil : joinAll [] = 0 := rfl
theorem joinAll_snoc (l : List Nat) (x : Nat) : joinAll (l ++ [x]) = joinAll l ||| x := by unfold joinAll; rw [List.foldl_append]; rfl
theorem joinAll_take {l : List Nat} {k : Nat} (h : k < l.length) : joinAll (l.take (k + 1)) = joinAll (l.take k) ||| l[k] := by
  rw [List.take_succ_eq_append_getElem h, joinAll_snoc]
theorem joinAll_two (a b : Nat) : joinAll [a, b] = a ||| b := by simp [joinAll]
theorem foldl_bit (l : List Nat) (a i : Nat) : (l.foldl (· ||| ·) a).testBit i = true ↔ a.testBit i = true ∨ ∃ x ∈ l, x.testBit i = true := by
  induction l generalizing a with
  | nil => simp
  | cons x l ih =>
    rw [List.foldl_cons, ih, Nat.testBit_or]
    simp [or_assoc]
theorem joinAll_bit (l : List Nat) (i : Nat) : (joinAll l).testBit i = true ↔ ∃ x ∈ l, x.testBit i = true := by
  unfold joinAll; rw [foldl_bit]; simp
theorem or_lt {a b : Nat} (ha : a < 4194304) (hb : b < 4194304) : a ||| b < 4194304 := Nat.or_lt_two_pow (n := 22) ha hb
theorem foldl_lt (l : List Nat) (a : Nat) (ha : a < 4194304) (h : ∀ x ∈ l, x < 4194304) : l.foldl (· ||| ·) a < 4194304 := by
  induction l generalizing a with
  | nil => exact ha
  | cons x l ih => exact ih _ (or_lt ha (h x (by simp))) fun y hy => h y (by simp [hy])
theorem joinAll_lt {l : List Nat} (h : ∀ x ∈ l, x < 4194304) : joinAll l < 4194304 := foldl_lt l 0 (by omega) h
theorem joinAll_take_lt {l : List Nat} (h : ∀ x ∈ l, x < 4194304) (k : Nat) : joinAll (l.take k) < 4194304 := joinAll_lt fun x hx => h x (List.mem_of_mem_take hx)
theorem or_eq (a b : Nat) (ha : a < 4194304) (hb : b < 4194304) : bits .or .u32 (a : Int) (b : Int) = ((a ||| b : Nat) : Int) := u32_or_nat a b (by omega) (by omega)

/-- is all of o in s? -/
def holdsB (s o : Nat) : Bool := decide (o ||| s = s)
theorem holdsB_iff (s o : Nat) : holdsB s o = true ↔ ∀ i, o.testBit i = true → s.testBit i = true := by
  unfold holdsB
  rw [decide_eq_true_eq]
  constructor
  · intro h i hi
    rw [← h, Nat.testBit_or, hi, Bool.true_or]
  · intro h
    apply Nat.eq_of_testBit_eq
    intro i
    rw [Nat.testBit_or]
    cases hi : o.testBit i
    · simp
    · rw [h i hi]; rfl
theorem holds_eq (s o : Nat) (hs : s < 4194304) (ho : o < 4194304) : (bits .andNot .u32 (o : Int) (s : Int) == 0) = holdsB s o := by
  rw [u32_andNot_nat o s (by omega) (by omega), Bool.eq_iff_iff, holdsB_iff]
  have e : 4294967295 - s = 2 ^ 32 - (s + 1) := by omega
  rw [e]
  constructor
  · intro h i hi
    have h0 : o &&& (2 ^ 32 - (s + 1)) = 0 := by simpa using h
    have h1 : (o &&& (2 ^ 32 - (s + 1))).testBit i = false := by rw [h0]; simp
    rw [Nat.testBit_and, hi, Nat.testBit_two_pow_sub_succ (by omega)] at h1
    have hi32 : i < 32 := by
      rcases Nat.lt_or_ge i 32 with h | h
      · exact h
      · have : o < 2 ^ i := Nat.lt_of_lt_of_le (show o < 2 ^ 32 by omega) (Nat.pow_le_pow_right (by omega) h)
        rw [Nat.testBit_lt_two_pow this] at hi
        cases hi
    simpa [hi32] using h1
  · intro h
    have h0 : o &&& (2 ^ 32 - (s + 1)) = 0 := by
      apply Nat.eq_of_testBit_eq
      intro i
      rw [Nat.testBit_and, Nat.testBit_two_pow_sub_succ (by omega)]
      cases hi : o.testBit i
      · simp
      · rw [h i hi]; simp
    rw [h0]; rfl

/-- a list of sets, in blocks ahead of hi -/
def BitsAt (w : World) (hi : Nat) (v : Value) (l : List Nat) : Prop :=
  ∃ A c, v = .slice A l.length c ∧ l.length ≤ c ∧ c ≤ maxLen ∧ (∀ x ∈ l, x < 4194304) ∧
    (0 < l.length → ∃ b off, A = some ⟨b, off, none⟩ ∧ b < hi ∧ ∀ i (h : i < l.length), w.cell? ⟨b, off + i, none⟩ = some (.int .u32 (l[i] : Nat)))
theorem BitsAt.below {w w' : World} {hi : Nat} {v : Value} {l : List Nat} (h : BitsAt w hi v l) {B : Nat} (b : Below B w w') (hB : hi ≤ B) : BitsAt w' hi v l := by
  obtain ⟨A, c, h1, h2, h3, h4, h5⟩ := h
  refine ⟨A, c, h1, h2, h3, h4, fun hp => ?_⟩
  obtain ⟨g, off, e, hg, hc⟩ := h5 hp
  exact ⟨g, off, e, hg, fun i hi => (b.cell (p := ⟨g, off + i, none⟩) (by show g < B; omega)).trans (hc i hi)⟩
theorem BitsAt.more {w : World} {hi hi' : Nat} {v : Value} {l : List Nat} (h : BitsAt w hi v l) (hh : hi ≤ hi') : BitsAt w hi' v l := by
  obtain ⟨A, c, h1, h2, h3, h4, h5⟩ := h
  refine ⟨A, c, h1, h2, h3, h4, fun hp => ?_⟩
  obtain ⟨g, off, e, hg, hc⟩ := h5 hp
  exact ⟨g, off, e, by omega, hc⟩
theorem BitsAt.two {w : World} {g : Nat} {t : TypeId} {a b : Nat} (h : Row w g t #[.int .u32 (a : Int), .int .u32 (b : Int)]) (ha : a < 4194304) (hb : b < 4194304) :
    BitsAt w w.heap.size (.slice (some ⟨g, 0, none⟩) 2 2) [a, b] := by
  refine ⟨_, 2, rfl, by simp, by unfold maxLen; omega, by simp [ha, hb], fun _ => ⟨g, 0, rfl, h.lt, fun i hi => ?_⟩⟩
  rw [Nat.zero_add, h.cell]
  match i, hi with
  | 0, _ => rfl
  | 1, _ => rfl

/-- what is come to of b, by F again and again, till nothing changes -/
def FixAt (F : Nat → Nat) (b n : Nat) : Prop :=
  n < 4194304 ∧ (∀ i, b.testBit i = true → n.testBit i = true) ∧ (∀ i, (F n).testBit i = true → n.testBit i = true) ∧
    ∀ P : Nat → Prop, P b → (∀ k, k < 4194304 → P k → P (k ||| F k)) → P n
end Go.Proofs.YtokdhgocgicdnaaGreatDoor

/- Which heads come to nothing, or to tokens alone: a least set; the numbers of symbols; the fixed point by bits tells that set. -/
namespace Go.Proofs.YtokdhgocgicdnaaGreatDoor
open Go.RowKit

theorem head_no_tok {s : ByteArray} (h : headB s = true) : tokB s = false := by
  unfold headB at h
  unfold tokB
  obtain ⟨h1, h2, h3⟩ := (symB_iff _ _ _).1 h
  have h0 := h3 0 (by omega) (by omega)
  exact symB_f (k := 0) (by omega) (by omega)
/-- a grammar's heads -/
def hsOf (rs : List RuleD) : List ByteArray := headsTo rs rs.length
theorem addSym_mono {acc : List ByteArray} {s t : ByteArray} (h : t ∈ acc) : t ∈ addSym acc s := by
  unfold addSym; split
  · exact h
  · exact List.mem_append_left _ h
theorem addSym_self (acc : List ByteArray) (s : ByteArray) : s ∈ addSym acc s := by
  unfold addSym; split
  · rename_i h; exact (inB_iff _ _).1 h
  · exact List.mem_append_right _ (by simp)
theorem headsTo_all {rs : List RuleD} {k i : Nat} (hk : k ≤ rs.length) (h : i < k) : (rs[i]'(by omega)).head ∈ headsTo rs k := by
  induction k with
  | zero => omega
  | succ k ih =>
    rw [headsTo_succ (by omega)]
    rcases Nat.lt_or_ge i k with h1 | h1
    · exact addSym_mono (ih (by omega) h1)
    · have : i = k := by omega
      subst this; exact addSym_self _ _
theorem hs_all {rs : List RuleD} {i : Nat} (h : i < rs.length) : rs[i].head ∈ hsOf rs := headsTo_all (Nat.le_refl _) h
theorem hs_mem {rs : List RuleD} {s : ByteArray} (h : s ∈ hsOf rs) : ∃ i, ∃ h : i < rs.length, s = rs[i].head := headsTo_mem h

/-- the number of a symbol -/
def symIdx (hs : List ByteArray) (s : ByteArray) : Nat := if tokB s = true then 20 else if hs.findIdx (fun t => decide (t = s)) < hs.length then hs.findIdx (fun t => decide (t = s)) else 21
def setN (hs : List ByteArray) (s : ByteArray) : Nat := 2 ^ symIdx hs s
/-- a right grammar, as these laws use it -/
structure Rt (rs : List RuleD) : Prop where
  one : 1 ≤ rs.length
  few : rs.length ≤ 20
  head : ∀ i (h : i < rs.length), headB rs[i].head = true
  len : ∀ i (h : i < rs.length), rs[i].body.length ≤ 5
  body : ∀ i (h : i < rs.length), ∀ s ∈ rs[i].body, symOK s = true
theorem Rt.of {rs : List RuleD} (h : gramB rs = true) : Rt rs := by
  obtain ⟨h1, h2, h3⟩ := (gramB_iff rs).1 h
  refine ⟨h1, h2, fun i hi => ((ruleB_iff _).1 (h3 i hi)).1, fun i hi => ((ruleB_iff _).1 (h3 i hi)).2.1, fun i hi s hs => ?_⟩
  obtain ⟨k, hk, rfl⟩ := List.getElem_of_mem hs
  exact ((ruleB_iff _).1 (h3 i hi)).2.2 k hk
section
variable {rs : List RuleD} (R : Rt rs)
include R
theorem Rt.hs_len : (hsOf rs).length ≤ 20 := Nat.le_trans (headsTo_len rs _) R.few
theorem Rt.hs_head {s : ByteArray} (h : s ∈ hsOf rs) : headB s = true := by
  obtain ⟨i, hi, rfl⟩ := hs_mem h
  exact R.head i hi
theorem Rt.idx_lt (s : ByteArray) : symIdx (hsOf rs) s < 22 := by
  unfold symIdx
  have := R.hs_len
  split
  · omega
  · split <;> omega
theorem Rt.setN_lt (s : ByteArray) : setN (hsOf rs) s < 4194304 := Nat.pow_lt_pow_right (a := 2) (by omega) (R.idx_lt s)
theorem Rt.idx_tok {s : ByteArray} : symIdx (hsOf rs) s = 20 ↔ tokB s = true := by
  have := R.hs_len
  unfold symIdx
  split
  · rename_i h; simp [h]
  · rename_i h
    simp only [h]
    split <;> constructor <;> intro h' <;> first | omega | simp at h'
theorem Rt.idx_in {s : ByteArray} (h : symIdx (hsOf rs) s < 20) : ∃ hl : symIdx (hsOf rs) s < (hsOf rs).length, (hsOf rs)[symIdx (hsOf rs) s] = s := by
  have hne : ¬ tokB s = true := fun e => by rw [← R.idx_tok] at e; omega
  have he : symIdx (hsOf rs) s = if (hsOf rs).findIdx (fun t => decide (t = s)) < (hsOf rs).length then (hsOf rs).findIdx (fun t => decide (t = s)) else 21 := by
    unfold symIdx; rw [if_neg hne]
  by_cases hf : (hsOf rs).findIdx (fun t => decide (t = s)) < (hsOf rs).length
  · rw [if_pos hf] at he
    have := List.findIdx_getElem (w := hf)
    refine ⟨by rw [he]; exact hf, ?_⟩
    simp only [he]
    simpa using this
  · rw [if_neg hf] at he; omega
theorem Rt.idx_mem {s : ByteArray} (h : s ∈ hsOf rs) : symIdx (hsOf rs) s < 20 := by
  have hh := head_no_tok (R.hs_head h)
  have hf : (hsOf rs).findIdx (fun t => decide (t = s)) < (hsOf rs).length := List.findIdx_lt_length_of_exists ⟨s, h, by simp⟩
  have := R.hs_len
  unfold symIdx
  rw [hh, if_neg (by decide), if_pos hf]
  omega
theorem Rt.idx_inj {s t : ByteArray} (h : s ∈ hsOf rs) (e : symIdx (hsOf rs) t = symIdx (hsOf rs) s) : t = s := by
  have h1 := R.idx_mem h
  obtain ⟨_, h2⟩ := R.idx_in h1
  obtain ⟨_, h3⟩ := R.idx_in (e ▸ h1)
  rw [← h3, ← h2]
  simp only [e]
theorem Rt.idx_at {i : Nat} (h : i < (hsOf rs).length) : symIdx (hsOf rs) (hsOf rs)[i] = i := by
  have h1 := R.idx_mem (List.getElem_mem h)
  obtain ⟨h2, h3⟩ := R.idx_in h1
  rcases Nat.lt_trichotomy (symIdx (hsOf rs) (hsOf rs)[i]) i with h4 | h4 | h4
  · exact absurd h3 (nodup_ne (headsTo_nodup rs _) h2 h (by omega))
  · exact h4
  · exact absurd h3 (nodup_ne (headsTo_nodup rs _) h2 h (by omega))
end
theorem setN_bit (hs : List ByteArray) (s : ByteArray) (i : Nat) : (setN hs s).testBit i = true ↔ symIdx hs s = i := by
  unfold setN; rw [Nat.testBit_two_pow]; simp

/-- a rule of which each symbol is a set -/
structure RuleN where
  num : Nat
  head : Nat
  body : List Nat
def ruleAt (rs : List RuleD) (i : Nat) : RuleD := rs.getD i ⟨ByteArray.empty, []⟩
theorem ruleAt_eq {rs : List RuleD} {i : Nat} (h : i < rs.length) : ruleAt rs i = rs[i] := by unfold ruleAt; simp [h]
def rn (rs : List RuleD) (i : Nat) : RuleN := ⟨i, setN (hsOf rs) (ruleAt rs i).head, (ruleAt rs i).body.map (setN (hsOf rs))⟩
/-- some rules of a grammar, so -/
def rnl (rs : List RuleD) (ix : List Nat) : List RuleN := ix.map (rn rs)

def gather (p : RuleN → Bool) (f : RuleN → Nat) (rl : List RuleN) : Nat := joinAll ((rl.filter p).map f)
theorem gather_bit (p : RuleN → Bool) (f : RuleN → Nat) (rl : List RuleN) (i : Nat) : (gather p f rl).testBit i = true ↔ ∃ r ∈ rl, p r = true ∧ (f r).testBit i = true := by
  unfold gather; rw [joinAll_bit]
  simp only [List.mem_map, List.mem_filter]
  constructor
  · rintro ⟨x, ⟨r, ⟨h1, h2⟩, rfl⟩, h3⟩; exact ⟨r, h1, h2, h3⟩
  · rintro ⟨r, h1, h2, h3⟩; exact ⟨_, ⟨r, ⟨h1, h2⟩, rfl⟩, h3⟩
theorem gather_lt {p : RuleN → Bool} {f : RuleN → Nat} {rl : List RuleN} (h : ∀ r ∈ rl, f r < 4194304) : gather p f rl < 4194304 := by
  unfold gather
  apply joinAll_lt
  intro x hx
  simp only [List.mem_map, List.mem_filter] at hx
  obtain ⟨r, ⟨h1, _⟩, rfl⟩ := hx
  exact h r h1
theorem gather_t {p : RuleN → Bool} {f : RuleN → Nat} {rl : List RuleN} {k : Nat} (h : k < rl.length) (hp : p rl[k] = true) : gather p f (rl.take (k + 1)) = gather p f (rl.take k) ||| f rl[k] := by
  unfold gather; rw [List.take_succ_eq_append_getElem h, List.filter_append, List.map_append]
  simp only [List.filter_cons, hp, if_true, List.filter_nil, List.map_cons, List.map_nil, joinAll_snoc]
theorem gather_f {p : RuleN → Bool} {f : RuleN → Nat} {rl : List RuleN} {k : Nat} (h : k < rl.length) (hp : p rl[k] = false) : gather p f (rl.take (k + 1)) = gather p f (rl.take k) := by
  unfold gather; rw [List.take_succ_eq_append_getElem h, List.filter_append, List.map_append]
  simp [hp]

/-- what comes to nothing (or, with tok, to tokens) alone -/
inductive Com (tok : Bool) (rs : List RuleD) : ByteArray → Prop
  | mk (i : Nat) (h : i < rs.length) (hb : ∀ s ∈ rs[i].body, (tok && tokB s) = false → Com tok rs s) : Com tok rs rs[i].head
theorem Com.in {tok : Bool} {rs : List RuleD} {s : ByteArray} (h : Com tok rs s) : s ∈ hsOf rs := by
  cases h with | mk i h _ => exact hs_all h
def stepCome (rl : List RuleN) (k : Nat) : Nat := gather (fun r => holdsB k (joinAll r.body)) (·.head) rl
def tokBase (tok : Bool) : Nat := if tok = true then 1048576 else 0
theorem tokBase_bit (tok : Bool) (i : Nat) : (tokBase tok).testBit i = true ↔ tok = true ∧ i = 20 := by
  unfold tokBase
  cases tok
  · simp
  · have : (1048576 : Nat) = 2 ^ 20 := rfl
    simp only [if_true, this, Nat.testBit_two_pow, decide_eq_true_eq]
    constructor <;> intro h <;> simp_all
theorem body_holds (rs : List RuleD) (k : Nat) (body : List ByteArray) : holdsB k (joinAll (body.map (setN (hsOf rs)))) = true ↔ ∀ s ∈ body, k.testBit (symIdx (hsOf rs) s) = true := by
  rw [holdsB_iff]
  constructor
  · intro h s hs
    apply h
    rw [joinAll_bit]
    exact ⟨_, List.mem_map_of_mem hs, (setN_bit _ _ _).2 rfl⟩
  · intro h i hi
    rw [joinAll_bit] at hi
    obtain ⟨x, hx, hb⟩ := hi
    obtain ⟨s, hs, rfl⟩ := List.mem_map.1 hx
    rw [setN_bit] at hb
    rw [← hb]; exact h s hs
theorem com_bits {rs : List RuleD} (R : Rt rs) (tok : Bool) {n : Nat} (h : FixAt (stepCome (rnl rs (List.range rs.length))) (tokBase tok) n) (s : ByteArray) :
    n.testBit (symIdx (hsOf rs) s) = true ↔ (tok && tokB s) = true ∨ Com tok rs s := by
  obtain ⟨_, h1, h2, h3⟩ := h
  have sound : ∀ i, n.testBit i = true → (tok = true ∧ i = 20) ∨ ∃ t, symIdx (hsOf rs) t = i ∧ Com tok rs t := by
    apply h3 (fun k => ∀ i, k.testBit i = true → (tok = true ∧ i = 20) ∨ ∃ t, symIdx (hsOf rs) t = i ∧ Com tok rs t)
    · intro i hi; exact .inl ((tokBase_bit tok i).1 hi)
    · intro k _ hk i hi
      rw [Nat.testBit_or, Bool.or_eq_true] at hi
      rcases hi with hi | hi
      · exact hk i hi
      · unfold stepCome at hi
        rw [gather_bit] at hi
        obtain ⟨r, hr, hp, hb⟩ := hi
        obtain ⟨j, hj, rfl⟩ := List.mem_map.1 hr
        rw [List.mem_range] at hj
        unfold rn at hp hb
        rw [ruleAt_eq hj] at hp hb
        rw [setN_bit] at hb
        rw [body_holds] at hp
        refine .inr ⟨_, hb, .mk j hj fun t ht hnt => ?_⟩
        rcases hk _ (hp t ht) with ⟨e1, e2⟩ | ⟨t', e1, e2⟩
        · rw [R.idx_tok] at e2; rw [e1, e2] at hnt; cases hnt
        · rw [R.idx_inj e2.in e1.symm]; exact e2
  constructor
  · intro hb
    rcases sound _ hb with ⟨e1, e2⟩ | ⟨t, e1, e2⟩
    · rw [R.idx_tok] at e2; left; rw [e1, e2]; rfl
    · right; rw [R.idx_inj e2.in e1.symm]; exact e2
  · rintro (hb | hb)
    · rw [Bool.and_eq_true] at hb
      apply h1
      rw [tokBase_bit]
      exact ⟨hb.1, R.idx_tok.2 hb.2⟩
    · induction hb with
      | mk i hi hbody ih =>
        apply h2
        unfold stepCome
        rw [gather_bit]
        refine ⟨rn rs i, List.mem_map_of_mem (by rw [List.mem_range]; exact hi), ?_, ?_⟩
        · unfold rn; rw [ruleAt_eq hi, body_holds]
          intro t ht
          cases hc : (tok && tokB t)
          · exact ih t ht hc
          · rw [Bool.and_eq_true] at hc
            apply h1
            rw [tokBase_bit]
            exact ⟨hc.1, R.idx_tok.2 hc.2⟩
        · unfold rn; rw [ruleAt_eq hi, setN_bit]
open Classical in
/-- the heads that come to it, in order -/
noncomputable def comOf (tok : Bool) (rs : List RuleD) : List ByteArray := (headsOf rs).filter fun s => decide (Com tok rs s)
theorem comOf_len (tok : Bool) (rs : List RuleD) : (comOf tok rs).length ≤ 1000 := Nat.le_trans (List.length_filter_le _ _) (headsOf_len rs)
end Go.Proofs.YtokdhgocgicdnaaGreatDoor

/- What symbols come to of a text, by rules; what can be the beginning; looks that go through a text from left to right: what is found by them is all that is come to. No program stands in this text. -/
namespace Go.Proofs.YtokdhgocgicdnaaGreatDoor
open Go.RowKit

/-- these symbols come to the text's tokens from a place on ahead of another -/
inductive Der (R : RuleD → Prop) (t : List ByteArray) : List ByteArray → Nat → Nat → Prop
  | nil (i : Nat) : Der R t [] i i
  | tok {s : ByteArray} {l : List ByteArray} {i k : Nat} (h : t[i]? = some s) (h' : Der R t l (i + 1) k) : Der R t (s :: l) i k
  | head {r : RuleD} {l : List ByteArray} {i j k : Nat} (hr : R r) (h : Der R t r.body i j) (h' : Der R t l j k) : Der R t (r.head :: l) i k
section
variable {R R' : RuleD → Prop} {t : List ByteArray}
theorem Der.le {l : List ByteArray} {i k : Nat} (h : Der R t l i k) : i ≤ k := by
  induction h with
  | nil => exact Nat.le_refl _
  | tok _ _ ih => omega
  | head _ _ _ ih1 ih2 => omega
theorem Der.end {l : List ByteArray} {i k : Nat} (h : Der R t l i k) : i ≤ t.length → k ≤ t.length := by
  induction h with
  | nil => exact id
  | tok h _ ih =>
    intro _
    have := (List.getElem?_eq_some_iff.1 h).1
    exact ih (by omega)
  | head _ _ _ ih1 ih2 => exact fun h => ih2 (ih1 h)
theorem Der.append {a b : List ByteArray} {i j k : Nat} (h : Der R t a i j) (h' : Der R t b j k) : Der R t (a ++ b) i k := by
  induction h with
  | nil => exact h'
  | tok h _ ih => exact .tok h (ih h')
  | head hr h _ _ ih2 => exact .head hr h (ih2 h')
theorem Der.mono (hR : ∀ r, R r → R' r) {l : List ByteArray} {i k : Nat} (h : Der R t l i k) : Der R' t l i k := by
  induction h with
  | nil => exact .nil _
  | tok h _ ih => exact .tok h ih
  | head hr _ _ ih1 ih2 => exact .head (hR _ hr) ih1 ih2
/-- a text that is cut behind the place is as good -/
theorem Der.cut {n : Nat} {l : List ByteArray} {i k : Nat} (h : Der R t l i k) (hk : k ≤ n) : Der R (t.take n) l i k := by
  induction h with
  | nil => exact .nil _
  | tok h h' ih =>
    have := h'.le
    exact .tok (by rw [List.getElem?_take_of_lt (by omega)]; exact h) (ih hk)
  | head hr h h' ih1 ih2 =>
    have := h'.le
    exact .head hr (ih1 (by omega)) (ih2 hk)
theorem Der.uncut {n : Nat} {l : List ByteArray} {i k : Nat} (h : Der R (t.take n) l i k) : Der R t l i k := by
  induction h with
  | nil => exact .nil _
  | @tok s l i k h h' ih =>
    have hi : i < n := by
      rcases Nat.lt_or_ge i n with h1 | h1
      · exact h1
      · rw [List.getElem?_take_eq_none h1] at h; cases h
    exact .tok (by rw [List.getElem?_take_of_lt hi] at h; exact h) ih
  | head hr h h' ih1 ih2 => exact .head hr ih1 ih2
theorem Der.split {a b : List ByteArray} {i k : Nat} (h : Der R t (a ++ b) i k) : ∃ j, Der R t a i j ∧ Der R t b j k := by
  induction a generalizing i with
  | nil => exact ⟨i, .nil i, h⟩
  | cons x a ih =>
    cases h with
    | tok h h' => obtain ⟨j, h1, h2⟩ := ih h'; exact ⟨j, .tok h h1, h2⟩
    | head hr h h' => obtain ⟨j, h1, h2⟩ := ih h'; exact ⟨j, .head hr h h1, h2⟩
theorem Der.one {r : RuleD} {i k : Nat} (hr : R r) (h : Der R t r.body i k) : Der R t [r.head] i k := .head hr h (.nil _)
theorem Der.snoc_tok {l : List ByteArray} {s : ByteArray} {i k : Nat} (h : Der R t l i k) (hs : t[k]? = some s) : Der R t (l ++ [s]) i (k + 1) := h.append (.tok hs (.nil _))
/-- a head that comes to something does so by a rule of its own -/
theorem Der.head_inv {h : ByteArray} {i k : Nat} (d : Der R t [h] i k) (ht : ∀ s, t[i]? = some s → s ≠ h) : ∃ r, R r ∧ r.head = h ∧ Der R t r.body i k := by
  cases d with
  | tok e _ => exact absurd rfl (ht _ e)
  | head hr d d' => cases d'; exact ⟨_, hr, rfl, d⟩
end

/-- all of a rule's body may come to tokens alone -/
def GoodR (rs : List RuleD) (r : RuleD) : Prop := ∀ s ∈ r.body, tokB s = true ∨ Com true rs s
theorem GoodR.com {rs : List RuleD} {r : RuleD} (hr : r ∈ rs) (h : GoodR rs r) : Com true rs r.head := by
  obtain ⟨i, hi, rfl⟩ := List.getElem_of_mem hr
  refine .mk i hi fun s hs hn => ?_
  rcases h s hs with h | h
  · simp [h] at hn
  · exact h
theorem Der.com {rs : List RuleD} {t : List ByteArray} (ht : ∀ s ∈ t, tokB s = true) {l : List ByteArray} {i k : Nat} (h : Der (· ∈ rs) t l i k) : ∀ s ∈ l, tokB s = true ∨ Com true rs s := by
  induction h with
  | nil => simp
  | tok h _ ih =>
    intro s hs
    rcases List.mem_cons.1 hs with rfl | hs
    · exact .inl (ht _ (List.mem_of_getElem? h))
    · exact ih s hs
  | head hr _ _ ih1 ih2 =>
    intro s hs
    rcases List.mem_cons.1 hs with rfl | hs
    · exact .inr (GoodR.com hr ih1)
    · exact ih2 s hs
theorem Der.good {rs : List RuleD} {t : List ByteArray} (ht : ∀ s ∈ t, tokB s = true) {l : List ByteArray} {i k : Nat} (h : Der (· ∈ rs) t l i k) : Der (fun r => r ∈ rs ∧ GoodR rs r) t l i k := by
  induction h with
  | nil => exact .nil _
  | tok h _ ih => exact .tok h ih
  | head hr h _ ih1 ih2 => exact .head ⟨hr, h.com ht⟩ ih1 ih2

/-- what comes of a head may begin with the text's tokens from a place on ahead of m -/
inductive Beg (R : RuleD → Prop) (t : List ByteArray) (m : Nat) : ByteArray → Nat → Prop
  | stop {r : RuleD} {i : Nat} (j : Nat) (hr : R r) (h : Der R t (r.body.take j) i m) : Beg R t m r.head i
  | go {r : RuleD} {i k : Nat} (j : Nat) {s : ByteArray} (hr : R r) (h : Der R t (r.body.take j) i k) (hj : r.body[j]? = some s) (h' : Beg R t m s k) : Beg R t m r.head i

/-- a rule on its way through the text -/
structure Look where
  rule : Nat
  done : Nat
  fr : Nat
  at' : Nat
deriving DecidableEq
def Look.past (l : Look) (k : Nat) : Look := ⟨l.rule, l.done + 1, l.fr, k⟩

/-- nothing is left to be looked for -/
structure Closed (rs : List RuleD) (t : List ByteArray) (K : Look → Prop) (F : ByteArray → Nat → Nat → Prop) : Prop where
  fin : ∀ l (h : l.rule < rs.length), K l → l.done = rs[l.rule].body.length → F rs[l.rule].head l.fr l.at'
  tok : ∀ l (h : l.rule < rs.length) s, K l → rs[l.rule].body[l.done]? = some s → headB s = false → t[l.at']? = some s → K (l.past (l.at' + 1))
  ask : ∀ l (h : l.rule < rs.length) s, K l → rs[l.rule].body[l.done]? = some s → headB s = true → ∀ r (hr : r < rs.length), rs[r].head = s → K ⟨r, 0, l.at', l.at'⟩
  step : ∀ l (h : l.rule < rs.length) s, K l → rs[l.rule].body[l.done]? = some s → headB s = true → ∀ k, F s l.at' k → K (l.past k)
section
variable {rs : List RuleD} {t : List ByteArray} {K : Look → Prop} {F : ByteArray → Nat → Nat → Prop}
theorem Closed.walk (C : Closed rs t K F) (hh : ∀ i (h : i < rs.length), headB rs[i].head = true) (ht : ∀ s ∈ t, tokB s = true) {l : List ByteArray} {i k : Nat} (h : Der (· ∈ rs) t l i k) :
    ∀ (n d i0 : Nat) (hn : n < rs.length), K ⟨n, d, i0, i⟩ → (∃ g, rs[n].body.drop d = l ++ g) → K ⟨n, d + l.length, i0, k⟩ := by
  induction h with
  | nil => exact fun n d i0 _ h _ => h
  | @tok s l i k h _ ih =>
    rintro n d i0 hn hk ⟨g, hg⟩
    have hd : rs[n].body[d]? = some s := by
      have := congrArg (fun x => x[0]?) hg
      simpa using this
    have hs : headB s = false := by
      have h1 := ht _ (List.mem_of_getElem? h)
      cases hb : headB s
      · rfl
      · rw [head_no_tok hb] at h1; cases h1
    have := ih n (d + 1) i0 hn (C.tok _ hn s hk hd hs h) ⟨g, by
      have := congrArg List.tail hg
      simpa [List.tail_drop] using this⟩
    rw [List.length_cons]
    rwa [show d + (l.length + 1) = d + 1 + l.length by omega]
  | @head r l i j k hr h _ ih1 ih2 =>
    rintro n d i0 hn hk ⟨g, hg⟩
    obtain ⟨q, hq, rfl⟩ := List.getElem_of_mem hr
    have hd : rs[n].body[d]? = some rs[q].head := by
      have := congrArg (fun x => x[0]?) hg
      simpa using this
    have hs := hh q hq
    have a1 := C.ask _ hn _ hk hd hs q hq rfl
    have a2 := ih1 q 0 i hq a1 ⟨[], by simp⟩
    have a3 := C.fin _ hq a2 (by simp)
    have a4 := C.step _ hn _ hk hd hs j a3
    have := ih2 n (d + 1) i0 hn a4 ⟨g, by
      have := congrArg List.tail hg
      simpa [List.tail_drop] using this⟩
    rw [List.length_cons]
    rwa [show d + (l.length + 1) = d + 1 + l.length by omega]
/-- all that a head comes to is found -/
theorem Closed.all (C : Closed rs t K F) (hh : ∀ i (h : i < rs.length), headB rs[i].head = true) (ht : ∀ s ∈ t, tokB s = true) {h : ByteArray} (hb : headB h = true) {i k : Nat} (hk : ∀ r (hr : r < rs.length), rs[r].head = h → K ⟨r, 0, i, i⟩) (d : Der (· ∈ rs) t [h] i k) : F h i k := by
  obtain ⟨r, hr, rfl, d2⟩ := d.head_inv fun s hs e => by
    subst e
    have := ht _ (List.mem_of_getElem? hs)
    rw [head_no_tok hb] at this; cases this
  obtain ⟨q, hq, rfl⟩ := List.getElem_of_mem hr
  have a2 := C.walk hh ht d2 q 0 i hq (hk q hq rfl) ⟨[], by simp⟩
  exact C.fin _ hq a2 (by simp)
/-- where a beginning ends, there is a look -/
theorem Closed.beg (C : Closed rs t K F) (hh : ∀ i (h : i < rs.length), headB rs[i].head = true) (ht : ∀ s ∈ t, tokB s = true) {m : Nat} {h : ByteArray} {i : Nat} (b : Beg (· ∈ rs) t m h i) :
    (∀ r (hr : r < rs.length), rs[r].head = h → K ⟨r, 0, i, i⟩) → ∃ l, K l ∧ l.at' = m := by
  induction b with
  | @stop r i j hr d =>
    intro hk
    obtain ⟨q, hq, rfl⟩ := List.getElem_of_mem hr
    exact ⟨_, C.walk hh ht d q 0 i hq (hk q hq rfl) ⟨rs[q].body.drop j, by simp⟩, rfl⟩
  | @go r i k j s hr d hj b ih =>
    intro hk
    obtain ⟨q, hq, rfl⟩ := List.getElem_of_mem hr
    have a1 := C.walk hh ht d q 0 i hq (hk q hq rfl) ⟨rs[q].body.drop j, by simp⟩
    have hjl := (List.getElem?_eq_some_iff.1 hj).1
    have hl : 0 + (rs[q].body.take j).length = j := by simp; omega
    rw [hl] at a1
    have hs : headB s = true := by
      cases b with
      | stop j hr _ => obtain ⟨p, hp, rfl⟩ := List.getElem_of_mem hr; exact hh p hp
      | go j hr _ _ _ => obtain ⟨p, hp, rfl⟩ := List.getElem_of_mem hr; exact hh p hp
    exact ih fun r hr e => C.ask _ hq s a1 hj hs r hr e
end

/-- what a look says is so, and it may be gone on with from the start -/
structure Sound (rs : List RuleD) (t : List ByteArray) (l : Look) : Prop where
  rule : l.rule < rs.length
  done : l.done ≤ rs[l.rule].body.length
  le : l.fr ≤ l.at'
  fit : l.at' ≤ t.length
  der : Der (· ∈ rs) t (rs[l.rule].body.take l.done) l.fr l.at'
/-- what begins here, begins from the start on, too -/
def Ctx (rs : List RuleD) (t : List ByteArray) (st h : ByteArray) (i : Nat) : Prop := ∀ m, Beg (· ∈ rs) t m h i → Beg (· ∈ rs) t m st 0
section
variable {rs : List RuleD} {t : List ByteArray}
theorem Sound.new {r i : Nat} (hr : r < rs.length) (hi : i ≤ t.length) : Sound rs t ⟨r, 0, i, i⟩ := ⟨hr, Nat.zero_le _, Nat.le_refl _, hi, by simp; exact .nil i⟩
theorem take_snoc' {l : List ByteArray} {j : Nat} {s : ByteArray} (h : l[j]? = some s) : l.take (j + 1) = l.take j ++ [s] := by
  obtain ⟨h1, rfl⟩ := List.getElem?_eq_some_iff.1 h
  exact List.take_succ_eq_append_getElem h1
theorem Sound.tok {l : Look} (S : Sound rs t l) {s : ByteArray} (hb : (rs[l.rule]'S.rule).body[l.done]? = some s) (ht : t[l.at']? = some s) : Sound rs t (l.past (l.at' + 1)) := by
  have h1 := (List.getElem?_eq_some_iff.1 hb).1
  have h2 := (List.getElem?_eq_some_iff.1 ht).1
  refine ⟨S.rule, by show l.done + 1 ≤ _; exact h1, by show l.fr ≤ l.at' + 1; have := S.le; omega, by show l.at' + 1 ≤ _; omega, ?_⟩
  show Der _ _ ((rs[l.rule]'S.rule).body.take (l.done + 1)) _ _
  rw [take_snoc' hb]
  exact S.der.snoc_tok ht
theorem Sound.head {l : Look} (S : Sound rs t l) {s : ByteArray} (hb : (rs[l.rule]'S.rule).body[l.done]? = some s) {k : Nat} (hd : Der (· ∈ rs) t [s] l.at' k) : Sound rs t (l.past k) := by
  have h1 := (List.getElem?_eq_some_iff.1 hb).1
  have h2 := hd.le
  refine ⟨S.rule, by show l.done + 1 ≤ _; exact h1, by show l.fr ≤ k; have := S.le; omega, by show k ≤ _; exact hd.end S.fit, ?_⟩
  show Der _ _ ((rs[l.rule]'S.rule).body.take (l.done + 1)) _ _
  rw [take_snoc' hb]
  exact S.der.append hd
theorem Sound.fin {l : Look} (S : Sound rs t l) (hd : l.done = (rs[l.rule]'S.rule).body.length) : Der (· ∈ rs) t [(rs[l.rule]'S.rule).head] l.fr l.at' := by
  have := S.der
  rw [hd, List.take_length] at this
  exact .one (List.getElem_mem S.rule) this
theorem Sound.ctx {l : Look} (S : Sound rs t l) {st : ByteArray} (c : Ctx rs t st (rs[l.rule]'S.rule).head l.fr) {s : ByteArray} (hb : (rs[l.rule]'S.rule).body[l.done]? = some s) : Ctx rs t st s l.at' :=
  fun m b => c m (.go l.done (List.getElem_mem S.rule) S.der hb b)
theorem Sound.beg {l : Look} (S : Sound rs t l) {st : ByteArray} (c : Ctx rs t st (rs[l.rule]'S.rule).head l.fr) : Beg (· ∈ rs) t l.at' st 0 := c _ (.stop l.done (List.getElem_mem S.rule) S.der)
end

/-- how many looks there may be -/
def allLooks (rs : List RuleD) (p : Nat) : List Look :=
  (List.range rs.length).flatMap fun r => (List.range ((ruleAt rs r).body.length + 1)).flatMap fun d => (List.range p).flatMap fun i => (List.range p).map fun k => ⟨r, d, i, k⟩
def mostTo (rs : List RuleD) (p k : Nat) : Nat := ((rs.take k).map fun r => (r.body.length + 1) * p * p).sum
theorem mostTo_succ {rs : List RuleD} {p k : Nat} (h : k < rs.length) : mostTo rs p (k + 1) = mostTo rs p k + (rs[k].body.length + 1) * p * p := by
  unfold mostTo
  rw [List.take_succ_eq_append_getElem h, List.map_append, List.sum_append]
  simp
theorem sum_const {α : Type} (l : List α) (n : Nat) : (l.map fun _ => n).sum = l.length * n := by
  induction l with
  | nil => simp
  | cons a l ih => rw [List.map_cons, List.sum_cons, ih, List.length_cons, Nat.succ_mul]; omega
theorem length_flat_const {α β : Type} (l : List α) (f : α → List β) (n : Nat) (h : ∀ x ∈ l, (f x).length = n) : (l.flatMap f).length = l.length * n := by
  induction l with
  | nil => simp
  | cons a l ih =>
    rw [List.flatMap_cons, List.length_append, ih fun x hx => h x (List.mem_cons_of_mem _ hx), h a (List.mem_cons_self), List.length_cons, Nat.succ_mul]; omega
theorem allLooks_len (rs : List RuleD) (p : Nat) : (allLooks rs p).length = mostTo rs p rs.length := by
  have key : ∀ k, k ≤ rs.length → ((List.range k).flatMap fun r => (List.range ((ruleAt rs r).body.length + 1)).flatMap fun d => (List.range p).flatMap fun i => (List.range p).map fun k => (⟨r, d, i, k⟩ : Look)).length = mostTo rs p k := by
    intro k
    induction k with
    | zero => intro _; simp [mostTo]
    | succ k ih =>
      intro hk
      rw [List.range_succ, List.flatMap_append, List.length_append, ih (by omega), mostTo_succ (by omega)]
      congr 1
      simp only [List.flatMap_cons, List.flatMap_nil, List.append_nil]
      rw [length_flat_const _ _ (p * p) fun d _ => by rw [length_flat_const _ _ p fun i _ => by simp]; simp, List.length_range, ruleAt_eq (by omega), Nat.mul_assoc]
  exact key rs.length (Nat.le_refl _)
theorem Sound.mem {rs : List RuleD} {t : List ByteArray} {l : Look} (S : Sound rs t l) : l ∈ allLooks rs (t.length + 1) := by
  unfold allLooks
  simp only [List.mem_flatMap, List.mem_range, List.mem_map]
  have h1 := S.le
  have h2 := S.fit
  have h3 := S.done
  refine ⟨l.rule, S.rule, l.done, by rw [ruleAt_eq S.rule]; omega, l.fr, by omega, l.at', by omega, rfl⟩
theorem len_le_of_nodup {α : Type} [DecidableEq α] {l m : List α} (hn : l.Nodup) (h : ∀ x ∈ l, x ∈ m) : l.length ≤ m.length := by
  induction l generalizing m with
  | nil => simp
  | cons a l ih =>
    rw [List.nodup_cons] at hn
    have h1 := ih (m := m.erase a) hn.2 fun x hx => (List.mem_erase_of_ne (fun e => hn.1 (by rw [← e]; exact hx))).2 (h x (List.mem_cons_of_mem _ hx))
    have h2 := List.length_erase_of_mem (h a List.mem_cons_self)
    have h3 := List.length_pos_of_mem (h a List.mem_cons_self)
    rw [List.length_cons]; omega
theorem looks_few {rs : List RuleD} {t : List ByteArray} {ks : List Look} (hn : ks.Nodup) (hs : ∀ l ∈ ks, Sound rs t l) : ks.length ≤ mostTo rs (t.length + 1) rs.length := by
  rw [← allLooks_len]
  exact len_le_of_nodup hn fun l hl => (hs l hl).mem
end Go.Proofs.YtokdhgocgicdnaaGreatDoor
