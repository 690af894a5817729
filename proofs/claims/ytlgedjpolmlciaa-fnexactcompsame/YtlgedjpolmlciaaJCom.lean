import Derived.Test.YtlgedjpolmlciaaJHeads
import Derived.Laws.BitsAllLaws
/- Sets as numbers, a bit a symbol; what a slice of such sets reads as; what a fixed point is. -/
namespace Go.Proofs.Ytlgedjpolmlciaa
open Go.RowKit

def joinAll (l : List Nat) : Nat := l.foldl (· ||| ·) 0
theorem joinAll_nil : joinAll [] = 0 := rfl
theorem joinAll_snoc (l : List Nat) (x : Nat) : joinAll (l ++ [x]) = joinAll l ||| x := by unfold joinAll; rw [List.foldl_append]; rfl
theorem joinAll_take {l : List Nat} {k : Nat} (h : k < l.length) : joinAll (l.take (k + 1)) = joinAll (l.take k) ||| l[k] := by
  rw [List.take_succ_eq_append_getElem h, joinAll_snoc]
theorem joinAll_two (a b : Nat) : joinAll [a, b] = a ||| b := by simp [joinAll]
theorem foldl_bit (l : List Nat) (a i : Nat) : (l.foldl (· ||| ·) a).testBit i = true ↔ a.testBit i = true ∨ ∃ x ∈ l, x.testBit i = true := by
  induction l generalizing a with
  | nil => simp
  | cons x l ih =>
    rw [List.foldl_cons, ih, Nat.testBit_or]
    simp [or_assoc]
theorem joinAll_bit (l : List Nat) (i : Nat) : (joinAll l).testBit i = true ↔ ∃ x ∈ l, x.testBit i = true := by
  unfold joinAll; rw [foldl_bit]; simp
theorem or_lt {a b : Nat} (ha : a < 4194304) (hb : b < 4194304) : a ||| b < 4194304 := Nat.or_lt_two_pow (n := 22) ha hb
theorem foldl_lt (l : List Nat) (a : Nat) (ha : a < 4194304) (h : ∀ x ∈ l, x < 4194304) : l.foldl (· ||| ·) a < 4194304 := by
  induction l generalizing a with
  | nil => exact ha
  | cons x l ih => exact ih _ (or_lt ha (h x (by simp))) fun y hy => h y (by simp [hy])
theorem joinAll_lt {l : List Nat} (h : ∀ x ∈ l, x < 4194304) : joinAll l < 4194304 := foldl_lt l 0 (by omega) h
theorem joinAll_take_lt {l : List Nat} (h : ∀ x ∈ l, x < 4194304) (k : Nat) : joinAll (l.take k) < 4194304 := joinAll_lt fun x hx => h x (List.mem_of_mem_take hx)
theorem or_eq (a b : Nat) (ha : a < 4194304) (hb : b < 4194304) : bits .or .u32 (a : Int) (b : Int) = ((a ||| b : Nat) : Int) := u32_or_nat a b (by omega) (by omega)

/-- is all of o in s? -/
def holdsB (s o : Nat) : Bool := decide (o ||| s = s)
theorem holdsB_iff (s o : Nat) : holdsB s o = true ↔ ∀ i, o.testBit i = true → s.testBit i = true := by
  unfold holdsB
  rw [decide_eq_true_eq]
  constructor
  · intro h i hi
    rw [← h, Nat.testBit_or, hi, Bool.true_or]
  · intro h
    apply Nat.eq_of_testBit_eq
    intro i
    rw [Nat.testBit_or]
    cases hi : o.testBit i
    · simp
    · rw [h i hi]; rfl
theorem holds_eq (s o : Nat) (hs : s < 4194304) (ho : o < 4194304) : (bits .andNot .u32 (o : Int) (s : Int) == 0) = holdsB s o := by
  rw [u32_andNot_nat o s (by omega) (by omega), Bool.eq_iff_iff, holdsB_iff]
  have e : 4294967295 - s = 2 ^ 32 - (s + 1) := by omega
  rw [e]
  constructor
  · intro h i hi
    have h0 : o &&& (2 ^ 32 - (s + 1)) = 0 := by simpa using h
    have h1 : (o &&& (2 ^ 32 - (s + 1))).testBit i = false := by rw [h0]; simp
    rw [Nat.testBit_and, hi, Nat.testBit_two_pow_sub_succ (by omega)] at h1
    have hi32 : i < 32 := by
      rcases Nat.lt_or_ge i 32 with h | h
      · exact h
      · have : o < 2 ^ i := Nat.lt_of_lt_of_le (show o < 2 ^ 32 by omega) (Nat.pow_le_pow_right (by omega) h)
        rw [Nat.testBit_lt_two_pow this] at hi
        cases hi
    simpa [hi32] using h1
  · intro h
    have h0 : o &&& (2 ^ 32 - (s + 1)) = 0 := by
      apply Nat.eq_of_testBit_eq
      intro i
      rw [Nat.testBit_and, Nat.testBit_two_pow_sub_succ (by omega)]
      cases hi : o.testBit i
      · simp
      · rw [h i hi]; simp
    rw [h0]; rfl

/-- a list of sets, in blocks ahead of hi -/
def BitsAt (w : World) (hi : Nat) (v : Value) (l : List Nat) : Prop :=
  ∃ A c, v = .slice A l.length c ∧ l.length ≤ c ∧ c ≤ maxLen ∧ (∀ x ∈ l, x < 4194304) ∧
    (0 < l.length → ∃ b off, A = some ⟨b, off, none⟩ ∧ b < hi ∧ ∀ i (h : i < l.length), w.cell? ⟨b, off + i, none⟩ = some (.int .u32 (l[i] : Nat)))
theorem BitsAt.below {w w' : World} {hi : Nat} {v : Value} {l : List Nat} (h : BitsAt w hi v l) {B : Nat} (b : Below B w w') (hB : hi ≤ B) : BitsAt w' hi v l := by
  obtain ⟨A, c, h1, h2, h3, h4, h5⟩ := h
  refine ⟨A, c, h1, h2, h3, h4, fun hp => ?_⟩
  obtain ⟨g, off, e, hg, hc⟩ := h5 hp
  exact ⟨g, off, e, hg, fun i hi => (b.cell (p := ⟨g, off + i, none⟩) (by show g < B; omega)).trans (hc i hi)⟩
theorem BitsAt.more {w : World} {hi hi' : Nat} {v : Value} {l : List Nat} (h : BitsAt w hi v l) (hh : hi ≤ hi') : BitsAt w hi' v l := by
  obtain ⟨A, c, h1, h2, h3, h4, h5⟩ := h
  refine ⟨A, c, h1, h2, h3, h4, fun hp => ?_⟩
  obtain ⟨g, off, e, hg, hc⟩ := h5 hp
  exact ⟨g, off, e, by omega, hc⟩
theorem BitsAt.two {w : World} {g : Nat} {t : TypeId} {a b : Nat} (h : Row w g t #[.int .u32 (a : Int), .int .u32 (b : Int)]) (ha : a < 4194304) (hb : b < 4194304) :
    BitsAt w w.heap.size (.slice (some ⟨g, 0, none⟩) 2 2) [a, b] := by
  refine ⟨_, 2, rfl, by simp, by unfold maxLen; omega, by simp [ha, hb], fun _ => ⟨g, 0, rfl, h.lt, fun i hi => ?_⟩⟩
  rw [Nat.zero_add, h.cell]
  match i, hi with
  | 0, _ => rfl
  | 1, _ => rfl

/-- what is come to of b, by F again and again, till nothing changes -/
def FixAt (F : Nat → Nat) (b n : Nat) : Prop :=
  n < 4194304 ∧ (∀ i, b.testBit i = true → n.testBit i = true) ∧ (∀ i, (F n).testBit i = true → n.testBit i = true) ∧
    ∀ P : Nat → Prop, P b → (∀ k, k < 4194304 → P k → P (k ||| F k)) → P n
end Go.Proofs.Ytlgedjpolmlciaa

/- Which heads come to nothing, or to tokens alone: a least set; the numbers of symbols; the fixed point by bits tells that set. -/
namespace Go.Proofs.Ytlgedjpolmlciaa
open Go.RowKit

theorem head_no_tok {s : ByteArray} (h : headB s = true) : tokB s = false := by
  unfold headB at h
  unfold tokB
  obtain ⟨h1, h2, h3⟩ := (symB_iff _ _ _).1 h
  have h0 := h3 0 (by omega) (by omega)
  exact symB_f (k := 0) (by omega) (by omega)
/-- a grammar's heads -/
def hsOf (rs : List RuleD) : List ByteArray := headsTo rs rs.length
theorem addSym_mono {acc : List ByteArray} {s t : ByteArray} (h : t ∈ acc) : t ∈ addSym acc s := by
  unfold addSym; split
  · exact h
  · exact List.mem_append_left _ h
theorem addSym_self (acc : List ByteArray) (s : ByteArray) : s ∈ addSym acc s := by
  unfold addSym; split
  · rename_i h; exact (inB_iff _ _).1 h
  · exact List.mem_append_right _ (by simp)
theorem headsTo_all {rs : List RuleD} {k i : Nat} (hk : k ≤ rs.length) (h : i < k) : (rs[i]'(by omega)).head ∈ headsTo rs k := by
  induction k with
  | zero => omega
  | succ k ih =>
    rw [headsTo_succ (by omega)]
    rcases Nat.lt_or_ge i k with h1 | h1
    · exact addSym_mono (ih (by omega) h1)
    · have : i = k := by omega
      subst this; exact addSym_self _ _
theorem hs_all {rs : List RuleD} {i : Nat} (h : i < rs.length) : rs[i].head ∈ hsOf rs := headsTo_all (Nat.le_refl _) h
theorem hs_mem {rs : List RuleD} {s : ByteArray} (h : s ∈ hsOf rs) : ∃ i, ∃ h : i < rs.length, s = rs[i].head := headsTo_mem h

/-- the number of a symbol -/
def symIdx (hs : List ByteArray) (s : ByteArray) : Nat := if tokB s = true then 20 else if hs.findIdx (fun t => decide (t = s)) < hs.length then hs.findIdx (fun t => decide (t = s)) else 21
def setN (hs : List ByteArray) (s : ByteArray) : Nat := 2 ^ symIdx hs s
/-- a right grammar, as these laws use it -/
structure Rt (rs : List RuleD) : Prop where
  one : 1 ≤ rs.length
  few : rs.length ≤ 20
  head : ∀ i (h : i < rs.length), headB rs[i].head = true
  len : ∀ i (h : i < rs.length), rs[i].body.length ≤ 5
  body : ∀ i (h : i < rs.length), ∀ s ∈ rs[i].body, symOK s = true
theorem Rt.of {rs : List RuleD} (h : gramB rs = true) : Rt rs := by
  obtain ⟨h1, h2, h3⟩ := (gramB_iff rs).1 h
  refine ⟨h1, h2, fun i hi => ((ruleB_iff _).1 (h3 i hi)).1, fun i hi => ((ruleB_iff _).1 (h3 i hi)).2.1, fun i hi s hs => ?_⟩
  obtain ⟨k, hk, rfl⟩ := List.getElem_of_mem hs
  exact ((ruleB_iff _).1 (h3 i hi)).2.2 k hk
section
variable {rs : List RuleD} (R : Rt rs)
include R
theorem Rt.hs_len : (hsOf rs).length ≤ 20 := Nat.le_trans (headsTo_len rs _) R.few
theorem Rt.hs_head {s : ByteArray} (h : s ∈ hsOf rs) : headB s = true := by
  obtain ⟨i, hi, rfl⟩ := hs_mem h
  exact R.head i hi
theorem Rt.idx_lt (s : ByteArray) : symIdx (hsOf rs) s < 22 := by
  unfold symIdx
  have := R.hs_len
  split
  · omega
  · split <;> omega
theorem Rt.setN_lt (s : ByteArray) : setN (hsOf rs) s < 4194304 := Nat.pow_lt_pow_right (a := 2) (by omega) (R.idx_lt s)
theorem Rt.idx_tok {s : ByteArray} : symIdx (hsOf rs) s = 20 ↔ tokB s = true := by
  have := R.hs_len
  unfold symIdx
  split
  · rename_i h; simp [h]
  · rename_i h
    simp only [h]
    split <;> constructor <;> intro h' <;> first | omega | simp at h'
theorem Rt.idx_in {s : ByteArray} (h : symIdx (hsOf rs) s < 20) : ∃ hl : symIdx (hsOf rs) s < (hsOf rs).length, (hsOf rs)[symIdx (hsOf rs) s] = s := by
  have hne : ¬ tokB s = true := fun e => by rw [← R.idx_tok] at e; omega
  have he : symIdx (hsOf rs) s = if (hsOf rs).findIdx (fun t => decide (t = s)) < (hsOf rs).length then (hsOf rs).findIdx (fun t => decide (t = s)) else 21 := by
    unfold symIdx; rw [if_neg hne]
  by_cases hf : (hsOf rs).findIdx (fun t => decide (t = s)) < (hsOf rs).length
  · rw [if_pos hf] at he
    have := List.findIdx_getElem (w := hf)
    refine ⟨by rw [he]; exact hf, ?_⟩
    simp only [he]
    simpa using this
  · rw [if_neg hf] at he; omega
theorem Rt.idx_mem {s : ByteArray} (h : s ∈ hsOf rs) : symIdx (hsOf rs) s < 20 := by
  have hh := head_no_tok (R.hs_head h)
  have hf : (hsOf rs).findIdx (fun t => decide (t = s)) < (hsOf rs).length := List.findIdx_lt_length_of_exists ⟨s, h, by simp⟩
  have := R.hs_len
  unfold symIdx
  rw [hh, if_neg (by decide), if_pos hf]
  omega
theorem Rt.idx_inj {s t : ByteArray} (h : s ∈ hsOf rs) (e : symIdx (hsOf rs) t = symIdx (hsOf rs) s) : t = s := by
  have h1 := R.idx_mem h
  obtain ⟨_, h2⟩ := R.idx_in h1
  obtain ⟨_, h3⟩ := R.idx_in (e ▸ h1)
  rw [← h3, ← h2]
  simp only [e]
theorem Rt.idx_at {i : Nat} (h : i < (hsOf rs).length) : symIdx (hsOf rs) (hsOf rs)[i] = i := by
  have h1 := R.idx_mem (List.getElem_mem h)
  obtain ⟨h2, h3⟩ := R.idx_in h1
  rcases Nat.lt_trichotomy (symIdx (hsOf rs) (hsOf rs)[i]) i with h4 | h4 | h4
  · exact absurd h3 (nodup_ne (headsTo_nodup rs _) h2 h (by omega))
  · exact h4
  · exact absurd h3 (nodup_ne (headsTo_nodup rs _) h2 h (by omega))
end
theorem setN_bit (hs : List ByteArray) (s : ByteArray) (i : Nat) : (setN hs s).testBit i = true ↔ symIdx hs s = i := by
  unfold setN; rw [Nat.testBit_two_pow]; simp

/-- a rule of which each symbol is a set -/
structure RuleN where
  num : Nat
  head : Nat
  body : List Nat
def ruleAt (rs : List RuleD) (i : Nat) : RuleD := rs.getD i ⟨ByteArray.empty, []⟩
theorem ruleAt_eq {rs : List RuleD} {i : Nat} (h : i < rs.length) : ruleAt rs i = rs[i] := by unfold ruleAt; simp [h]
def rn (rs : List RuleD) (i : Nat) : RuleN := ⟨i, setN (hsOf rs) (ruleAt rs i).head, (ruleAt rs i).body.map (setN (hsOf rs))⟩
/-- some rules of a grammar, so -/
def rnl (rs : List RuleD) (ix : List Nat) : List RuleN := ix.map (rn rs)

def gather (p : RuleN → Bool) (f : RuleN → Nat) (rl : List RuleN) : Nat := joinAll ((rl.filter p).map f)
theorem gather_bit (p : RuleN → Bool) (f : RuleN → Nat) (rl : List RuleN) (i : Nat) : (gather p f rl).testBit i = true ↔ ∃ r ∈ rl, p r = true ∧ (f r).testBit i = true := by
  unfold gather; rw [joinAll_bit]
  simp only [List.mem_map, List.mem_filter]
  constructor
  · rintro ⟨x, ⟨r, ⟨h1, h2⟩, rfl⟩, h3⟩; exact ⟨r, h1, h2, h3⟩
  · rintro ⟨r, h1, h2, h3⟩; exact ⟨_, ⟨r, ⟨h1, h2⟩, rfl⟩, h3⟩
theorem gather_lt {p : RuleN → Bool} {f : RuleN → Nat} {rl : List RuleN} (h : ∀ r ∈ rl, f r < 4194304) : gather p f rl < 4194304 := by
  unfold gather
  apply joinAll_lt
  intro x hx
  simp only [List.mem_map, List.mem_filter] at hx
  obtain ⟨r, ⟨h1, _⟩, rfl⟩ := hx
  exact h r h1
theorem gather_t {p : RuleN → Bool} {f : RuleN → Nat} {rl : List RuleN} {k : Nat} (h : k < rl.length) (hp : p rl[k] = true) : gather p f (rl.take (k + 1)) = gather p f (rl.take k) ||| f rl[k] := by
  unfold gather; rw [List.take_succ_eq_append_getElem h, List.filter_append, List.map_append]
  simp only [List.filter_cons, hp, if_true, List.filter_nil, List.map_cons, List.map_nil, joinAll_snoc]
theorem gather_f {p : RuleN → Bool} {f : RuleN → Nat} {rl : List RuleN} {k : Nat} (h : k < rl.length) (hp : p rl[k] = false) : gather p f (rl.take (k + 1)) = gather p f (rl.take k) := by
  unfold gather; rw [List.take_succ_eq_append_getElem h, List.filter_append, List.map_append]
  simp [hp]

/-- what comes to nothing (or, with tok, to tokens) alone -/
inductive Com (tok : Bool) (rs : List RuleD) : ByteArray → Prop
  | mk (i : Nat) (h : i < rs.length) (hb : ∀ s ∈ rs[i].body, (tok && tokB s) = false → Com tok rs s) : Com tok rs rs[i].head
theorem Com.in {tok : Bool} {rs : List RuleD} {s : ByteArray} (h : Com tok rs s) : s ∈ hsOf rs := by
  cases h with | mk i h _ => exact hs_all h
def stepCome (rl : List RuleN) (k : Nat) : Nat := gather (fun r => holdsB k (joinAll r.body)) (·.head) rl
def tokBase (tok : Bool) : Nat := if tok = true then 1048576 else 0
theorem tokBase_bit (tok : Bool) (i : Nat) : (tokBase tok).testBit i = true ↔ tok = true ∧ i = 20 := by
  unfold tokBase
  cases tok
  · simp
  · have : (1048576 : Nat) = 2 ^ 20 := rfl
    simp only [if_true, this, Nat.testBit_two_pow, decide_eq_true_eq]
    constructor <;> intro h <;> simp_all
theorem body_holds (rs : List RuleD) (k : Nat) (body : List ByteArray) : holdsB k (joinAll (body.map (setN (hsOf rs)))) = true ↔ ∀ s ∈ body, k.testBit (symIdx (hsOf rs) s) = true := by
  rw [holdsB_iff]
  constructor
  · intro h s hs
    apply h
    rw [joinAll_bit]
    exact ⟨_, List.mem_map_of_mem hs, (setN_bit _ _ _).2 rfl⟩
  · intro h i hi
    rw [joinAll_bit] at hi
    obtain ⟨x, hx, hb⟩ := hi
    obtain ⟨s, hs, rfl⟩ := List.mem_map.1 hx
    rw [setN_bit] at hb
    rw [← hb]; exact h s hs
theorem com_bits {rs : List RuleD} (R : Rt rs) (tok : Bool) {n : Nat} (h : FixAt (stepCome (rnl rs (List.range rs.length))) (tokBase tok) n) (s : ByteArray) :
    n.testBit (symIdx (hsOf rs) s) = true ↔ (tok && tokB s) = true ∨ Com tok rs s := by
  obtain ⟨_, h1, h2, h3⟩ := h
  have sound : ∀ i, n.testBit i = true → (tok = true ∧ i = 20) ∨ ∃ t, symIdx (hsOf rs) t = i ∧ Com tok rs t := by
    apply h3 (fun k => ∀ i, k.testBit i = true → (tok = true ∧ i = 20) ∨ ∃ t, symIdx (hsOf rs) t = i ∧ Com tok rs t)
    · intro i hi; exact .inl ((tokBase_bit tok i).1 hi)
    · intro k _ hk i hi
      rw [Nat.testBit_or, Bool.or_eq_true] at hi
      rcases hi with hi | hi
      · exact hk i hi
      · unfold stepCome at hi
        rw [gather_bit] at hi
        obtain ⟨r, hr, hp, hb⟩ := hi
        obtain ⟨j, hj, rfl⟩ := List.mem_map.1 hr
        rw [List.mem_range] at hj
        unfold rn at hp hb
        rw [ruleAt_eq hj] at hp hb
        rw [setN_bit] at hb
        rw [body_holds] at hp
        refine .inr ⟨_, hb, .mk j hj fun t ht hnt => ?_⟩
        rcases hk _ (hp t ht) with ⟨e1, e2⟩ | ⟨t', e1, e2⟩
        · rw [R.idx_tok] at e2; rw [e1, e2] at hnt; cases hnt
        · rw [R.idx_inj e2.in e1.symm]; exact e2
  constructor
  · intro hb
    rcases sound _ hb with ⟨e1, e2⟩ | ⟨t, e1, e2⟩
    · rw [R.idx_tok] at e2; left; rw [e1, e2]; rfl
    · right; rw [R.idx_inj e2.in e1.symm]; exact e2
  · rintro (hb | hb)
    · rw [Bool.and_eq_true] at hb
      apply h1
      rw [tokBase_bit]
      exact ⟨hb.1, R.idx_tok.2 hb.2⟩
    · induction hb with
      | mk i hi hbody ih =>
        apply h2
        unfold stepCome
        rw [gather_bit]
        refine ⟨rn rs i, List.mem_map_of_mem (by rw [List.mem_range]; exact hi), ?_, ?_⟩
        · unfold rn; rw [ruleAt_eq hi, body_holds]
          intro t ht
          cases hc : (tok && tokB t)
          · exact ih t ht hc
          · rw [Bool.and_eq_true] at hc
            apply h1
            rw [tokBase_bit]
            exact ⟨hc.1, R.idx_tok.2 hc.2⟩
        · unfold rn; rw [ruleAt_eq hi, setN_bit]
open Classical in
/-- the heads that come to it, in order -/
noncomputable def comOf (tok : Bool) (rs : List RuleD) : List ByteArray := (headsOf rs).filter fun s => decide (Com tok rs s)
theorem comOf_len (tok : Bool) (rs : List RuleD) : (comOf tok rs).length ≤ 1000 := Nat.le_trans (List.length_filter_le _ _) (headsOf_len rs)
end Go.Proofs.Ytlgedjpolmlciaa
