import Derived.Test.YtbaofldcdcllfaaJSym
import Derived.Test.YtbaofldcdcllfaaRight
import Derived.Laws.BitsAllLaws
/- The walks of the program's Heads and Tokens. -/
namespace Go.Proofs.Ytbaofldcdcllfaa
open Go.RowKit Go.Maps

/-- a list of texts that a call has made -/
def MadeS (w : World) (ss : List ByteArray) (e : Ending) (w' : World) : Prop := ∃ u g, e = .returned u ∧ OwnS w' g u ss ∧ (ss ≠ [] → w.heap.size ≤ g ∧ g < w'.heap.size) ∧ Below w.heap.size w w'
theorem OwnS.nil (w : World) (g : Nat) : OwnS w g (.slice none 0 0) [] := ⟨none, 0, rfl, Nat.le_refl _, by unfold maxLen; omega, by simp, fun h => by simp at h⟩

def headsTo (rs : List RuleD) (k : Nat) : List ByteArray := (rs.take k).foldl (fun acc r => addSym acc r.head) []
/-- the heads of a right grammar -/
def headsOf (rs : List RuleD) : List ByteArray := if gramB rs = true then headsTo rs rs.length else []
theorem headsTo_succ {rs : List RuleD} {k : Nat} (h : k < rs.length) : headsTo rs (k + 1) = addSym (headsTo rs k) rs[k].head := by
  unfold headsTo; rw [List.take_succ_eq_append_getElem h, List.foldl_append]; rfl
theorem headsTo_nodup (rs : List RuleD) (k : Nat) : (headsTo rs k).Nodup := by
  induction k with
  | zero => simp [headsTo]
  | succ k ih =>
    by_cases h : k < rs.length
    · rw [headsTo_succ h]; exact addSym_nodup ih
    · have : headsTo rs (k + 1) = headsTo rs k := by unfold headsTo; rw [List.take_of_length_le (by omega), List.take_of_length_le (by omega)]
      rw [this]; exact ih
theorem headsTo_len (rs : List RuleD) (k : Nat) : (headsTo rs k).length ≤ k := by
  induction k with
  | zero => simp [headsTo]
  | succ k ih =>
    by_cases h : k < rs.length
    · rw [headsTo_succ h]; have := addSym_len (headsTo rs k) rs[k].head; omega
    · have : headsTo rs (k + 1) = headsTo rs k := by unfold headsTo; rw [List.take_of_length_le (by omega), List.take_of_length_le (by omega)]
      rw [this]; omega
theorem mem_addSym {acc : List ByteArray} {s t : ByteArray} (h : t ∈ addSym acc s) : t ∈ acc ∨ t = s := by
  unfold addSym at h
  split at h
  · exact .inl h
  · rw [List.mem_append, List.mem_singleton] at h; exact h
theorem headsTo_mem {rs : List RuleD} {k : Nat} {s : ByteArray} (h : s ∈ headsTo rs k) : ∃ i, ∃ h : i < rs.length, s = rs[i].head := by
  induction k with
  | zero => simp [headsTo] at h
  | succ k ih =>
    by_cases hk : k < rs.length
    · rw [headsTo_succ hk] at h
      rcases mem_addSym h with h | h
      · exact ih h
      · exact ⟨k, hk, h⟩
    · have : headsTo rs (k + 1) = headsTo rs k := by unfold headsTo; rw [List.take_of_length_le (by omega), List.take_of_length_le (by omega)]
      rw [this] at h; exact ih h
theorem symB_size' {lo hi : Nat} {s : ByteArray} (h : symB lo hi s = true) : s.size ≤ 4 := ((symB_iff lo hi s).1 h).2.1
theorem headB_size {s : ByteArray} (h : headB s = true) : s.size ≤ 4 := symB_size' h
theorem tokB_size {s : ByteArray} (h : tokB s = true) : s.size ≤ 4 := symB_size' h
theorem headsOf_len (rs : List RuleD) : (headsOf rs).length ≤ 1000 := by
  unfold headsOf
  split
  · rename_i h
    have := headsTo_len rs rs.length
    have := ((gramB_iff rs).1 h).2.1
    omega
  · simp
theorem headsOf_t {rs : List RuleD} (h : gramB rs = true) : headsOf rs = headsTo rs rs.length := if_pos h
theorem headsOf_f {rs : List RuleD} (h : gramB rs = false) : headsOf rs = [] := if_neg (by rw [h]; decide)

set_option maxRecDepth 100000 in
set_option maxHeartbeats 2000000 in
theorem implHeads_any (rs : List RuleD) (v : Value) (lo hi : Nat) (w : World) (h : Rules w lo hi v rs) (hh : hi ≤ w.heap.size) :
    Calls Try.prog 51 #[.agg #[v]] w (MadeS w (headsOf rs)) := by
  have HV := Lib.hid h
  obtain ⟨A, c, rfl, hlc, hc, hcell⟩ := h
  unfold maxLen at hc
  have HC := Lib.hid hcell
  clear hcell
  have hb := al1 w (.cells #[.slice A rs.length c] 41)
  have R0 := Row.made w 41 #[.slice A rs.length c]
  cases hq : gramB rs
  · rw [headsOf_f hq]
    have HQ := Lib.hid hq
    clear hq
    go_enter Try.func51, Try.ntmps51
    go_wp2_with fail
    refine (implGramRight_any rs _ lo hi _ (HV.out.below hb hh) (by simp; omega)).mono ?_
    rintro e w1 ⟨rfl, b1⟩
    rw [HQ.out]
    go_wp2
    go_ret
    exact ⟨_, 0, rfl, OwnS.nil _ _, fun hn => absurd rfl hn, hb.trans (b1.mono (by simp))⟩
  · rw [headsOf_t hq]
    have HG := Lib.hid ((gramB_iff rs).1 hq)
    have HQ := Lib.hid hq
    have hl20 := HG.out.2.1
    clear hq
    go_enter Try.func51, Try.ntmps51
    go_wp2_with fail
    refine (implGramRight_any rs _ lo hi _ (HV.out.below hb hh) (by simp; omega)).mono ?_
    rintro e w1 ⟨rfl, b1⟩
    rw [HQ.out]
    have hb1 := hb.trans (b1.mono (by simp))
    have z1 : w.heap.size + 1 ≤ w1.heap.size := by have := b1.size; simpa using this
    have R1 := R0.below b1 (by simp)
    clear b1 R0 hb
    go_wp2_with fail
    refine (newSymbolList_any _).mono ?_
    rintro e w2 ⟨b, rfl, hn2, hbl, hbl2, b2⟩
    have hb2 := hb1.trans (b2.mono (by omega))
    have z2 := b2.size
    have c2 := (R1.below b2 (by omega)).cell 0
    simp at c2
    have N3 : Nums (w2.alloc (.cells #[.map (some b)] 120)) b [] := hn2.keep (Below.heap_alloc _ _ _ hbl2)
    have R3 := Row.made w2 120 #[.map (some b)]
    have hb3 := hb2.trans ((al1 w2 (.cells #[.map (some b)] 120)).mono hb2.size)
    have hlt2 : w.heap.size < w2.heap.size := by omega
    clear hn2 R1 hb1 b2
    go_wp2
    go_loopw [5, 13] (fun _ i wr => ∃ (k : Nat), k ≤ rs.length ∧ i = .int .i64 k ∧ Nums wr b (headsTo rs k) ∧ Row wr w2.heap.size 120 #[.map (some b)] ∧ Below w.heap.size w wr) (fun _ i _ => rs.length - (intOf i).toNat)
    case atStart => exact ⟨0, by omega, rfl, N3, R3, hb3⟩
    case round =>
      obtain ⟨k, hk, rfl, hnum, hrow, hbw⟩ := hrel
      have hsw := hbw.size
      have hwl := hrow.lt
      have hnl := hnum.lt
      clear N3 R3 hb3 hb2
      by_cases hlt : k < rs.length
      · obtain ⟨b0, off, rfl, _, hbh, hcc⟩ := HC.out (by omega)
        obtain ⟨hhs, hc0, u, hc1, hst⟩ := hcc k hlt
        have hc0' := (hbw.cell (p := ⟨b0, off + k * 2, none⟩) (by show b0 < _; omega)).trans hc0
        have hc1' := (hbw.cell (p := ⟨b0, off + k * 2 + 1, none⟩) (by show b0 < _; omega)).trans hc1
        obtain ⟨A', c', rfl, -⟩ := hst
        clear hcc hc0 hc1
        have ha := al1 wr (.cells #[.string rs[k].head, .slice A' rs[k].body.length c'] 101)
        have hr0 := hrow.cell 0
        simp at hr0
        have HN := Lib.hid (headsTo_nodup rs k)
        have hln := headsTo_len rs k
        have HSU := Lib.hid (headsTo_succ hlt)
        have N4 : Nums (wr.alloc (.cells #[.string rs[k].head, .slice A' rs[k].body.length c'] 101)) b (headsTo rs k) := hnum.below ha hnl
        have R4 := hrow.alloc (.cells #[.string rs[k].head, .slice A' rs[k].body.length c'] 101)
        clear hrow hnum
        go_wp2_with fail
        refine (number_any b (headsTo rs k) rs[k].head _ N4 HN.out hhs (by omega)).mono ?_
        rintro e w5 ⟨rfl, N5, g5⟩
        have R5 : Row w5 w2.heap.size 120 #[.map (some b)] := R4.same (g5.block _ R4.lt (by simp; omega))
        have B5 : Below w.heap.size w w5 := (hbw.trans (ha.mono hsw)).grown g5 (by simp; omega) (fun j hj => by injection hj with hj; omega)
        rw [← HSU.out] at N5
        clear N4 R4 g5
        go_wp2
        go_roundw
        case rel => exact ⟨k + 1, by omega, by go_num, N5, R5, B5⟩
        case measure => simp [intOf]; omega
      · have hks : k = rs.length := by omega
        subst hks
        have hr0 := hrow.cell 0
        simp at hr0
        have hln := headsTo_len rs rs.length
        have HSZ : Hid (∀ s ∈ headsTo rs rs.length, s.size ≤ 1000000) := Lib.hid (fun s hs => by
          obtain ⟨i, hi, rfl⟩ := headsTo_mem hs
          have := headB_size ((ruleB_iff _).1 (HG.out.2.2 i hi)).1
          omega)
        have HN := Lib.hid (headsTo_nodup rs rs.length)
        clear hrow
        go_wp2_with fail
        refine (told_any b (headsTo rs rs.length) _ hnum HN.out (by omega) HSZ.out).mono ?_
        rintro e w6 ⟨u, g, rfl, o6, h61, h62, b6⟩
        go_wp2
        go_ret
        exact ⟨u, g, rfl, o6, fun _ => ⟨by omega, h62⟩, hbw.trans (b6.mono hsw)⟩
end Go.Proofs.Ytbaofldcdcllfaa

/- Sets as numbers, a bit a symbol; what a slice of such sets reads as; what a fixed point is. -/
namespace Go.Proofs.Ytbaofldcdcllfaa
open Go.RowKit

def joinAll (l : List Nat) : Nat := l.foldl (· ||| ·) 0
theorem joinAll_nil : joinAll [] = 0 := rfl
theorem joinAll_snoc (l : List Nat) (x : Nat) : joinAll (l ++ [x]) = joinAll l ||| x := by unfold joinAll; rw [List.foldl_append]; rfl
theorem joinAll_take {l : List Nat} {k : Nat} (h : k < l.length) : joinAll (l.take (k + 1)) = joinAll (l.take k) ||| l[k] := by
  rw [List.take_succ_eq_append_getElem h, joinAll_snoc]
theorem joinAll_two (a b : Nat) : joinAll [a, b] = a ||| b := by simp [joinAll]
theorem foldl_bit (l : List Nat) (a i : Nat) : (l.foldl (· ||| ·) a).testBit i = true ↔ a.testBit i = true ∨ ∃ x ∈ l, x.testBit i = true := by
  induction l generalizing a with
  | nil => simp
  | cons x l ih =>
    rw [List.foldl_cons, ih, Nat.testBit_or]
    simp [or_assoc]
theorem joinAll_bit (l : List Nat) (i : Nat) : (joinAll l).testBit i = true ↔ ∃ x ∈ l, x.testBit i = true := by
  unfold joinAll; rw [foldl_bit]; simp
theorem or_lt {a b : Nat} (ha : a < 4194304) (hb : b < 4194304) : a ||| b < 4194304 := Nat.or_lt_two_pow (n := 22) ha hb
theorem foldl_lt (l : List Nat) (a : Nat) (ha : a < 4194304) (h : ∀ x ∈ l, x < 4194304) : l.foldl (· ||| ·) a < 4194304 := by
  induction l generalizing a with
  | nil => exact ha
  | cons x l ih => exact ih _ (or_lt ha (h x (by simp))) fun y hy => h y (by simp [hy])
theorem joinAll_lt {l : List Nat} (h : ∀ x ∈ l, x < 4194304) : joinAll l < 4194304 := foldl_lt l 0 (by omega) h
theorem joinAll_take_lt {l : List Nat} (h : ∀ x ∈ l, x < 4194304) (k : Nat) : joinAll (l.take k) < 4194304 := joinAll_lt fun x hx => h x (List.mem_of_mem_take hx)
theorem or_eq (a b : Nat) (ha : a < 4194304) (hb : b < 4194304) : bits .or .u32 (a : Int) (b : Int) = ((a ||| b : Nat) : Int) := u32_or_nat a b (by omega) (by omega)

/-- is all of o in s? -/
def holdsB (s o : Nat) : Bool := decide (o ||| s = s)
theorem holdsB_iff (s o : Nat) : holdsB s o = true ↔ ∀ i, o.testBit i = true → s.testBit i = true := by
  unfold holdsB
  rw [decide_eq_true_eq]
  constructor
  · intro h i hi
    rw [← h, Nat.testBit_or, hi, Bool.true_or]
  · intro h
    apply Nat.eq_of_testBit_eq
    intro i
    rw [Nat.testBit_or]
    cases hi : o.testBit i
    · simp
    · rw [h i hi]; rfl
theorem holds_eq (s o : Nat) (hs : s < 4194304) (ho : o < 4194304) : (bits .andNot .u32 (o : Int) (s : Int) == 0) = holdsB s o := by
  rw [u32_andNot_nat o s (by omega) (by omega), Bool.eq_iff_iff, holdsB_iff]
  have e : 4294967295 - s = 2 ^ 32 - (s + 1) := by omega
  rw [e]
  constructor
  · intro h i hi
    have h0 : o &&& (2 ^ 32 - (s + 1)) = 0 := by simpa using h
    have h1 : (o &&& (2 ^ 32 - (s + 1))).testBit i = false := by rw [h0]; simp
    rw [Nat.testBit_and, hi, Nat.testBit_two_pow_sub_succ (by omega)] at h1
    have hi32 : i < 32 := by
      rcases Nat.lt_or_ge i 32 with h | h
      · exact h
      · have : o < 2 ^ i := Nat.lt_of_lt_of_le (show o < 2 ^ 32 by omega) (Nat.pow_le_pow_right (by omega) h)
        rw [Nat.testBit_lt_two_pow this] at hi
        cases hi
    simpa [hi32] using h1
  · intro h
    have h0 : o &&& (2 ^ 32 - (s + 1)) = 0 := by
      apply Nat.eq_of_testBit_eq
      intro i
      rw [Nat.testBit_and, Nat.testBit_two_pow_sub_succ (by omega)]
      cases hi : o.testBit i
      · simp
      · rw [h i hi]; simp
    rw [h0]; rfl

/-- a list of sets, in blocks ahead of hi -/
def BitsAt (w : World) (hi : Nat) (v : Value) (l : List Nat) : Prop :=
  ∃ A c, v = .slice A l.length c ∧ l.length ≤ c ∧ c ≤ maxLen ∧ (∀ x ∈ l, x < 4194304) ∧
    (0 < l.length → ∃ b off, A = some ⟨b, off, none⟩ ∧ b < hi ∧ ∀ i (h : i < l.length), w.cell? ⟨b, off + i, none⟩ = some (.int .u32 (l[i] : Nat)))
theorem BitsAt.below {w w' : World} {hi : Nat} {v : Value} {l : List Nat} (h : BitsAt w hi v l) {B : Nat} (b : Below B w w') (hB : hi ≤ B) : BitsAt w' hi v l := by
  obtain ⟨A, c, h1, h2, h3, h4, h5⟩ := h
  refine ⟨A, c, h1, h2, h3, h4, fun hp => ?_⟩
  obtain ⟨g, off, e, hg, hc⟩ := h5 hp
  exact ⟨g, off, e, hg, fun i hi => (b.cell (p := ⟨g, off + i, none⟩) (by show g < B; omega)).trans (hc i hi)⟩
theorem BitsAt.more {w : World} {hi hi' : Nat} {v : Value} {l : List Nat} (h : BitsAt w hi v l) (hh : hi ≤ hi') : BitsAt w hi' v l := by
  obtain ⟨A, c, h1, h2, h3, h4, h5⟩ := h
  refine ⟨A, c, h1, h2, h3, h4, fun hp => ?_⟩
  obtain ⟨g, off, e, hg, hc⟩ := h5 hp
  exact ⟨g, off, e, by omega, hc⟩
theorem BitsAt.two {w : World} {g : Nat} {t : TypeId} {a b : Nat} (h : Row w g t #[.int .u32 (a : Int), .int .u32 (b : Int)]) (ha : a < 4194304) (hb : b < 4194304) :
    BitsAt w w.heap.size (.slice (some ⟨g, 0, none⟩) 2 2) [a, b] := by
  refine ⟨_, 2, rfl, by simp, by unfold maxLen; omega, by simp [ha, hb], fun _ => ⟨g, 0, rfl, h.lt, fun i hi => ?_⟩⟩
  rw [Nat.zero_add, h.cell]
  match i, hi with
  | 0, _ => rfl
  | 1, _ => rfl

/-- what is come to of b, by F again and again, till nothing changes -/
def FixAt (F : Nat → Nat) (b n : Nat) : Prop :=
  n < 4194304 ∧ (∀ i, b.testBit i = true → n.testBit i = true) ∧ (∀ i, (F n).testBit i = true → n.testBit i = true) ∧
    ∀ P : Nat → Prop, P b → (∀ k, k < 4194304 → P k → P (k ||| F k)) → P n
end Go.Proofs.Ytbaofldcdcllfaa
