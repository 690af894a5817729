import Derived.Test.YtbaofldcdcllfaaDoorJSsz
import Derived.Test.YtbaofldcdcllfaaDoorRight
/- The symbol in whose place a right part may stand, as data. -/
namespace Go.Proofs.YtbaofldcdcllfaaDoor
open Go.RowKit

mutual
def symT (rs : List RuleD) : TreeD → ByteArray
  | .node rule tok kids =>
    if tok.size ≠ 0 ∧ kids.length = 0 then (if rule = -1 ∧ tokB tok = true then tok else ByteArray.empty)
    else if tok.size ≠ 0 ∨ rule < 0 then ByteArray.empty
    else match rs[rule.toNat]? with
      | none => ByteArray.empty
      | some r => if kids.length = r.body.length ∧ allS rs kids r.body = true then r.head else ByteArray.empty
def allS (rs : List RuleD) : List TreeD → List ByteArray → Bool
  | [], _ => true
  | _ :: _, [] => false
  | t :: ts, b :: bs => decide (symT rs t = b) && allS rs ts bs
end
theorem symT_eq (rs : List RuleD) (t : TreeD) : symT rs t =
    if t.tok.size ≠ 0 ∧ t.kids.length = 0 then (if t.rule = -1 ∧ tokB t.tok = true then t.tok else ByteArray.empty)
    else if t.tok.size ≠ 0 ∨ t.rule < 0 then ByteArray.empty
    else match rs[t.rule.toNat]? with
      | none => ByteArray.empty
      | some r => if t.kids.length = r.body.length ∧ allS rs t.kids r.body = true then r.head else ByteArray.empty := by
  cases t with
  | node r s k =>
    rw [symT]
    rfl
theorem allS_iff (rs : List RuleD) : ∀ (ts : List TreeD) (bs : List ByteArray) (_ : ts.length = bs.length), allS rs ts bs = true ↔ ∀ i (h : i < ts.length) (h' : i < bs.length), symT rs ts[i] = bs[i]
  | [], bs, _ => by simp [allS]
  | t :: ts, [], h => by simp at h
  | t :: ts, b :: bs, h => by
    rw [allS, Bool.and_eq_true, allS_iff rs ts bs (by simpa using h), decide_eq_true_eq]
    constructor
    · rintro ⟨h1, h2⟩ i hi hi'
      cases i with
      | zero => exact h1
      | succ i => exact h2 i (by simpa using hi) (by simpa using hi')
    · intro h3
      exact ⟨h3 0 (by simp) (by simp), fun i hi hi' => h3 (i + 1) (by simpa using hi) (by simpa using hi')⟩
section
variable {rs : List RuleD} {t : TreeD}
theorem symT_leaf (h1 : t.tok.size ≠ 0) (h2 : t.kids.length = 0) (h3 : t.rule = -1) (h4 : tokB t.tok = true) : symT rs t = t.tok := by
  rw [symT_eq, if_pos ⟨h1, h2⟩, if_pos ⟨h3, h4⟩]
theorem symT_leaf_no (h1 : t.tok.size ≠ 0) (h2 : t.kids.length = 0) (h3 : ¬ (t.rule = -1 ∧ tokB t.tok = true)) : symT rs t = ByteArray.empty := by
  rw [symT_eq, if_pos ⟨h1, h2⟩, if_neg h3]
theorem symT_tok (h1 : t.tok.size ≠ 0) (h2 : t.kids.length ≠ 0) : symT rs t = ByteArray.empty := by
  rw [symT_eq, if_neg (by omega), if_pos (.inl h1)]
theorem symT_neg (h1 : t.tok.size = 0) (h2 : t.rule < 0) : symT rs t = ByteArray.empty := by
  rw [symT_eq, if_neg (by omega), if_pos (.inr h2)]
theorem symT_none (h1 : t.tok.size = 0) (h2 : (rs.length : Int) ≤ t.rule) : symT rs t = ByteArray.empty := by
  rw [symT_eq, if_neg (by omega), if_neg (by omega), List.getElem?_eq_none (by omega)]
theorem symT_some (h1 : t.tok.size = 0) (h2 : ¬ t.rule < 0) (h3 : t.rule.toNat < rs.length) : symT rs t = if t.kids.length = rs[t.rule.toNat].body.length ∧ allS rs t.kids rs[t.rule.toNat].body = true then rs[t.rule.toNat].head else ByteArray.empty := by
  rw [symT_eq, if_neg (by omega), if_neg (by omega), List.getElem?_eq_getElem h3]
theorem symT_len (h1 : t.tok.size = 0) (h2 : ¬ t.rule < 0) (h3 : t.rule.toNat < rs.length) (h4 : t.kids.length ≠ rs[t.rule.toNat].body.length) : symT rs t = ByteArray.empty := by
  rw [symT_some h1 h2 h3, if_neg (fun h => h4 h.1)]
theorem symT_kid (h1 : t.tok.size = 0) (h2 : ¬ t.rule < 0) (h3 : t.rule.toNat < rs.length) (h4 : t.kids.length = rs[t.rule.toNat].body.length) {i : Nat} (hi : i < t.kids.length) (h5 : symT rs t.kids[i] ≠ rs[t.rule.toNat].body[i]'(by omega)) : symT rs t = ByteArray.empty := by
  rw [symT_some h1 h2 h3, if_neg]
  rintro ⟨_, h⟩
  exact h5 ((allS_iff rs _ _ h4).1 h i hi (by omega))
theorem symT_ok (h1 : t.tok.size = 0) (h2 : ¬ t.rule < 0) (h3 : t.rule.toNat < rs.length) (h4 : t.kids.length = rs[t.rule.toNat].body.length) (h5 : ∀ i (h : i < t.kids.length) (h' : i < rs[t.rule.toNat].body.length), symT rs t.kids[i] = rs[t.rule.toNat].body[i]) : symT rs t = rs[t.rule.toNat].head := by
  rw [symT_some h1 h2 h3, if_pos ⟨h4, (allS_iff rs _ _ h4).2 h5⟩]
/-- what a part's symbol can be -/
theorem symT_cases (rs : List RuleD) (t : TreeD) : symT rs t = ByteArray.empty ∨ (t.tok.size ≠ 0 ∧ t.kids.length = 0 ∧ t.rule = -1 ∧ tokB t.tok = true ∧ symT rs t = t.tok) ∨
    (t.tok.size = 0 ∧ ¬ t.rule < 0 ∧ ∃ h : t.rule.toNat < rs.length, symT rs t = rs[t.rule.toNat].head ∧ t.kids.length = rs[t.rule.toNat].body.length) := by
  by_cases h1 : t.tok.size = 0
  · by_cases h2 : t.rule < 0
    · exact .inl (symT_neg h1 h2)
    · by_cases h3 : t.rule.toNat < rs.length
      · rw [symT_some h1 h2 h3]
        by_cases h4 : t.kids.length = rs[t.rule.toNat].body.length ∧ allS rs t.kids rs[t.rule.toNat].body = true
        · rw [if_pos h4]; exact .inr (.inr ⟨h1, h2, h3, rfl, h4.1⟩)
        · rw [if_neg h4]; exact .inl rfl
      · exact .inl (symT_none h1 (by omega))
  · by_cases h2 : t.kids.length = 0
    · by_cases h3 : t.rule = -1 ∧ tokB t.tok = true
      · exact .inr (.inl ⟨h1, h2, h3.1, h3.2, symT_leaf h1 h2 h3.1 h3.2⟩)
      · exact .inl (symT_leaf_no h1 h2 h3)
    · exact .inl (symT_tok h1 h2)
end
theorem tok_no_head {s : ByteArray} (h : headB s = true) : tokB s = false := by
  rw [Bool.eq_false_iff]
  intro h'
  obtain ⟨a1, _, a2⟩ := (symB_iff 65 90 s).1 h
  obtain ⟨_, _, b2⟩ := (symB_iff 97 122 s).1 h'
  have := a2 0 (by omega) (by omega)
  have := b2 0 (by omega) (by omega)
  omega
theorem sym_size {lo hi : Nat} {s : ByteArray} (h : symB lo hi s = true) : s.size ≠ 0 := by have := ((symB_iff lo hi s).1 h).1; omega
theorem empty_size : ByteArray.empty.size = 0 := rfl
/-- a tree is right -/
def rightS (rs : List RuleD) (t : TreeD) : ByteArray := if gramB rs = true ∧ sizeT t ≤ 200 then symT rs t else ByteArray.empty
def rightB (rs : List RuleD) (t : TreeD) : Bool := decide ((rightS rs t).size ≠ 0)
end Go.Proofs.YtbaofldcdcllfaaDoor

/- What stands at the top of a tree: impl.partOf. -/
namespace Go.Proofs.YtbaofldcdcllfaaDoor
open Go.RowKit

/-- a leaf or a node, as a value -/
def partV (t : TreeD) (u : Value) : Value := if t.tok.size ≠ 0 ∧ t.kids.length = 0 then .iface 76 (.agg #[.int .i64 t.rule, .string t.tok]) else .iface 78 (.agg #[.int .i64 t.rule, .string t.tok, u])
theorem partV_node {t : TreeD} (h : ¬ (t.tok.size ≠ 0 ∧ t.kids.length = 0)) (u : Value) : partV t u = .iface 78 (.agg #[.int .i64 t.rule, .string t.tok, u]) := by rw [partV, if_neg h]
theorem partV_leaf {t : TreeD} (h : t.tok.size ≠ 0 ∧ t.kids.length = 0) (u : Value) : partV t u = .iface 76 (.agg #[.int .i64 t.rule, .string t.tok]) := by rw [partV, if_pos h]
theorem toks_empty (s : ByteArray) : (s.toList == []) = decide (s.size = 0) := by
  rw [Bool.eq_iff_iff]
  simp only [beq_iff_eq, decide_eq_true_eq]
  rw [ByteArray.toList_eq]
  have e : s.size = s.data.toList.length := by rw [Array.length_toList]; rfl
  rw [e]
  exact List.length_eq_zero_iff.symm

set_option maxRecDepth 100000 in
set_option maxHeartbeats 1000000 in
theorem partOf_any (t : TreeD) (A : Option Addr) (c : Nat) (w : World) :
    Calls Tryd.prog 32 #[.agg #[.int .i64 t.rule, .string t.tok, .slice A t.kids.length c]] w fun e w' => e = .returned (partV t (.slice A t.kids.length c)) ∧ w' = w.alloc (.cells #[.int .i64 t.rule, .string t.tok, .slice A t.kids.length c] 29) := by
  by_cases h1 : t.tok.size = 0
  · have e1 : (t.tok.toList == []) = true := by rw [toks_empty, decide_eq_true h1]
    go_enter Tryd.func32, Tryd.ntmps32
    go_wp2
    go_ret
    exact ⟨(congrArg Ending.returned (partV_node (by omega) _)).symm, rfl⟩
  · have e1 : (t.tok.toList == []) = false := by rw [toks_empty, decide_eq_false h1]
    by_cases h2 : t.kids.length = 0
    · have e2 : ((t.kids.length : Int) == 0) = true := by rw [h2]; rfl
      have H2 := Lib.hid h2
      clear h2
      go_enter Tryd.func32, Tryd.ntmps32
      go_wp2
      go_ret
      exact ⟨(congrArg Ending.returned (partV_leaf ⟨h1, H2.out⟩ _)).symm, rfl⟩
    · have e2 : ((t.kids.length : Int) == 0) = false := by rw [beq_eq_false_iff_ne]; omega
      go_enter Tryd.func32, Tryd.ntmps32
      go_wp2
      go_ret
      exact ⟨(congrArg Ending.returned (partV_node (by omega) _)).symm, rfl⟩
end Go.Proofs.YtbaofldcdcllfaaDoor

/- The model's size of a tree, as far as one asks: spec.l05Size. -/
namespace Go.Proofs.YtbaofldcdcllfaaDoor
open Go.RowKit

/-- r is the size n, or more than most -/
def Upto (n : Nat) (most r : Int) : Prop := ((n : Int) ≤ most → r = n) ∧ (most < n → most < r ∧ r ≤ n)
def SpY (t : TreeD) : Prop := ∀ (z : Bool) (u : Value) (lo hi : Nat) (most : Int) (w : World), Kd z w lo hi u t.kids → hi ≤ w.heap.size → sizeT t ≤ 2097152 → 0 ≤ most → most ≤ 1000 →
  Calls Tryd.prog 16 #[trV t u, .int .i64 most] w fun e w' => ∃ r, e = .returned (.int .i64 r) ∧ Upto (sizeT t) most r ∧ Below w.heap.size w w'

set_option maxRecDepth 100000 in
set_option maxHeartbeats 1000000 in
theorem specSize5_of (t : TreeD) (ih : ∀ i (h : i < t.kids.length), SpY t.kids[i]) : SpY t := by
  intro z u lo hi most w h hhi hn hm0 hm1
  have hst := sizeT_eq t
  obtain ⟨A, c, U, rfl, hlc, hc, hs, hcell, hsub⟩ := h.parts
  unfold maxLen at hc
  have HC := Lib.hid hcell
  have HB := Lib.hid hsub
  clear hcell hsub h hs
  unfold trV
  have hb0 := al1 w (.cells #[.int .i64 t.rule, .string t.tok, .slice A t.kids.length c] 29)
  have R0 := Row.made w 29 #[.int .i64 t.rule, .string t.tok, .slice A t.kids.length c]
  go_enter Tryd.func16, Tryd.ntmps16
  go_wp2
  generalize w.alloc (.cells #[.int .i64 t.rule, .string t.tok, .slice A t.kids.length c] 29) = w0 at hb0 R0 ⊢
  go_loopw [5, 6] (fun l i wr => ∃ (k : Nat) (r : Int), k ≤ t.kids.length ∧ i = .int .i64 k ∧ l = .int .i64 r ∧ Upto (1 + sizeTs (t.kids.take k)) most r ∧ Below w0.heap.size w0 wr) (fun _ i _ => t.kids.length - (intOf i).toNat)
  case atStart => exact ⟨0, 1, by omega, rfl, rfl, (by unfold Upto; simp [sizeTs] <;> omega), Below.refl _ _⟩
  case round =>
    obtain ⟨k, r, hk, rfl, rfl, hup, hbw⟩ := hrel
    have hsw := hbw.size
    have hws := hb0.size
    have R1 := R0.below hbw R0.lt
    have hlt0 := R1.lt
    have c2 := R1.cell 2
    simp at c2
    have htl := sizeTs_take_le t.kids k
    have HU := Lib.hid hup
    by_cases hlt : k < t.kids.length
    · by_cases hr : r ≤ most
      · obtain ⟨b, off, rfl, _, hbh, _, hcc⟩ := HC.out (by omega)
        obtain ⟨hc0, hc1, hc2⟩ := hcc k hlt
        have hbx := hb0.trans (hbw.mono hws)
        have k0 := (hbx.cell (p := ⟨b, off + k * 3, none⟩) (by show b < _; omega)).trans hc0
        have k1 := (hbx.cell (p := ⟨b, off + k * 3 + 1, none⟩) (by show b < _; omega)).trans hc1
        have k2 := (hbx.cell (p := ⟨b, off + k * 3 + 2, none⟩) (by show b < _; omega)).trans hc2
        have hst' := (HB.out k hlt).under hbx hhi
        have hg := sizeTs_take t.kids k hlt
        have hle := sizeTs_take_le t.kids (k + 1)
        have HG := Lib.hid hg
        have hle2 : 1 + sizeTs (t.kids.take k) + sizeT t.kids[k] ≤ 2097152 := by omega
        have hr0 : 1 ≤ r := by unfold Upto at hup; omega
        have hre : r = ((1 + sizeTs (t.kids.take k) : Nat) : Int) := by unfold Upto at hup; omega
        have HR := Lib.hid hre
        clear hcc hc0 hc1 hc2 hg hle R1 hst hup hre htl
        go_wp2_with fail
        refine (ih k hlt z (U k) lo hi (most - r) _ hst' (by omega) (by omega) (by omega) (by omega)).mono ?_
        rintro e w1 ⟨r1, rfl, hup1, hb1⟩
        have HU1 := Lib.hid hup1
        have hr1 : 0 ≤ r1 ∧ r1 ≤ 2097152 := by unfold Upto at hup1; omega
        clear hup1
        obtain ⟨hr1, hr2⟩ := hr1
        go_wp2
        go_roundw
        case rel => exact ⟨k + 1, r + r1, by omega, by go_num, by go_num, by have := HU1.out; have := HR.out; have := HG.out; unfold Upto at *; omega, hbw.trans (hb1.mono hsw)⟩
        case measure => simp [intOf]; omega
      · clear R1 hup
        have i1 : (k : Int) < (t.kids.length : Int) := by omega
        go_wp2
        go_ret
        exact ⟨_, rfl, by have := HU.out; unfold Upto at *; omega, hb0.trans (hbw.mono hws)⟩
    · have hks : k = t.kids.length := by omega
      have HK := Lib.hid hks
      clear hks R1 hup
      go_wp2
      go_ret
      refine ⟨_, rfl, ?_, hb0.trans (hbw.mono hws)⟩
      have e := HK.out
      subst e
      have := HU.out
      rw [List.take_length] at this
      rw [hst]; exact this
theorem specSize5_any (t : TreeD) : SpY t := tree_ind specSize5_of t
end Go.Proofs.YtbaofldcdcllfaaDoor
