import Derived.Test.YtonfiahihmcmlaaJTextS
import Derived.Test.YtonfiahihmcmlaaDr
import Derived.Deep.RegionHeld3
import Derived.Deep.RegionLaw
import Derived.Deep.AppendLies
import Derived.Test.YtonfiahihmcmlaaJRightb
import Derived.Laws.BitsAllLaws
/- The program's readRule. -/
namespace Go.Proofs.Ytonfiahihmcmlaa
open Go.RowKit
open Tx (bs)

theorem piece_size {m : UInt8} {t : ByteArray} {s : ByteArray} (h : s ∈ pieces m t) : s.size ≤ t.size := by
  have key : ∀ (l cur : List UInt8) (x : List UInt8), x ∈ splitGo m cur l → x.length ≤ cur.length + l.length := by
    intro l
    induction l with
    | nil => intro cur x hx; simp [splitGo] at hx; subst hx; simp
    | cons c l ih =>
      intro cur x hx
      unfold splitGo at hx
      split at hx
      · rw [List.mem_cons] at hx
        rcases hx with rfl | hx
        · simp
        · have := ih [] x hx; simp at this ⊢; omega
      · have := ih (cur ++ [c]) x hx; simp at this ⊢; omega
  unfold pieces at h
  obtain ⟨x, hx, rfl⟩ := List.mem_map.1 h
  have := key _ _ _ hx
  rw [Tx.bs_size]
  have e : t.data.toList.length = t.size := rfl
  simp only [List.length_nil] at this
  omega
theorem Sts.form {w : World} {base : Nat} {v : Value} {ss : List ByteArray} (h : Sts w base v ss) (hn : ss ≠ []) : ∃ g cap cur, v = .slice (some ⟨g, 0, none⟩) ss.length cap ∧ base ≤ g ∧ Row w g 9 cur ∧ ss.length ≤ cap ∧ cap ≤ maxLen ∧ ∀ i (h : i < ss.length), cur[i]? = some (.string ss[i]) := by
  rcases h.2 with ⟨rfl, h0⟩ | ⟨g, cap, cur, rfl, hb, hh, hc, hm, hs, ht⟩
  · exact absurd (List.eq_nil_of_length_eq_zero h0) hn
  · refine ⟨g, cap, cur, rfl, hb, hh, hc, hm, fun i hi => ?_⟩
    have h1 : (cur.toList.take (ss.length * 1))[i]? = some (.string ss[i]) := by rw [ht, List.getElem?_map, List.getElem?_eq_getElem hi]; rfl
    rw [List.getElem?_take_of_lt (by omega)] at h1
    rw [← Array.getElem?_toList]
    exact h1
theorem pieces_at {m : UInt8} {t : ByteArray} {i : Nat} (h : i < (pieces m t).length) : (pieces m t)[i].data.toList = (splitB m t.data.toList)[i]?.getD [] := by
  unfold pieces at h ⊢
  rw [List.length_map] at h
  rw [List.getElem_map, List.getElem?_eq_getElem h]; rfl
theorem pieces_length (m : UInt8) (t : ByteArray) : (pieces m t).length = (splitB m t.data.toList).length := by unfold pieces; rw [List.length_map]
theorem pieces_drop (m : UInt8) (t : ByteArray) (k : Nat) : (pieces m t).drop k = ((splitB m t.data.toList).drop k).map bs := by unfold pieces; rw [List.map_drop]

theorem neq_lit {s : ByteArray} {l : List UInt8} (h : s ≠ ⟨l.toArray⟩) : (s.toList == l) = false := by
  have := list_eqH s ⟨l.toArray⟩
  rw [decide_eq_false h, ByteArray.toList_eq ⟨l.toArray⟩] at this
  exact this
theorem eq_lit {s : ByteArray} {l : List UInt8} (h : s = ⟨l.toArray⟩) : (s.toList == l) = true := by
  have := list_eqH s ⟨l.toArray⟩
  rw [decide_eq_true h, ByteArray.toList_eq ⟨l.toArray⟩] at this
  exact this

set_option maxRecDepth 100000 in
set_option maxHeartbeats 2000000 in
theorem readRule_none (t : ByteArray) (w : World) (ht : t.size ≤ 1000000) (hr : readR t.data.toList = none) :
    Calls Try.prog 129 #[.string t] w fun e w' => e = .returned (.tuple #[.agg #[.string ⟨#[]⟩, .slice none 0 0], .bool false]) ∧ Below w.heap.size w w' := by
  have hb := al1 w (.cells #[.string ⟨#[]⟩, .slice none 0 0] 49)
  have R0 := Row.made w 49 #[.string ⟨#[]⟩, .slice none 0 0]
  have hpl := pieces_len 32 t
  have hcase : (pieces 32 t).length < 3 ∨ ∃ h : 1 < (pieces 32 t).length, 3 ≤ (pieces 32 t).length ∧ (pieces 32 t)[1] ≠ ⟨#[45, 62]⟩ := by
    unfold readR at hr
    simp only at hr
    split at hr
    · rename_i h
      rw [← pieces_length] at h
      by_cases h3 : (pieces 32 t).length < 3
      · exact .inl h3
      · refine .inr ⟨by omega, by omega, fun e => ?_⟩
        rcases h with h | h
        · exact h3 h
        · have := pieces_at (m := 32) (t := t) (i := 1) (by omega)
          rw [e] at this
          exact h this.symm
    · cases hr
  have HP : Hid (pieces 32 t ≠ []) := Lib.hid (by unfold pieces; simpa using splitB_ne 32 t.data.toList)
  have HCS := Lib.hid hcase
  clear hr hcase
  go_enter Try.func129, Try.ntmps129
  go_wp2_with fail
  refine (implCutAt_any t 32 _ ht (by decide)).mono ?_
  rintro e w1 ⟨v, rfl, hs, b1⟩
  obtain ⟨g, cap, cur, rfl, hg, hrow, hlc, hc, hcc⟩ := hs.form HP.out
  have R1 := R0.below b1 (by simp)
  have c0 := R1.cell 0
  have c1 := R1.cell 1
  have f0 := R1.free 0
  have f1 := R1.free 1
  simp at c0 c1
  have hb1 := hb.trans (b1.mono (by simp))
  have HB1 := Lib.hid hb1
  clear hs b1 R1 hb1
  rcases HCS.out with h3 | ⟨h1, h3, hne⟩
  · go_wp2
    exact bodyPost_ret (v := .tuple #[.agg #[.string ⟨#[]⟩, .slice none 0 0], .bool false]) (by simp [results, Try.results129, go_sem, c0, c1]) rfl ⟨rfl, (HB1.out.setCell (Nat.le_refl _) _).setCell (Nat.le_refl _) _⟩
  · have hw1 := (hrow.cell 1).trans (hcc 1 h1)
    generalize (pieces 32 t)[1] = s1 at hw1 hne
    have d1 : (s1.toList == [45, 62]) = false := neq_lit hne
    go_wp2
    exact bodyPost_ret (v := .tuple #[.agg #[.string ⟨#[]⟩, .slice none 0 0], .bool false]) (by simp [results, Try.results129, go_sem, c0, c1]) rfl ⟨rfl, (HB1.out.setCell (Nat.le_refl _) _).setCell (Nat.le_refl _) _⟩

/-- what a line that is read says of its words -/
theorem readR_some {l : List UInt8} {r : RuleD} (h : readR l = some r) : 3 ≤ (splitB 32 l).length ∧ (splitB 32 l)[1]?.getD [] = [45, 62] ∧ r.head = bs ((splitB 32 l)[0]?.getD []) ∧
    r.body = if 3 < (splitB 32 l).length ∨ (splitB 32 l)[2]?.getD [] ≠ [126] then ((splitB 32 l).drop 2).map bs else [] := by
  unfold readR at h
  simp only at h
  split at h
  · cases h
  · rename_i hn
    injection h with h
    subst h
    refine ⟨by
      have : ¬ (splitB 32 l).length < 3 := fun e => hn (.inl e)
      omega, ?_, rfl, rfl⟩
    by_cases e : (splitB 32 l)[1]?.getD [] = [45, 62]
    · exact e
    · exact absurd (.inr e) hn
theorem ba_eq {a b : ByteArray} (h : a.data.toList = b.data.toList) : a = b := ByteArray.ext (Array.ext' h)

theorem drop_own {W : World} {g cap : Nat} {cur : Array Value} {ps bd : List ByteArray} (hb : bd = ps.drop 2) (h3 : 3 ≤ ps.length) (hlc : ps.length ≤ cap) (hc : cap ≤ maxLen) (hsz : ∀ s ∈ ps, s.size ≤ maxLen) (hr : Row W g 9 cur)
    (hcc : ∀ i (h : i < ps.length), cur[i]? = some (.string ps[i])) : OwnS W g (.slice (some ⟨g, 2, none⟩) (ps.length - 2) (cap - 2)) bd := by
  subst hb
  refine ⟨_, cap - 2, by rw [List.length_drop], by rw [List.length_drop]; omega, by omega, fun s hs => hsz s (List.mem_of_mem_drop hs), fun _ => ⟨2, cur, rfl, hr, fun i hi => ?_⟩⟩
  rw [List.length_drop] at hi
  rw [hcc (2 + i) (by omega), List.getElem_drop]
/-- a rule that a call has made of a line -/
def MadeR (w : World) (r : RuleD) (e : Ending) (w' : World) : Prop := ∃ u g, e = .returned (.tuple #[.agg #[.string r.head, u], .bool true]) ∧ OwnS w' g u r.body ∧ (r.body ≠ [] → w.heap.size < g ∧ g < w'.heap.size) ∧ Below w.heap.size w w'

set_option maxRecDepth 100000 in
set_option maxHeartbeats 4000000 in
theorem readRule_some (t : ByteArray) (r : RuleD) (w : World) (ht : t.size ≤ 1000000) (hr : readR t.data.toList = some r) :
    Calls Try.prog 129 #[.string t] w (MadeR w r) := by
  have hb := al1 w (.cells #[.string ⟨#[]⟩, .slice none 0 0] 49)
  have R0 := Row.made w 49 #[.string ⟨#[]⟩, .slice none 0 0]
  have hpl := pieces_len 32 t
  obtain ⟨q1, q2, q3, q4⟩ := readR_some hr
  rw [← pieces_length] at q1 q4
  have hp0 := pieces_at (m := 32) (t := t) (i := 0) (by omega)
  have hp1 := pieces_at (m := 32) (t := t) (i := 1) (by omega)
  have hp2 := pieces_at (m := 32) (t := t) (i := 2) (by omega)
  have e1 : (pieces 32 t)[1] = ⟨#[45, 62]⟩ := ba_eq (hp1.trans q2)
  have e0 : (pieces 32 t)[0] = r.head := by rw [q3]; exact ba_eq hp0
  rw [← hp2, ← pieces_drop] at q4
  have HE1 := Lib.hid e1
  have HE0 := Lib.hid e0
  have HQ4 := Lib.hid q4
  have HP : Hid (pieces 32 t ≠ []) := Lib.hid (by unfold pieces; simpa using splitB_ne 32 t.data.toList)
  have HSZ : Hid (∀ s ∈ pieces 32 t, s.size ≤ maxLen) := Lib.hid (fun s hs => by have := piece_size hs; unfold maxLen; omega)
  clear hr q2 q3 q4 hp0 hp1 hp2 e0 e1
  go_enter Try.func129, Try.ntmps129
  go_wp2_with fail
  refine (implCutAt_any t 32 _ ht (by decide)).mono ?_
  rintro e w1 ⟨v, rfl, hs, b1⟩
  obtain ⟨g, cap, cur, rfl, hg, hrow, hlc, hc, hcc⟩ := hs.form HP.out
  have R1 := R0.below b1 (by simp)
  have c0 := R1.cell 0
  have c1 := R1.cell 1
  have f0 := R1.free 0
  have f1 := R1.free 1
  simp at c0 c1 hg
  have hb1 := hb.trans (b1.mono (by simp))
  have HB1 := Lib.hid hb1
  have hlt1 : w.heap.size < w1.heap.size := by have := b1.size; simp at this; omega
  have hgl := hrow.lt
  have hw0 := (hrow.cell 0).trans (hcc 0 (by omega))
  have hw1 := (hrow.cell 1).trans (hcc 1 (by omega))
  have hw2 := (hrow.cell 2).trans (hcc 2 (by omega))
  rw [HE0.out] at hw0
  rw [HE1.out] at hw1
  have HRW := Lib.hid hrow
  have HCC := Lib.hid hcc
  have d0 : decide ((pieces 32 t).length < 3) = false := decide_eq_false (by omega)
  have d0' : decide (((pieces 32 t).length : Int) < 3) = false := decide_eq_false (by omega)
  clear hs b1 R1 hb1 hrow hcc
  by_cases h4 : 3 < (pieces 32 t).length
  · have HBD : Hid (r.body = (pieces 32 t).drop 2) := Lib.hid (by rw [HQ4.out, if_pos (.inl h4)])
    have dd : decide (3 < (pieces 32 t).length) = true := decide_eq_true h4
    go_wp2
    refine bodyPost_ret (v := .tuple #[.agg #[.string r.head, .slice (some ⟨g, 2, none⟩) ((pieces 32 t).length - 2) (cap - 2)], .bool true]) (by simp [results, Try.results129, go_sem, c0, c1, hlt1]) rfl
      ⟨_, g, rfl, drop_own HBD.out (by omega) hlc hc HSZ.out (((HRW.out.away (p := ⟨w.heap.size, 0, none⟩) (by simp; omega) _).away (p := ⟨w.heap.size, 1, none⟩) (by simp; omega) _).alloc _) HCC.out, fun _ => ⟨by omega, by simp [World.setCell]; omega⟩, ?_⟩
    exact ((HB1.out.setCell (Nat.le_refl _) _).setCell (Nat.le_refl _) _).alloc (by simp [World.setCell]; omega) _
  · have h3 : (pieces 32 t).length = 3 := by omega
    have dd : decide (3 < (pieces 32 t).length) = false := decide_eq_false h4
    have dd' : decide (3 < ((pieces 32 t).length : Int)) = false := decide_eq_false (by omega)
    by_cases h5 : (pieces 32 t)[2] = ⟨#[126]⟩
    · have HBD : Hid (r.body = []) := Lib.hid (by rw [HQ4.out, if_neg (by rintro (h | h); exact h4 h; exact h (by rw [h5]))])
      have dl := eq_lit h5
      have H3 := Lib.hid h3
      clear h3 h5
      go_wp2
      refine bodyPost_ret (v := .tuple #[.agg #[.string r.head, .slice none 0 0], .bool true]) (by simp [results, Try.results129, go_sem, c0, c1, hlt1]) rfl
        ⟨_, 0, rfl, by rw [HBD.out]; exact OwnS.nil _ _, fun hn => absurd HBD.out hn, ?_⟩
      exact ((HB1.out.setCell (Nat.le_refl _) _).setCell (Nat.le_refl _) _).alloc (by simp [World.setCell]; omega) _
    · have HBD : Hid (r.body = (pieces 32 t).drop 2) := Lib.hid (by rw [HQ4.out, if_pos (.inr (fun e => h5 (ba_eq e)))])
      have dl := neq_lit h5
      have H3 := Lib.hid h3
      clear h3 h5
      go_wp2
      refine bodyPost_ret (v := .tuple #[.agg #[.string r.head, .slice (some ⟨g, 2, none⟩) ((pieces 32 t).length - 2) (cap - 2)], .bool true]) (by simp [results, Try.results129, go_sem, c0, c1, hlt1]) rfl
        ⟨_, g, rfl, drop_own HBD.out (by omega) hlc hc HSZ.out (((HRW.out.away (p := ⟨w.heap.size, 0, none⟩) (by simp; omega) _).away (p := ⟨w.heap.size, 1, none⟩) (by simp; omega) _).alloc _) HCC.out, fun _ => ⟨by omega, by simp [World.setCell]; omega⟩, ?_⟩
      exact ((HB1.out.setCell (Nat.le_refl _) _).setCell (Nat.le_refl _) _).alloc (by simp [World.setCell]; omega) _
end Go.Proofs.Ytonfiahihmcmlaa

/- Numbers of Go's int in a row of the call's own: what a draw gathers. -/
namespace Go.Proofs.Ytonfiahihmcmlaa.Dr
open Go.RowKit
open Go.Proofs.Ytonfiahihmcmlaa

def Itn (w : World) (base : Nat) (v : Value) (l : List Nat) : Prop := w.ownsRow base 3 1 v l.length (l.map fun (i : Nat) => Value.int .i64 (i : Int))
theorem Itn.lit0 (w : World) {base : Nat} (hb : base ≤ w.heap.size) : Itn (w.alloc (.cells #[] 3)) base (.slice (some ⟨w.heap.size, 0, none⟩) 0 0) [] := World.ownsRow_lit w #[] 0 hb (by unfold maxLen; omega) rfl
theorem Itn.one {w : World} {base : Nat} {v : Value} {l : List Nat} (x : Nat) (h : w.ownsRow base 3 1 v (l.length + 1) ((l.map fun (i : Nat) => Value.int .i64 (i : Int)) ++ [.int .i64 (x : Int)])) : Itn w base v (l ++ [x]) := by
  unfold Itn
  rw [List.length_append, List.map_append]
  exact h
theorem Itn.shape {w : World} {base : Nat} {v : Value} {l : List Nat} (h : Itn w base v l) : ∃ B d, v = .slice B l.length d := by
  rcases h.2 with ⟨rfl, h0⟩ | ⟨g, cap, cur, rfl, _⟩
  · exact ⟨none, 0, by rw [h0]⟩
  · exact ⟨_, _, rfl⟩
theorem Itn.move {w w' : World} {base : Nat} {v : Value} {l : List Nat} (h : Itn w base v l) (k : ∀ g, base ≤ g → g < w.heap.size → w'.heap[g]? = w.heap[g]?) : Itn w' base v l := by
  refine ⟨h.1, ?_⟩
  rcases h.2 with a | ⟨g, cap, cur, rfl, hb, hh, r⟩
  · exact .inl a
  · have hr : Row w g 3 cur := hh
    exact .inr ⟨g, cap, cur, rfl, hb, (k g hb hr.lt).trans hh, r⟩
theorem Itn.below {w w' : World} {base : Nat} {v : Value} {l : List Nat} (h : Itn w base v l) (k : Below w.heap.size w w') : Itn w' base v l := h.move fun g _ hg => k.block g hg
theorem Itn.only {w w' : World} {p base : Nat} {v : Value} {l : List Nat} (h : Itn w base v l) (o : Only p w w') (hp : p < base) : Itn w' base v l := h.move fun g hg _ => o.block g (by omega)
theorem Itn.at {w : World} {base : Nat} {v : Value} {l : List Nat} (h : Itn w base v l) {j : Nat} (hj : j < l.length) : ∃ g c, v = .slice (some ⟨g, 0, none⟩) l.length c ∧ base ≤ g ∧ g < w.heap.size ∧ l.length ≤ c ∧ c ≤ maxLen ∧ w.cell? ⟨g, j, none⟩ = some (.int .i64 (l[j] : Int)) := by
  rcases h.2 with ⟨rfl, h0⟩ | ⟨g, cap, cur, rfl, hb, hh, hc, hm, hs, ht⟩
  · omega
  · have hr : Row w g 3 cur := hh
    refine ⟨g, cap, rfl, hb, hr.lt, hc, hm, ?_⟩
    have h1 : (cur.toList.take (l.length * 1))[j]? = some (.int .i64 (l[j] : Int)) := by rw [ht, List.getElem?_map, List.getElem?_eq_getElem hj]; rfl
    rw [List.getElem?_take_of_lt (by omega)] at h1
    rw [hr.cell, ← Array.getElem?_toList]
    exact h1
end Go.Proofs.Ytonfiahihmcmlaa.Dr

/- The draw of a text that a head comes to: l04Word, its first loop. -/
namespace Go.Proofs.Ytonfiahihmcmlaa.Dr
open Go.RowKit
open Go.Proofs.Ytonfiahihmcmlaa

/-- the numbers of the rules of a head -/
def rulesOf (rs : List RuleD) (h : ByteArray) (k : Nat) : List Nat := (List.range k).filter fun i => decide ((rs.getD i ⟨ByteArray.empty, []⟩).head = h)
theorem rulesOf_lt {rs : List RuleD} {h : ByteArray} {k i : Nat} (hi : i ∈ rulesOf rs h k) : i < k := by
  unfold rulesOf at hi
  exact List.mem_range.1 (List.mem_filter.1 hi).1
theorem rulesOf_t {rs : List RuleD} {h : ByteArray} {k : Nat} (hk : k < rs.length) (e : rs[k].head = h) : rulesOf rs h (k + 1) = rulesOf rs h k ++ [k] := by
  unfold rulesOf
  rw [List.range_succ, List.filter_append]
  simp [hk, e]
theorem rulesOf_f {rs : List RuleD} {h : ByteArray} {k : Nat} (hk : k < rs.length) (e : rs[k].head ≠ h) : rulesOf rs h (k + 1) = rulesOf rs h k := by
  unfold rulesOf
  rw [List.range_succ, List.filter_append]
  simp [hk, e]
theorem rulesOf_len (rs : List RuleD) (h : ByteArray) (k : Nat) : (rulesOf rs h k).length ≤ k := by
  unfold rulesOf
  refine Nat.le_trans (List.length_filter_le _ _) ?_
  rw [List.length_range]
  exact Nat.le_refl _
/-- what a draw of a text leaves -/
def DrawW (w : World) (p B : Nat) (e : Ending) (w' : World) : Prop :=
  ∃ v ss ok, e = .returned (.tuple #[v, .bool ok]) ∧ Sts w' w.heap.size v ss ∧ (ok = true → ss.length ≤ 12 ∧ ∃ g c, v = .slice (some ⟨g, 0, none⟩) ss.length c) ∧ (∀ s ∈ ss, s.size ≤ 10) ∧ Src w' p B ∧ w.grownBy w' (some p)
end Go.Proofs.Ytonfiahihmcmlaa.Dr

/- Sets as numbers, a bit a symbol; what a slice of such sets reads as; what a fixed point is. -/
namespace Go.Proofs.Ytonfiahihmcmlaa
open Go.RowKit

def joinAll (l : List Nat) : Nat := l.foldl (· ||| ·) 0
theorem joinAll_nil : joinAll [] = 0 := rfl
theorem joinAll_snoc (l : List Nat) (x : Nat) : joinAll (l ++ [x]) = joinAll l ||| x := by unfold joinAll; rw [List.foldl_append]; rfl
theorem joinAll_take {l : List Nat} {k : Nat} (h : k < l.length) : joinAll (l.take (k + 1)) = joinAll (l.take k) ||| l[k] := by
  rw [List.take_succ_eq_append_getElem h, joinAll_snoc]
theorem joinAll_two (a b : Nat) : joinAll [a, b] = a ||| b := by simp [joinAll]
theorem foldl_bit (l : List Nat) (a i : Nat) : (l.foldl (· ||| ·) a).testBit i = true ↔ a.testBit i = true ∨ ∃ x ∈ l, x.testBit i = true := by
  induction l generalizing a with
  | nil => simp
  | cons x l ih =>
    rw [List.foldl_cons, ih, Nat.testBit_or]
    simp [or_assoc]
theorem joinAll_bit (l : List Nat) (i : Nat) : (joinAll l).testBit i = true ↔ ∃ x ∈ l, x.testBit i = true := by
  unfold joinAll; rw [foldl_bit]; simp
theorem or_lt {a b : Nat} (ha : a < 4194304) (hb : b < 4194304) : a ||| b < 4194304 := Nat.or_lt_two_pow (n := 22) ha hb
theorem foldl_lt (l : List Nat) (a : Nat) (ha : a < 4194304) (h : ∀ x ∈ l, x < 4194304) : l.foldl (· ||| ·) a < 4194304 := by
  induction l generalizing a with
  | nil => exact ha
  | cons x l ih => exact ih _ (or_lt ha (h x (by simp))) fun y hy => h y (by simp [hy])
theorem joinAll_lt {l : List Nat} (h : ∀ x ∈ l, x < 4194304) : joinAll l < 4194304 := foldl_lt l 0 (by omega) h
theorem joinAll_take_lt {l : List Nat} (h : ∀ x ∈ l, x < 4194304) (k : Nat) : joinAll (l.take k) < 4194304 := joinAll_lt fun x hx => h x (List.mem_of_mem_take hx)
theorem or_eq (a b : Nat) (ha : a < 4194304) (hb : b < 4194304) : bits .or .u32 (a : Int) (b : Int) = ((a ||| b : Nat) : Int) := u32_or_nat a b (by omega) (by omega)

/-- is all of o in s? -/
def holdsB (s o : Nat) : Bool := decide (o ||| s = s)
theorem holdsB_iff (s o : Nat) : holdsB s o = true ↔ ∀ i, o.testBit i = true → s.testBit i = true := by
  unfold holdsB
  rw [decide_eq_true_eq]
  constructor
  · intro h i hi
    rw [← h, Nat.testBit_or, hi, Bool.true_or]
  · intro h
    apply Nat.eq_of_testBit_eq
    intro i
    rw [Nat.testBit_or]
    cases hi : o.testBit i
    · simp
    · rw [h i hi]; rfl
theorem holds_eq (s o : Nat) (hs : s < 4194304) (ho : o < 4194304) : (bits .andNot .u32 (o : Int) (s : Int) == 0) = holdsB s o := by
  rw [u32_andNot_nat o s (by omega) (by omega), Bool.eq_iff_iff, holdsB_iff]
  have e : 4294967295 - s = 2 ^ 32 - (s + 1) := by omega
  rw [e]
  constructor
  · intro h i hi
    have h0 : o &&& (2 ^ 32 - (s + 1)) = 0 := by simpa using h
    have h1 : (o &&& (2 ^ 32 - (s + 1))).testBit i = false := by rw [h0]; simp
    rw [Nat.testBit_and, hi, Nat.testBit_two_pow_sub_succ (by omega)] at h1
    have hi32 : i < 32 := by
      rcases Nat.lt_or_ge i 32 with h | h
      · exact h
      · have : o < 2 ^ i := Nat.lt_of_lt_of_le (show o < 2 ^ 32 by omega) (Nat.pow_le_pow_right (by omega) h)
        rw [Nat.testBit_lt_two_pow this] at hi
        cases hi
    simpa [hi32] using h1
  · intro h
    have h0 : o &&& (2 ^ 32 - (s + 1)) = 0 := by
      apply Nat.eq_of_testBit_eq
      intro i
      rw [Nat.testBit_and, Nat.testBit_two_pow_sub_succ (by omega)]
      cases hi : o.testBit i
      · simp
      · rw [h i hi]; simp
    rw [h0]; rfl

/-- a list of sets, in blocks ahead of hi -/
def BitsAt (w : World) (hi : Nat) (v : Value) (l : List Nat) : Prop :=
  ∃ A c, v = .slice A l.length c ∧ l.length ≤ c ∧ c ≤ maxLen ∧ (∀ x ∈ l, x < 4194304) ∧
    (0 < l.length → ∃ b off, A = some ⟨b, off, none⟩ ∧ b < hi ∧ ∀ i (h : i < l.length), w.cell? ⟨b, off + i, none⟩ = some (.int .u32 (l[i] : Nat)))
theorem BitsAt.below {w w' : World} {hi : Nat} {v : Value} {l : List Nat} (h : BitsAt w hi v l) {B : Nat} (b : Below B w w') (hB : hi ≤ B) : BitsAt w' hi v l := by
  obtain ⟨A, c, h1, h2, h3, h4, h5⟩ := h
  refine ⟨A, c, h1, h2, h3, h4, fun hp => ?_⟩
  obtain ⟨g, off, e, hg, hc⟩ := h5 hp
  exact ⟨g, off, e, hg, fun i hi => (b.cell (p := ⟨g, off + i, none⟩) (by show g < B; omega)).trans (hc i hi)⟩
theorem BitsAt.more {w : World} {hi hi' : Nat} {v : Value} {l : List Nat} (h : BitsAt w hi v l) (hh : hi ≤ hi') : BitsAt w hi' v l := by
  obtain ⟨A, c, h1, h2, h3, h4, h5⟩ := h
  refine ⟨A, c, h1, h2, h3, h4, fun hp => ?_⟩
  obtain ⟨g, off, e, hg, hc⟩ := h5 hp
  exact ⟨g, off, e, by omega, hc⟩
theorem BitsAt.two {w : World} {g : Nat} {t : TypeId} {a b : Nat} (h : Row w g t #[.int .u32 (a : Int), .int .u32 (b : Int)]) (ha : a < 4194304) (hb : b < 4194304) :
    BitsAt w w.heap.size (.slice (some ⟨g, 0, none⟩) 2 2) [a, b] := by
  refine ⟨_, 2, rfl, by simp, by unfold maxLen; omega, by simp [ha, hb], fun _ => ⟨g, 0, rfl, h.lt, fun i hi => ?_⟩⟩
  rw [Nat.zero_add, h.cell]
  match i, hi with
  | 0, _ => rfl
  | 1, _ => rfl

/-- what is come to of b, by F again and again, till nothing changes -/
def FixAt (F : Nat → Nat) (b n : Nat) : Prop :=
  n < 4194304 ∧ (∀ i, b.testBit i = true → n.testBit i = true) ∧ (∀ i, (F n).testBit i = true → n.testBit i = true) ∧
    ∀ P : Nat → Prop, P b → (∀ k, k < 4194304 → P k → P (k ||| F k)) → P n
end Go.Proofs.Ytonfiahihmcmlaa
