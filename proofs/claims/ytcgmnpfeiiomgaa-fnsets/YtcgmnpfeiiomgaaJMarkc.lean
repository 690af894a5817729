import Derived.Test.YtcgmnpfeiiomgaaJWrun
import Derived.Test.YtcgmnpfeiiomgaaJFrm
/- The walks of textRight and mostLooks. -/
namespace Go.Proofs.Ytcgmnpfeiiomgaa
open Go.RowKit Go.Maps Go.Conc

def textB (t : List ByteArray) : Bool := decide (t.length ≤ 12) && t.all tokB
theorem textB_iff (t : List ByteArray) : textB t = true ↔ t.length ≤ 12 ∧ ∀ s ∈ t, tokB s = true := by simp [textB]
theorem textB_no {t : List ByteArray} {k : Nat} (h : k < t.length) (hb : tokB t[k] = false) : textB t = false := by
  rw [Bool.eq_false_iff]
  intro e
  have := ((textB_iff t).1 e).2 _ (List.getElem_mem h)
  rw [hb] at this; cases this

set_option maxRecDepth 100000 in
set_option maxHeartbeats 1000000 in
theorem textRight_any (t : List ByteArray) (v : Value) (lo hi : Nat) (w : World) (h : Strs w lo hi v t) (hh : hi ≤ w.heap.size) :
    Calls Try.prog 112 #[v] w fun e w' => e = .returned (.bool (textB t)) ∧ Below w.heap.size w w' := by
  obtain ⟨A, c, rfl, hlc, hc, hsz, hcell⟩ := h
  unfold maxLen at hc
  have HC := Lib.hid hcell
  clear hcell hsz
  by_cases hlen : t.length ≤ 12
  · go_enter Try.func112, Try.ntmps112
    go_wp2
    go_loopw [4, 10] (fun _ x wr => ∃ j : Nat, j ≤ t.length ∧ x = .int .i64 (j : Int) ∧ (∀ i (h : i < t.length), i < j → tokB t[i] = true) ∧ Below w.heap.size w wr) (fun _ x _ => t.length - (intOf x).toNat)
    case atStart => exact ⟨0, by omega, rfl, fun i _ h => by omega, Below.refl _ _⟩
    case round =>
      obtain ⟨j, hj, rfl, hall, hbw⟩ := hrel
      have hsw := hbw.size
      have HA := Lib.hid hall
      clear hall
      by_cases hlt : j < t.length
      · obtain ⟨b, off, rfl, _, hbh, hcc⟩ := HC.out (by omega)
        have hck := (hbw.cell (p := ⟨b, off + j, none⟩) (by show b < _; omega)).trans (hcc j hlt)
        clear hcc
        cases ht : tokB t[j]
        · have HT := Lib.hid ht
          clear ht
          go_wp2_with fail
          refine (implIsToken_any _ _).mono ?_
          rintro _ w1 ⟨rfl, b1⟩
          rw [HT.out]
          have hb1 := hbw.trans (b1.mono hsw)
          clear b1
          go_wp2
          go_ret
          exact ⟨ret_bool (textB_no hlt HT.out).symm, hb1⟩
        · have HT := Lib.hid ht
          clear ht
          go_wp2_with fail
          refine (implIsToken_any _ _).mono ?_
          rintro _ w1 ⟨rfl, b1⟩
          rw [HT.out]
          have hb1 := hbw.trans (b1.mono hsw)
          clear b1
          go_wp2
          go_roundw
          case rel => exact ⟨j + 1, by omega, by go_num, (fun i hi hl => by
            by_cases e : i = j
            · subst e; exact HT.out
            · exact HA.out i hi (by omega)), hb1⟩
          case measure => simp [intOf]; omega
      · go_wp2
        go_ret
        refine ⟨ret_bool ?_, hbw⟩
        rw [eq_comm, textB_iff]
        refine ⟨hlen, fun s hs => ?_⟩
        obtain ⟨i, hi, rfl⟩ := List.getElem_of_mem hs
        exact HA.out i hi (by omega)
  · have HF : Hid (textB t = false) := Lib.hid (by rw [Bool.eq_false_iff]; exact fun e => hlen ((textB_iff t).1 e).1)
    have i1 : 12 < (t.length : Int) := by omega
    go_enter Try.func112, Try.ntmps112
    go_wp2
    go_ret
    exact ⟨ret_bool HF.out.symm, Below.refl _ _⟩

theorem mostTo_le' {rs : List RuleD} {p : Nat} (hb : ∀ i (h : i < rs.length), rs[i].body.length ≤ 5) (hp : p ≤ 13) (k : Nat) (hk : k ≤ rs.length) : mostTo rs p k ≤ k * 1014 := by
  induction k with
  | zero => simp [mostTo]
  | succ k ih =>
    have := ih (by omega)
    have h1 := hb k (by omega)
    have h3 : p * p ≤ 13 * 13 := Nat.mul_le_mul hp hp
    have h4 : (rs[k].body.length + 1) * (p * p) ≤ 6 * (13 * 13) := Nat.mul_le_mul (by omega) h3
    rw [mostTo_succ (by omega), Nat.mul_assoc]
    omega

set_option maxRecDepth 100000 in
set_option maxHeartbeats 1000000 in
theorem mostLooks_any (rs : List RuleD) (v : Value) (p lo hi : Nat) (w : World) (h : Rules w lo hi v rs) (hh : hi ≤ w.heap.size) (hp : p ≤ 13) (h20 : rs.length ≤ 20) (hb5 : ∀ i (h : i < rs.length), rs[i].body.length ≤ 5) :
    Calls Try.prog 160 #[v, .int .i64 (p : Int)] w fun e w' => e = .returned (.int .i64 ((mostTo rs p rs.length : Nat) : Int)) ∧ Below w.heap.size w w' := by
  have HV := Lib.hid h
  obtain ⟨A, c, rfl, hlc, hc, -⟩ := h
  unfold maxLen at hc
  have HB5 := Lib.hid hb5
  clear hb5
  go_enter Try.func160, Try.ntmps160
  go_wp2
  go_loopw [5, 7, 10] (fun s _ x wr => ∃ j : Nat, j ≤ rs.length ∧ x = .int .i64 (j : Int) ∧ s = .int .i64 ((mostTo rs p j : Nat) : Int) ∧ Below w.heap.size w wr) (fun _ _ x _ => rs.length - (intOf x).toNat)
  case atStart => exact ⟨0, by omega, rfl, rfl, Below.refl _ _⟩
  case round =>
    obtain ⟨j, hj, rfl, rfl, hbw⟩ := hrel
    rename World => wr
    have hsw := hbw.size
    by_cases hlt : j < rs.length
    · obtain ⟨b, off, rfl, hbh, _, _, _, k0, B2, d2, k1, hst⟩ := (HV.out.below hbw hh).at hlt
      have hml := mostTo_le' HB5.out hp j (by omega)
      have h5 := HB5.out j hlt
      have m1 : (0 : Int) ≤ ((rs[j].body.length : Int) + 1) * (p : Int) := Int.mul_nonneg (by omega) (by omega)
      have m1' : ((rs[j].body.length : Int) + 1) * (p : Int) ≤ 6 * 13 := Int.mul_le_mul (by omega) (by omega) (by omega) (by omega)
      have m2 : (0 : Int) ≤ ((rs[j].body.length : Int) + 1) * (p : Int) * (p : Int) := Int.mul_nonneg m1 (by omega)
      have m2' : ((rs[j].body.length : Int) + 1) * (p : Int) * (p : Int) ≤ 6 * 13 * 13 := Int.mul_le_mul m1' (by omega) (by omega) (by omega)
      have HM : Hid ((mostTo rs p j : Int) + ((rs[j].body.length : Int) + 1) * (p : Int) * (p : Int) = ((mostTo rs p (j + 1) : Nat) : Int)) := Lib.hid (by rw [mostTo_succ hlt]; push_cast; rfl)
      have hbA := al1 wr (.cells #[.string rs[j].head, .slice B2 rs[j].body.length d2] 47)
      have HBA := Lib.hid (hbw.trans (hbA.mono hsw))
      have hbwr : b < wr.heap.size := by omega
      clear hst hbA
      go_wp2
      go_roundw
      case rel => exact ⟨j + 1, by omega, by go_num, by rw [HM.out], HBA.out⟩
      case measure => simp [intOf]; omega
    · have hje : j = rs.length := by omega
      subst hje
      go_wp2
      go_ret
      exact ⟨rfl, hbw⟩
end Go.Proofs.Ytcgmnpfeiiomgaa

/- The marks of a grammar: markRuleS, markGram. -/
namespace Go.Proofs.Ytcgmnpfeiiomgaa
open Go.RowKit

/-- a block for a list of texts: its own, or one that is not there, if it is empty -/
theorem OwnS.pick {w : World} {g : Nat} {v : Value} {ss : List ByteArray} (h : OwnS w g v ss) : ∃ g', OwnS w g' v ss ∧ (ss ≠ [] → g' = g) ∧ (ss = [] → w.heap.size ≤ g') := by
  by_cases e : ss = []
  · subst e
    obtain ⟨A, c, h1, h2, h3, h4, h5⟩ := h
    exact ⟨w.heap.size, ⟨A, c, h1, h2, h3, h4, fun hp => by simp at hp⟩, fun hn => absurd rfl hn, fun _ => Nat.le_refl _⟩
  · exact ⟨g, h, fun _ => rfl, fun h0 => absurd h0 e⟩

/-- what stands at one place of a list of rules -/
structure RuleAt (w : World) (lo hi b j gj : Nat) (u : Value) (rs : List RuleD) (cur : Array Value) : Prop where
  row : Row w b 47 cur
  low : lo ≤ b
  high : b < hi
  size : j * 2 + 1 < cur.size
  body : cur[j * 2 + 1]? = some u
  own : ∀ h : j < rs.length, OwnS w gj u rs[j].body
  within : ∀ h : j < rs.length, rs[j].body ≠ [] → lo ≤ gj ∧ gj < hi ∧ gj ≠ b
  put : ∀ (w1 w3 : World) (hd : ByteArray) (bd : List ByteArray) (g' : Nat), (h : j < rs.length) → hd.size ≤ maxLen → Below w.heap.size w w1 → bd.length = rs[j].body.length → OwnS w3 g' u bd →
    (rs[j].body ≠ [] → g' = gj) → (rs[j].body = [] → w1.heap.size ≤ g') → Mid g' (g' + 1) (w1.setCell ⟨b, j * 2, none⟩ (.string hd)) w3 → OwnR w3 lo hi (.slice (some ⟨b, 0, none⟩) rs.length rs.length) (rs.set j ⟨hd, bd⟩)

theorem OwnR.form {w : World} {lo hi : Nat} {v : Value} {rs : List RuleD} (h : OwnR w lo hi v rs) : ∃ A c, v = .slice A rs.length c ∧ rs.length ≤ c ∧ c ≤ maxLen ∧ (0 < rs.length → ∃ b, A = some ⟨b, 0, none⟩ ∧ OwnR w lo hi (.slice (some ⟨b, 0, none⟩) rs.length rs.length) rs) := by
  obtain ⟨A, c, h1, h2, h3, h5⟩ := h
  refine ⟨A, c, h1, h2, h3, fun hp => ?_⟩
  obtain ⟨b, cur, G, ha, hr⟩ := h5 hp
  exact ⟨b, ha, _, _, rfl, Nat.le_refl _, by omega, fun _ => ⟨b, cur, G, rfl, hr⟩⟩
theorem OwnR.back {w : World} {lo hi b c : Nat} {rs : List RuleD} (h : OwnR w lo hi (.slice (some ⟨b, 0, none⟩) rs.length rs.length) rs) (h1 : rs.length ≤ c) (h2 : c ≤ maxLen) : OwnR w lo hi (.slice (some ⟨b, 0, none⟩) rs.length c) rs := by
  obtain ⟨A, c', e, _, _, h5⟩ := h
  injection e with e1 _ e2
  subst e1
  exact ⟨_, c, rfl, h1, h2, h5⟩

theorem OwnR.at {w : World} {lo hi b j : Nat} {rs : List RuleD} (h : OwnR w lo hi (.slice (some ⟨b, 0, none⟩) rs.length rs.length) rs) (hj : j < rs.length) : ∃ gj u cur, RuleAt w lo hi b j gj u rs cur := by
  obtain ⟨A, c, e, h2, h3, h5⟩ := h
  injection e with e1 _ e2
  subst e1
  obtain ⟨b', cur, G, ha, hl, hh, hr, hc, hd⟩ := h5 (by omega)
  injection ha with ha
  injection ha with ha
  subst ha
  obtain ⟨a1, a2, u, a3, a4, a5⟩ := hc j hj
  have hne : ∀ i (hi : i < rs.length), rs[i].body ≠ [] → G i ≠ b := fun i hi hn e => by
    obtain ⟨_, _, ui, _, o4, _⟩ := hc i hi
    obtain ⟨Ai, ci, p1, p2, p3, p4, p5⟩ := o4
    obtain ⟨off, cu, _, q1, _⟩ := p5 (List.length_pos_iff.2 hn)
    exact (hr.apart q1 (by decide)) e.symm
  have hsz : j * 2 + 1 < cur.size := (Array.getElem?_eq_some_iff.1 a3).1
  refine ⟨G j, u, cur, hr, hl, hh, hsz, a3, fun _ => a4, fun _ hn => ⟨(a5 hn).1, (a5 hn).2, hne j hj hn⟩, ?_⟩
  intro w1 w3 nh bd g' _ hnh hb1 hlen ho3 hg1 hg2 hmid
  have hbl := hr.lt
  have r2 := (hr.below hb1 hbl).put (j * 2) (.string nh)
  have hgb : g' ≠ b := by
    by_cases e : rs[j].body = []
    · have := hg2 e; have := hb1.size; omega
    · rw [hg1 e]; exact hne j hj e
  have hs2 : (w1.setCell ⟨b, j * 2, none⟩ (.string nh)).heap.size = w1.heap.size := by simp [World.setCell]
  have r3 : Row w3 b 47 (cur.setIfInBounds (j * 2) (.string nh)) := r2.same (hmid.block b (by rw [hs2]; have := hb1.size; omega) (by omega))
  refine ⟨_, _, by rw [List.length_set], Nat.le_refl _, by rw [List.length_set]; omega, fun _ => ⟨b, _, G, rfl, hl, hh, r3, fun i hi => ?_, fun i k hik hk => ?_⟩⟩
  · rw [List.length_set] at hi
    by_cases e : j = i
    · subst e
      simp only [List.getElem_set_self]
      refine ⟨hnh, by rw [Array.getElem?_setIfInBounds_self_of_lt (by omega)], u, by rw [Array.getElem?_setIfInBounds_ne (by omega)]; exact a3, ?_, ?_⟩
      · by_cases e : rs[j].body = []
        · obtain ⟨A3, c3, p1, p2, p3, p4, p5⟩ := ho3
          have hb0 : bd = [] := List.eq_nil_of_length_eq_zero (by rw [hlen, e]; rfl)
          subst hb0
          exact ⟨A3, c3, p1, p2, p3, p4, fun hp => by simp at hp⟩
        · rw [← hg1 e]; exact ho3
      · intro hn
        exact a5 (fun e => hn (List.eq_nil_of_length_eq_zero (by rw [hlen, e]; rfl)))
    · simp only [List.getElem_set_ne e]
      obtain ⟨b1, b2, ui, b3, b4, b5⟩ := hc i hi
      refine ⟨b1, by rw [Array.getElem?_setIfInBounds_ne (by omega)]; exact b2, ui, by rw [Array.getElem?_setIfInBounds_ne (by omega)]; exact b3, b4.keep fun hn => ?_, b5⟩
      have hgi := b4.lt hn
      have hgi2 : g' ≠ G i := by
        by_cases e2 : rs[j].body = []
        · have := hg2 e2; have := hb1.size; omega
        · rw [hg1 e2]
          rcases Nat.lt_or_gt_of_ne e with h' | h'
          · exact hd j i h' hi e2 hn
          · exact (hd i j h' hj hn e2).symm
      rw [hmid.block (G i) (by rw [hs2]; have := hb1.size; omega) (by omega), Below.heap_setCell _ _ _ _ (by exact hne i hi hn), hb1.block _ hgi]
  · rw [List.length_set] at hk
    have hx : ∀ (m : Nat) (hm : m < rs.length) (hm' : m < (rs.set j ⟨nh, bd⟩).length), ((rs.set j ⟨nh, bd⟩)[m]'hm').body ≠ [] → rs[m].body ≠ [] := fun m hm hm' => by
      by_cases e : j = m
      · subst e
        simp only [List.getElem_set_self]
        intro hn e2
        exact hn (List.eq_nil_of_length_eq_zero (by rw [hlen, e2]; rfl))
      · simp only [List.getElem_set_ne e]; exact fun h => h
    intro x1 x2
    exact hd i k hik hk (hx i (by omega) _ x1) (hx k hk _ x2)
end Go.Proofs.Ytcgmnpfeiiomgaa

/- The marks of a grammar, on: markRuleS, markGram, heldRuleS, heldGram. -/
namespace Go.Proofs.Ytcgmnpfeiiomgaa
open Go.RowKit

def cntTo (rs : List RuleD) (j : Nat) : Nat := ((rs.take j).map fun r => 1 + r.body.length).sum
def bodyLen (rs : List RuleD) (j : Nat) : Nat := (rs[j]?.map fun r => r.body.length).getD 0
def mrk (k : Nat) (rs : List RuleD) (j : Nat) : RuleD := ⟨mt (k + cntTo rs j), marks (k + cntTo rs j + 1) (bodyLen rs j)⟩
def markUpto (k : Nat) (rs : List RuleD) : Nat → List RuleD
  | 0 => rs
  | j + 1 => (markUpto k rs j).set j (mrk k rs j)
/-- a marked list of rules -/
def markR (k : Nat) (rs : List RuleD) : List RuleD := markUpto k rs rs.length
theorem bodyLen_at {rs : List RuleD} {j : Nat} (h : j < rs.length) : bodyLen rs j = rs[j].body.length := by simp [bodyLen, h]
theorem cntTo_succ {rs : List RuleD} {j : Nat} (h : j < rs.length) : cntTo rs (j + 1) = cntTo rs j + (1 + rs[j].body.length) := by
  unfold cntTo; rw [List.take_succ_eq_append_getElem h, List.map_append, List.sum_append]; simp
theorem cntTo_le (rs : List RuleD) (j : Nat) : cntTo rs j ≤ cntTo rs rs.length := by
  unfold cntTo
  rw [List.take_length]
  conv => rhs; rw [← List.take_append_drop j rs]
  rw [List.map_append, List.sum_append]; omega
theorem markUpto_len (k : Nat) (rs : List RuleD) (j : Nat) : (markUpto k rs j).length = rs.length := by
  induction j with
  | zero => rfl
  | succ j ih => rw [markUpto, List.length_set, ih]
theorem markUpto_at (k : Nat) (rs : List RuleD) (j i : Nat) (h : i < (markUpto k rs j).length) : (markUpto k rs j)[i] = if i < j then mrk k rs i else rs[i]'(by rw [markUpto_len] at h; exact h) := by
  induction j with
  | zero => simp [markUpto]
  | succ j ih =>
    simp only [markUpto, List.getElem_set]
    have h' : i < (markUpto k rs j).length := by rw [markUpto_len] at h ⊢; exact h
    by_cases e : j = i
    · subst e; rw [if_pos rfl, if_pos (by omega)]
    · rw [if_neg e, ih h']
      by_cases e2 : i < j
      · rw [if_pos e2, if_pos (by omega)]
      · rw [if_neg e2, if_neg (by omega)]
theorem markR_len (k : Nat) (rs : List RuleD) : (markR k rs).length = rs.length := markUpto_len k rs _
theorem markR_at (k : Nat) (rs : List RuleD) (i : Nat) (h : i < (markR k rs).length) : (markR k rs)[i] = mrk k rs i :=
  (markUpto_at k rs rs.length i h).trans (if_pos (by rw [markR_len] at h; exact h))
theorem cntTo_ge (rs : List RuleD) : rs.length ≤ cntTo rs rs.length := by
  unfold cntTo
  rw [List.take_length]
  induction rs with
  | nil => simp
  | cons r rs ih => simp only [List.length_cons, List.map_cons, List.sum_cons]; omega
theorem mid_pick {w w' : World} {lo hi g : Nat} {ss : List ByteArray} (h1 : ss ≠ [] → lo ≤ g ∧ g < hi) (h2 : ss = [] → w.heap.size ≤ g) (m : Mid g (g + 1) w w') : Mid lo hi w w' :=
  ⟨m.os, m.tape, m.output, m.size, fun k hk hkk => m.block k hk (by
    by_cases e : ss = []
    · have := h2 e; omega
    · have := h1 e; omega)⟩

end Go.Proofs.Ytcgmnpfeiiomgaa
