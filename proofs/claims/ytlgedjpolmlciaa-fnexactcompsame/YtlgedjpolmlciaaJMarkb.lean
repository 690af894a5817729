import Derived.Test.YtlgedjpolmlciaaJTxt
import Derived.Deep.RegionHeld3
/- The marks that a law lays into memory to see who shares it: markText, markStringS. -/
namespace Go.Proofs.Ytlgedjpolmlciaa
open Go.RowKit
open Tx (Bts bv bs)

def digF : Nat → Nat → List UInt8 → List UInt8
  | 0, _, out => out
  | f + 1, k, out => if k = 0 then out else digF f (k / 10) (UInt8.ofNat (48 + k % 10) :: out)
/-- the mark of a number -/
def mt (k : Nat) : ByteArray := bs (109 :: digF 20 k [])
theorem digF_zero (f : Nat) (out : List UInt8) : digF f 0 out = out := by cases f <;> simp [digF]
theorem digF_go {f k : Nat} {out : List UInt8} (h : 0 < k) : digF (f + 1) k out = digF f (k / 10) (UInt8.ofNat (48 + k % 10) :: out) := by simp [digF, show ¬ k = 0 by omega]
theorem digF_len (f k : Nat) (out : List UInt8) : (digF f k out).length ≤ out.length + f := by
  induction f generalizing k out with
  | zero => simp [digF]
  | succ f ih =>
    unfold digF
    split
    · omega
    · have := ih (k / 10) (UInt8.ofNat (48 + k % 10) :: out)
      simp only [List.length_cons] at this
      omega
theorem mt_size (k : Nat) : (mt k).size ≤ 21 := by
  have := digF_len 20 k []
  unfold mt
  rw [Tx.bs_size]
  simp only [List.length_cons, List.length_nil] at this ⊢
  omega

theorem ret_strM {a b : ByteArray} (h : a = b) : Ending.returned (.string a) = .returned (.string b) := by rw [h]
/-- the marks of n numbers from k on -/
def marks (k n : Nat) : List ByteArray := (List.range n).map fun i => mt (k + i)
theorem marks_len (k n : Nat) : (marks k n).length = n := by simp [marks]
theorem marks_at {k n i : Nat} (h : i < (marks k n).length) : (marks k n)[i] = mt (k + i) := by simp [marks]
theorem marks_size {k n : Nat} : ∀ s ∈ marks k n, s.size ≤ maxLen := by
  intro s hs
  obtain ⟨i, _, rfl⟩ := List.mem_map.1 hs
  have := mt_size (k + i)
  unfold maxLen; omega

end Go.Proofs.Ytlgedjpolmlciaa

/- The marks of a grammar: markRuleS, markGram. -/
namespace Go.Proofs.Ytlgedjpolmlciaa
open Go.RowKit

/-- a block for a list of texts: its own, or one that is not there, if it is empty -/
theorem OwnS.pick {w : World} {g : Nat} {v : Value} {ss : List ByteArray} (h : OwnS w g v ss) : ∃ g', OwnS w g' v ss ∧ (ss ≠ [] → g' = g) ∧ (ss = [] → w.heap.size ≤ g') := by
  by_cases e : ss = []
  · subst e
    obtain ⟨A, c, h1, h2, h3, h4, h5⟩ := h
    exact ⟨w.heap.size, ⟨A, c, h1, h2, h3, h4, fun hp => by simp at hp⟩, fun hn => absurd rfl hn, fun _ => Nat.le_refl _⟩
  · exact ⟨g, h, fun _ => rfl, fun h0 => absurd h0 e⟩

/-- what stands at one place of a list of rules -/
structure RuleAt (w : World) (lo hi b j gj : Nat) (u : Value) (rs : List RuleD) (cur : Array Value) : Prop where
  row : Row w b 50 cur
  low : lo ≤ b
  high : b < hi
  size : j * 2 + 1 < cur.size
  body : cur[j * 2 + 1]? = some u
  own : ∀ h : j < rs.length, OwnS w gj u rs[j].body
  within : ∀ h : j < rs.length, rs[j].body ≠ [] → lo ≤ gj ∧ gj < hi ∧ gj ≠ b
  put : ∀ (w1 w3 : World) (hd : ByteArray) (bd : List ByteArray) (g' : Nat), (h : j < rs.length) → hd.size ≤ maxLen → Below w.heap.size w w1 → bd.length = rs[j].body.length → OwnS w3 g' u bd →
    (rs[j].body ≠ [] → g' = gj) → (rs[j].body = [] → w1.heap.size ≤ g') → Mid g' (g' + 1) (w1.setCell ⟨b, j * 2, none⟩ (.string hd)) w3 → OwnR w3 lo hi (.slice (some ⟨b, 0, none⟩) rs.length rs.length) (rs.set j ⟨hd, bd⟩)

theorem OwnR.form {w : World} {lo hi : Nat} {v : Value} {rs : List RuleD} (h : OwnR w lo hi v rs) : ∃ A c, v = .slice A rs.length c ∧ rs.length ≤ c ∧ c ≤ maxLen ∧ (0 < rs.length → ∃ b, A = some ⟨b, 0, none⟩ ∧ OwnR w lo hi (.slice (some ⟨b, 0, none⟩) rs.length rs.length) rs) := by
  obtain ⟨A, c, h1, h2, h3, h5⟩ := h
  refine ⟨A, c, h1, h2, h3, fun hp => ?_⟩
  obtain ⟨b, cur, G, ha, hr⟩ := h5 hp
  exact ⟨b, ha, _, _, rfl, Nat.le_refl _, by omega, fun _ => ⟨b, cur, G, rfl, hr⟩⟩
theorem OwnR.back {w : World} {lo hi b c : Nat} {rs : List RuleD} (h : OwnR w lo hi (.slice (some ⟨b, 0, none⟩) rs.length rs.length) rs) (h1 : rs.length ≤ c) (h2 : c ≤ maxLen) : OwnR w lo hi (.slice (some ⟨b, 0, none⟩) rs.length c) rs := by
  obtain ⟨A, c', e, _, _, h5⟩ := h
  injection e with e1 _ e2
  subst e1
  exact ⟨_, c, rfl, h1, h2, h5⟩

theorem OwnR.at {w : World} {lo hi b j : Nat} {rs : List RuleD} (h : OwnR w lo hi (.slice (some ⟨b, 0, none⟩) rs.length rs.length) rs) (hj : j < rs.length) : ∃ gj u cur, RuleAt w lo hi b j gj u rs cur := by
  obtain ⟨A, c, e, h2, h3, h5⟩ := h
  injection e with e1 _ e2
  subst e1
  obtain ⟨b', cur, G, ha, hl, hh, hr, hc, hd⟩ := h5 (by omega)
  injection ha with ha
  injection ha with ha
  subst ha
  obtain ⟨a1, a2, u, a3, a4, a5⟩ := hc j hj
  have hne : ∀ i (hi : i < rs.length), rs[i].body ≠ [] → G i ≠ b := fun i hi hn e => by
    obtain ⟨_, _, ui, _, o4, _⟩ := hc i hi
    obtain ⟨Ai, ci, p1, p2, p3, p4, p5⟩ := o4
    obtain ⟨off, cu, _, q1, _⟩ := p5 (List.length_pos_iff.2 hn)
    exact (hr.apart q1 (by decide)) e.symm
  have hsz : j * 2 + 1 < cur.size := (Array.getElem?_eq_some_iff.1 a3).1
  refine ⟨G j, u, cur, hr, hl, hh, hsz, a3, fun _ => a4, fun _ hn => ⟨(a5 hn).1, (a5 hn).2, hne j hj hn⟩, ?_⟩
  intro w1 w3 nh bd g' _ hnh hb1 hlen ho3 hg1 hg2 hmid
  have hbl := hr.lt
  have r2 := (hr.below hb1 hbl).put (j * 2) (.string nh)
  have hgb : g' ≠ b := by
    by_cases e : rs[j].body = []
    · have := hg2 e; have := hb1.size; omega
    · rw [hg1 e]; exact hne j hj e
  have hs2 : (w1.setCell ⟨b, j * 2, none⟩ (.string nh)).heap.size = w1.heap.size := by simp [World.setCell]
  have r3 : Row w3 b 50 (cur.setIfInBounds (j * 2) (.string nh)) := r2.same (hmid.block b (by rw [hs2]; have := hb1.size; omega) (by omega))
  refine ⟨_, _, by rw [List.length_set], Nat.le_refl _, by rw [List.length_set]; omega, fun _ => ⟨b, _, G, rfl, hl, hh, r3, fun i hi => ?_, fun i k hik hk => ?_⟩⟩
  · rw [List.length_set] at hi
    by_cases e : j = i
    · subst e
      simp only [List.getElem_set_self]
      refine ⟨hnh, by rw [Array.getElem?_setIfInBounds_self_of_lt (by omega)], u, by rw [Array.getElem?_setIfInBounds_ne (by omega)]; exact a3, ?_, ?_⟩
      · by_cases e : rs[j].body = []
        · obtain ⟨A3, c3, p1, p2, p3, p4, p5⟩ := ho3
          have hb0 : bd = [] := List.eq_nil_of_length_eq_zero (by rw [hlen, e]; rfl)
          subst hb0
          exact ⟨A3, c3, p1, p2, p3, p4, fun hp => by simp at hp⟩
        · rw [← hg1 e]; exact ho3
      · intro hn
        exact a5 (fun e => hn (List.eq_nil_of_length_eq_zero (by rw [hlen, e]; rfl)))
    · simp only [List.getElem_set_ne e]
      obtain ⟨b1, b2, ui, b3, b4, b5⟩ := hc i hi
      refine ⟨b1, by rw [Array.getElem?_setIfInBounds_ne (by omega)]; exact b2, ui, by rw [Array.getElem?_setIfInBounds_ne (by omega)]; exact b3, b4.keep fun hn => ?_, b5⟩
      have hgi := b4.lt hn
      have hgi2 : g' ≠ G i := by
        by_cases e2 : rs[j].body = []
        · have := hg2 e2; have := hb1.size; omega
        · rw [hg1 e2]
          rcases Nat.lt_or_gt_of_ne e with h' | h'
          · exact hd j i h' hi e2 hn
          · exact (hd i j h' hj hn e2).symm
      rw [hmid.block (G i) (by rw [hs2]; have := hb1.size; omega) (by omega), Below.heap_setCell _ _ _ _ (by exact hne i hi hn), hb1.block _ hgi]
  · rw [List.length_set] at hk
    have hx : ∀ (m : Nat) (hm : m < rs.length) (hm' : m < (rs.set j ⟨nh, bd⟩).length), ((rs.set j ⟨nh, bd⟩)[m]'hm').body ≠ [] → rs[m].body ≠ [] := fun m hm hm' => by
      by_cases e : j = m
      · subst e
        simp only [List.getElem_set_self]
        intro hn e2
        exact hn (List.eq_nil_of_length_eq_zero (by rw [hlen, e2]; rfl))
      · simp only [List.getElem_set_ne e]; exact fun h => h
    intro x1 x2
    exact hd i k hik hk (hx i (by omega) _ x1) (hx k hk _ x2)
end Go.Proofs.Ytlgedjpolmlciaa
