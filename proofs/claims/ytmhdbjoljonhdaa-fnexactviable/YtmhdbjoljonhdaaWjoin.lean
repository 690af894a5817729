/- One more waits: what becomes of the search in memory. -/
import Derived.Test.YtmhdbjoljonhdaaWfind
import Derived.Deep.AppendLies
namespace Go.Proofs.Ytmhdbjoljonhdaa
open Go.RowKit Go.Maps Go.Conc

section
variable {w w1 w5 w6 : World} {E : Env} {rs : List RuleD} {t : List ByteArray} {M : List WtM} {S : St}
/-- the list that stands at a goal, as a value -/
def WaitsAt (M : List WtM) (S : St) (h : ByteArray) (i : Nat) (v : Value) : Prop := (v = .slice none 0 0 ∧ S.wt h i = []) ∨ ∃ e ∈ M, e.head = h ∧ e.fr = i ∧ v = e.v
theorem Sea.waitsAt (s : Sea w E rs t M S) {h : ByteArray} {i : Nat} (hh : h.size ≤ 4) (hi : i ≤ 12) {v : Value} {ps : List MemPlace} (hv : rawE v = some ((waitF M (goalK h i)).getD .nil, ps)) : WaitsAt M S h i v := by
  by_cases hn : S.wt h i = []
  · rw [waitF_out s hh hi hn] at hv
    exact .inl ⟨rawE_nil hv, hn⟩
  · obtain ⟨e, he, rfl, rfl⟩ := s.all h i hn
    rw [waitF_in s he] at hv
    exact .inr ⟨e, he, rfl, rfl, rawE_inv hv⟩
theorem Sea.waitsOwn (s : Sea w E rs t M S) {h : ByteArray} {i : Nat} {v : Value} (hv : WaitsAt M S h i v) : w.ownsRow E.base 101 4 v (S.wt h i).length (flatL (S.wt h i)) ∧ (S.wt h i).length ≤ S.nw ∧ ∀ g, v.ownBlock = some g → E.T M g ∧ E.bw ≠ g := by
  rcases hv with ⟨rfl, hn⟩ | ⟨e, he, rfl, rfl, rfl⟩
  · rw [hn]
    exact ⟨World.ownsRow_nil _ _ _ _, Nat.zero_le _, fun g h => by simp [Value.ownBlock] at h⟩
  · obtain ⟨r1, r2, _, r4, _⟩ := s.rows e he
    rw [← r2]
    refine ⟨r1, r4, fun g hg => ?_⟩
    have : e.blk = g := by simpa [WtM.v, Value.ownBlock] using hg
    subst this
    exact ⟨.inr (.inr (.inr (.inr ⟨e, he, rfl⟩))), Ne.symm (s.blk_ne he).2.2.1⟩
theorem pair_of {M : List WtM} {p : WtM → WtM → Prop} (hs : ∀ a b, p a b → p b a) (h : M.Pairwise p) {a b : WtM} (ha : a ∈ M) (hb : b ∈ M) (hne : a ≠ b) : p a b := by
  induction M with
  | nil => cases ha
  | cons x l ih =>
    rw [List.pairwise_cons] at h
    rcases List.mem_cons.1 ha with ha | ha <;> rcases List.mem_cons.1 hb with hb | hb
    · exact absurd (ha.trans hb.symm) hne
    · rw [ha]; exact h.1 b hb
    · rw [hb]; exact hs _ _ (h.1 a ha)
    · exact ih h.2 ha hb
theorem Sea.joins (s : Sea w E rs t M S) {l : Look} {h : ByteArray} (hl : l ∈ S.known) (hb : headB h = true) (hd : (ruleAt rs l.rule).body[l.done]? = some h) (hn : S.nw < S.rc) {v : Value} (hv : WaitsAt M S h l.at' v)
    (hg1 : w.grownBy w1 (some E.bw)) (hz1 : w1.heap.size = w.heap.size) (hg5 : w1.grownBy w5 v.ownBlock) {g cap : Nat} (hown : w5.ownsRow E.base 101 4 (.slice (some ⟨g, 0, none⟩) ((S.wt h l.at').length + 1) cap) ((S.wt h l.at').length + 1) (flatL (S.wt h l.at') ++ [.int .i64 (l.rule : Int), .int .i64 (l.done : Int), .int .i64 (l.fr : Int), .int .i64 (l.at' : Int)]))
    (hat : v.ownBlock = some g ∨ g = w.heap.size) (hmap : MapAt w6 107 rawE E.bw (S.nw + 1) (putF (waitF M) (goalK h l.at') (rawD g ((S.wt h l.at').length + 1) cap))) (hg6 : w5.grownBy w6 (some E.bw)) :
    SeaTo w w6 E rs t M (joinW S l h) := by
  obtain ⟨_, o2, o3⟩ := s.waitsOwn hv
  have hnew : ∀ k, k < w.heap.size → k ≠ E.bw → v.ownBlock ≠ some k → w6.heap[k]? = w.heap[k]? := fun k h0 h1 h2 => by
    have z1 := hg1.size
    have z5 := hg5.size
    exact ((hg6.block k (by omega) (fun e => h1 (by injection e))).trans (hg5.block k (by omega) (fun e => h2 e.symm))).trans (hg1.block k h0 (fun e => h1 (by injection e)))
  have hTv : ∀ k, ¬ E.T M k → k ≠ E.bw ∧ v.ownBlock ≠ some k := fun k hk => ⟨fun e => hk (e ▸ .inr (.inr (.inl rfl))), fun e => hk (o3 k e).1⟩
  have hkeep : Keeps 0 E.hi w w6 := fun k _ hk => by
    have h1 := s.hib
    have h2 := s.base_lt
    have hT : ¬ E.T M k := fun ht => by have := s.T_low ht; omega
    exact hnew k (by omega) (hTv k hT).1 (hTv k hT).2
  have hownT : ∀ k, v.ownBlock = some k → ∃ e ∈ M, e.head = h ∧ e.fr = l.at' ∧ e.blk = k := fun k hk => by
    rcases hv with ⟨rfl, _⟩ | ⟨e, he, h1, h2, rfl⟩
    · simp [Value.ownBlock] at hk
    · exact ⟨e, he, h1, h2, by simpa [WtM.v, Value.ownBlock] using hk⟩
  have hmapsNot : ∀ k, (k = E.bk ∨ k = E.bf ∨ k = E.bq) → v.ownBlock ≠ some k := fun k hk hv' => by
    obtain ⟨e, he, _, _, rfl⟩ := hownT k hv'
    have := s.blk_ne he
    rcases hk with hk | hk | hk
    · exact this.1 hk
    · exact this.2.1 hk
    · exact this.2.2.2 hk
  obtain ⟨ns, nr, hq⟩ := s.queue
  have hsnd := s.inv.sound l hl
  have hfit := hsnd.fit
  have h12 := s.fits.short
  have hz4 := headB_size hb
  refine ⟨putM M ⟨h, l.at', S.wt h l.at' ++ [l], g, cap⟩, ⟨s.fits, s.inv.join hl hb hd hn, s.rules.keep hkeep, s.text.keep hkeep, s.hib, s.known.keep (hnew _ s.known.lt s.apart.2.1 (hmapsNot _ (.inl rfl))), s.found.keep (hnew _ s.found.lt s.apart.2.2 (hmapsNot _ (.inr (.inl rfl)))), ?_,
    ⟨ns, nr, (hnew _ s.chan_lt s.chan_ne.2.2 (hmapsNot _ (.inr (.inr rfl)))).trans hq⟩, s.room, ?_, ?_, ?_, ?_, s.low, s.apart⟩, ?_, ?_⟩
  · refine hmap.like fun q => ?_
    have hM : ∀ x ∈ M, x.ok := fun x hx => by
      have := (s.rows x hx).2
      exact ⟨by unfold maxLen; omega, by omega⟩
    have he : WtM.ok ⟨h, l.at', S.wt h l.at' ++ [l], g, cap⟩ := ⟨by show h.size ≤ maxLen; unfold maxLen; omega, by show l.at' ≤ 1000; omega⟩
    rw [waitF_put hM he]
    simp
  · intro x hx
    rcases putM_mem.1 hx with ⟨hx, hne⟩ | rfl
    · obtain ⟨r1, r2, r3, r4, r5⟩ := s.rows x hx
      have hT := s.T_lt (k := x.blk) (.inr (.inr (.inr (.inr ⟨x, hx, rfl⟩))))
      refine ⟨WtM.row_keep r1 (hnew _ hT (s.blk_ne hx).2.2.1 fun ho => ?_), ?_, r3, by show _ ≤ S.nw + 1; omega, r5⟩
      · obtain ⟨e, he, h1, h2, h3⟩ := hownT _ ho
        have hxe : x ≠ e := fun e' => hne ⟨by rw [e']; exact h1, by rw [e']; exact h2⟩
        exact pair_of (fun _ _ h => Ne.symm h) s.blks hx he hxe h3.symm
      · simp only [joinW]
        rw [if_neg (by simpa using hne)]
        exact r2
    · refine ⟨?_, by simp [joinW], by simp, by show _ ≤ S.nw + 1; simp; omega, hz4, by show l.at' ≤ 12; omega⟩
      have hlen : (S.wt h l.at' ++ [l]).length = (S.wt h l.at').length + 1 := by simp
      simp only [WtM.v]
      rw [flatL_snoc, hlen]
      rcases hown.2 with ⟨h1, _⟩ | ⟨g', cap', cur, h1, h2, h3, h4, h5, h6, h7⟩
      · simp at h1
      · simp only [Value.slice.injEq, Option.some.injEq, Addr.mk.injEq, and_true, true_and] at h1
        obtain ⟨rfl, rfl⟩ := h1
        refine ⟨hown.1, .inr ⟨g, cap, cur, rfl, h2, ?_, h4, h5, h6, h7⟩⟩
        have hgl : g < w5.heap.size := (Array.getElem?_eq_some_iff.1 h3).1
        refine (hg6.block g hgl fun e => ?_).trans h3
        injection e with e
        rcases hat with hat | hat
        · exact (o3 g hat).2 e.symm
        · have := s.wait.lt
          omega
  · intro h' i' hne
    by_cases e : h' = h ∧ i' = l.at'
    · obtain ⟨rfl, rfl⟩ := e
      exact ⟨_, putM_mem.2 (.inr rfl), rfl, rfl⟩
    · simp only [joinW, if_neg e] at hne
      obtain ⟨x, hx, rfl, rfl⟩ := s.all h' i' hne
      exact ⟨x, putM_mem.2 (.inl ⟨hx, e⟩), rfl, rfl⟩
  · unfold putM
    rw [List.pairwise_append]
    refine ⟨s.keys.sublist List.filter_sublist, by simp, fun a ha b hb => ?_⟩
    rw [List.mem_singleton] at hb
    subst hb
    have := (List.mem_filter.1 ha).2
    rw [Bool.not_eq_true', decide_eq_false_iff_not] at this
    exact this
  · unfold putM
    rw [List.pairwise_append]
    refine ⟨s.blks.sublist List.filter_sublist, by simp, fun a ha b hb => ?_⟩
    rw [List.mem_singleton] at hb
    subst hb
    obtain ⟨ha1, ha2⟩ := List.mem_filter.1 ha
    rcases hat with hat | hat
    · obtain ⟨e, he, h1, h2, h3⟩ := hownT _ hat
      have hne : a ≠ e := fun e' => by subst e'; simp [h1, h2] at ha2
      show a.blk ≠ g
      rw [← h3]
      exact pair_of (fun _ _ h => Ne.symm h) s.blks ha1 he hne
    · have := s.T_lt (k := a.blk) (.inr (.inr (.inr (.inr ⟨a, ha1, rfl⟩))))
      show a.blk ≠ g
      omega
  · have z1 := hg1.size
    have z5 := hg5.size
    have z6 := hg6.size
    exact ⟨hg6.os.trans (hg5.os.trans hg1.os), hg6.tape.trans (hg5.tape.trans hg1.tape), hg6.output.trans (hg5.output.trans hg1.output), by omega, fun k hk hT => hnew k hk (hTv k hT).1 (hTv k hT).2⟩
  · rintro k (hk | hk | hk | hk | ⟨x, hx, rfl⟩)
    · exact .inl (.inl hk)
    · exact .inl (.inr (.inl hk))
    · exact .inl (.inr (.inr (.inl hk)))
    · exact .inl (.inr (.inr (.inr (.inl hk))))
    · rcases putM_mem.1 hx with ⟨hx, _⟩ | rfl
      · exact .inl (.inr (.inr (.inr (.inr ⟨x, hx, rfl⟩))))
      · show E.T M g ∨ _ ≤ g
        rcases hat with hat | hat
        · exact .inl (o3 g hat).1
        · exact .inr (by omega)
end
end Go.Proofs.Ytmhdbjoljonhdaa
