import Derived.Test.YtcgmnpfeiiomgaaJWfind
import Derived.Deep.AppendLies
import Derived.Test.YtcgmnpfeiiomgaaSetsOf
/- One more waits: what becomes of the search in memory. -/
namespace Go.Proofs.Ytcgmnpfeiiomgaa
open Go.RowKit Go.Maps Go.Conc

section
variable {w w1 w5 w6 : World} {E : Env} {rs : List RuleD} {t : List ByteArray} {M : List WtM} {S : St}
/-- the list that stands at a goal, as a value -/
def WaitsAt (M : List WtM) (S : St) (h : ByteArray) (i : Nat) (v : Value) : Prop := (v = .slice none 0 0 ∧ S.wt h i = []) ∨ ∃ e ∈ M, e.head = h ∧ e.fr = i ∧ v = e.v
theorem Sea.waitsAt (s : Sea w E rs t M S) {h : ByteArray} {i : Nat} (hh : h.size ≤ 4) (hi : i ≤ 12) {v : Value} {ps : List MemPlace} (hv : rawE v = some ((waitF M (goalK h i)).getD .nil, ps)) : WaitsAt M S h i v := by
  by_cases hn : S.wt h i = []
  · rw [waitF_out s hh hi hn] at hv
    exact .inl ⟨rawE_nil hv, hn⟩
  · obtain ⟨e, he, rfl, rfl⟩ := s.all h i hn
    rw [waitF_in s he] at hv
    exact .inr ⟨e, he, rfl, rfl, rawE_inv hv⟩
theorem Sea.waitsOwn (s : Sea w E rs t M S) {h : ByteArray} {i : Nat} {v : Value} (hv : WaitsAt M S h i v) : w.ownsRow E.base 142 4 v (S.wt h i).length (flatL (S.wt h i)) ∧ (S.wt h i).length ≤ S.nw ∧ ∀ g, v.ownBlock = some g → E.T M g ∧ E.bw ≠ g := by
  rcases hv with ⟨rfl, hn⟩ | ⟨e, he, rfl, rfl, rfl⟩
  · rw [hn]
    exact ⟨World.ownsRow_nil _ _ _ _, Nat.zero_le _, fun g h => by simp [Value.ownBlock] at h⟩
  · obtain ⟨r1, r2, _, r4, _⟩ := s.rows e he
    rw [← r2]
    refine ⟨r1, r4, fun g hg => ?_⟩
    have : e.blk = g := by simpa [WtM.v, Value.ownBlock] using hg
    subst this
    exact ⟨.inr (.inr (.inr (.inr ⟨e, he, rfl⟩))), Ne.symm (s.blk_ne he).2.2.1⟩
theorem pair_of {M : List WtM} {p : WtM → WtM → Prop} (hs : ∀ a b, p a b → p b a) (h : M.Pairwise p) {a b : WtM} (ha : a ∈ M) (hb : b ∈ M) (hne : a ≠ b) : p a b := by
  induction M with
  | nil => cases ha
  | cons x l ih =>
    rw [List.pairwise_cons] at h
    rcases List.mem_cons.1 ha with ha | ha <;> rcases List.mem_cons.1 hb with hb | hb
    · exact absurd (ha.trans hb.symm) hne
    · rw [ha]; exact h.1 b hb
    · rw [hb]; exact hs _ _ (h.1 a ha)
    · exact ih h.2 ha hb
theorem Sea.joins (s : Sea w E rs t M S) {l : Look} {h : ByteArray} (hl : l ∈ S.known) (hb : headB h = true) (hd : (ruleAt rs l.rule).body[l.done]? = some h) (hn : S.nw < S.rc) {v : Value} (hv : WaitsAt M S h l.at' v)
    (hg1 : w.grownBy w1 (some E.bw)) (hz1 : w1.heap.size = w.heap.size) (hg5 : w1.grownBy w5 v.ownBlock) {g cap : Nat} (hown : w5.ownsRow E.base 142 4 (.slice (some ⟨g, 0, none⟩) ((S.wt h l.at').length + 1) cap) ((S.wt h l.at').length + 1) (flatL (S.wt h l.at') ++ [.int .i64 (l.rule : Int), .int .i64 (l.done : Int), .int .i64 (l.fr : Int), .int .i64 (l.at' : Int)]))
    (hat : v.ownBlock = some g ∨ g = w.heap.size) (hmap : MapAt w6 148 rawE E.bw (S.nw + 1) (putF (waitF M) (goalK h l.at') (rawD g ((S.wt h l.at').length + 1) cap))) (hg6 : w5.grownBy w6 (some E.bw)) :
    SeaTo w w6 E rs t M (joinW S l h) := by
  obtain ⟨_, o2, o3⟩ := s.waitsOwn hv
  have hnew : ∀ k, k < w.heap.size → k ≠ E.bw → v.ownBlock ≠ some k → w6.heap[k]? = w.heap[k]? := fun k h0 h1 h2 => by
    have z1 := hg1.size
    have z5 := hg5.size
    exact ((hg6.block k (by omega) (fun e => h1 (by injection e))).trans (hg5.block k (by omega) (fun e => h2 e.symm))).trans (hg1.block k h0 (fun e => h1 (by injection e)))
  have hTv : ∀ k, ¬ E.T M k → k ≠ E.bw ∧ v.ownBlock ≠ some k := fun k hk => ⟨fun e => hk (e ▸ .inr (.inr (.inl rfl))), fun e => hk (o3 k e).1⟩
  have hkeep : Keeps 0 E.hi w w6 := fun k _ hk => by
    have h1 := s.hib
    have h2 := s.base_lt
    have hT : ¬ E.T M k := fun ht => by have := s.T_low ht; omega
    exact hnew k (by omega) (hTv k hT).1 (hTv k hT).2
  have hownT : ∀ k, v.ownBlock = some k → ∃ e ∈ M, e.head = h ∧ e.fr = l.at' ∧ e.blk = k := fun k hk => by
    rcases hv with ⟨rfl, _⟩ | ⟨e, he, h1, h2, rfl⟩
    · simp [Value.ownBlock] at hk
    · exact ⟨e, he, h1, h2, by simpa [WtM.v, Value.ownBlock] using hk⟩
  have hmapsNot : ∀ k, (k = E.bk ∨ k = E.bf ∨ k = E.bq) → v.ownBlock ≠ some k := fun k hk hv' => by
    obtain ⟨e, he, _, _, rfl⟩ := hownT k hv'
    have := s.blk_ne he
    rcases hk with hk | hk | hk
    · exact this.1 hk
    · exact this.2.1 hk
    · exact this.2.2.2 hk
  obtain ⟨ns, nr, hq⟩ := s.queue
  have hsnd := s.inv.sound l hl
  have hfit := hsnd.fit
  have h12 := s.fits.short
  have hz4 := headB_size hb
  refine ⟨putM M ⟨h, l.at', S.wt h l.at' ++ [l], g, cap⟩, ⟨s.fits, s.inv.join hl hb hd hn, s.rules.keep hkeep, s.text.keep hkeep, s.hib, s.known.keep (hnew _ s.known.lt s.apart.2.1 (hmapsNot _ (.inl rfl))), s.found.keep (hnew _ s.found.lt s.apart.2.2 (hmapsNot _ (.inr (.inl rfl)))), ?_,
    ⟨ns, nr, (hnew _ s.chan_lt s.chan_ne.2.2 (hmapsNot _ (.inr (.inr rfl)))).trans hq⟩, s.room, ?_, ?_, ?_, ?_, s.low, s.apart⟩, ?_, ?_⟩
  · refine hmap.like fun q => ?_
    have hM : ∀ x ∈ M, x.ok := fun x hx => by
      have := (s.rows x hx).2
      exact ⟨by unfold maxLen; omega, by omega⟩
    have he : WtM.ok ⟨h, l.at', S.wt h l.at' ++ [l], g, cap⟩ := ⟨by show h.size ≤ maxLen; unfold maxLen; omega, by show l.at' ≤ 1000; omega⟩
    rw [waitF_put hM he]
    simp
  · intro x hx
    rcases putM_mem.1 hx with ⟨hx, hne⟩ | rfl
    · obtain ⟨r1, r2, r3, r4, r5⟩ := s.rows x hx
      have hT := s.T_lt (k := x.blk) (.inr (.inr (.inr (.inr ⟨x, hx, rfl⟩))))
      refine ⟨WtM.row_keep r1 (hnew _ hT (s.blk_ne hx).2.2.1 fun ho => ?_), ?_, r3, by show _ ≤ S.nw + 1; omega, r5⟩
      · obtain ⟨e, he, h1, h2, h3⟩ := hownT _ ho
        have hxe : x ≠ e := fun e' => hne ⟨by rw [e']; exact h1, by rw [e']; exact h2⟩
        exact pair_of (fun _ _ h => Ne.symm h) s.blks hx he hxe h3.symm
      · simp only [joinW]
        rw [if_neg (by simpa using hne)]
        exact r2
    · refine ⟨?_, by simp [joinW], by simp, by show _ ≤ S.nw + 1; simp; omega, hz4, by show l.at' ≤ 12; omega⟩
      have hlen : (S.wt h l.at' ++ [l]).length = (S.wt h l.at').length + 1 := by simp
      simp only [WtM.v]
      rw [flatL_snoc, hlen]
      rcases hown.2 with ⟨h1, _⟩ | ⟨g', cap', cur, h1, h2, h3, h4, h5, h6, h7⟩
      · simp at h1
      · simp only [Value.slice.injEq, Option.some.injEq, Addr.mk.injEq, and_true, true_and] at h1
        obtain ⟨rfl, rfl⟩ := h1
        refine ⟨hown.1, .inr ⟨g, cap, cur, rfl, h2, ?_, h4, h5, h6, h7⟩⟩
        have hgl : g < w5.heap.size := (Array.getElem?_eq_some_iff.1 h3).1
        refine (hg6.block g hgl fun e => ?_).trans h3
        injection e with e
        rcases hat with hat | hat
        · exact (o3 g hat).2 e.symm
        · have := s.wait.lt
          omega
  · intro h' i' hne
    by_cases e : h' = h ∧ i' = l.at'
    · obtain ⟨rfl, rfl⟩ := e
      exact ⟨_, putM_mem.2 (.inr rfl), rfl, rfl⟩
    · simp only [joinW, if_neg e] at hne
      obtain ⟨x, hx, rfl, rfl⟩ := s.all h' i' hne
      exact ⟨x, putM_mem.2 (.inl ⟨hx, e⟩), rfl, rfl⟩
  · unfold putM
    rw [List.pairwise_append]
    refine ⟨s.keys.sublist List.filter_sublist, by simp, fun a ha b hb => ?_⟩
    rw [List.mem_singleton] at hb
    subst hb
    have := (List.mem_filter.1 ha).2
    rw [Bool.not_eq_true', decide_eq_false_iff_not] at this
    exact this
  · unfold putM
    rw [List.pairwise_append]
    refine ⟨s.blks.sublist List.filter_sublist, by simp, fun a ha b hb => ?_⟩
    rw [List.mem_singleton] at hb
    subst hb
    obtain ⟨ha1, ha2⟩ := List.mem_filter.1 ha
    rcases hat with hat | hat
    · obtain ⟨e, he, h1, h2, h3⟩ := hownT _ hat
      have hne : a ≠ e := fun e' => by subst e'; simp [h1, h2] at ha2
      show a.blk ≠ g
      rw [← h3]
      exact pair_of (fun _ _ h => Ne.symm h) s.blks ha1 he hne
    · have := s.T_lt (k := a.blk) (.inr (.inr (.inr (.inr ⟨a, ha1, rfl⟩))))
      show a.blk ≠ g
      omega
  · have z1 := hg1.size
    have z5 := hg5.size
    have z6 := hg6.size
    exact ⟨hg6.os.trans (hg5.os.trans hg1.os), hg6.tape.trans (hg5.tape.trans hg1.tape), hg6.output.trans (hg5.output.trans hg1.output), by omega, fun k hk hT => hnew k hk (hTv k hT).1 (hTv k hT).2⟩
  · rintro k (hk | hk | hk | hk | ⟨x, hx, rfl⟩)
    · exact .inl (.inl hk)
    · exact .inl (.inr (.inl hk))
    · exact .inl (.inr (.inr (.inl hk)))
    · exact .inl (.inr (.inr (.inr (.inl hk))))
    · rcases putM_mem.1 hx with ⟨hx, _⟩ | rfl
      · exact .inl (.inr (.inr (.inr (.inr ⟨x, hx, rfl⟩))))
      · show E.T M g ∨ _ ≤ g
        rcases hat with hat | hat
        · exact .inl (o3 g hat).1
        · exact .inr (by omega)
end
end Go.Proofs.Ytcgmnpfeiiomgaa

/- The walk of wait. -/
namespace Go.Proofs.Ytcgmnpfeiiomgaa
open Go.RowKit Go.Maps Go.Conc

theorem Try.infoLook : (Try.prog.info? 142).map (fun i => (i.zero, i.size, i.bytes)) = some (some (.agg #[.int .i64 0, .int .i64 0, .int .i64 0, .int .i64 0]), 4, 32) := by kernel_rfl
theorem four_one (a b c d : Int) : ∀ u ∈ [Value.int .i64 a, .int .i64 b, .int .i64 c, .int .i64 d], u.oneCell' = true := by
  intro u hu
  simp only [List.mem_cons, List.not_mem_nil, or_false] at hu
  rcases hu with rfl | rfl | rfl | rfl <;> rfl
theorem four_row {w : World} {g : Nat} {ty : TypeId} {a b c d : Value} (r : Row w g ty #[a, b, c, d]) : ∀ j u, [a, b, c, d][j]? = some u → w.cell? ((⟨g, 0, none⟩ : Addr).add j) = some u :=
  World.news_of_block (cs := #[a, b, c, d]) (t := ty) (fr := (0, 0)) r
theorem Row.made3 (w : World) (a b c : Obj) (t : TypeId) (cur : Array Value) : Row ((((w.alloc a).alloc b).alloc c).alloc (.cells cur t)) (w.heap.size + 3) t cur := by simpa using Row.made (((w.alloc a).alloc b).alloc c) t cur

set_option maxRecDepth 100000 in
set_option maxHeartbeats 4000000 in
theorem wait_any (E : Env) (rs : List RuleD) (t : List ByteArray) (M : List WtM) (S : St) (l : Look) (h : ByteArray) (w : World) (s : Sea w E rs t M S) (hl : l ∈ S.known) (hh : headB h = true) (hd : (ruleAt rs l.rule).body[l.done]? = some h) (hn : S.nw < S.rc) :
    Calls Try.prog 181 #[E.v rs.length t.length, lookV l, .string h] w fun e w' => e = .returned (.tuple #[]) ∧ SeaTo w w' E rs t M (waitS rs t S l h) := by
  obtain ⟨j0, hj0, hy0, hy1, hy2⟩ := info_parts Try.infoLook
  have hnT : ∀ k, w.heap.size ≤ k → ¬ E.T M k := fun k hk h => by have := s.T_lt h; omega
  have HNT := Lib.hid hnT
  clear hnT
  have h20 := s.fits.few
  have h12 := s.fits.short
  have hz4 := headB_size hh
  have hsnd := s.inv.sound l hl
  have hfit := hsnd.fit
  have hok := hsnd.ok s.fits
  have HOK := Lib.hid hok
  obtain ⟨hr1, hr2, hr3, hr4⟩ := hok
  have HSND := Lib.hid hsnd
  have hgk := keyGoal (h := h) (i := l.at') (by unfold maxLen; omega) (by omega)
  have hb := al4 w (.cells #[.slice E.A rs.length E.c, .slice E.B t.length E.d, .map (some E.bk), .map (some E.bf), .map (some E.bw), .chan (some E.bq)] 136) (.cells #[.int .i64 (l.rule : Int), .int .i64 (l.done : Int), .int .i64 (l.fr : Int), .int .i64 (l.at' : Int)] 142) (.cells #[.string h, .int .i64 (l.at' : Int)] 148) (.cells #[.int .i64 (l.rule : Int), .int .i64 (l.done : Int), .int .i64 (l.fr : Int), .int .i64 (l.at' : Int)] 142)
  have R0 := (((Row.made w 136 #[.slice E.A rs.length E.c, .slice E.B t.length E.d, .map (some E.bk), .map (some E.bf), .map (some E.bw), .chan (some E.bq)]).alloc (.cells #[.int .i64 (l.rule : Int), .int .i64 (l.done : Int), .int .i64 (l.fr : Int), .int .i64 (l.at' : Int)] 142)).alloc (.cells #[.string h, .int .i64 (l.at' : Int)] 148)).alloc (.cells #[.int .i64 (l.rule : Int), .int .i64 (l.done : Int), .int .i64 (l.fr : Int), .int .i64 (l.at' : Int)] 142)
  have R1 := ((Row.made1 w (.cells #[.slice E.A rs.length E.c, .slice E.B t.length E.d, .map (some E.bk), .map (some E.bf), .map (some E.bw), .chan (some E.bq)] 136) 142 #[.int .i64 (l.rule : Int), .int .i64 (l.done : Int), .int .i64 (l.fr : Int), .int .i64 (l.at' : Int)]).alloc (.cells #[.string h, .int .i64 (l.at' : Int)] 148)).alloc (.cells #[.int .i64 (l.rule : Int), .int .i64 (l.done : Int), .int .i64 (l.fr : Int), .int .i64 (l.at' : Int)] 142)
  have R2 := (Row.made2 w (.cells #[.slice E.A rs.length E.c, .slice E.B t.length E.d, .map (some E.bk), .map (some E.bf), .map (some E.bw), .chan (some E.bq)] 136) (.cells #[.int .i64 (l.rule : Int), .int .i64 (l.done : Int), .int .i64 (l.fr : Int), .int .i64 (l.at' : Int)] 142) 148 #[.string h, .int .i64 (l.at' : Int)]).alloc (.cells #[.int .i64 (l.rule : Int), .int .i64 (l.done : Int), .int .i64 (l.fr : Int), .int .i64 (l.at' : Int)] 142)
  have R3 := Row.made3 w (.cells #[.slice E.A rs.length E.c, .slice E.B t.length E.d, .map (some E.bk), .map (some E.bf), .map (some E.bw), .chan (some E.bq)] 136) (.cells #[.int .i64 (l.rule : Int), .int .i64 (l.done : Int), .int .i64 (l.fr : Int), .int .i64 (l.at' : Int)] 142) (.cells #[.string h, .int .i64 (l.at' : Int)] 148) 142 #[.int .i64 (l.rule : Int), .int .i64 (l.done : Int), .int .i64 (l.fr : Int), .int .i64 (l.at' : Int)]
  have hsz4 : ((((w.alloc (.cells #[.slice E.A rs.length E.c, .slice E.B t.length E.d, .map (some E.bk), .map (some E.bf), .map (some E.bw), .chan (some E.bq)] 136)).alloc (.cells #[.int .i64 (l.rule : Int), .int .i64 (l.done : Int), .int .i64 (l.fr : Int), .int .i64 (l.at' : Int)] 142)).alloc (.cells #[.string h, .int .i64 (l.at' : Int)] 148)).alloc (.cells #[.int .i64 (l.rule : Int), .int .i64 (l.done : Int), .int .i64 (l.fr : Int), .int .i64 (l.at' : Int)] 142)).heap.size = w.heap.size + 4 := by simp
  have s4 := s.below hb
  have hnw := s.nw_few
  obtain ⟨v0, st, w1, ps, hent, hraw, hg1, hz1, hstore⟩ := s4.wait.entry lawGoal Try.underlying133 zeroLooks (zd := .nil) (zp := []) rfl (by unfold maxLen; omega) hgk
  have hwa := s4.waitsAt (by omega) (by omega) hraw
  obtain ⟨own4, hlen4, hown4⟩ := s4.waitsOwn hwa
  have t1 : Turn (E.T M) _ w1 := Turn.of_grown hg1 (.inr (.inr (.inl rfl)))
  have own1 : w1.ownsRow E.base 142 4 v0 (S.wt h l.at').length (flatL (S.wt h l.at')) := World.ownsRow.kept own4 hg1 (by
    rcases ho : v0.ownBlock with _ | g
    · exact .inl rfl
    · refine .inr fun e => ?_
      injection e with e
      exact (hown4 g ho).2 e.symm)
  have R31 := t1.row R3 (HNT.out _ (by omega))
  obtain ⟨x0, x1, x2, x3⟩ := (t1.row R1 (HNT.out _ (by omega))).four
  obtain ⟨y0, y1, y2', y3, y4, y5⟩ := (t1.row R0 (HNT.out _ (by omega))).six
  have HS4 := Lib.hid s4
  have HB := Lib.hid hb
  have HR0 := Lib.hid R0
  have HR1 := Lib.hid R1
  have HR2 := Lib.hid R2
  have HR3 := Lib.hid R31
  have HZ4 := Lib.hid hsz4
  have HZ1 := Lib.hid hz1
  have HST := Lib.hid hstore
  have HWA := Lib.hid hwa
  have HOWN := Lib.hid own1
  have HT1 := Lib.hid t1
  have HG1 := Lib.hid hg1
  have HO4 := Lib.hid hown4
  have hz1' : w.heap.size + 4 ≤ w1.heap.size := by rw [hz1, hsz4]; exact Nat.le_refl _
  have hbase : E.base ≤ w1.heap.size := by have := s.base_lt; omega
  have HL := Lib.hid hl
  have HD := Lib.hid hd
  have HH := Lib.hid hh
  have HFT := Lib.hid s.fits
  clear hb R0 R1 R2 R3 R31 hsz4 s4 s hraw hg1 hz1 hstore hwa own1 own4 hown4 t1 hgk hl hd hh hsnd
  unfold lookV goalV at *
  unfold Env.v
  go_enter Try.func181, Try.ntmps181
  go_wp2_with (at_builtin; refine wpList_append_lies _ rfl _ _ 224 rfl E.base 142 j0 _ 4 32 Try.underlying224 hj0 hy0 hy1 hy2 rfl (by decide) v0 (S.wt h l.at').length (flatL (S.wt h l.at')) rfl HOWN.out ⟨w.heap.size + 3, 0, none⟩ 1 1 [.int .i64 (l.rule : Int), .int .i64 (l.done : Int), .int .i64 (l.fr : Int), .int .i64 (l.at' : Int)] rfl rfl (four_row HR3.out) (four_one _ _ _ _) (by omega) (by unfold maxLen; omega) (by omega) hbase w1.heap.size rfl ?_)
  intro g cap w5 hown5 hg5 hat5 hlt5
  have hbw5 : w5.heap[E.bw]? = w1.heap[E.bw]? := hg5.block E.bw (by have := HS4.out.wait.lt; have := HG1.out.size; omega) (fun e => (HO4.out E.bw e.symm).2 rfl)
  obtain ⟨w6, hst, hm6, hg6, hz6⟩ := HST.out w5 (.slice (some ⟨g, 0, none⟩) ((S.wt h l.at').length + 1) cap) (rawD g ((S.wt h l.at').length + 1) cap) [] hbw5 rfl
  obtain ⟨M', s6, t6, hT6⟩ := HS4.out.joins HL.out HH.out HD.out hn HWA.out HG1.out HZ1.out hg5 hown5 (by rw [← HZ1.out]; exact hat5) hm6 hg6
  have hnT' : ∀ q, w.heap.size ≤ q → q ≤ w.heap.size + 3 → ¬ E.T M' q := fun q h1 h2 ht => by
    rcases hT6 q ht with h3 | h3
    · exact HNT.out q h1 h3
    · rw [HZ4.out] at h3; omega
  have r0 := t6.row HR0.out (HNT.out _ (Nat.le_refl _))
  have r1 := t6.row HR1.out (HNT.out _ (by omega))
  have r2 := t6.row HR2.out (HNT.out _ (by omega))
  have HT06 := Lib.hid ((Turn.of_below HB.out).trans t6 fun _ h => .inl h)
  have HTM : Hid (∀ k, E.T M' k → E.T M k ∨ w.heap.size ≤ k) := Lib.hid fun k hk => (hT6 k hk).imp id fun h => by rw [HZ4.out] at h; omega
  have HNT' := Lib.hid hnT'
  have HS6 := Lib.hid s6
  have HR06 := Lib.hid r0
  have HR16 := Lib.hid r1
  have HR26 := Lib.hid r2
  obtain ⟨z0, z1, z2, z3, z4, z5⟩ := r0.six
  obtain ⟨x0', x1', x2', x3'⟩ := r1.four
  have g0 := r2.cell 0
  have g1 := r2.cell 1
  simp at g0 g1
  have l0 := r0.lt
  have l1 := r1.lt
  have l2 := r2.lt
  clear hown5 hg5 hat5 hlt5 hbw5 hm6 hg6 hz6 s6 t6 hT6 hnT' r0 r1 r2 x0 x1 x2 x3 y0 y1 y2' y3 y4 y5
  simp only [goInt] at hst
  go_wp2_with fail
  refine (ask_any E rs t M' _ h l.at' _ HS6.out hfit).mono ?_
  rintro _ w8 ⟨rfl, s8, t8⟩
  have r0 := t8.row HR06.out (HNT'.out _ (by omega) (by omega))
  have r1 := t8.row HR16.out (HNT'.out _ (by omega) (by omega))
  obtain ⟨a0, a1, a2, a3, a4, a5⟩ := r0.six
  obtain ⟨b0, b1, b2, b3⟩ := r1.four
  have l08 := r0.lt
  have l18 := r1.lt
  have HR08 := Lib.hid r0
  have HR18 := Lib.hid r1
  have HS8 := Lib.hid s8
  have HT8 := Lib.hid t8
  clear s8 t8 r0 r1 z0 z1 z2 z3 z4 z5 x0' x1' x2' x3' g0 g1 l0 l1 l2 hst hent
  go_wp2
  go_loopw [7] (fun x wr => ∃ q : Nat, l.at' ≤ q ∧ q ≤ t.length + 1 ∧ x = .int .i64 (q : Int) ∧ Sea wr E rs t M' (putAll (askS rs (joinW S l h) h l.at') (behindTo S l h q)) ∧ Turn (E.T M') w8 wr) (fun x _ => t.length + 1 - (intOf x).toNat)
  case atStart => exact ⟨l.at', Nat.le_refl _, by omega, rfl, by rw [behindTo_nil]; exact HS8.out, Turn.refl _ _⟩
  case round =>
    obtain ⟨q, hq1, hq2, rfl, sq, tq⟩ := hrel
    rename World => wr
    have HSQ := Lib.hid sq
    have HTQ := Lib.hid tq
    have r0 := tq.row HR08.out (HNT'.out _ (by omega) (by omega))
    have r1 := tq.row HR18.out (HNT'.out _ (by omega) (by omega))
    obtain ⟨a0', a1', a2', a3', a4', a5'⟩ := r0.six
    obtain ⟨b0', b1', b2', b3'⟩ := r1.four
    have l0q := r0.lt
    have l1q := r1.lt
    have HR0Q := Lib.hid r0
    have HR1Q := Lib.hid r1
    by_cases hlt : q ≤ t.length
    · have hfd := (putAll_rest (askS rs (joinW S l h) h l.at') (behindTo S l h q)).2.2.1
      have hfd2 : (putAll (askS rs (joinW S l h) h l.at') (behindTo S l h q)).found = S.found := hfd.trans (putAll_rest (joinW S l h) (asks rs h l.at')).2.2.1
      have hpk := keyPiece (h := h) (i := l.at') (k := q) (by unfold maxLen; omega) (by omega) (by omega)
      have hisf := sq.isFound (h := h) (i := l.at') (k := q) hz4 (by omega) (by omega)
      by_cases hin : (h, l.at', q) ∈ S.found
      · have hlk := set_in sq.found kPiece Try.underlying132 hpk (hisf.2 (by rw [hfd2]; exact hin))
        have HBH := Lib.hid (behindTo_t hq1 hin)
        have HSP := Lib.hid (HSND.out.head (k := q) (by rw [← ruleAt_eq HSND.out.rule]; exact HD.out) (sq.inv.found h l.at' q (by rw [hfd2]; exact hin)).2.2)
        have i9 : (q : Int) ≤ (t.length : Int) := by omega
        clear hfd hfd2 hpk hisf hin sq tq r0 r1 a0 a1 a2 a3 a4 a5 b0 b1 b2 b3
        unfold pieceV at hlk
        go_wp2
        go_region_held3 (fun w' => w'.cell? ⟨w.heap.size, 0, none⟩ = some (.slice E.A rs.length E.c) ∧ w'.cell? ⟨w.heap.size, 1, none⟩ = some (.slice E.B t.length E.d) ∧ w'.cell? ⟨w.heap.size, 2, none⟩ = some (.map (some E.bk)) ∧ w'.cell? ⟨w.heap.size, 3, none⟩ = some (.map (some E.bf)) ∧ w'.cell? ⟨w.heap.size, 4, none⟩ = some (.map (some E.bw)) ∧ w'.cell? ⟨w.heap.size, 5, none⟩ = some (.chan (some E.bq)) ∧
            w'.cell? ⟨w.heap.size + 1, 0, none⟩ = some (.int .i64 (l.rule : Int)) ∧ w'.cell? ⟨w.heap.size + 1, 1, none⟩ = some (.int .i64 (l.done : Int)) ∧ w'.cell? ⟨w.heap.size + 1, 2, none⟩ = some (.int .i64 (l.fr : Int)) ∧ w'.cell? ⟨w.heap.size + 1, 3, none⟩ = some (.int .i64 (l.at' : Int)))
          (first | go_keep | exact K6.out | exact K7.out)
          (first
            | (go_at_call 182; refine (past_any l q _ HOK.out).mono ?_; rintro _ v6 ⟨rfl, b6⟩
               have B6 := (Below.refl _ _).drew.trans b6
               have S6 := Lib.hid (HSQ.out.below B6)
               have HB6 := Lib.hid B6
               obtain ⟨q0, q1, q2, q3, q4, q5⟩ := (HR0Q.out.below B6 HR0Q.out.lt).six
               obtain ⟨m0, m1, m2, m3⟩ := (HR1Q.out.below B6 HR1Q.out.lt).four
               have K6 := Lib.hid (And.intro q0 (And.intro q1 (And.intro q2 (And.intro q3 (And.intro q4 (And.intro q5 (And.intro m0 (And.intro m1 (And.intro m2 m3)))))))))
               clear B6 b6 q0 q1 q2 q3 q4 q5 m0 m1 m2 m3)
            | (go_at_call 161; refine (put_any E rs t M' _ (l.past q) _ S6.out HSP.out).mono ?_; rintro _ v7 ⟨rfl, s7, t7⟩
               have S7 := Lib.hid s7
               have T7 := Lib.hid t7
               obtain ⟨q0, q1, q2, q3, q4, q5⟩ := (t7.row (HR0Q.out.below HB6.out HR0Q.out.lt) (HNT'.out _ (by omega) (by omega))).six
               obtain ⟨m0, m1, m2, m3⟩ := (t7.row (HR1Q.out.below HB6.out HR1Q.out.lt) (HNT'.out _ (by omega) (by omega))).four
               have K7 := Lib.hid (And.intro q0 (And.intro q1 (And.intro q2 (And.intro q3 (And.intro q4 (And.intro q5 (And.intro m0 (And.intro m1 (And.intro m2 m3)))))))))
               clear s7 t7 q0 q1 q2 q3 q4 q5 m0 m1 m2 m3))
        go_wp2
        go_roundw
        case rel => exact ⟨q + 1, by omega, by omega, by go_num, by rw [HBH.out, putAll_snoc]; exact S7.out, (HTQ.out.trans (Turn.of_below HB6.out) fun _ h => .inl h).trans T7.out fun _ h => .inl h⟩
        case measure => simp [intOf]; omega
      · have hlk := set_out sq.found kPiece Try.underlying132 hpk (fun hm => hin (by have := hisf.1 hm; rwa [hfd2] at this))
        have HBH := Lib.hid (behindTo_f hin)
        have i9 : (q : Int) ≤ (t.length : Int) := by omega
        clear hfd hfd2 hpk hisf hin sq tq r0 r1 a0 a1 a2 a3 a4 a5 b0 b1 b2 b3
        unfold pieceV at hlk
        go_wp2
        go_roundw
        case rel => exact ⟨q + 1, by omega, by omega, by go_num, by rw [HBH.out]; exact HSQ.out, HTQ.out⟩
        case measure => simp [intOf]; omega
    · have hqe : q = t.length + 1 := by omega
      have HQE := Lib.hid hqe
      have i9 : ¬ (q : Int) ≤ (t.length : Int) := by omega
      clear hqe sq tq r0 r1 a0 a1 a2 a3 a4 a5 b0 b1 b2 b3
      go_wp2
      go_end0
      refine ⟨rfl, M', ?_, (HT06.out.trans HT8.out HTM.out).trans HTQ.out HTM.out, HTM.out⟩
      have := HSQ.out
      rw [HQE.out] at this
      exact this
end Go.Proofs.Ytcgmnpfeiiomgaa
