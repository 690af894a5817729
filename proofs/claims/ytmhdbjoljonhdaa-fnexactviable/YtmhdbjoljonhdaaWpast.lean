/- The walks of past and put. -/
import Derived.Test.YtmhdbjoljonhdaaSeb
import Derived.Test.YtmhdbjoljonhdaaUseV
namespace Go.Proofs.Ytmhdbjoljonhdaa
open Go.RowKit Go.Maps Go.Conc

set_option maxRecDepth 100000 in
set_option maxHeartbeats 1000000 in
theorem past_any (l : Look) (k : Nat) (w : World) (h : l.ok) :
    Calls Try.prog 131 #[lookV l, .int .i64 (k : Int)] w fun e w' => e = .returned (lookV (l.past k)) ∧ Below w.heap.size w w' := by
  obtain ⟨h1, h2, h3, h4⟩ := h
  unfold lookV
  go_enter Try.func131, Try.ntmps131
  go_wp2
  refine bodyPost_ret (v := .agg #[.int .i64 (l.rule : Int), .int .i64 ((l.done : Int) + 1), .int .i64 (l.fr : Int), .int .i64 (k : Int)]) (by simp [results, Try.results131, go_sem]) rfl ⟨?_, ?_⟩
  · rfl
  · exact al2 _ _ _

/-- one more look is known, and lies in the queue -/
theorem Sea.grow {w w1 : World} {E : Env} {rs : List RuleD} {t : List ByteArray} {M : List WtM} {S : St} {l : Look} (s : Sea w E rs t M S) (hl : Sound rs t l) (hin : l ∉ S.known) {ns nr : Nat}
    (hmap : MapAt w1 101 boolE E.bk (S.known.length + 1) (memF (S.known.map lookK ++ [lookK l]))) (hgr : w.grownBy w1 (some E.bk)) (hs : w1.heap.size = w.heap.size) :
    Sea (w1.setChan E.bq E.cap (((S.known.drop S.rc).map lookV).toArray.push (lookV l)) false (ns + 1) nr false) E rs t M { S with known := S.known ++ [l] } := by
  have hb : ∀ k, k < w.heap.size → k ≠ E.bk → k ≠ E.bq → (w1.setChan E.bq E.cap (((S.known.drop S.rc).map lookV).toArray.push (lookV l)) false (ns + 1) nr false).heap[k]? = w.heap[k]? := fun k h0 h1 h2 => by
    refine Eq.trans ?_ (hgr.block k h0 (fun e => h1 (by injection e)))
    simp only [World.setChan]; rw [Array.getElem?_setIfInBounds_ne (Ne.symm h2)]
  have hne := s.chan_ne
  have hkeep : Keeps 0 E.hi w (w1.setChan E.bq E.cap (((S.known.drop S.rc).map lookV).toArray.push (lookV l)) false (ns + 1) nr false) := fun k _ hk => by
    have := s.low
    have := s.hib
    have := s.base_lt
    exact hb k (by omega) (by omega) (by omega)
  have hI : Inv rs t { S with known := S.known ++ [l] } := by have := s.inv.put hl; rwa [putS_out hin] at this
  refine ⟨s.fits, hI, s.rules.keep hkeep, s.text.keep hkeep, s.hib, ?_, s.found.keep (hb _ s.found.lt (Ne.symm s.apart.1) (Ne.symm hne.2.1)), s.wait.keep (hb _ s.wait.lt (Ne.symm s.apart.2.1) (Ne.symm hne.2.2)), ⟨ns + 1, nr, ?_⟩, s.room,
    fun e he => ⟨WtM.row_keep (s.rows e he).1 (hb _ (s.T_lt (.inr (.inr (.inr (.inr ⟨e, he, rfl⟩))))) (s.blk_ne he).1 (s.blk_ne he).2.2.2), (s.rows e he).2⟩, s.all, s.keys, s.blks, s.low, s.apart⟩
  · have : MapAt w1 101 boolE E.bk (S.known ++ [l]).length (memF ((S.known ++ [l]).map lookK)) := by
      rw [List.map_append, List.length_append]; exact hmap
    refine this.keep ?_
    simp only [World.setChan]; rw [Array.getElem?_setIfInBounds_ne hne.1]
  · rw [heap_setChan _ _ _ _ _ _ _ _ (by rw [hs]; exact s.chan_lt)]
    congr 2
    simp only
    rw [List.drop_append_of_le_length s.inv.rc, List.map_append]
    simp

/-- put, of a look that is known -/
theorem put_old (E : Env) (rs : List RuleD) (t : List ByteArray) (M : List WtM) (S : St) (l : Look) (w : World) (s : Sea w E rs t M S) (hl : Sound rs t l) (hin : l ∈ S.known) :
    Calls Try.prog 112 #[E.v rs.length t.length, lookV l] w fun e w' => e = .returned (.tuple #[]) ∧ Below w.heap.size w w' := by
  have hb := al2 w (.cells #[.slice E.A rs.length E.c, .slice E.B t.length E.d, .map (some E.bk), .map (some E.bf), .map (some E.bw), .chan (some E.bq)] 95) (.cells #[.int .i64 (l.rule : Int), .int .i64 (l.done : Int), .int .i64 (l.fr : Int), .int .i64 (l.at' : Int)] 101)
  have hlk := set_in (s.below hb).known kLook Try.underlying90 (keyLook (hl.ok s.fits)) ((s.isKnown hl).2 hin)
  have HB := Lib.hid hb
  clear hb
  unfold lookV at hlk ⊢
  unfold Env.v
  go_enter Try.func112, Try.ntmps112
  go_wp2
  go_end0
  exact ⟨rfl, HB.out⟩

set_option maxRecDepth 100000 in
set_option maxHeartbeats 1000000 in
/-- put, of a new one -/
theorem put_new (E : Env) (rs : List RuleD) (t : List ByteArray) (M : List WtM) (S : St) (l : Look) (w : World) (s : Sea w E rs t M S) (hl : Sound rs t l) (hin : l ∉ S.known) :
    Calls Try.prog 112 #[E.v rs.length t.length, lookV l] w fun e w' => e = .returned (.tuple #[]) ∧ Sea w' E rs t M { S with known := S.known ++ [l] } ∧ Turn (E.T M) w w' := by
  have hb := al2 w (.cells #[.slice E.A rs.length E.c, .slice E.B t.length E.d, .map (some E.bk), .map (some E.bf), .map (some E.bw), .chan (some E.bq)] 95) (.cells #[.int .i64 (l.rule : Int), .int .i64 (l.done : Int), .int .i64 (l.fr : Int), .int .i64 (l.at' : Int)] 101)
  have R0 := (Row.made w 95 #[.slice E.A rs.length E.c, .slice E.B t.length E.d, .map (some E.bk), .map (some E.bf), .map (some E.bw), .chan (some E.bq)]).alloc (.cells #[.int .i64 (l.rule : Int), .int .i64 (l.done : Int), .int .i64 (l.fr : Int), .int .i64 (l.at' : Int)] 101)
  have R1 := Row.made1 w (.cells #[.slice E.A rs.length E.c, .slice E.B t.length E.d, .map (some E.bk), .map (some E.bf), .map (some E.bw), .chan (some E.bq)] 95) 101 #[.int .i64 (l.rule : Int), .int .i64 (l.done : Int), .int .i64 (l.fr : Int), .int .i64 (l.at' : Int)]
  have sb := s.below hb
  have hnT : ∀ k, w.heap.size ≤ k → ¬ E.T M k := fun k hk h => by have := s.T_lt h; omega
  have hlk := set_out sb.known kLook Try.underlying90 (keyLook (hl.ok s.fits)) (fun h => hin ((s.isKnown hl).1 h))
  have hkf := s.known_few
  have hcl := s.cap_le
  obtain ⟨w1, hup, hmap, hgr, hsz⟩ := set_put sb.known kLook Try.underlying90 (by unfold maxLen; omega) (keyLook (hl.ok s.fits))
  have t1 : Turn (E.T M) _ w1 := Turn.of_grown hgr (.inl rfl)
  have r0 := t1.row R0 (hnT _ (Nat.le_refl _))
  have r1 := t1.row R1 (hnT _ (by omega))
  obtain ⟨ns, nr, hq⟩ := sb.queue
  have hq1 : w1.heap[E.bq]? = some (.chan E.cap ((S.known.drop S.rc).map lookV).toArray false ns nr false) := by
    refine (hgr.block _ sb.chan_lt fun e => ?_).trans hq
    injection e with e
    exact sb.chan_ne.1 e
  have c2 := r0.cell 2
  have c5 := r0.cell 5
  have d0 := r1.cell 0
  have d1 := r1.cell 1
  have d2 := r1.cell 2
  have d3 := r1.cell 3
  simp at c2 c5 d0 d1 d2 d3
  unfold lookV at hlk hup ⊢
  unfold Env.v
  have h0 := r0.lt
  have h1 := r1.lt
  have HQ := Lib.hid hq1
  have HM := Lib.hid hmap
  have HT := Lib.hid t1
  have HB := Lib.hid hb
  have HS := Lib.hid sb
  have HSZ := Lib.hid hsz
  have HGR := Lib.hid hgr
  clear hq1 hmap t1 hb sb hq hgr r0 r1 R0 R1 hsz
  refine NWp.calls Try.func112 rfl ?_
  simp only [Try.ntmps112, List.size_toArray, List.length_cons, List.length_nil, Nat.reduceAdd, Nat.reduceSub, Array.replicate_succ, Array.replicate_zero, List.push_toArray, List.append_toArray, List.nil_append, List.cons_append]
  refine NWp.seq (NWp.of_wp ?_)
  go_wp2
  refine NWp.seq (NWp.of_wp ?_)
  go_wp2
  refine NWp.cond (t := true) rfl ?_
  simp only [if_true]
  refine NWp.seq (NWp.of_wp ?_)
  go_wp2
  refine NWp.region ?_
  simp only [List.size_toArray, List.length_cons, List.length_nil, Nat.reduceAdd, List.range, List.range.loop]
  refine Left.val_k rfl rfl (fun K hK => ?_); go_simp; refine hK _ _ ?_; clear hK K
  refine Left.val_k rfl rfl (fun K hK => ?_); go_simp; refine hK _ _ ?_; clear hK K
  refine Left.val_k rfl rfl (fun K hK => ?_); go_simp; refine hK _ _ ?_; clear hK K
  refine Left.send (c := E.bq) (v := .agg #[.int .i64 (l.rule : Int), .int .i64 (l.done : Int), .int .i64 (l.fr : Int), .int .i64 (l.at' : Int)]) (z := .tuple #[]) rfl rfl rfl HQ.out (by simp; have := looks_few (putS_nodup HS.out.inv.nodup l) (HS.out.inv.put hl).sound; rw [putS_out hin, ← HS.out.room] at this; simp at this; have := HS.out.inv.rc; omega) ?_
  refine Left.nil ?_
  exact ⟨rfl, .tuple #[], by simp [results, Try.results112, go_sem], rfl, HS.out.grow hl hin HM.out HGR.out HSZ.out, ((Turn.of_below HB.out).trans HT.out fun _ h => .inl h).trans (Turn.setChan _ _ _ _ _ _ _ _ (.inr (.inr (.inr (.inl rfl))))) fun _ h => .inl h⟩

/-- put -/
theorem put_any (E : Env) (rs : List RuleD) (t : List ByteArray) (M : List WtM) (S : St) (l : Look) (w : World) (s : Sea w E rs t M S) (hl : Sound rs t l) :
    Calls Try.prog 112 #[E.v rs.length t.length, lookV l] w fun e w' => e = .returned (.tuple #[]) ∧ Sea w' E rs t M (putS S l) ∧ Turn (E.T M) w w' := by
  by_cases hin : l ∈ S.known
  · rw [putS_in hin]
    exact (put_old E rs t M S l w s hl hin).mono fun e w' ⟨h1, h2⟩ => ⟨h1, s.below h2, Turn.of_below h2⟩
  · rw [putS_out hin]
    exact put_new E rs t M S l w s hl hin
end Go.Proofs.Ytmhdbjoljonhdaa
