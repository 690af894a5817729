/- The walk of run: all that is in the queue is followed. -/
import Derived.Test.YtmhdbjoljonhdaaWfollow
namespace Go.Proofs.Ytmhdbjoljonhdaa
open Go.RowKit Go.Maps Go.Conc

/-- looks are taken out of the queue and followed, one after the other -/
inductive Runs (rs : List RuleD) (t : List ByteArray) (S : St) : St → Prop
  | refl : Runs rs t S S
  | step {S' : St} (h : Runs rs t S S') (hlt : S'.rc < S'.known.length) : Runs rs t S (followS rs t (takeS S') S'.known[S'.rc])
theorem followS_rc (rs : List RuleD) (t : List ByteArray) (S : St) (l : Look) : (followS rs t S l).rc = S.rc := by
  unfold followS
  split
  · unfold findS
    split
    · rfl
    · exact (putAll_rest _ _).1
  · split
    · exact (putAll_rest _ _).1.trans (putAll_rest _ _).1
    · split
      · exact (putS_rest _ _).1
      · rfl
theorem Sea.taken {w : World} {E : Env} {rs : List RuleD} {t : List ByteArray} {M : List WtM} {S : St} (s : Sea w E rs t M S) (hlt : S.rc < S.known.length) {ns nr : Nat} :
    Sea (w.setChan E.bq E.cap (((S.known.drop S.rc).map lookV).toArray.extract 1 ((S.known.drop S.rc).map lookV).toArray.size) false ns (nr + 1) false) E rs t M (takeS S) := by
  have hb : ∀ k, k ≠ E.bq → (w.setChan E.bq E.cap (((S.known.drop S.rc).map lookV).toArray.extract 1 ((S.known.drop S.rc).map lookV).toArray.size) false ns (nr + 1) false).heap[k]? = w.heap[k]? := fun k h2 => by
    simp only [World.setChan]; rw [Array.getElem?_setIfInBounds_ne (Ne.symm h2)]
  have hne := s.chan_ne
  have hkeep : Keeps 0 E.hi w (w.setChan E.bq E.cap (((S.known.drop S.rc).map lookV).toArray.extract 1 ((S.known.drop S.rc).map lookV).toArray.size) false ns (nr + 1) false) := fun k _ hk => by
    have := s.low
    have := s.hib
    exact hb k (by omega)
  refine ⟨s.fits, s.inv.take hlt, s.rules.keep hkeep, s.text.keep hkeep, s.hib, s.known.keep (hb _ (Ne.symm hne.1)), s.found.keep (hb _ (Ne.symm hne.2.1)), s.wait.keep (hb _ (Ne.symm hne.2.2)), ⟨ns, nr + 1, ?_⟩, s.room,
    fun e he => ⟨WtM.row_keep (s.rows e he).1 (hb _ (s.blk_ne he).2.2.2), (s.rows e he).2⟩, s.all, s.keys, s.blks, s.low, s.apart⟩
  rw [heap_setChan _ _ _ _ _ _ _ _ s.chan_lt]
  have e := List.drop_eq_getElem_cons hlt
  have e2 : (((S.known.drop S.rc).map lookV).toArray.extract 1 ((S.known.drop S.rc).map lookV).toArray.size) = (((takeS S).known.drop (takeS S).rc).map lookV).toArray := by
    show _ = ((S.known.drop (S.rc + 1)).map lookV).toArray
    rw [e]
    generalize S.known.drop (S.rc + 1) = ks
    generalize S.known[S.rc] = k
    simp
    exact List.take_of_length_le (by simp)
  rw [e2]

theorem first_look {S : St} (hlt : S.rc < S.known.length) : ((S.known.drop S.rc).map lookV).toArray.getD 0 undef = lookV S.known[S.rc] := by
  rw [List.drop_eq_getElem_cons hlt]
  generalize S.known.drop (S.rc + 1) = ks
  simp
/-- what holds at each look into the queue -/
def RunI (E : Env) (rs : List RuleD) (t : List ByteArray) (M : List WtM) (S : St) (w : World) (n : Nat) (a : Act) (wr : World) : Prop :=
  ∃ (S' : St) (M' : List WtM) (u2 u3 u4 u5 u6 u7 u8 u9 u10 u11 : Value), n + S'.rc = E.cap + 1 ∧ Runs rs t S S' ∧ Sea wr E rs t M' S' ∧ Turn (E.T M) w wr ∧ (∀ k, E.T M' k → E.T M k ∨ w.heap.size < k) ∧ Row wr w.heap.size 95 #[.slice E.A rs.length E.c, .slice E.B t.length E.d, .map (some E.bk), .map (some E.bf), .map (some E.bw), .chan (some E.bq)] ∧
      a = ⟨#[.agg #[.slice E.A rs.length E.c, .slice E.B t.length E.d, .map (some E.bk), .map (some E.bf), .map (some E.bw), .chan (some E.bq)], .pointer (some ⟨w.heap.size, 0, none⟩), u2, u3, u4, u5, u6, u7, u8, u9, u10, u11], []⟩
def RunEnd (E : Env) (rs : List RuleD) (t : List ByteArray) (M : List WtM) (S : St) (w w' : World) : Prop := ∃ S', Runs rs t S S' ∧ S'.rc = S'.known.length ∧ SeaTo w w' E rs t M S'

set_option maxRecDepth 100000 in
set_option maxHeartbeats 4000000 in
theorem run_any (E : Env) (rs : List RuleD) (t : List ByteArray) (M : List WtM) (S : St) (w : World) (s : Sea w E rs t M S) :
    Calls Try.prog 81 #[E.v rs.length t.length] w fun e w' => e = .returned (.tuple #[]) ∧ RunEnd E rs t M S w w' := by
  have hnT : ∀ k, w.heap.size ≤ k → ¬ E.T M k := fun k hk h => by have := s.T_lt h; omega
  have HNT := Lib.hid hnT
  clear hnT
  have hb := al1 w (.cells #[.slice E.A rs.length E.c, .slice E.B t.length E.d, .map (some E.bk), .map (some E.bf), .map (some E.bw), .chan (some E.bq)] 95)
  have R0 := Row.made w 95 #[.slice E.A rs.length E.c, .slice E.B t.length E.d, .map (some E.bk), .map (some E.bf), .map (some E.bw), .chan (some E.bq)]
  have s1 := s.below hb
  have HB := Lib.hid hb
  have HR0 := Lib.hid R0
  have HS1 := Lib.hid s1
  clear hb R0 s1 s
  unfold Env.v
  refine NWp.calls Try.func81 rfl ?_
  simp only [Try.ntmps81, List.size_toArray, List.length_cons, List.length_nil, Nat.reduceAdd, Nat.reduceSub, Array.replicate_succ, Array.replicate_zero, List.push_toArray, List.append_toArray, List.nil_append, List.cons_append]
  refine NWp.seq (NWp.of_wp ?_)
  go_wp2
  refine NWp.block (NWp.loop (RunI E rs t M S w) (E.cap + 1 - S.rc) ?_ ?_)
  · have h1 := HS1.out.inv.rc
    have h2 := HS1.out.known_few
    exact ⟨S, M, _, _, _, _, _, _, _, _, _, _, by omega, .refl, HS1.out, Turn.of_below HB.out, fun k h => .inl h, HR0.out, rfl⟩
  · rintro n a wr ⟨S', M', u2, u3, u4, u5, u6, u7, u8, u9, u10, u11, hn, hruns, sr, tr, hT, rr, rfl⟩
    have HSR := Lib.hid sr
    have HTR := Lib.hid tr
    have HT := Lib.hid hT
    have HRR := Lib.hid rr
    have HRU := Lib.hid hruns
    obtain ⟨a0, a1, a2, a3, a4, a5⟩ := rr.six
    have l0 := rr.lt
    obtain ⟨ns, nr, hq⟩ := sr.queue
    have HQ := Lib.hid hq
    have hrc := sr.inv.rc
    have hkf := sr.known_few
    clear sr tr hT rr hruns hq
    refine NWp.block (NWp.seq (NWp.of_wp ?_))
    go_wp2
    refine NWp.seq (NWp.region ?_)
    simp only [List.size_toArray, List.length_cons, List.length_nil, Nat.reduceAdd, List.range, List.range.loop]
    by_cases hlt : S'.rc < S'.known.length
    · refine Left.take (c := E.bq) (z := .agg #[.int .i64 0, .int .i64 0, .int .i64 0, .int .i64 0]) rfl rfl (by simp [go_sem, execOp, rcase, Act.eval]) HQ.out (by simp; omega) ?_
      rw [first_look hlt]
      have hsc := HSR.out.taken hlt (ns := ns) (nr := nr)
      have htc : Turn (E.T M') wr (wr.setChan E.bq E.cap (((S'.known.drop S'.rc).map lookV).toArray.extract 1 ((S'.known.drop S'.rc).map lookV).toArray.size) false ns (nr + 1) false) := Turn.setChan _ _ _ _ _ _ _ _ (.inr (.inr (.inr (.inl rfl))))
      generalize hwc : wr.setChan E.bq E.cap (((S'.known.drop S'.rc).map lookV).toArray.extract 1 ((S'.known.drop S'.rc).map lookV).toArray.size) false ns (nr + 1) false = wc at *
      clear hwc
      have hnT' : ¬ E.T M' w.heap.size := fun h => by
        rcases HT.out _ h with h | h
        · exact HNT.out _ (Nat.le_refl _) h
        · omega
      have rc := htc.row HRR.out hnT'
      have hmem : S'.known[S'.rc] ∈ (takeS S').known := List.getElem_mem hlt
      have HMEM := Lib.hid hmem
      have HRUN := Lib.hid (Runs.step HRU.out hlt)
      have hok := (hsc.inv.sound _ hmem).ok hsc.fits
      have HSC := Lib.hid hsc
      have HTC := Lib.hid htc
      have HRC := Lib.hid rc
      have HNT' := Lib.hid hnT'
      have hrcn := followS_rc rs t (takeS S') S'.known[S'.rc]
      have HRCN := Lib.hid hrcn
      clear hrcn hsc htc hmem hnT'
      generalize S'.known[S'.rc] = l at *
      obtain ⟨hr1, hr2, hr3, hr4⟩ := hok
      have hbA := al1 wc (.cells #[.int .i64 (l.rule : Int), .int .i64 (l.done : Int), .int .i64 (l.fr : Int), .int .i64 (l.at' : Int)] 101)
      have rA := rc.below hbA rc.lt
      obtain ⟨c0, c1, c2, c3, c4, c5⟩ := rA.six
      have lA := rA.lt
      have lc := rc.lt
      have HBA := Lib.hid hbA
      have HRA := Lib.hid rA
      have HSA := Lib.hid (HSC.out.below hbA)
      clear rc rA hbA a0 a1 a2 a3 a4 a5
      unfold lookV
      refine Left.val_k rfl rfl (fun K hK => ?_); go_simp; refine hK _ _ ?_; clear hK K
      refine Left.val_k rfl rfl (fun K hK => ?_); go_simp; refine hK _ _ ?_; clear hK K
      refine Left.nil ?_
      simp only [Exit.then]
      walk_nrm
      refine NWp.of_wp ?_
      go_wp2_with fail
      refine (follow_any E rs t M' (takeS S') l _ HSA.out HMEM.out (Nat.lt_succ_of_le HSR.out.inv.nw) (Nat.lt_succ_of_le HSR.out.inv.fl)).mono ?_
      rintro _ w8 ⟨rfl, M8, s8, t8, hT8⟩
      have r8 := t8.row HRA.out HNT'.out
      have H8 := Lib.hid (And.intro s8 (And.intro t8 (And.intro hT8 r8)))
      clear s8 t8 hT8 r8
      go_wp2
      have hsz := HBA.out.size
      have hcs := HTC.out.size
      have hTT : ∀ k, E.T M' k → E.T M k ∨ w.heap.size ≤ k := fun k hk => (HT.out k hk).imp id fun h => by omega
      refine ⟨n - 1, by omega, _, M8, _, _, _, _, _, _, _, _, _, _, ?_, HRUN.out, H8.out.1, ((HTR.out.trans HTC.out hTT).trans (Turn.of_below HBA.out) (T' := E.T M') hTT).trans H8.out.2.1 hTT, fun k hk => ?_, H8.out.2.2.2, rfl⟩
      · rw [HRCN.out]
        show n - 1 + (S'.rc + 1) = _
        omega
      · rcases H8.out.2.2.1 k hk with h | h
        · exact HT.out k h
        · exact .inr (by omega)
    · have hre : S'.rc = S'.known.length := by omega
      have HRE := Lib.hid hre
      have hq0 : wr.heap[E.bq]? = some (.chan E.cap #[] false ns nr false) := by
        have := HQ.out
        rw [List.drop_eq_nil_of_le (by omega)] at this
        exact this
      refine Left.none (c := E.bq) (z := .agg #[.int .i64 0, .int .i64 0, .int .i64 0, .int .i64 0]) rfl rfl (by simp [go_sem, execOp, rcase, Act.eval]) hq0 ?_
      clear hq0 hre
      refine Left.val_k rfl rfl (fun K hK => ?_); go_simp; refine hK _ _ ?_; clear hK K
      refine Left.val_k rfl rfl (fun K hK => ?_); go_simp; refine hK _ _ ?_; clear hK K
      refine Left.nil ?_
      simp only [Exit.then]
      walk_nrm
      refine NWp.of_wp ?_
      go_wp2
      (try simp only [Exit.inBlock, Exit.then])
      refine bodyPost_ret (results_none rfl _ _ _) rfl ?_
      exact ⟨rfl, S', HRU.out, HRE.out, M', HSR.out, HTR.out, fun k hk => (HT.out k hk).imp id fun h => by omega⟩
end Go.Proofs.Ytmhdbjoljonhdaa
