import Derived.Test.YtcgmnpfeiiomgaaJWwait
/- The walk of follow. -/
namespace Go.Proofs.Ytcgmnpfeiiomgaa
open Go.RowKit Go.Maps Go.Conc

theorem Strs.at {w : World} {lo hi : Nat} {A : Option Addr} {c : Nat} {ss : List ByteArray} (h : Strs w lo hi (.slice A ss.length c) ss) {j : Nat} (hj : j < ss.length) : ∃ b off, A = some ⟨b, off, none⟩ ∧ b < hi ∧ ss.length ≤ c ∧ c ≤ maxLen ∧ w.cell? ⟨b, off + j, none⟩ = some (.string ss[j]) := by
  obtain ⟨A', c', e, h1, h2, _, h3⟩ := h
  injection e with e1 _ e2
  subst e1 e2
  obtain ⟨b, off, rfl, _, h5, h6⟩ := h3 (by omega)
  exact ⟨b, off, rfl, h5, h1, h2, h6 j hj⟩

theorem past_int (l : Look) (k : Nat) (z : Int) (hz : z = (k : Int)) (w : World) (h : l.ok) :
    Calls Try.prog 182 #[lookV l, .int .i64 z] w fun e w' => e = .returned (lookV (l.past k)) ∧ Below w.heap.size w w' := by
  subst hz
  exact past_any l k w h

set_option maxRecDepth 100000 in
set_option maxHeartbeats 4000000 in
theorem follow_any (E : Env) (rs : List RuleD) (t : List ByteArray) (M : List WtM) (S : St) (l : Look) (w : World) (s : Sea w E rs t M S) (hl : l ∈ S.known) (hn : S.nw < S.rc) (hf : S.found.length < S.rc) :
    Calls Try.prog 162 #[E.v rs.length t.length, lookV l] w fun e w' => e = .returned (.tuple #[]) ∧ SeaTo w w' E rs t M (followS rs t S l) := by
  have hnT : ∀ k, w.heap.size ≤ k → ¬ E.T M k := fun k hk h => by have := s.T_lt h; omega
  have HNT := Lib.hid hnT
  clear hnT
  have h20 := s.fits.few
  have h12 := s.fits.short
  have hsnd := s.inv.sound l hl
  have hfit := hsnd.fit
  have hle := hsnd.le
  have hrl := hsnd.rule
  have hdn : l.done ≤ (rs[l.rule]'hrl).body.length := hsnd.done
  have hok := hsnd.ok s.fits
  have hb5 := s.fits.len _ hrl
  have HOK := Lib.hid hok
  obtain ⟨hr1, hr2, hr3, hr4⟩ := hok
  have HSND := Lib.hid hsnd
  have hbl := s.base_lt
  have hib := s.hib
  obtain ⟨A, c, B, d, lim, base, bk, bf, bw, bq, cap⟩ := E
  simp only at hbl hib
  obtain ⟨b, off, rfl, hbh, hlc, hcm, hsm, k0, B2, d2, k1, hst⟩ := s.rules.at hrl
  simp only at hbh hlc hcm
  unfold maxLen at hcm
  have hb := al3 w (.cells #[.slice (some ⟨b, off, none⟩) rs.length c, .slice B t.length d, .map (some bk), .map (some bf), .map (some bw), .chan (some bq)] 136) (.cells #[.int .i64 (l.rule : Int), .int .i64 (l.done : Int), .int .i64 (l.fr : Int), .int .i64 (l.at' : Int)] 142) (.cells #[.string rs[l.rule].head, .slice B2 rs[l.rule].body.length d2] 47)
  have R0 := ((Row.made w 136 #[.slice (some ⟨b, off, none⟩) rs.length c, .slice B t.length d, .map (some bk), .map (some bf), .map (some bw), .chan (some bq)]).alloc (.cells #[.int .i64 (l.rule : Int), .int .i64 (l.done : Int), .int .i64 (l.fr : Int), .int .i64 (l.at' : Int)] 142)).alloc (.cells #[.string rs[l.rule].head, .slice B2 rs[l.rule].body.length d2] 47)
  have R1 := (Row.made1 w (.cells #[.slice (some ⟨b, off, none⟩) rs.length c, .slice B t.length d, .map (some bk), .map (some bf), .map (some bw), .chan (some bq)] 136) 142 #[.int .i64 (l.rule : Int), .int .i64 (l.done : Int), .int .i64 (l.fr : Int), .int .i64 (l.at' : Int)]).alloc (.cells #[.string rs[l.rule].head, .slice B2 rs[l.rule].body.length d2] 47)
  have k0' : ((w.alloc (.cells #[.slice (some ⟨b, off, none⟩) rs.length c, .slice B t.length d, .map (some bk), .map (some bf), .map (some bw), .chan (some bq)] 136)).alloc (.cells #[.int .i64 (l.rule : Int), .int .i64 (l.done : Int), .int .i64 (l.fr : Int), .int .i64 (l.at' : Int)] 142)).cell? ⟨b, off + l.rule * 2, none⟩ = some (.string rs[l.rule].head) := ((al2 w _ _).cell (p := ⟨b, off + l.rule * 2, none⟩) (by show b < _; omega)).trans k0
  have k1' : ((w.alloc (.cells #[.slice (some ⟨b, off, none⟩) rs.length c, .slice B t.length d, .map (some bk), .map (some bf), .map (some bw), .chan (some bq)] 136)).alloc (.cells #[.int .i64 (l.rule : Int), .int .i64 (l.done : Int), .int .i64 (l.fr : Int), .int .i64 (l.at' : Int)] 142)).cell? ⟨b, off + l.rule * 2 + 1, none⟩ = some (.slice B2 rs[l.rule].body.length d2) := ((al2 w _ _).cell (p := ⟨b, off + l.rule * 2 + 1, none⟩) (by show b < _; omega)).trans k1
  have s3 := s.below hb
  have hsz3 : (((w.alloc (.cells #[.slice (some ⟨b, off, none⟩) rs.length c, .slice B t.length d, .map (some bk), .map (some bf), .map (some bw), .chan (some bq)] 136)).alloc (.cells #[.int .i64 (l.rule : Int), .int .i64 (l.done : Int), .int .i64 (l.fr : Int), .int .i64 (l.at' : Int)] 142)).alloc (.cells #[.string rs[l.rule].head, .slice B2 rs[l.rule].body.length d2] 47)).heap.size = w.heap.size + 3 := by simp
  have hst3 := hst.below hb (by simp only at *; omega)
  have hbw : b < w.heap.size := by omega
  have HB := Lib.hid hb
  have HS3 := Lib.hid s3
  have HR0 := Lib.hid R0
  have HR1 := Lib.hid R1
  have HSZ := Lib.hid hsz3
  have HST := Lib.hid hst3
  have HL := Lib.hid hl
  have HHD := Lib.hid (s.fits.head _ hrl)
  have HBD := Lib.hid (s.fits.body _ hrl)
  have HRA := Lib.hid (ruleAt_eq hrl)
  have HTX := Lib.hid s3.text
  clear hb s3 R0 R1 hsz3 hst hst3 hl k0 k1 hsnd s
  unfold lookV
  simp only [Env.v]
  by_cases hdone : l.done = rs[l.rule].body.length
  · have HFO : Hid (followS rs t S l = findS S rs[l.rule].head l.fr l.at') := Lib.hid (by unfold followS; rw [HRA.out, List.getElem?_eq_none (by omega)])
    have HDN := Lib.hid hdone
    have i1 : ((l.done : Int) == (rs[l.rule].body.length : Int)) = true := by rw [hdone]; simp
    clear hdone
    go_enter Try.func162, Try.ntmps162
    go_wp2_with fail
    refine (find_any ⟨some ⟨b, off, none⟩, c, B, d, lim, base, bk, bf, bw, bq, cap⟩ rs t M S rs[l.rule].head l.fr l.at' _ HS3.out HHD.out hle hfit (HSND.out.fin HDN.out) hf).mono ?_
    rintro _ w8 ⟨rfl, s8, t8⟩
    have HS8 := Lib.hid s8
    have HT8 := Lib.hid t8
    clear s8 t8
    go_wp2
    (try simp only [Exit.inBlock, Exit.then])
    refine bodyPost_ret (results_none rfl _ _ _) rfl ?_
    refine ⟨rfl, M, by rw [HFO.out]; exact HS8.out, (Turn.of_below HB.out).trans HT8.out fun _ h => .inl h, fun _ h => .inl h⟩
  · have hdl : l.done < rs[l.rule].body.length := by omega
    have i1 : ((l.done : Int) == (rs[l.rule].body.length : Int)) = false := by simp; omega
    obtain ⟨b2, off2, rfl, hb2h, hlc2, hcm2, n0⟩ := HST.out.at hdl
    unfold maxLen at hcm2
    have hb2w : b2 < w.heap.size := by simp only at *; omega
    have HBE : Hid (rs[l.rule].body[l.done]? = some rs[l.rule].body[l.done]) := Lib.hid (List.getElem?_eq_getElem hdl)
    have hsym := HBD.out _ (List.getElem_mem hdl)
    clear hdone
    by_cases hhd : headB rs[l.rule].body[l.done] = true
    · have HFO : Hid (followS rs t S l = waitS rs t S l rs[l.rule].body[l.done]) := Lib.hid (by unfold followS; rw [HRA.out, HBE.out]; simp only [hhd, if_true])
      have HHH := Lib.hid hhd
      clear hhd hsym
      go_enter Try.func162, Try.ntmps162
      go_wp2_with fail
      refine (implIsHead_any _ _).mono ?_
      rintro _ w5 ⟨rfl, b5⟩
      rw [HHH.out]
      obtain ⟨a0, a1, a2, a3, a4, a5⟩ := (HR0.out.below b5 HR0.out.lt).six
      obtain ⟨x0, x1, x2, x3⟩ := (HR1.out.below b5 HR1.out.lt).four
      have z5 := b5.size
      rw [HSZ.out] at z5
      have HS5 := Lib.hid (HS3.out.below b5)
      have HB5 := Lib.hid b5
      clear b5
      go_wp2_with fail
      refine (wait_any ⟨some ⟨b, off, none⟩, c, B, d, lim, base, bk, bf, bw, bq, cap⟩ rs t M S l rs[l.rule].body[l.done] _ HS5.out HL.out HHH.out (by rw [HRA.out]; exact HBE.out) hn).mono ?_
      rintro _ w8 ⟨rfl, M8, s8, t8, hT8⟩
      have H8 := Lib.hid (And.intro s8 (And.intro t8 hT8))
      clear s8 t8 hT8
      go_wp2
      (try simp only [Exit.inBlock, Exit.then])
      refine bodyPost_ret (results_none rfl _ _ _) rfl ?_
      exact ⟨rfl, M8, by rw [HFO.out]; exact H8.out.1, ((Turn.of_below HB.out).trans (Turn.of_below HB5.out) fun _ h => .inl h).trans H8.out.2.1 fun _ h => .inl h, fun k hk => (H8.out.2.2 k hk).imp id fun h => by omega⟩
    · have hhf : headB rs[l.rule].body[l.done] = false := by simpa using hhd
      have HHH := Lib.hid hhf
      by_cases htx : t[l.at']? = some rs[l.rule].body[l.done]
      · have hat := (List.getElem?_eq_some_iff.1 htx).1
        have hte := (List.getElem?_eq_some_iff.1 htx).2
        have HFO : Hid (followS rs t S l = putS S (l.past (l.at' + 1))) := Lib.hid (by unfold followS; rw [HRA.out, HBE.out]; simp only [hhf, htx, if_true, Bool.false_eq_true, if_false])
        have HSP := Lib.hid (HSND.out.tok HBE.out htx)
        obtain ⟨b3, off3, rfl, hb3h, hlc3, hcm3, m0⟩ := HTX.out.at hat
        unfold maxLen at hcm3
        have hb3w : b3 < w.heap.size := by simp only at *; omega
        have d1 : (t[l.at'].toList == rs[l.rule].body[l.done].toList) = true := by rw [list_eqH, decide_eq_true hte]
        clear hhd hhf hte htx hsym
        go_enter Try.func162, Try.ntmps162
        go_wp2_with fail
        refine (implIsHead_any _ _).mono ?_
        rintro _ w5 ⟨rfl, b5⟩
        rw [HHH.out]
        have r05 := HR0.out.below b5 HR0.out.lt
        have r15 := HR1.out.below b5 HR1.out.lt
        obtain ⟨a0, a1, a2, a3, a4, a5⟩ := r05.six
        obtain ⟨x0, x1, x2, x3⟩ := r15.four
        have m0' := (b5.cell (p := ⟨b3, off3 + l.at', none⟩) (by show b3 < _; rw [HSZ.out]; omega)).trans m0
        have z5 := b5.size
        rw [HSZ.out] at z5
        have HS5 := Lib.hid (HS3.out.below b5)
        have HB5 := Lib.hid b5
        have HR05 := Lib.hid r05
        have HR15 := Lib.hid r15
        clear b5 m0 r05 r15 n0
        go_wp2
        have wr1 : IntKind.i64.wrap ((l.at' : Int) + 1) = (l.at' : Int) + 1 := IntWalk.i64_in _ (by omega)
        go_region_held3 (fun w' => w'.cell? ⟨w.heap.size, 0, none⟩ = some (.slice (some ⟨b, off, none⟩) rs.length c) ∧ w'.cell? ⟨w.heap.size, 1, none⟩ = some (.slice (some ⟨b3, off3, none⟩) t.length d) ∧ w'.cell? ⟨w.heap.size, 2, none⟩ = some (.map (some bk)) ∧ w'.cell? ⟨w.heap.size, 3, none⟩ = some (.map (some bf)) ∧ w'.cell? ⟨w.heap.size, 4, none⟩ = some (.map (some bw)) ∧ w'.cell? ⟨w.heap.size, 5, none⟩ = some (.chan (some bq)) ∧
            w'.cell? ⟨w.heap.size + 1, 0, none⟩ = some (.int .i64 (l.rule : Int)) ∧ w'.cell? ⟨w.heap.size + 1, 1, none⟩ = some (.int .i64 (l.done : Int)) ∧ w'.cell? ⟨w.heap.size + 1, 2, none⟩ = some (.int .i64 (l.fr : Int)) ∧ w'.cell? ⟨w.heap.size + 1, 3, none⟩ = some (.int .i64 (l.at' : Int)))
          (first | go_keep | exact K6.out | exact K7.out)
          (first
            | (go_at_call 182; refine (past_int l (l.at' + 1) _ (by omega) _ HOK.out).mono ?_; rintro _ v6 ⟨rfl, b6⟩
               have B6 := (Below.refl _ _).drew.trans b6
               have S6 := Lib.hid (HS5.out.below B6)
               have HB6 := Lib.hid B6
               obtain ⟨q0, q1, q2, q3, q4, q5⟩ := (HR05.out.below B6 HR05.out.lt).six
               obtain ⟨m0, m1, m2, m3⟩ := (HR15.out.below B6 HR15.out.lt).four
               have K6 := Lib.hid (And.intro q0 (And.intro q1 (And.intro q2 (And.intro q3 (And.intro q4 (And.intro q5 (And.intro m0 (And.intro m1 (And.intro m2 m3)))))))))
               clear B6 b6 q0 q1 q2 q3 q4 q5 m0 m1 m2 m3)
            | (go_at_call 161; refine (put_any ⟨some ⟨b, off, none⟩, c, some ⟨b3, off3, none⟩, d, lim, base, bk, bf, bw, bq, cap⟩ rs t M _ (l.past (l.at' + 1)) _ S6.out HSP.out).mono ?_; rintro _ v7 ⟨rfl, s7, t7⟩
               have S7 := Lib.hid s7
               have T7 := Lib.hid t7
               obtain ⟨q0, q1, q2, q3, q4, q5⟩ := (t7.row (HR05.out.below HB6.out HR05.out.lt) (HNT.out _ (by omega))).six
               obtain ⟨m0, m1, m2, m3⟩ := (t7.row (HR15.out.below HB6.out HR15.out.lt) (HNT.out _ (by omega))).four
               have K7 := Lib.hid (And.intro q0 (And.intro q1 (And.intro q2 (And.intro q3 (And.intro q4 (And.intro q5 (And.intro m0 (And.intro m1 (And.intro m2 m3)))))))))
               clear s7 t7 q0 q1 q2 q3 q4 q5 m0 m1 m2 m3))
        go_wp2
        go_end0
        exact ⟨rfl, M, by rw [HFO.out]; exact S7.out, ((((Turn.of_below HB.out).trans (Turn.of_below HB5.out) fun _ h => .inl h).trans (Turn.of_below HB6.out) fun _ h => .inl h)).trans T7.out fun _ h => .inl h, fun _ h => .inl h⟩
      · have HFO : Hid (followS rs t S l = S) := Lib.hid (by unfold followS; rw [HRA.out, HBE.out]; simp only [hhf, htx, Bool.false_eq_true, if_false])
        by_cases hat : l.at' < t.length
        · obtain ⟨b3, off3, rfl, hb3h, hlc3, hcm3, m0⟩ := HTX.out.at hat
          unfold maxLen at hcm3
          have hb3w : b3 < w.heap.size := by simp only at *; omega
          have hte : t[l.at'] ≠ rs[l.rule].body[l.done] := fun e => htx (by rw [List.getElem?_eq_getElem hat, e])
          have d1 : (t[l.at'].toList == rs[l.rule].body[l.done].toList) = false := by rw [list_eqH, decide_eq_false hte]
          clear hhd hhf hte htx hsym
          go_enter Try.func162, Try.ntmps162
          go_wp2_with fail
          refine (implIsHead_any _ _).mono ?_
          rintro _ w5 ⟨rfl, b5⟩
          rw [HHH.out]
          obtain ⟨a0, a1, a2, a3, a4, a5⟩ := (HR0.out.below b5 HR0.out.lt).six
          obtain ⟨x0, x1, x2, x3⟩ := (HR1.out.below b5 HR1.out.lt).four
          have m0' := (b5.cell (p := ⟨b3, off3 + l.at', none⟩) (by show b3 < _; rw [HSZ.out]; omega)).trans m0
          have z5 := b5.size
          rw [HSZ.out] at z5
          have HS5 := Lib.hid (HS3.out.below b5)
          have HB5 := Lib.hid b5
          clear b5 m0 n0
          go_wp2
          go_end0
          exact ⟨rfl, M, by rw [HFO.out]; exact HS5.out, (Turn.of_below HB.out).trans (Turn.of_below HB5.out) fun _ h => .inl h, fun _ h => .inl h⟩
        · have hae : l.at' = t.length := by omega
          have d1 : decide ((l.at' : Int) < (t.length : Int)) = false := by simp; omega
          have d2' : decide (l.at' < t.length) = false := by simp; omega
          clear hhd hhf htx hsym hae
          go_enter Try.func162, Try.ntmps162
          go_wp2_with fail
          refine (implIsHead_any _ _).mono ?_
          rintro _ w5 ⟨rfl, b5⟩
          rw [HHH.out]
          obtain ⟨a0, a1, a2, a3, a4, a5⟩ := (HR0.out.below b5 HR0.out.lt).six
          obtain ⟨x0, x1, x2, x3⟩ := (HR1.out.below b5 HR1.out.lt).four
          have z5 := b5.size
          rw [HSZ.out] at z5
          have HS5 := Lib.hid (HS3.out.below b5)
          have HB5 := Lib.hid b5
          clear b5 n0
          go_wp2
          go_end0
          exact ⟨rfl, M, by rw [HFO.out]; exact HS5.out, (Turn.of_below HB.out).trans (Turn.of_below HB5.out) fun _ h => .inl h, fun _ h => .inl h⟩
end Go.Proofs.Ytcgmnpfeiiomgaa

/- The walk of run: all that is in the queue is followed. -/
namespace Go.Proofs.Ytcgmnpfeiiomgaa
open Go.RowKit Go.Maps Go.Conc

/-- looks are taken out of the queue and followed, one after the other -/
inductive Runs (rs : List RuleD) (t : List ByteArray) (S : St) : St → Prop
  | refl : Runs rs t S S
  | step {S' : St} (h : Runs rs t S S') (hlt : S'.rc < S'.known.length) : Runs rs t S (followS rs t (takeS S') S'.known[S'.rc])
theorem followS_rc (rs : List RuleD) (t : List ByteArray) (S : St) (l : Look) : (followS rs t S l).rc = S.rc := by
  unfold followS
  split
  · unfold findS
    split
    · rfl
    · exact (putAll_rest _ _).1
  · split
    · exact (putAll_rest _ _).1.trans (putAll_rest _ _).1
    · split
      · exact (putS_rest _ _).1
      · rfl
theorem Sea.taken {w : World} {E : Env} {rs : List RuleD} {t : List ByteArray} {M : List WtM} {S : St} (s : Sea w E rs t M S) (hlt : S.rc < S.known.length) {ns nr : Nat} :
    Sea (w.setChan E.bq E.cap (((S.known.drop S.rc).map lookV).toArray.extract 1 ((S.known.drop S.rc).map lookV).toArray.size) false ns (nr + 1) false) E rs t M (takeS S) := by
  have hb : ∀ k, k ≠ E.bq → (w.setChan E.bq E.cap (((S.known.drop S.rc).map lookV).toArray.extract 1 ((S.known.drop S.rc).map lookV).toArray.size) false ns (nr + 1) false).heap[k]? = w.heap[k]? := fun k h2 => by
    simp only [World.setChan]; rw [Array.getElem?_setIfInBounds_ne (Ne.symm h2)]
  have hne := s.chan_ne
  have hkeep : Keeps 0 E.hi w (w.setChan E.bq E.cap (((S.known.drop S.rc).map lookV).toArray.extract 1 ((S.known.drop S.rc).map lookV).toArray.size) false ns (nr + 1) false) := fun k _ hk => by
    have := s.low
    have := s.hib
    exact hb k (by omega)
  refine ⟨s.fits, s.inv.take hlt, s.rules.keep hkeep, s.text.keep hkeep, s.hib, s.known.keep (hb _ (Ne.symm hne.1)), s.found.keep (hb _ (Ne.symm hne.2.1)), s.wait.keep (hb _ (Ne.symm hne.2.2)), ⟨ns, nr + 1, ?_⟩, s.room,
    fun e he => ⟨WtM.row_keep (s.rows e he).1 (hb _ (s.blk_ne he).2.2.2), (s.rows e he).2⟩, s.all, s.keys, s.blks, s.low, s.apart⟩
  rw [heap_setChan _ _ _ _ _ _ _ _ s.chan_lt]
  have e := List.drop_eq_getElem_cons hlt
  have e2 : (((S.known.drop S.rc).map lookV).toArray.extract 1 ((S.known.drop S.rc).map lookV).toArray.size) = (((takeS S).known.drop (takeS S).rc).map lookV).toArray := by
    show _ = ((S.known.drop (S.rc + 1)).map lookV).toArray
    rw [e]
    generalize S.known.drop (S.rc + 1) = ks
    generalize S.known[S.rc] = k
    simp
    exact List.take_of_length_le (by simp)
  rw [e2]

theorem first_look {S : St} (hlt : S.rc < S.known.length) : ((S.known.drop S.rc).map lookV).toArray.getD 0 undef = lookV S.known[S.rc] := by
  rw [List.drop_eq_getElem_cons hlt]
  generalize S.known.drop (S.rc + 1) = ks
  simp
/-- what holds at each look into the queue -/
def RunI (E : Env) (rs : List RuleD) (t : List ByteArray) (M : List WtM) (S : St) (w : World) (n : Nat) (a : Act) (wr : World) : Prop :=
  ∃ (S' : St) (M' : List WtM) (u2 u3 u4 u5 u6 u7 u8 u9 u10 u11 : Value), n + S'.rc = E.cap + 1 ∧ Runs rs t S S' ∧ Sea wr E rs t M' S' ∧ Turn (E.T M) w wr ∧ (∀ k, E.T M' k → E.T M k ∨ w.heap.size < k) ∧ Row wr w.heap.size 136 #[.slice E.A rs.length E.c, .slice E.B t.length E.d, .map (some E.bk), .map (some E.bf), .map (some E.bw), .chan (some E.bq)] ∧
      a = ⟨#[.agg #[.slice E.A rs.length E.c, .slice E.B t.length E.d, .map (some E.bk), .map (some E.bf), .map (some E.bw), .chan (some E.bq)], .pointer (some ⟨w.heap.size, 0, none⟩), u2, u3, u4, u5, u6, u7, u8, u9, u10, u11], []⟩
def RunEnd (E : Env) (rs : List RuleD) (t : List ByteArray) (M : List WtM) (S : St) (w w' : World) : Prop := ∃ S', Runs rs t S S' ∧ S'.rc = S'.known.length ∧ SeaTo w w' E rs t M S'

set_option maxRecDepth 100000 in
set_option maxHeartbeats 4000000 in
theorem run_any (E : Env) (rs : List RuleD) (t : List ByteArray) (M : List WtM) (S : St) (w : World) (s : Sea w E rs t M S) :
    Calls Try.prog 115 #[E.v rs.length t.length] w fun e w' => e = .returned (.tuple #[]) ∧ RunEnd E rs t M S w w' := by
  have hnT : ∀ k, w.heap.size ≤ k → ¬ E.T M k := fun k hk h => by have := s.T_lt h; omega
  have HNT := Lib.hid hnT
  clear hnT
  have hb := al1 w (.cells #[.slice E.A rs.length E.c, .slice E.B t.length E.d, .map (some E.bk), .map (some E.bf), .map (some E.bw), .chan (some E.bq)] 136)
  have R0 := Row.made w 136 #[.slice E.A rs.length E.c, .slice E.B t.length E.d, .map (some E.bk), .map (some E.bf), .map (some E.bw), .chan (some E.bq)]
  have s1 := s.below hb
  have HB := Lib.hid hb
  have HR0 := Lib.hid R0
  have HS1 := Lib.hid s1
  clear hb R0 s1 s
  unfold Env.v
  refine NWp.calls Try.func115 rfl ?_
  simp only [Try.ntmps115, List.size_toArray, List.length_cons, List.length_nil, Nat.reduceAdd, Nat.reduceSub, Array.replicate_succ, Array.replicate_zero, List.push_toArray, List.append_toArray, List.nil_append, List.cons_append]
  refine NWp.seq (NWp.of_wp ?_)
  go_wp2
  refine NWp.block (NWp.loop (RunI E rs t M S w) (E.cap + 1 - S.rc) ?_ ?_)
  · have h1 := HS1.out.inv.rc
    have h2 := HS1.out.known_few
    exact ⟨S, M, _, _, _, _, _, _, _, _, _, _, by omega, .refl, HS1.out, Turn.of_below HB.out, fun k h => .inl h, HR0.out, rfl⟩
  · rintro n a wr ⟨S', M', u2, u3, u4, u5, u6, u7, u8, u9, u10, u11, hn, hruns, sr, tr, hT, rr, rfl⟩
    have HSR := Lib.hid sr
    have HTR := Lib.hid tr
    have HT := Lib.hid hT
    have HRR := Lib.hid rr
    have HRU := Lib.hid hruns
    obtain ⟨a0, a1, a2, a3, a4, a5⟩ := rr.six
    have l0 := rr.lt
    obtain ⟨ns, nr, hq⟩ := sr.queue
    have HQ := Lib.hid hq
    have hrc := sr.inv.rc
    have hkf := sr.known_few
    clear sr tr hT rr hruns hq
    refine NWp.block (NWp.seq (NWp.of_wp ?_))
    go_wp2
    refine NWp.seq (NWp.region ?_)
    simp only [List.size_toArray, List.length_cons, List.length_nil, Nat.reduceAdd, List.range, List.range.loop]
    by_cases hlt : S'.rc < S'.known.length
    · refine Left.take (c := E.bq) (z := .agg #[.int .i64 0, .int .i64 0, .int .i64 0, .int .i64 0]) rfl rfl (by simp [go_sem, execOp, rcase, Act.eval]) HQ.out (by simp; omega) ?_
      rw [first_look hlt]
      have hsc := HSR.out.taken hlt (ns := ns) (nr := nr)
      have htc : Turn (E.T M') wr (wr.setChan E.bq E.cap (((S'.known.drop S'.rc).map lookV).toArray.extract 1 ((S'.known.drop S'.rc).map lookV).toArray.size) false ns (nr + 1) false) := Turn.setChan _ _ _ _ _ _ _ _ (.inr (.inr (.inr (.inl rfl))))
      generalize hwc : wr.setChan E.bq E.cap (((S'.known.drop S'.rc).map lookV).toArray.extract 1 ((S'.known.drop S'.rc).map lookV).toArray.size) false ns (nr + 1) false = wc at *
      clear hwc
      have hnT' : ¬ E.T M' w.heap.size := fun h => by
        rcases HT.out _ h with h | h
        · exact HNT.out _ (Nat.le_refl _) h
        · omega
      have rc := htc.row HRR.out hnT'
      have hmem : S'.known[S'.rc] ∈ (takeS S').known := List.getElem_mem hlt
      have HMEM := Lib.hid hmem
      have HRUN := Lib.hid (Runs.step HRU.out hlt)
      have hok := (hsc.inv.sound _ hmem).ok hsc.fits
      have HSC := Lib.hid hsc
      have HTC := Lib.hid htc
      have HRC := Lib.hid rc
      have HNT' := Lib.hid hnT'
      have hrcn := followS_rc rs t (takeS S') S'.known[S'.rc]
      have HRCN := Lib.hid hrcn
      clear hrcn hsc htc hmem hnT'
      generalize S'.known[S'.rc] = l at *
      obtain ⟨hr1, hr2, hr3, hr4⟩ := hok
      have hbA := al1 wc (.cells #[.int .i64 (l.rule : Int), .int .i64 (l.done : Int), .int .i64 (l.fr : Int), .int .i64 (l.at' : Int)] 142)
      have rA := rc.below hbA rc.lt
      obtain ⟨c0, c1, c2, c3, c4, c5⟩ := rA.six
      have lA := rA.lt
      have lc := rc.lt
      have HBA := Lib.hid hbA
      have HRA := Lib.hid rA
      have HSA := Lib.hid (HSC.out.below hbA)
      clear rc rA hbA a0 a1 a2 a3 a4 a5
      unfold lookV
      refine Left.val_k rfl rfl (fun K hK => ?_); go_simp; refine hK _ _ ?_; clear hK K
      refine Left.val_k rfl rfl (fun K hK => ?_); go_simp; refine hK _ _ ?_; clear hK K
      refine Left.nil ?_
      simp only [Exit.then]
      walk_nrm
      refine NWp.of_wp ?_
      go_wp2_with fail
      refine (follow_any E rs t M' (takeS S') l _ HSA.out HMEM.out (Nat.lt_succ_of_le HSR.out.inv.nw) (Nat.lt_succ_of_le HSR.out.inv.fl)).mono ?_
      rintro _ w8 ⟨rfl, M8, s8, t8, hT8⟩
      have r8 := t8.row HRA.out HNT'.out
      have H8 := Lib.hid (And.intro s8 (And.intro t8 (And.intro hT8 r8)))
      clear s8 t8 hT8 r8
      go_wp2
      have hsz := HBA.out.size
      have hcs := HTC.out.size
      have hTT : ∀ k, E.T M' k → E.T M k ∨ w.heap.size ≤ k := fun k hk => (HT.out k hk).imp id fun h => by omega
      refine ⟨n - 1, by omega, _, M8, _, _, _, _, _, _, _, _, _, _, ?_, HRUN.out, H8.out.1, ((HTR.out.trans HTC.out hTT).trans (Turn.of_below HBA.out) (T' := E.T M') hTT).trans H8.out.2.1 hTT, fun k hk => ?_, H8.out.2.2.2, rfl⟩
      · rw [HRCN.out]
        show n - 1 + (S'.rc + 1) = _
        omega
      · rcases H8.out.2.2.1 k hk with h | h
        · exact HT.out k h
        · exact .inr (by omega)
    · have hre : S'.rc = S'.known.length := by omega
      have HRE := Lib.hid hre
      have hq0 : wr.heap[E.bq]? = some (.chan E.cap #[] false ns nr false) := by
        have := HQ.out
        rw [List.drop_eq_nil_of_le (by omega)] at this
        exact this
      refine Left.none (c := E.bq) (z := .agg #[.int .i64 0, .int .i64 0, .int .i64 0, .int .i64 0]) rfl rfl (by simp [go_sem, execOp, rcase, Act.eval]) hq0 ?_
      clear hq0 hre
      refine Left.val_k rfl rfl (fun K hK => ?_); go_simp; refine hK _ _ ?_; clear hK K
      refine Left.val_k rfl rfl (fun K hK => ?_); go_simp; refine hK _ _ ?_; clear hK K
      refine Left.nil ?_
      simp only [Exit.then]
      walk_nrm
      refine NWp.of_wp ?_
      go_wp2
      (try simp only [Exit.inBlock, Exit.then])
      refine bodyPost_ret (results_none rfl _ _ _) rfl ?_
      exact ⟨rfl, S', HRU.out, HRE.out, M', HSR.out, HTR.out, fun k hk => (HT.out k hk).imp id fun h => by omega⟩
end Go.Proofs.Ytcgmnpfeiiomgaa
