import Derived.Test.YtokdhgocgicdnaaGreatDoorJWfollow
import Derived.Test.YtokdhgocgicdnaaGreatDoorJDtp
/- The walk of run: all that is in the queue is followed. -/
namespace Go.Proofs.YtokdhgocgicdnaaGreatDoor
open Go.RowKit Go.Maps Go.Conc

/-- looks are taken out of the queue and followed, one after the other -/
inductive Runs (rs : List RuleD) (t : List ByteArray) (S : St) : St → Prop
  | refl : Runs rs t S S
  | step {S' : St} (h : Runs rs t S S') (hlt : S'.rc < S'.known.length) : Runs rs t S (followS rs t (takeS S') S'.known[S'.rc])
theorem followS_rc (rs : List RuleD) (t : List ByteArray) (S : St) (l : Look) : (followS rs t S l).rc = S.rc := by
  unfold followS
  split
  · unfold findS
    split
    · rfl
    · exact (putAll_rest _ _).1
  · split
    · exact (putAll_rest _ _).1.trans (putAll_rest _ _).1
    · split
      · exact (putS_rest _ _).1
      · rfl
theorem Sea.taken {w : World} {E : Env} {rs : List RuleD} {t : List ByteArray} {M : List WtM} {S : St} (s : Sea w E rs t M S) (hlt : S.rc < S.known.length) {ns nr : Nat} :
    Sea (w.setChan E.bq E.cap (((S.known.drop S.rc).map lookV).toArray.extract 1 ((S.known.drop S.rc).map lookV).toArray.size) false ns (nr + 1) false) E rs t M (takeS S) := by
  have hb : ∀ k, k ≠ E.bq → (w.setChan E.bq E.cap (((S.known.drop S.rc).map lookV).toArray.extract 1 ((S.known.drop S.rc).map lookV).toArray.size) false ns (nr + 1) false).heap[k]? = w.heap[k]? := fun k h2 => by
    simp only [World.setChan]; rw [Array.getElem?_setIfInBounds_ne (Ne.symm h2)]
  have hne := s.chan_ne
  have hkeep : Keeps 0 E.hi w (w.setChan E.bq E.cap (((S.known.drop S.rc).map lookV).toArray.extract 1 ((S.known.drop S.rc).map lookV).toArray.size) false ns (nr + 1) false) := fun k _ hk => by
    have := s.low
    have := s.hib
    exact hb k (by omega)
  refine ⟨s.fits, s.inv.take hlt, s.rules.keep hkeep, s.text.keep hkeep, s.hib, s.known.keep (hb _ (Ne.symm hne.1)), s.found.keep (hb _ (Ne.symm hne.2.1)), s.wait.keep (hb _ (Ne.symm hne.2.2)), ⟨ns, nr + 1, ?_⟩, s.room,
    fun e he => ⟨WtM.row_keep (s.rows e he).1 (hb _ (s.blk_ne he).2.2.2), (s.rows e he).2⟩, s.all, s.keys, s.blks, s.low, s.apart⟩
  rw [heap_setChan _ _ _ _ _ _ _ _ s.chan_lt]
  have e := List.drop_eq_getElem_cons hlt
  have e2 : (((S.known.drop S.rc).map lookV).toArray.extract 1 ((S.known.drop S.rc).map lookV).toArray.size) = (((takeS S).known.drop (takeS S).rc).map lookV).toArray := by
    show _ = ((S.known.drop (S.rc + 1)).map lookV).toArray
    rw [e]
    generalize S.known.drop (S.rc + 1) = ks
    generalize S.known[S.rc] = k
    simp
    exact List.take_of_length_le (by simp)
  rw [e2]

theorem first_look {S : St} (hlt : S.rc < S.known.length) : ((S.known.drop S.rc).map lookV).toArray.getD 0 undef = lookV S.known[S.rc] := by
  rw [List.drop_eq_getElem_cons hlt]
  generalize S.known.drop (S.rc + 1) = ks
  simp
/-- what holds at each look into the queue -/
def RunI (E : Env) (rs : List RuleD) (t : List ByteArray) (M : List WtM) (S : St) (w : World) (n : Nat) (a : Act) (wr : World) : Prop :=
  ∃ (S' : St) (M' : List WtM) (u2 u3 u4 u5 u6 u7 u8 u9 u10 u11 : Value), n + S'.rc = E.cap + 1 ∧ Runs rs t S S' ∧ Sea wr E rs t M' S' ∧ Turn (E.T M) w wr ∧ (∀ k, E.T M' k → E.T M k ∨ w.heap.size < k) ∧ Row wr w.heap.size 78 #[.slice E.A rs.length E.c, .slice E.B t.length E.d, .map (some E.bk), .map (some E.bf), .map (some E.bw), .chan (some E.bq)] ∧
      a = ⟨#[.agg #[.slice E.A rs.length E.c, .slice E.B t.length E.d, .map (some E.bk), .map (some E.bf), .map (some E.bw), .chan (some E.bq)], .pointer (some ⟨w.heap.size, 0, none⟩), u2, u3, u4, u5, u6, u7, u8, u9, u10, u11], []⟩
def RunEnd (E : Env) (rs : List RuleD) (t : List ByteArray) (M : List WtM) (S : St) (w w' : World) : Prop := ∃ S', Runs rs t S S' ∧ S'.rc = S'.known.length ∧ SeaTo w w' E rs t M S'

set_option maxRecDepth 100000 in
set_option maxHeartbeats 4000000 in
theorem run_any (E : Env) (rs : List RuleD) (t : List ByteArray) (M : List WtM) (S : St) (w : World) (s : Sea w E rs t M S) :
    Calls Tryz.prog 66 #[E.v rs.length t.length] w fun e w' => e = .returned (.tuple #[]) ∧ RunEnd E rs t M S w w' := by
  have hnT : ∀ k, w.heap.size ≤ k → ¬ E.T M k := fun k hk h => by have := s.T_lt h; omega
  have HNT := Lib.hid hnT
  clear hnT
  have hb := al1 w (.cells #[.slice E.A rs.length E.c, .slice E.B t.length E.d, .map (some E.bk), .map (some E.bf), .map (some E.bw), .chan (some E.bq)] 78)
  have R0 := Row.made w 78 #[.slice E.A rs.length E.c, .slice E.B t.length E.d, .map (some E.bk), .map (some E.bf), .map (some E.bw), .chan (some E.bq)]
  have s1 := s.below hb
  have HB := Lib.hid hb
  have HR0 := Lib.hid R0
  have HS1 := Lib.hid s1
  clear hb R0 s1 s
  unfold Env.v
  refine NWp.calls Tryz.func66 rfl ?_
  simp only [Tryz.ntmps66, List.size_toArray, List.length_cons, List.length_nil, Nat.reduceAdd, Nat.reduceSub, Array.replicate_succ, Array.replicate_zero, List.push_toArray, List.append_toArray, List.nil_append, List.cons_append]
  refine NWp.seq (NWp.of_wp ?_)
  go_wp2
  refine NWp.block (NWp.loop (RunI E rs t M S w) (E.cap + 1 - S.rc) ?_ ?_)
  · have h1 := HS1.out.inv.rc
    have h2 := HS1.out.known_few
    exact ⟨S, M, _, _, _, _, _, _, _, _, _, _, by omega, .refl, HS1.out, Turn.of_below HB.out, fun k h => .inl h, HR0.out, rfl⟩
  · rintro n a wr ⟨S', M', u2, u3, u4, u5, u6, u7, u8, u9, u10, u11, hn, hruns, sr, tr, hT, rr, rfl⟩
    have HSR := Lib.hid sr
    have HTR := Lib.hid tr
    have HT := Lib.hid hT
    have HRR := Lib.hid rr
    have HRU := Lib.hid hruns
    obtain ⟨a0, a1, a2, a3, a4, a5⟩ := rr.six
    have l0 := rr.lt
    obtain ⟨ns, nr, hq⟩ := sr.queue
    have HQ := Lib.hid hq
    have hrc := sr.inv.rc
    have hkf := sr.known_few
    clear sr tr hT rr hruns hq
    refine NWp.block (NWp.seq (NWp.of_wp ?_))
    go_wp2
    refine NWp.seq (NWp.region ?_)
    simp only [List.size_toArray, List.length_cons, List.length_nil, Nat.reduceAdd, List.range, List.range.loop]
    by_cases hlt : S'.rc < S'.known.length
    · refine Left.take (c := E.bq) (z := .agg #[.int .i64 0, .int .i64 0, .int .i64 0, .int .i64 0]) rfl rfl (by simp [go_sem, execOp, rcase, Act.eval]) HQ.out (by simp; omega) ?_
      rw [first_look hlt]
      have hsc := HSR.out.taken hlt (ns := ns) (nr := nr)
      have htc : Turn (E.T M') wr (wr.setChan E.bq E.cap (((S'.known.drop S'.rc).map lookV).toArray.extract 1 ((S'.known.drop S'.rc).map lookV).toArray.size) false ns (nr + 1) false) := Turn.setChan _ _ _ _ _ _ _ _ (.inr (.inr (.inr (.inl rfl))))
      generalize hwc : wr.setChan E.bq E.cap (((S'.known.drop S'.rc).map lookV).toArray.extract 1 ((S'.known.drop S'.rc).map lookV).toArray.size) false ns (nr + 1) false = wc at *
      clear hwc
      have hnT' : ¬ E.T M' w.heap.size := fun h => by
        rcases HT.out _ h with h | h
        · exact HNT.out _ (Nat.le_refl _) h
        · omega
      have rc := htc.row HRR.out hnT'
      have hmem : S'.known[S'.rc] ∈ (takeS S').known := List.getElem_mem hlt
      have HMEM := Lib.hid hmem
      have HRUN := Lib.hid (Runs.step HRU.out hlt)
      have hok := (hsc.inv.sound _ hmem).ok hsc.fits
      have HSC := Lib.hid hsc
      have HTC := Lib.hid htc
      have HRC := Lib.hid rc
      have HNT' := Lib.hid hnT'
      have hrcn := followS_rc rs t (takeS S') S'.known[S'.rc]
      have HRCN := Lib.hid hrcn
      clear hrcn hsc htc hmem hnT'
      generalize S'.known[S'.rc] = l at *
      obtain ⟨hr1, hr2, hr3, hr4⟩ := hok
      have hbA := al1 wc (.cells #[.int .i64 (l.rule : Int), .int .i64 (l.done : Int), .int .i64 (l.fr : Int), .int .i64 (l.at' : Int)] 151)
      have rA := rc.below hbA rc.lt
      obtain ⟨c0, c1, c2, c3, c4, c5⟩ := rA.six
      have lA := rA.lt
      have lc := rc.lt
      have HBA := Lib.hid hbA
      have HRA := Lib.hid rA
      have HSA := Lib.hid (HSC.out.below hbA)
      clear rc rA hbA a0 a1 a2 a3 a4 a5
      unfold lookV
      refine Left.val_k rfl rfl (fun K hK => ?_); go_simp; refine hK _ _ ?_; clear hK K
      refine Left.val_k rfl rfl (fun K hK => ?_); go_simp; refine hK _ _ ?_; clear hK K
      refine Left.nil ?_
      simp only [Exit.then]
      walk_nrm
      refine NWp.of_wp ?_
      go_wp2_with fail
      refine (follow_any E rs t M' (takeS S') l _ HSA.out HMEM.out (Nat.lt_succ_of_le HSR.out.inv.nw) (Nat.lt_succ_of_le HSR.out.inv.fl)).mono ?_
      rintro _ w8 ⟨rfl, M8, s8, t8, hT8⟩
      have r8 := t8.row HRA.out HNT'.out
      have H8 := Lib.hid (And.intro s8 (And.intro t8 (And.intro hT8 r8)))
      clear s8 t8 hT8 r8
      go_wp2
      have hsz := HBA.out.size
      have hcs := HTC.out.size
      have hTT : ∀ k, E.T M' k → E.T M k ∨ w.heap.size ≤ k := fun k hk => (HT.out k hk).imp id fun h => by omega
      refine ⟨n - 1, by omega, _, M8, _, _, _, _, _, _, _, _, _, _, ?_, HRUN.out, H8.out.1, ((HTR.out.trans HTC.out hTT).trans (Turn.of_below HBA.out) (T' := E.T M') hTT).trans H8.out.2.1 hTT, fun k hk => ?_, H8.out.2.2.2, rfl⟩
      · rw [HRCN.out]
        show n - 1 + (S'.rc + 1) = _
        omega
      · rcases H8.out.2.2.1 k hk with h | h
        · exact HT.out k h
        · exact .inr (by omega)
    · have hre : S'.rc = S'.known.length := by omega
      have HRE := Lib.hid hre
      have hq0 : wr.heap[E.bq]? = some (.chan E.cap #[] false ns nr false) := by
        have := HQ.out
        rw [List.drop_eq_nil_of_le (by omega)] at this
        exact this
      refine Left.none (c := E.bq) (z := .agg #[.int .i64 0, .int .i64 0, .int .i64 0, .int .i64 0]) rfl rfl (by simp [go_sem, execOp, rcase, Act.eval]) hq0 ?_
      clear hq0 hre
      refine Left.val_k rfl rfl (fun K hK => ?_); go_simp; refine hK _ _ ?_; clear hK K
      refine Left.val_k rfl rfl (fun K hK => ?_); go_simp; refine hK _ _ ?_; clear hK K
      refine Left.nil ?_
      simp only [Exit.then]
      walk_nrm
      refine NWp.of_wp ?_
      go_wp2
      (try simp only [Exit.inBlock, Exit.then])
      refine bodyPost_ret (results_none rfl _ _ _) rfl ?_
      exact ⟨rfl, S', HRU.out, HRE.out, M', HSR.out, HTR.out, fun k hk => (HT.out k hk).imp id fun h => by omega⟩
end Go.Proofs.YtokdhgocgicdnaaGreatDoor

/- The walks of textRight and mostLooks. -/
namespace Go.Proofs.YtokdhgocgicdnaaGreatDoor
open Go.RowKit Go.Maps Go.Conc

def textB (t : List ByteArray) : Bool := decide (t.length ≤ 12) && t.all tokB
theorem textB_iff (t : List ByteArray) : textB t = true ↔ t.length ≤ 12 ∧ ∀ s ∈ t, tokB s = true := by simp [textB]
theorem textB_no {t : List ByteArray} {k : Nat} (h : k < t.length) (hb : tokB t[k] = false) : textB t = false := by
  rw [Bool.eq_false_iff]
  intro e
  have := ((textB_iff t).1 e).2 _ (List.getElem_mem h)
  rw [hb] at this; cases this

set_option maxRecDepth 100000 in
set_option maxHeartbeats 1000000 in
theorem textRight_any (t : List ByteArray) (v : Value) (lo hi : Nat) (w : World) (h : Strs w lo hi v t) (hh : hi ≤ w.heap.size) :
    Calls Tryz.prog 63 #[v] w fun e w' => e = .returned (.bool (textB t)) ∧ Below w.heap.size w w' := by
  obtain ⟨A, c, rfl, hlc, hc, hsz, hcell⟩ := h
  unfold maxLen at hc
  have HC := Lib.hid hcell
  clear hcell hsz
  by_cases hlen : t.length ≤ 12
  · go_enter Tryz.func63, Tryz.ntmps63
    go_wp2
    go_loopw [4, 10] (fun _ x wr => ∃ j : Nat, j ≤ t.length ∧ x = .int .i64 (j : Int) ∧ (∀ i (h : i < t.length), i < j → tokB t[i] = true) ∧ Below w.heap.size w wr) (fun _ x _ => t.length - (intOf x).toNat)
    case atStart => exact ⟨0, by omega, rfl, fun i _ h => by omega, Below.refl _ _⟩
    case round =>
      obtain ⟨j, hj, rfl, hall, hbw⟩ := hrel
      have hsw := hbw.size
      have HA := Lib.hid hall
      clear hall
      by_cases hlt : j < t.length
      · obtain ⟨b, off, rfl, _, hbh, hcc⟩ := HC.out (by omega)
        have hck := (hbw.cell (p := ⟨b, off + j, none⟩) (by show b < _; omega)).trans (hcc j hlt)
        clear hcc
        cases ht : tokB t[j]
        · have HT := Lib.hid ht
          clear ht
          go_wp2_with fail
          refine (implIsToken_any _ _).mono ?_
          rintro _ w1 ⟨rfl, b1⟩
          rw [HT.out]
          have hb1 := hbw.trans (b1.mono hsw)
          clear b1
          go_wp2
          go_ret
          exact ⟨ret_bool (textB_no hlt HT.out).symm, hb1⟩
        · have HT := Lib.hid ht
          clear ht
          go_wp2_with fail
          refine (implIsToken_any _ _).mono ?_
          rintro _ w1 ⟨rfl, b1⟩
          rw [HT.out]
          have hb1 := hbw.trans (b1.mono hsw)
          clear b1
          go_wp2
          go_roundw
          case rel => exact ⟨j + 1, by omega, by go_num, (fun i hi hl => by
            by_cases e : i = j
            · subst e; exact HT.out
            · exact HA.out i hi (by omega)), hb1⟩
          case measure => simp [intOf]; omega
      · go_wp2
        go_ret
        refine ⟨ret_bool ?_, hbw⟩
        rw [eq_comm, textB_iff]
        refine ⟨hlen, fun s hs => ?_⟩
        obtain ⟨i, hi, rfl⟩ := List.getElem_of_mem hs
        exact HA.out i hi (by omega)
  · have HF : Hid (textB t = false) := Lib.hid (by rw [Bool.eq_false_iff]; exact fun e => hlen ((textB_iff t).1 e).1)
    have i1 : 12 < (t.length : Int) := by omega
    go_enter Tryz.func63, Tryz.ntmps63
    go_wp2
    go_ret
    exact ⟨ret_bool HF.out.symm, Below.refl _ _⟩

theorem mostTo_le' {rs : List RuleD} {p : Nat} (hb : ∀ i (h : i < rs.length), rs[i].body.length ≤ 5) (hp : p ≤ 13) (k : Nat) (hk : k ≤ rs.length) : mostTo rs p k ≤ k * 1014 := by
  induction k with
  | zero => simp [mostTo]
  | succ k ih =>
    have := ih (by omega)
    have h1 := hb k (by omega)
    have h3 : p * p ≤ 13 * 13 := Nat.mul_le_mul hp hp
    have h4 : (rs[k].body.length + 1) * (p * p) ≤ 6 * (13 * 13) := Nat.mul_le_mul (by omega) h3
    rw [mostTo_succ (by omega), Nat.mul_assoc]
    omega

set_option maxRecDepth 100000 in
set_option maxHeartbeats 1000000 in
theorem mostLooks_any (rs : List RuleD) (v : Value) (p lo hi : Nat) (w : World) (h : Rules w lo hi v rs) (hh : hi ≤ w.heap.size) (hp : p ≤ 13) (h20 : rs.length ≤ 20) (hb5 : ∀ i (h : i < rs.length), rs[i].body.length ≤ 5) :
    Calls Tryz.prog 77 #[v, .int .i64 (p : Int)] w fun e w' => e = .returned (.int .i64 ((mostTo rs p rs.length : Nat) : Int)) ∧ Below w.heap.size w w' := by
  have HV := Lib.hid h
  obtain ⟨A, c, rfl, hlc, hc, -⟩ := h
  unfold maxLen at hc
  have HB5 := Lib.hid hb5
  clear hb5
  go_enter Tryz.func77, Tryz.ntmps77
  go_wp2
  go_loopw [5, 7, 10] (fun s _ x wr => ∃ j : Nat, j ≤ rs.length ∧ x = .int .i64 (j : Int) ∧ s = .int .i64 ((mostTo rs p j : Nat) : Int) ∧ Below w.heap.size w wr) (fun _ _ x _ => rs.length - (intOf x).toNat)
  case atStart => exact ⟨0, by omega, rfl, rfl, Below.refl _ _⟩
  case round =>
    obtain ⟨j, hj, rfl, rfl, hbw⟩ := hrel
    rename World => wr
    have hsw := hbw.size
    by_cases hlt : j < rs.length
    · obtain ⟨b, off, rfl, hbh, _, _, _, k0, B2, d2, k1, hst⟩ := (HV.out.below hbw hh).at hlt
      have hml := mostTo_le' HB5.out hp j (by omega)
      have h5 := HB5.out j hlt
      have m1 : (0 : Int) ≤ ((rs[j].body.length : Int) + 1) * (p : Int) := Int.mul_nonneg (by omega) (by omega)
      have m1' : ((rs[j].body.length : Int) + 1) * (p : Int) ≤ 6 * 13 := Int.mul_le_mul (by omega) (by omega) (by omega) (by omega)
      have m2 : (0 : Int) ≤ ((rs[j].body.length : Int) + 1) * (p : Int) * (p : Int) := Int.mul_nonneg m1 (by omega)
      have m2' : ((rs[j].body.length : Int) + 1) * (p : Int) * (p : Int) ≤ 6 * 13 * 13 := Int.mul_le_mul m1' (by omega) (by omega) (by omega)
      have HM : Hid ((mostTo rs p j : Int) + ((rs[j].body.length : Int) + 1) * (p : Int) * (p : Int) = ((mostTo rs p (j + 1) : Nat) : Int)) := Lib.hid (by rw [mostTo_succ hlt]; push_cast; rfl)
      have hbA := al1 wr (.cells #[.string rs[j].head, .slice B2 rs[j].body.length d2] 45)
      have HBA := Lib.hid (hbw.trans (hbA.mono hsw))
      have hbwr : b < wr.heap.size := by omega
      clear hst hbA
      go_wp2
      go_roundw
      case rel => exact ⟨j + 1, by omega, by go_num, by rw [HM.out], HBA.out⟩
      case measure => simp [intOf]; omega
    · have hje : j = rs.length := by omega
      subst hje
      go_wp2
      go_ret
      exact ⟨rfl, hbw⟩
end Go.Proofs.YtokdhgocgicdnaaGreatDoor

/- The marks of a grammar: markRuleS, markGram. -/
namespace Go.Proofs.YtokdhgocgicdnaaGreatDoor
open Go.RowKit

/-- a block for a list of texts: its own, or one that is not there, if it is empty -/
theorem OwnS.pick {w : World} {g : Nat} {v : Value} {ss : List ByteArray} (h : OwnS w g v ss) : ∃ g', OwnS w g' v ss ∧ (ss ≠ [] → g' = g) ∧ (ss = [] → w.heap.size ≤ g') := by
  by_cases e : ss = []
  · subst e
    obtain ⟨A, c, h1, h2, h3, h4, h5⟩ := h
    exact ⟨w.heap.size, ⟨A, c, h1, h2, h3, h4, fun hp => by simp at hp⟩, fun hn => absurd rfl hn, fun _ => Nat.le_refl _⟩
  · exact ⟨g, h, fun _ => rfl, fun h0 => absurd h0 e⟩

/-- what stands at one place of a list of rules -/
structure RuleAt (w : World) (lo hi b j gj : Nat) (u : Value) (rs : List RuleD) (cur : Array Value) : Prop where
  row : Row w b 45 cur
  low : lo ≤ b
  high : b < hi
  size : j * 2 + 1 < cur.size
  body : cur[j * 2 + 1]? = some u
  own : ∀ h : j < rs.length, OwnS w gj u rs[j].body
  within : ∀ h : j < rs.length, rs[j].body ≠ [] → lo ≤ gj ∧ gj < hi ∧ gj ≠ b
  put : ∀ (w1 w3 : World) (hd : ByteArray) (bd : List ByteArray) (g' : Nat), (h : j < rs.length) → hd.size ≤ maxLen → Below w.heap.size w w1 → bd.length = rs[j].body.length → OwnS w3 g' u bd →
    (rs[j].body ≠ [] → g' = gj) → (rs[j].body = [] → w1.heap.size ≤ g') → Mid g' (g' + 1) (w1.setCell ⟨b, j * 2, none⟩ (.string hd)) w3 → OwnR w3 lo hi (.slice (some ⟨b, 0, none⟩) rs.length rs.length) (rs.set j ⟨hd, bd⟩)

theorem OwnR.form {w : World} {lo hi : Nat} {v : Value} {rs : List RuleD} (h : OwnR w lo hi v rs) : ∃ A c, v = .slice A rs.length c ∧ rs.length ≤ c ∧ c ≤ maxLen ∧ (0 < rs.length → ∃ b, A = some ⟨b, 0, none⟩ ∧ OwnR w lo hi (.slice (some ⟨b, 0, none⟩) rs.length rs.length) rs) := by
  obtain ⟨A, c, h1, h2, h3, h5⟩ := h
  refine ⟨A, c, h1, h2, h3, fun hp => ?_⟩
  obtain ⟨b, cur, G, ha, hr⟩ := h5 hp
  exact ⟨b, ha, _, _, rfl, Nat.le_refl _, by omega, fun _ => ⟨b, cur, G, rfl, hr⟩⟩
theorem OwnR.back {w : World} {lo hi b c : Nat} {rs : List RuleD} (h : OwnR w lo hi (.slice (some ⟨b, 0, none⟩) rs.length rs.length) rs) (h1 : rs.length ≤ c) (h2 : c ≤ maxLen) : OwnR w lo hi (.slice (some ⟨b, 0, none⟩) rs.length c) rs := by
  obtain ⟨A, c', e, _, _, h5⟩ := h
  injection e with e1 _ e2
  subst e1
  exact ⟨_, c, rfl, h1, h2, h5⟩

theorem OwnR.at {w : World} {lo hi b j : Nat} {rs : List RuleD} (h : OwnR w lo hi (.slice (some ⟨b, 0, none⟩) rs.length rs.length) rs) (hj : j < rs.length) : ∃ gj u cur, RuleAt w lo hi b j gj u rs cur := by
  obtain ⟨A, c, e, h2, h3, h5⟩ := h
  injection e with e1 _ e2
  subst e1
  obtain ⟨b', cur, G, ha, hl, hh, hr, hc, hd⟩ := h5 (by omega)
  injection ha with ha
  injection ha with ha
  subst ha
  obtain ⟨a1, a2, u, a3, a4, a5⟩ := hc j hj
  have hne : ∀ i (hi : i < rs.length), rs[i].body ≠ [] → G i ≠ b := fun i hi hn e => by
    obtain ⟨_, _, ui, _, o4, _⟩ := hc i hi
    obtain ⟨Ai, ci, p1, p2, p3, p4, p5⟩ := o4
    obtain ⟨off, cu, _, q1, _⟩ := p5 (List.length_pos_iff.2 hn)
    exact (hr.apart q1 (by decide)) e.symm
  have hsz : j * 2 + 1 < cur.size := (Array.getElem?_eq_some_iff.1 a3).1
  refine ⟨G j, u, cur, hr, hl, hh, hsz, a3, fun _ => a4, fun _ hn => ⟨(a5 hn).1, (a5 hn).2, hne j hj hn⟩, ?_⟩
  intro w1 w3 nh bd g' _ hnh hb1 hlen ho3 hg1 hg2 hmid
  have hbl := hr.lt
  have r2 := (hr.below hb1 hbl).put (j * 2) (.string nh)
  have hgb : g' ≠ b := by
    by_cases e : rs[j].body = []
    · have := hg2 e; have := hb1.size; omega
    · rw [hg1 e]; exact hne j hj e
  have hs2 : (w1.setCell ⟨b, j * 2, none⟩ (.string nh)).heap.size = w1.heap.size := by simp [World.setCell]
  have r3 : Row w3 b 45 (cur.setIfInBounds (j * 2) (.string nh)) := r2.same (hmid.block b (by rw [hs2]; have := hb1.size; omega) (by omega))
  refine ⟨_, _, by rw [List.length_set], Nat.le_refl _, by rw [List.length_set]; omega, fun _ => ⟨b, _, G, rfl, hl, hh, r3, fun i hi => ?_, fun i k hik hk => ?_⟩⟩
  · rw [List.length_set] at hi
    by_cases e : j = i
    · subst e
      simp only [List.getElem_set_self]
      refine ⟨hnh, by rw [Array.getElem?_setIfInBounds_self_of_lt (by omega)], u, by rw [Array.getElem?_setIfInBounds_ne (by omega)]; exact a3, ?_, ?_⟩
      · by_cases e : rs[j].body = []
        · obtain ⟨A3, c3, p1, p2, p3, p4, p5⟩ := ho3
          have hb0 : bd = [] := List.eq_nil_of_length_eq_zero (by rw [hlen, e]; rfl)
          subst hb0
          exact ⟨A3, c3, p1, p2, p3, p4, fun hp => by simp at hp⟩
        · rw [← hg1 e]; exact ho3
      · intro hn
        exact a5 (fun e => hn (List.eq_nil_of_length_eq_zero (by rw [hlen, e]; rfl)))
    · simp only [List.getElem_set_ne e]
      obtain ⟨b1, b2, ui, b3, b4, b5⟩ := hc i hi
      refine ⟨b1, by rw [Array.getElem?_setIfInBounds_ne (by omega)]; exact b2, ui, by rw [Array.getElem?_setIfInBounds_ne (by omega)]; exact b3, b4.keep fun hn => ?_, b5⟩
      have hgi := b4.lt hn
      have hgi2 : g' ≠ G i := by
        by_cases e2 : rs[j].body = []
        · have := hg2 e2; have := hb1.size; omega
        · rw [hg1 e2]
          rcases Nat.lt_or_gt_of_ne e with h' | h'
          · exact hd j i h' hi e2 hn
          · exact (hd i j h' hj hn e2).symm
      rw [hmid.block (G i) (by rw [hs2]; have := hb1.size; omega) (by omega), Below.heap_setCell _ _ _ _ (by exact hne i hi hn), hb1.block _ hgi]
  · rw [List.length_set] at hk
    have hx : ∀ (m : Nat) (hm : m < rs.length) (hm' : m < (rs.set j ⟨nh, bd⟩).length), ((rs.set j ⟨nh, bd⟩)[m]'hm').body ≠ [] → rs[m].body ≠ [] := fun m hm hm' => by
      by_cases e : j = m
      · subst e
        simp only [List.getElem_set_self]
        intro hn e2
        exact hn (List.eq_nil_of_length_eq_zero (by rw [hlen, e2]; rfl))
      · simp only [List.getElem_set_ne e]; exact fun h => h
    intro x1 x2
    exact hd i k hik hk (hx i (by omega) _ x1) (hx k hk _ x2)
end Go.Proofs.YtokdhgocgicdnaaGreatDoor

/- The marks of a grammar, on: markRuleS, markGram, heldRuleS, heldGram. -/
namespace Go.Proofs.YtokdhgocgicdnaaGreatDoor
open Go.RowKit

def cntTo (rs : List RuleD) (j : Nat) : Nat := ((rs.take j).map fun r => 1 + r.body.length).sum
def bodyLen (rs : List RuleD) (j : Nat) : Nat := (rs[j]?.map fun r => r.body.length).getD 0
def mrk (k : Nat) (rs : List RuleD) (j : Nat) : RuleD := ⟨mt (k + cntTo rs j), marks (k + cntTo rs j + 1) (bodyLen rs j)⟩
def markUpto (k : Nat) (rs : List RuleD) : Nat → List RuleD
  | 0 => rs
  | j + 1 => (markUpto k rs j).set j (mrk k rs j)
/-- a marked list of rules -/
def markR (k : Nat) (rs : List RuleD) : List RuleD := markUpto k rs rs.length
theorem bodyLen_at {rs : List RuleD} {j : Nat} (h : j < rs.length) : bodyLen rs j = rs[j].body.length := by simp [bodyLen, h]
theorem cntTo_succ {rs : List RuleD} {j : Nat} (h : j < rs.length) : cntTo rs (j + 1) = cntTo rs j + (1 + rs[j].body.length) := by
  unfold cntTo; rw [List.take_succ_eq_append_getElem h, List.map_append, List.sum_append]; simp
theorem cntTo_le (rs : List RuleD) (j : Nat) : cntTo rs j ≤ cntTo rs rs.length := by
  unfold cntTo
  rw [List.take_length]
  conv => rhs; rw [← List.take_append_drop j rs]
  rw [List.map_append, List.sum_append]; omega
theorem markUpto_len (k : Nat) (rs : List RuleD) (j : Nat) : (markUpto k rs j).length = rs.length := by
  induction j with
  | zero => rfl
  | succ j ih => rw [markUpto, List.length_set, ih]
theorem markUpto_at (k : Nat) (rs : List RuleD) (j i : Nat) (h : i < (markUpto k rs j).length) : (markUpto k rs j)[i] = if i < j then mrk k rs i else rs[i]'(by rw [markUpto_len] at h; exact h) := by
  induction j with
  | zero => simp [markUpto]
  | succ j ih =>
    simp only [markUpto, List.getElem_set]
    have h' : i < (markUpto k rs j).length := by rw [markUpto_len] at h ⊢; exact h
    by_cases e : j = i
    · subst e; rw [if_pos rfl, if_pos (by omega)]
    · rw [if_neg e, ih h']
      by_cases e2 : i < j
      · rw [if_pos e2, if_pos (by omega)]
      · rw [if_neg e2, if_neg (by omega)]
theorem markR_len (k : Nat) (rs : List RuleD) : (markR k rs).length = rs.length := markUpto_len k rs _
theorem markR_at (k : Nat) (rs : List RuleD) (i : Nat) (h : i < (markR k rs).length) : (markR k rs)[i] = mrk k rs i :=
  (markUpto_at k rs rs.length i h).trans (if_pos (by rw [markR_len] at h; exact h))
theorem cntTo_ge (rs : List RuleD) : rs.length ≤ cntTo rs rs.length := by
  unfold cntTo
  rw [List.take_length]
  induction rs with
  | nil => simp
  | cons r rs ih => simp only [List.length_cons, List.map_cons, List.sum_cons]; omega
theorem mid_pick {w w' : World} {lo hi g : Nat} {ss : List ByteArray} (h1 : ss ≠ [] → lo ≤ g ∧ g < hi) (h2 : ss = [] → w.heap.size ≤ g) (m : Mid g (g + 1) w w') : Mid lo hi w w' :=
  ⟨m.os, m.tape, m.output, m.size, fun k hk hkk => m.block k hk (by
    by_cases e : ss = []
    · have := h2 e; omega
    · have := h1 e; omega)⟩

end Go.Proofs.YtokdhgocgicdnaaGreatDoor
