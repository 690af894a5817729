import Derived.Test.YtokdhgocgicdnaaGreatDoorJWjoin
import Derived.Test.YtokdhgocgicdnaaGreatDoorJNullI
/- The walk of wait. -/
namespace Go.Proofs.YtokdhgocgicdnaaGreatDoor
open Go.RowKit Go.Maps Go.Conc

theorem Tryz.infoLook : (Tryz.prog.info? 151).map (fun i => (i.zero, i.size, i.bytes)) = some (some (.agg #[.int .i64 0, .int .i64 0, .int .i64 0, .int .i64 0]), 4, 32) := by kernel_rfl
theorem four_one (a b c d : Int) : ∀ u ∈ [Value.int .i64 a, .int .i64 b, .int .i64 c, .int .i64 d], u.oneCell' = true := by
  intro u hu
  simp only [List.mem_cons, List.not_mem_nil, or_false] at hu
  rcases hu with rfl | rfl | rfl | rfl <;> rfl
theorem four_row {w : World} {g : Nat} {ty : TypeId} {a b c d : Value} (r : Row w g ty #[a, b, c, d]) : ∀ j u, [a, b, c, d][j]? = some u → w.cell? ((⟨g, 0, none⟩ : Addr).add j) = some u :=
  World.news_of_block (cs := #[a, b, c, d]) (t := ty) (fr := (0, 0)) r
theorem Row.made3 (w : World) (a b c : Obj) (t : TypeId) (cur : Array Value) : Row ((((w.alloc a).alloc b).alloc c).alloc (.cells cur t)) (w.heap.size + 3) t cur := by simpa using Row.made (((w.alloc a).alloc b).alloc c) t cur

set_option maxRecDepth 100000 in
set_option maxHeartbeats 4000000 in
theorem wait_any (E : Env) (rs : List RuleD) (t : List ByteArray) (M : List WtM) (S : St) (l : Look) (h : ByteArray) (w : World) (s : Sea w E rs t M S) (hl : l ∈ S.known) (hh : headB h = true) (hd : (ruleAt rs l.rule).body[l.done]? = some h) (hn : S.nw < S.rc) :
    Calls Tryz.prog 94 #[E.v rs.length t.length, lookV l, .string h] w fun e w' => e = .returned (.tuple #[]) ∧ SeaTo w w' E rs t M (waitS rs t S l h) := by
  obtain ⟨j0, hj0, hy0, hy1, hy2⟩ := info_parts Tryz.infoLook
  have hnT : ∀ k, w.heap.size ≤ k → ¬ E.T M k := fun k hk h => by have := s.T_lt h; omega
  have HNT := Lib.hid hnT
  clear hnT
  have h20 := s.fits.few
  have h12 := s.fits.short
  have hz4 := headB_size hh
  have hsnd := s.inv.sound l hl
  have hfit := hsnd.fit
  have hok := hsnd.ok s.fits
  have HOK := Lib.hid hok
  obtain ⟨hr1, hr2, hr3, hr4⟩ := hok
  have HSND := Lib.hid hsnd
  have hgk := keyGoal (h := h) (i := l.at') (by unfold maxLen; omega) (by omega)
  have hb := al4 w (.cells #[.slice E.A rs.length E.c, .slice E.B t.length E.d, .map (some E.bk), .map (some E.bf), .map (some E.bw), .chan (some E.bq)] 78) (.cells #[.int .i64 (l.rule : Int), .int .i64 (l.done : Int), .int .i64 (l.fr : Int), .int .i64 (l.at' : Int)] 151) (.cells #[.string h, .int .i64 (l.at' : Int)] 122) (.cells #[.int .i64 (l.rule : Int), .int .i64 (l.done : Int), .int .i64 (l.fr : Int), .int .i64 (l.at' : Int)] 151)
  have R0 := (((Row.made w 78 #[.slice E.A rs.length E.c, .slice E.B t.length E.d, .map (some E.bk), .map (some E.bf), .map (some E.bw), .chan (some E.bq)]).alloc (.cells #[.int .i64 (l.rule : Int), .int .i64 (l.done : Int), .int .i64 (l.fr : Int), .int .i64 (l.at' : Int)] 151)).alloc (.cells #[.string h, .int .i64 (l.at' : Int)] 122)).alloc (.cells #[.int .i64 (l.rule : Int), .int .i64 (l.done : Int), .int .i64 (l.fr : Int), .int .i64 (l.at' : Int)] 151)
  have R1 := ((Row.made1 w (.cells #[.slice E.A rs.length E.c, .slice E.B t.length E.d, .map (some E.bk), .map (some E.bf), .map (some E.bw), .chan (some E.bq)] 78) 151 #[.int .i64 (l.rule : Int), .int .i64 (l.done : Int), .int .i64 (l.fr : Int), .int .i64 (l.at' : Int)]).alloc (.cells #[.string h, .int .i64 (l.at' : Int)] 122)).alloc (.cells #[.int .i64 (l.rule : Int), .int .i64 (l.done : Int), .int .i64 (l.fr : Int), .int .i64 (l.at' : Int)] 151)
  have R2 := (Row.made2 w (.cells #[.slice E.A rs.length E.c, .slice E.B t.length E.d, .map (some E.bk), .map (some E.bf), .map (some E.bw), .chan (some E.bq)] 78) (.cells #[.int .i64 (l.rule : Int), .int .i64 (l.done : Int), .int .i64 (l.fr : Int), .int .i64 (l.at' : Int)] 151) 122 #[.string h, .int .i64 (l.at' : Int)]).alloc (.cells #[.int .i64 (l.rule : Int), .int .i64 (l.done : Int), .int .i64 (l.fr : Int), .int .i64 (l.at' : Int)] 151)
  have R3 := Row.made3 w (.cells #[.slice E.A rs.length E.c, .slice E.B t.length E.d, .map (some E.bk), .map (some E.bf), .map (some E.bw), .chan (some E.bq)] 78) (.cells #[.int .i64 (l.rule : Int), .int .i64 (l.done : Int), .int .i64 (l.fr : Int), .int .i64 (l.at' : Int)] 151) (.cells #[.string h, .int .i64 (l.at' : Int)] 122) 151 #[.int .i64 (l.rule : Int), .int .i64 (l.done : Int), .int .i64 (l.fr : Int), .int .i64 (l.at' : Int)]
  have hsz4 : ((((w.alloc (.cells #[.slice E.A rs.length E.c, .slice E.B t.length E.d, .map (some E.bk), .map (some E.bf), .map (some E.bw), .chan (some E.bq)] 78)).alloc (.cells #[.int .i64 (l.rule : Int), .int .i64 (l.done : Int), .int .i64 (l.fr : Int), .int .i64 (l.at' : Int)] 151)).alloc (.cells #[.string h, .int .i64 (l.at' : Int)] 122)).alloc (.cells #[.int .i64 (l.rule : Int), .int .i64 (l.done : Int), .int .i64 (l.fr : Int), .int .i64 (l.at' : Int)] 151)).heap.size = w.heap.size + 4 := by simp
  have s4 := s.below hb
  have hnw := s.nw_few
  obtain ⟨v0, st, w1, ps, hent, hraw, hg1, hz1, hstore⟩ := s4.wait.entry lawGoal Tryz.underlying75 zeroLooks (zd := .nil) (zp := []) rfl (by unfold maxLen; omega) hgk
  have hwa := s4.waitsAt (by omega) (by omega) hraw
  obtain ⟨own4, hlen4, hown4⟩ := s4.waitsOwn hwa
  have t1 : Turn (E.T M) _ w1 := Turn.of_grown hg1 (.inr (.inr (.inl rfl)))
  have own1 : w1.ownsRow E.base 151 4 v0 (S.wt h l.at').length (flatL (S.wt h l.at')) := World.ownsRow.kept own4 hg1 (by
    rcases ho : v0.ownBlock with _ | g
    · exact .inl rfl
    · refine .inr fun e => ?_
      injection e with e
      exact (hown4 g ho).2 e.symm)
  have R31 := t1.row R3 (HNT.out _ (by omega))
  obtain ⟨x0, x1, x2, x3⟩ := (t1.row R1 (HNT.out _ (by omega))).four
  obtain ⟨y0, y1, y2', y3, y4, y5⟩ := (t1.row R0 (HNT.out _ (by omega))).six
  have HS4 := Lib.hid s4
  have HB := Lib.hid hb
  have HR0 := Lib.hid R0
  have HR1 := Lib.hid R1
  have HR2 := Lib.hid R2
  have HR3 := Lib.hid R31
  have HZ4 := Lib.hid hsz4
  have HZ1 := Lib.hid hz1
  have HST := Lib.hid hstore
  have HWA := Lib.hid hwa
  have HOWN := Lib.hid own1
  have HT1 := Lib.hid t1
  have HG1 := Lib.hid hg1
  have HO4 := Lib.hid hown4
  have hz1' : w.heap.size + 4 ≤ w1.heap.size := by rw [hz1, hsz4]; exact Nat.le_refl _
  have hbase : E.base ≤ w1.heap.size := by have := s.base_lt; omega
  have HL := Lib.hid hl
  have HD := Lib.hid hd
  have HH := Lib.hid hh
  have HFT := Lib.hid s.fits
  clear hb R0 R1 R2 R3 R31 hsz4 s4 s hraw hg1 hz1 hstore hwa own1 own4 hown4 t1 hgk hl hd hh hsnd
  unfold lookV goalV at *
  unfold Env.v
  go_enter Tryz.func94, Tryz.ntmps94
  go_wp2_with (at_builtin; refine wpList_append_lies _ rfl _ _ 184 rfl E.base 151 j0 _ 4 32 Tryz.underlying184 hj0 hy0 hy1 hy2 rfl (by decide) v0 (S.wt h l.at').length (flatL (S.wt h l.at')) rfl HOWN.out ⟨w.heap.size + 3, 0, none⟩ 1 1 [.int .i64 (l.rule : Int), .int .i64 (l.done : Int), .int .i64 (l.fr : Int), .int .i64 (l.at' : Int)] rfl rfl (four_row HR3.out) (four_one _ _ _ _) (by omega) (by unfold maxLen; omega) (by omega) hbase w1.heap.size rfl ?_)
  intro g cap w5 hown5 hg5 hat5 hlt5
  have hbw5 : w5.heap[E.bw]? = w1.heap[E.bw]? := hg5.block E.bw (by have := HS4.out.wait.lt; have := HG1.out.size; omega) (fun e => (HO4.out E.bw e.symm).2 rfl)
  obtain ⟨w6, hst, hm6, hg6, hz6⟩ := HST.out w5 (.slice (some ⟨g, 0, none⟩) ((S.wt h l.at').length + 1) cap) (rawD g ((S.wt h l.at').length + 1) cap) [] hbw5 rfl
  obtain ⟨M', s6, t6, hT6⟩ := HS4.out.joins HL.out HH.out HD.out hn HWA.out HG1.out HZ1.out hg5 hown5 (by rw [← HZ1.out]; exact hat5) hm6 hg6
  have hnT' : ∀ q, w.heap.size ≤ q → q ≤ w.heap.size + 3 → ¬ E.T M' q := fun q h1 h2 ht => by
    rcases hT6 q ht with h3 | h3
    · exact HNT.out q h1 h3
    · rw [HZ4.out] at h3; omega
  have r0 := t6.row HR0.out (HNT.out _ (Nat.le_refl _))
  have r1 := t6.row HR1.out (HNT.out _ (by omega))
  have r2 := t6.row HR2.out (HNT.out _ (by omega))
  have HT06 := Lib.hid ((Turn.of_below HB.out).trans t6 fun _ h => .inl h)
  have HTM : Hid (∀ k, E.T M' k → E.T M k ∨ w.heap.size ≤ k) := Lib.hid fun k hk => (hT6 k hk).imp id fun h => by rw [HZ4.out] at h; omega
  have HNT' := Lib.hid hnT'
  have HS6 := Lib.hid s6
  have HR06 := Lib.hid r0
  have HR16 := Lib.hid r1
  have HR26 := Lib.hid r2
  obtain ⟨z0, z1, z2, z3, z4, z5⟩ := r0.six
  obtain ⟨x0', x1', x2', x3'⟩ := r1.four
  have g0 := r2.cell 0
  have g1 := r2.cell 1
  simp at g0 g1
  have l0 := r0.lt
  have l1 := r1.lt
  have l2 := r2.lt
  clear hown5 hg5 hat5 hlt5 hbw5 hm6 hg6 hz6 s6 t6 hT6 hnT' r0 r1 r2 x0 x1 x2 x3 y0 y1 y2' y3 y4 y5
  simp only [goInt] at hst
  go_wp2_with fail
  refine (ask_any E rs t M' _ h l.at' _ HS6.out hfit).mono ?_
  rintro _ w8 ⟨rfl, s8, t8⟩
  have r0 := t8.row HR06.out (HNT'.out _ (by omega) (by omega))
  have r1 := t8.row HR16.out (HNT'.out _ (by omega) (by omega))
  obtain ⟨a0, a1, a2, a3, a4, a5⟩ := r0.six
  obtain ⟨b0, b1, b2, b3⟩ := r1.four
  have l08 := r0.lt
  have l18 := r1.lt
  have HR08 := Lib.hid r0
  have HR18 := Lib.hid r1
  have HS8 := Lib.hid s8
  have HT8 := Lib.hid t8
  clear s8 t8 r0 r1 z0 z1 z2 z3 z4 z5 x0' x1' x2' x3' g0 g1 l0 l1 l2 hst hent
  go_wp2
  go_loopw [7] (fun x wr => ∃ q : Nat, l.at' ≤ q ∧ q ≤ t.length + 1 ∧ x = .int .i64 (q : Int) ∧ Sea wr E rs t M' (putAll (askS rs (joinW S l h) h l.at') (behindTo S l h q)) ∧ Turn (E.T M') w8 wr) (fun x _ => t.length + 1 - (intOf x).toNat)
  case atStart => exact ⟨l.at', Nat.le_refl _, by omega, rfl, by rw [behindTo_nil]; exact HS8.out, Turn.refl _ _⟩
  case round =>
    obtain ⟨q, hq1, hq2, rfl, sq, tq⟩ := hrel
    rename World => wr
    have HSQ := Lib.hid sq
    have HTQ := Lib.hid tq
    have r0 := tq.row HR08.out (HNT'.out _ (by omega) (by omega))
    have r1 := tq.row HR18.out (HNT'.out _ (by omega) (by omega))
    obtain ⟨a0', a1', a2', a3', a4', a5'⟩ := r0.six
    obtain ⟨b0', b1', b2', b3'⟩ := r1.four
    have l0q := r0.lt
    have l1q := r1.lt
    have HR0Q := Lib.hid r0
    have HR1Q := Lib.hid r1
    by_cases hlt : q ≤ t.length
    · have hfd := (putAll_rest (askS rs (joinW S l h) h l.at') (behindTo S l h q)).2.2.1
      have hfd2 : (putAll (askS rs (joinW S l h) h l.at') (behindTo S l h q)).found = S.found := hfd.trans (putAll_rest (joinW S l h) (asks rs h l.at')).2.2.1
      have hpk := keyPiece (h := h) (i := l.at') (k := q) (by unfold maxLen; omega) (by omega) (by omega)
      have hisf := sq.isFound (h := h) (i := l.at') (k := q) hz4 (by omega) (by omega)
      by_cases hin : (h, l.at', q) ∈ S.found
      · have hlk := set_in sq.found kPiece Tryz.underlying74 hpk (hisf.2 (by rw [hfd2]; exact hin))
        have HBH := Lib.hid (behindTo_t hq1 hin)
        have HSP := Lib.hid (HSND.out.head (k := q) (by rw [← ruleAt_eq HSND.out.rule]; exact HD.out) (sq.inv.found h l.at' q (by rw [hfd2]; exact hin)).2.2)
        have i9 : (q : Int) ≤ (t.length : Int) := by omega
        clear hfd hfd2 hpk hisf hin sq tq r0 r1 a0 a1 a2 a3 a4 a5 b0 b1 b2 b3
        unfold pieceV at hlk
        go_wp2
        go_region_held3 (fun w' => w'.cell? ⟨w.heap.size, 0, none⟩ = some (.slice E.A rs.length E.c) ∧ w'.cell? ⟨w.heap.size, 1, none⟩ = some (.slice E.B t.length E.d) ∧ w'.cell? ⟨w.heap.size, 2, none⟩ = some (.map (some E.bk)) ∧ w'.cell? ⟨w.heap.size, 3, none⟩ = some (.map (some E.bf)) ∧ w'.cell? ⟨w.heap.size, 4, none⟩ = some (.map (some E.bw)) ∧ w'.cell? ⟨w.heap.size, 5, none⟩ = some (.chan (some E.bq)) ∧
            w'.cell? ⟨w.heap.size + 1, 0, none⟩ = some (.int .i64 (l.rule : Int)) ∧ w'.cell? ⟨w.heap.size + 1, 1, none⟩ = some (.int .i64 (l.done : Int)) ∧ w'.cell? ⟨w.heap.size + 1, 2, none⟩ = some (.int .i64 (l.fr : Int)) ∧ w'.cell? ⟨w.heap.size + 1, 3, none⟩ = some (.int .i64 (l.at' : Int)))
          (first | go_keep | exact K6.out | exact K7.out)
          (first
            | (go_at_call 95; refine (past_any l q _ HOK.out).mono ?_; rintro _ v6 ⟨rfl, b6⟩
               have B6 := (Below.refl _ _).drew.trans b6
               have S6 := Lib.hid (HSQ.out.below B6)
               have HB6 := Lib.hid B6
               obtain ⟨q0, q1, q2, q3, q4, q5⟩ := (HR0Q.out.below B6 HR0Q.out.lt).six
               obtain ⟨m0, m1, m2, m3⟩ := (HR1Q.out.below B6 HR1Q.out.lt).four
               have K6 := Lib.hid (And.intro q0 (And.intro q1 (And.intro q2 (And.intro q3 (And.intro q4 (And.intro q5 (And.intro m0 (And.intro m1 (And.intro m2 m3)))))))))
               clear B6 b6 q0 q1 q2 q3 q4 q5 m0 m1 m2 m3)
            | (go_at_call 78; refine (put_any E rs t M' _ (l.past q) _ S6.out HSP.out).mono ?_; rintro _ v7 ⟨rfl, s7, t7⟩
               have S7 := Lib.hid s7
               have T7 := Lib.hid t7
               obtain ⟨q0, q1, q2, q3, q4, q5⟩ := (t7.row (HR0Q.out.below HB6.out HR0Q.out.lt) (HNT'.out _ (by omega) (by omega))).six
               obtain ⟨m0, m1, m2, m3⟩ := (t7.row (HR1Q.out.below HB6.out HR1Q.out.lt) (HNT'.out _ (by omega) (by omega))).four
               have K7 := Lib.hid (And.intro q0 (And.intro q1 (And.intro q2 (And.intro q3 (And.intro q4 (And.intro q5 (And.intro m0 (And.intro m1 (And.intro m2 m3)))))))))
               clear s7 t7 q0 q1 q2 q3 q4 q5 m0 m1 m2 m3))
        go_wp2
        go_roundw
        case rel => exact ⟨q + 1, by omega, by omega, by go_num, by rw [HBH.out, putAll_snoc]; exact S7.out, (HTQ.out.trans (Turn.of_below HB6.out) fun _ h => .inl h).trans T7.out fun _ h => .inl h⟩
        case measure => simp [intOf]; omega
      · have hlk := set_out sq.found kPiece Tryz.underlying74 hpk (fun hm => hin (by have := hisf.1 hm; rwa [hfd2] at this))
        have HBH := Lib.hid (behindTo_f hin)
        have i9 : (q : Int) ≤ (t.length : Int) := by omega
        clear hfd hfd2 hpk hisf hin sq tq r0 r1 a0 a1 a2 a3 a4 a5 b0 b1 b2 b3
        unfold pieceV at hlk
        go_wp2
        go_roundw
        case rel => exact ⟨q + 1, by omega, by omega, by go_num, by rw [HBH.out]; exact HSQ.out, HTQ.out⟩
        case measure => simp [intOf]; omega
    · have hqe : q = t.length + 1 := by omega
      have HQE := Lib.hid hqe
      have i9 : ¬ (q : Int) ≤ (t.length : Int) := by omega
      clear hqe sq tq r0 r1 a0 a1 a2 a3 a4 a5 b0 b1 b2 b3
      go_wp2
      go_end0
      refine ⟨rfl, M', ?_, (HT06.out.trans HT8.out HTM.out).trans HTQ.out HTM.out, HTM.out⟩
      have := HSQ.out
      rw [HQE.out] at this
      exact this
end Go.Proofs.YtokdhgocgicdnaaGreatDoor

/- The walk of follow. -/
namespace Go.Proofs.YtokdhgocgicdnaaGreatDoor
open Go.RowKit Go.Maps Go.Conc

theorem Strs.at {w : World} {lo hi : Nat} {A : Option Addr} {c : Nat} {ss : List ByteArray} (h : Strs w lo hi (.slice A ss.length c) ss) {j : Nat} (hj : j < ss.length) : ∃ b off, A = some ⟨b, off, none⟩ ∧ b < hi ∧ ss.length ≤ c ∧ c ≤ maxLen ∧ w.cell? ⟨b, off + j, none⟩ = some (.string ss[j]) := by
  obtain ⟨A', c', e, h1, h2, _, h3⟩ := h
  injection e with e1 _ e2
  subst e1 e2
  obtain ⟨b, off, rfl, _, h5, h6⟩ := h3 (by omega)
  exact ⟨b, off, rfl, h5, h1, h2, h6 j hj⟩

theorem past_int (l : Look) (k : Nat) (z : Int) (hz : z = (k : Int)) (w : World) (h : l.ok) :
    Calls Tryz.prog 95 #[lookV l, .int .i64 z] w fun e w' => e = .returned (lookV (l.past k)) ∧ Below w.heap.size w w' := by
  subst hz
  exact past_any l k w h

set_option maxRecDepth 100000 in
set_option maxHeartbeats 4000000 in
theorem follow_any (E : Env) (rs : List RuleD) (t : List ByteArray) (M : List WtM) (S : St) (l : Look) (w : World) (s : Sea w E rs t M S) (hl : l ∈ S.known) (hn : S.nw < S.rc) (hf : S.found.length < S.rc) :
    Calls Tryz.prog 79 #[E.v rs.length t.length, lookV l] w fun e w' => e = .returned (.tuple #[]) ∧ SeaTo w w' E rs t M (followS rs t S l) := by
  have hnT : ∀ k, w.heap.size ≤ k → ¬ E.T M k := fun k hk h => by have := s.T_lt h; omega
  have HNT := Lib.hid hnT
  clear hnT
  have h20 := s.fits.few
  have h12 := s.fits.short
  have hsnd := s.inv.sound l hl
  have hfit := hsnd.fit
  have hle := hsnd.le
  have hrl := hsnd.rule
  have hdn : l.done ≤ (rs[l.rule]'hrl).body.length := hsnd.done
  have hok := hsnd.ok s.fits
  have hb5 := s.fits.len _ hrl
  have HOK := Lib.hid hok
  obtain ⟨hr1, hr2, hr3, hr4⟩ := hok
  have HSND := Lib.hid hsnd
  have hbl := s.base_lt
  have hib := s.hib
  obtain ⟨A, c, B, d, lim, base, bk, bf, bw, bq, cap⟩ := E
  simp only at hbl hib
  obtain ⟨b, off, rfl, hbh, hlc, hcm, hsm, k0, B2, d2, k1, hst⟩ := s.rules.at hrl
  simp only at hbh hlc hcm
  unfold maxLen at hcm
  have hb := al3 w (.cells #[.slice (some ⟨b, off, none⟩) rs.length c, .slice B t.length d, .map (some bk), .map (some bf), .map (some bw), .chan (some bq)] 78) (.cells #[.int .i64 (l.rule : Int), .int .i64 (l.done : Int), .int .i64 (l.fr : Int), .int .i64 (l.at' : Int)] 151) (.cells #[.string rs[l.rule].head, .slice B2 rs[l.rule].body.length d2] 45)
  have R0 := ((Row.made w 78 #[.slice (some ⟨b, off, none⟩) rs.length c, .slice B t.length d, .map (some bk), .map (some bf), .map (some bw), .chan (some bq)]).alloc (.cells #[.int .i64 (l.rule : Int), .int .i64 (l.done : Int), .int .i64 (l.fr : Int), .int .i64 (l.at' : Int)] 151)).alloc (.cells #[.string rs[l.rule].head, .slice B2 rs[l.rule].body.length d2] 45)
  have R1 := (Row.made1 w (.cells #[.slice (some ⟨b, off, none⟩) rs.length c, .slice B t.length d, .map (some bk), .map (some bf), .map (some bw), .chan (some bq)] 78) 151 #[.int .i64 (l.rule : Int), .int .i64 (l.done : Int), .int .i64 (l.fr : Int), .int .i64 (l.at' : Int)]).alloc (.cells #[.string rs[l.rule].head, .slice B2 rs[l.rule].body.length d2] 45)
  have k0' : ((w.alloc (.cells #[.slice (some ⟨b, off, none⟩) rs.length c, .slice B t.length d, .map (some bk), .map (some bf), .map (some bw), .chan (some bq)] 78)).alloc (.cells #[.int .i64 (l.rule : Int), .int .i64 (l.done : Int), .int .i64 (l.fr : Int), .int .i64 (l.at' : Int)] 151)).cell? ⟨b, off + l.rule * 2, none⟩ = some (.string rs[l.rule].head) := ((al2 w _ _).cell (p := ⟨b, off + l.rule * 2, none⟩) (by show b < _; omega)).trans k0
  have k1' : ((w.alloc (.cells #[.slice (some ⟨b, off, none⟩) rs.length c, .slice B t.length d, .map (some bk), .map (some bf), .map (some bw), .chan (some bq)] 78)).alloc (.cells #[.int .i64 (l.rule : Int), .int .i64 (l.done : Int), .int .i64 (l.fr : Int), .int .i64 (l.at' : Int)] 151)).cell? ⟨b, off + l.rule * 2 + 1, none⟩ = some (.slice B2 rs[l.rule].body.length d2) := ((al2 w _ _).cell (p := ⟨b, off + l.rule * 2 + 1, none⟩) (by show b < _; omega)).trans k1
  have s3 := s.below hb
  have hsz3 : (((w.alloc (.cells #[.slice (some ⟨b, off, none⟩) rs.length c, .slice B t.length d, .map (some bk), .map (some bf), .map (some bw), .chan (some bq)] 78)).alloc (.cells #[.int .i64 (l.rule : Int), .int .i64 (l.done : Int), .int .i64 (l.fr : Int), .int .i64 (l.at' : Int)] 151)).alloc (.cells #[.string rs[l.rule].head, .slice B2 rs[l.rule].body.length d2] 45)).heap.size = w.heap.size + 3 := by simp
  have hst3 := hst.below hb (by simp only at *; omega)
  have hbw : b < w.heap.size := by omega
  have HB := Lib.hid hb
  have HS3 := Lib.hid s3
  have HR0 := Lib.hid R0
  have HR1 := Lib.hid R1
  have HSZ := Lib.hid hsz3
  have HST := Lib.hid hst3
  have HL := Lib.hid hl
  have HHD := Lib.hid (s.fits.head _ hrl)
  have HBD := Lib.hid (s.fits.body _ hrl)
  have HRA := Lib.hid (ruleAt_eq hrl)
  have HTX := Lib.hid s3.text
  clear hb s3 R0 R1 hsz3 hst hst3 hl k0 k1 hsnd s
  unfold lookV
  simp only [Env.v]
  by_cases hdone : l.done = rs[l.rule].body.length
  · have HFO : Hid (followS rs t S l = findS S rs[l.rule].head l.fr l.at') := Lib.hid (by unfold followS; rw [HRA.out, List.getElem?_eq_none (by omega)])
    have HDN := Lib.hid hdone
    have i1 : ((l.done : Int) == (rs[l.rule].body.length : Int)) = true := by rw [hdone]; simp
    clear hdone
    go_enter Tryz.func79, Tryz.ntmps79
    go_wp2_with fail
    refine (find_any ⟨some ⟨b, off, none⟩, c, B, d, lim, base, bk, bf, bw, bq, cap⟩ rs t M S rs[l.rule].head l.fr l.at' _ HS3.out HHD.out hle hfit (HSND.out.fin HDN.out) hf).mono ?_
    rintro _ w8 ⟨rfl, s8, t8⟩
    have HS8 := Lib.hid s8
    have HT8 := Lib.hid t8
    clear s8 t8
    go_wp2
    (try simp only [Exit.inBlock, Exit.then])
    refine bodyPost_ret (results_none rfl _ _ _) rfl ?_
    refine ⟨rfl, M, by rw [HFO.out]; exact HS8.out, (Turn.of_below HB.out).trans HT8.out fun _ h => .inl h, fun _ h => .inl h⟩
  · have hdl : l.done < rs[l.rule].body.length := by omega
    have i1 : ((l.done : Int) == (rs[l.rule].body.length : Int)) = false := by simp; omega
    obtain ⟨b2, off2, rfl, hb2h, hlc2, hcm2, n0⟩ := HST.out.at hdl
    unfold maxLen at hcm2
    have hb2w : b2 < w.heap.size := by simp only at *; omega
    have HBE : Hid (rs[l.rule].body[l.done]? = some rs[l.rule].body[l.done]) := Lib.hid (List.getElem?_eq_getElem hdl)
    have hsym := HBD.out _ (List.getElem_mem hdl)
    clear hdone
    by_cases hhd : headB rs[l.rule].body[l.done] = true
    · have HFO : Hid (followS rs t S l = waitS rs t S l rs[l.rule].body[l.done]) := Lib.hid (by unfold followS; rw [HRA.out, HBE.out]; simp only [hhd, if_true])
      have HHH := Lib.hid hhd
      clear hhd hsym
      go_enter Tryz.func79, Tryz.ntmps79
      go_wp2_with fail
      refine (implIsHead_any _ _).mono ?_
      rintro _ w5 ⟨rfl, b5⟩
      rw [HHH.out]
      obtain ⟨a0, a1, a2, a3, a4, a5⟩ := (HR0.out.below b5 HR0.out.lt).six
      obtain ⟨x0, x1, x2, x3⟩ := (HR1.out.below b5 HR1.out.lt).four
      have z5 := b5.size
      rw [HSZ.out] at z5
      have HS5 := Lib.hid (HS3.out.below b5)
      have HB5 := Lib.hid b5
      clear b5
      go_wp2_with fail
      refine (wait_any ⟨some ⟨b, off, none⟩, c, B, d, lim, base, bk, bf, bw, bq, cap⟩ rs t M S l rs[l.rule].body[l.done] _ HS5.out HL.out HHH.out (by rw [HRA.out]; exact HBE.out) hn).mono ?_
      rintro _ w8 ⟨rfl, M8, s8, t8, hT8⟩
      have H8 := Lib.hid (And.intro s8 (And.intro t8 hT8))
      clear s8 t8 hT8
      go_wp2
      (try simp only [Exit.inBlock, Exit.then])
      refine bodyPost_ret (results_none rfl _ _ _) rfl ?_
      exact ⟨rfl, M8, by rw [HFO.out]; exact H8.out.1, ((Turn.of_below HB.out).trans (Turn.of_below HB5.out) fun _ h => .inl h).trans H8.out.2.1 fun _ h => .inl h, fun k hk => (H8.out.2.2 k hk).imp id fun h => by omega⟩
    · have hhf : headB rs[l.rule].body[l.done] = false := by simpa using hhd
      have HHH := Lib.hid hhf
      by_cases htx : t[l.at']? = some rs[l.rule].body[l.done]
      · have hat := (List.getElem?_eq_some_iff.1 htx).1
        have hte := (List.getElem?_eq_some_iff.1 htx).2
        have HFO : Hid (followS rs t S l = putS S (l.past (l.at' + 1))) := Lib.hid (by unfold followS; rw [HRA.out, HBE.out]; simp only [hhf, htx, if_true, Bool.false_eq_true, if_false])
        have HSP := Lib.hid (HSND.out.tok HBE.out htx)
        obtain ⟨b3, off3, rfl, hb3h, hlc3, hcm3, m0⟩ := HTX.out.at hat
        unfold maxLen at hcm3
        have hb3w : b3 < w.heap.size := by simp only at *; omega
        have d1 : (t[l.at'].toList == rs[l.rule].body[l.done].toList) = true := by rw [list_eqH, decide_eq_true hte]
        clear hhd hhf hte htx hsym
        go_enter Tryz.func79, Tryz.ntmps79
        go_wp2_with fail
        refine (implIsHead_any _ _).mono ?_
        rintro _ w5 ⟨rfl, b5⟩
        rw [HHH.out]
        have r05 := HR0.out.below b5 HR0.out.lt
        have r15 := HR1.out.below b5 HR1.out.lt
        obtain ⟨a0, a1, a2, a3, a4, a5⟩ := r05.six
        obtain ⟨x0, x1, x2, x3⟩ := r15.four
        have m0' := (b5.cell (p := ⟨b3, off3 + l.at', none⟩) (by show b3 < _; rw [HSZ.out]; omega)).trans m0
        have z5 := b5.size
        rw [HSZ.out] at z5
        have HS5 := Lib.hid (HS3.out.below b5)
        have HB5 := Lib.hid b5
        have HR05 := Lib.hid r05
        have HR15 := Lib.hid r15
        clear b5 m0 r05 r15 n0
        go_wp2
        have wr1 : IntKind.i64.wrap ((l.at' : Int) + 1) = (l.at' : Int) + 1 := IntWalk.i64_in _ (by omega)
        go_region_held3 (fun w' => w'.cell? ⟨w.heap.size, 0, none⟩ = some (.slice (some ⟨b, off, none⟩) rs.length c) ∧ w'.cell? ⟨w.heap.size, 1, none⟩ = some (.slice (some ⟨b3, off3, none⟩) t.length d) ∧ w'.cell? ⟨w.heap.size, 2, none⟩ = some (.map (some bk)) ∧ w'.cell? ⟨w.heap.size, 3, none⟩ = some (.map (some bf)) ∧ w'.cell? ⟨w.heap.size, 4, none⟩ = some (.map (some bw)) ∧ w'.cell? ⟨w.heap.size, 5, none⟩ = some (.chan (some bq)) ∧
            w'.cell? ⟨w.heap.size + 1, 0, none⟩ = some (.int .i64 (l.rule : Int)) ∧ w'.cell? ⟨w.heap.size + 1, 1, none⟩ = some (.int .i64 (l.done : Int)) ∧ w'.cell? ⟨w.heap.size + 1, 2, none⟩ = some (.int .i64 (l.fr : Int)) ∧ w'.cell? ⟨w.heap.size + 1, 3, none⟩ = some (.int .i64 (l.at' : Int)))
          (first | go_keep | exact K6.out | exact K7.out)
          (first
            | (go_at_call 95; refine (past_int l (l.at' + 1) _ (by omega) _ HOK.out).mono ?_; rintro _ v6 ⟨rfl, b6⟩
               have B6 := (Below.refl _ _).drew.trans b6
               have S6 := Lib.hid (HS5.out.below B6)
               have HB6 := Lib.hid B6
               obtain ⟨q0, q1, q2, q3, q4, q5⟩ := (HR05.out.below B6 HR05.out.lt).six
               obtain ⟨m0, m1, m2, m3⟩ := (HR15.out.below B6 HR15.out.lt).four
               have K6 := Lib.hid (And.intro q0 (And.intro q1 (And.intro q2 (And.intro q3 (And.intro q4 (And.intro q5 (And.intro m0 (And.intro m1 (And.intro m2 m3)))))))))
               clear B6 b6 q0 q1 q2 q3 q4 q5 m0 m1 m2 m3)
            | (go_at_call 78; refine (put_any ⟨some ⟨b, off, none⟩, c, some ⟨b3, off3, none⟩, d, lim, base, bk, bf, bw, bq, cap⟩ rs t M _ (l.past (l.at' + 1)) _ S6.out HSP.out).mono ?_; rintro _ v7 ⟨rfl, s7, t7⟩
               have S7 := Lib.hid s7
               have T7 := Lib.hid t7
               obtain ⟨q0, q1, q2, q3, q4, q5⟩ := (t7.row (HR05.out.below HB6.out HR05.out.lt) (HNT.out _ (by omega))).six
               obtain ⟨m0, m1, m2, m3⟩ := (t7.row (HR15.out.below HB6.out HR15.out.lt) (HNT.out _ (by omega))).four
               have K7 := Lib.hid (And.intro q0 (And.intro q1 (And.intro q2 (And.intro q3 (And.intro q4 (And.intro q5 (And.intro m0 (And.intro m1 (And.intro m2 m3)))))))))
               clear s7 t7 q0 q1 q2 q3 q4 q5 m0 m1 m2 m3))
        go_wp2
        go_end0
        exact ⟨rfl, M, by rw [HFO.out]; exact S7.out, ((((Turn.of_below HB.out).trans (Turn.of_below HB5.out) fun _ h => .inl h).trans (Turn.of_below HB6.out) fun _ h => .inl h)).trans T7.out fun _ h => .inl h, fun _ h => .inl h⟩
      · have HFO : Hid (followS rs t S l = S) := Lib.hid (by unfold followS; rw [HRA.out, HBE.out]; simp only [hhf, htx, Bool.false_eq_true, if_false])
        by_cases hat : l.at' < t.length
        · obtain ⟨b3, off3, rfl, hb3h, hlc3, hcm3, m0⟩ := HTX.out.at hat
          unfold maxLen at hcm3
          have hb3w : b3 < w.heap.size := by simp only at *; omega
          have hte : t[l.at'] ≠ rs[l.rule].body[l.done] := fun e => htx (by rw [List.getElem?_eq_getElem hat, e])
          have d1 : (t[l.at'].toList == rs[l.rule].body[l.done].toList) = false := by rw [list_eqH, decide_eq_false hte]
          clear hhd hhf hte htx hsym
          go_enter Tryz.func79, Tryz.ntmps79
          go_wp2_with fail
          refine (implIsHead_any _ _).mono ?_
          rintro _ w5 ⟨rfl, b5⟩
          rw [HHH.out]
          obtain ⟨a0, a1, a2, a3, a4, a5⟩ := (HR0.out.below b5 HR0.out.lt).six
          obtain ⟨x0, x1, x2, x3⟩ := (HR1.out.below b5 HR1.out.lt).four
          have m0' := (b5.cell (p := ⟨b3, off3 + l.at', none⟩) (by show b3 < _; rw [HSZ.out]; omega)).trans m0
          have z5 := b5.size
          rw [HSZ.out] at z5
          have HS5 := Lib.hid (HS3.out.below b5)
          have HB5 := Lib.hid b5
          clear b5 m0 n0
          go_wp2
          go_end0
          exact ⟨rfl, M, by rw [HFO.out]; exact HS5.out, (Turn.of_below HB.out).trans (Turn.of_below HB5.out) fun _ h => .inl h, fun _ h => .inl h⟩
        · have hae : l.at' = t.length := by omega
          have d1 : decide ((l.at' : Int) < (t.length : Int)) = false := by simp; omega
          have d2' : decide (l.at' < t.length) = false := by simp; omega
          clear hhd hhf htx hsym hae
          go_enter Tryz.func79, Tryz.ntmps79
          go_wp2_with fail
          refine (implIsHead_any _ _).mono ?_
          rintro _ w5 ⟨rfl, b5⟩
          rw [HHH.out]
          obtain ⟨a0, a1, a2, a3, a4, a5⟩ := (HR0.out.below b5 HR0.out.lt).six
          obtain ⟨x0, x1, x2, x3⟩ := (HR1.out.below b5 HR1.out.lt).four
          have z5 := b5.size
          rw [HSZ.out] at z5
          have HS5 := Lib.hid (HS3.out.below b5)
          have HB5 := Lib.hid b5
          clear b5 n0
          go_wp2
          go_end0
          exact ⟨rfl, M, by rw [HFO.out]; exact HS5.out, (Turn.of_below HB.out).trans (Turn.of_below HB5.out) fun _ h => .inl h, fun _ h => .inl h⟩
end Go.Proofs.YtokdhgocgicdnaaGreatDoor
